/- Back with any number, Fresh. -/
import Derived.Test.YtofbcngcblleaabGreatArNote
import Derived.Lib.MinMax
namespace Go.Proofs.YtofbcngcblleaabGreat.A
open Go.RowKit Go.Maps
def Marks (w : World) (kb : Nat) (K : List Bool) : Prop := w.heap[kb]? = some (.cells (K.map Value.bool).toArray 4 (0, 0))
def Mk (K : List Bool) (i : Nat) : Prop := K[i]? = some true
def ownSq (l : List Th) (t : Nat) (id : Int) : Option Th := (ownF l t id).filter fun x => x.k == 1
def keepF (l : List Th) (t : Nat) : Nat → Int → List Bool → List Bool
  | 0, _, K => K
  | n + 1, id, K => match ownSq l t id with
    | some x => if K[(id - 2).toNat]! = true then K else keepF l t n x.p3 (keepF l t n x.p2 (keepF l t n x.p1 (keepF l t n x.p0 (K.set (id - 2).toNat true))))
    | none => K
def unN (K : List Bool) : Nat := K.countP fun b => !b
structure OnlyB (kb : Nat) (w w' : World) : Prop where
  os : w'.os = w.os
  tape : w'.tape = w.tape
  output : w'.output = w.output
  size : w.heap.size ≤ w'.heap.size
  block : ∀ k, k < w.heap.size → k ≠ kb → w'.heap[k]? = w.heap[k]?
def KeepP (w : World) (l : List Th) (t n kb : Nat) (id : Int) (K : List Bool) (e : Ending) (w' : World) : Prop := e = .returned (.tuple #[]) ∧ Marks w' kb (keepF l t n id K) ∧ OnlyB kb w w'
end Go.Proofs.YtofbcngcblleaabGreat.A

namespace Go.Proofs.YtofbcngcblleaabGreat.A
open Go.RowKit Go.Maps
def Ar.lose (A : Ar) (t : Nat) (ids f : List Int) : Ar := { A.takes t ids with fresh := upd A.fresh t f }
def OwnIds (l : List Th) (t : Nat) (ids : List Int) : Prop := ids.Nodup ∧ ∀ id ∈ ids, 2 ≤ id ∧ ∃ x, l[(id - 2).toNat]? = some x ∧ x.mask.testBit t = true
theorem takes_cons (A : Ar) (t : Nat) (id : Int) (l : List Int) : A.takes t (id :: l) = (A.take t (id - 2).toNat (thAt A.ths id)).takes t l := rfl
theorem takes_own (t : Nat) (ht : t < 64) (u : Nat) : ∀ (ids : List Int) (A : Ar), OwnIds A.ths t ids → (∀ x ∈ A.ths, x.mask < 18446744073709551616) → ownN (A.takes t ids).ths u + (if u = t then ids.length else 0) = ownN A.ths u
  | [], A, _, _ => by simp [Ar.takes]
  | id :: l, A, h, hm => by
    obtain ⟨h2, x, hx, hb⟩ := h.2 id (by simp)
    have hth : thAt A.ths id = x := by unfold thAt; rw [hx]; rfl
    have hxm := hm x (List.mem_of_getElem? hx)
    have e := set_count (y := { x with mask := clr x.mask t }) (fun z => z.mask.testBit u) hx
    have hnd := List.nodup_cons.1 h.1
    have hi := (List.getElem?_eq_some_iff.1 hx).1
    have ih := takes_own t ht u l (A.take t (id - 2).toNat x) ⟨hnd.2, fun k hk => by
      obtain ⟨k2, y, hy, hyb⟩ := h.2 k (by simp [hk])
      refine ⟨k2, y, ?_, hyb⟩
      show (A.ths.set _ _)[_]? = _
      rw [List.getElem?_set, if_neg (fun e => hnd.1 (by rw [show id = k by omega]; exact hk))]
      exact hy⟩ (fun z hz => by
      rcases List.mem_or_eq_of_mem_set (show z ∈ A.ths.set _ _ from hz) with h1 | h1
      · exact hm z h1
      · rw [h1]; exact clr_lt _ _ hxm)
    rw [takes_cons, hth]
    have e2 : ownN (A.take t (id - 2).toNat x).ths u = (A.ths.set (id - 2).toNat { x with mask := clr x.mask t }).countP fun z => z.mask.testBit u := rfl
    rw [e2] at ih
    generalize (A.ths.set (id - 2).toNat { x with mask := clr x.mask t }).countP (fun z => z.mask.testBit u) = N at *
    simp only [clr_bit x.mask t u hxm ht] at e
    unfold ownN at ih ⊢
    by_cases eu : u = t
    · subst eu
      rw [hb] at e
      simp at e ih ⊢
      omega
    · rw [if_neg eu] at ih ⊢
      simp [eu] at e
      omega
theorem takes_back {t : Nat} (ht : t < 64) {A : Ar} {ids : List Int} (h : OwnIds A.ths t ids) (hm : ∀ x ∈ A.ths, x.mask < 18446744073709551616) {j : Nat} {y : Th} (hy : (A.takes t ids).ths[j]? = some y) : ∃ x, A.ths[j]? = some x ∧ y.key = x.key ∧ y.lv = x.lv ∧ y.va = x.va ∧ y.mask < 18446744073709551616 ∧ ∀ u, y.mask.testBit u = true ↔ x.mask.testBit u = true ∧ ¬ (u = t ∧ (j : Int) + 2 ∈ ids) := by
  have hj := (List.getElem?_eq_some_iff.1 hy).1
  rw [takes_len] at hj
  obtain ⟨y', h1, h2⟩ := takes_get t ht ids A (fun id hid => by
    obtain ⟨a, x, hx, _⟩ := h.2 id hid
    exact ⟨a, (List.getElem?_eq_some_iff.1 hx).1⟩) hm j _ (List.getElem?_eq_getElem hj)
  rw [hy] at h1
  obtain rfl := Option.some.inj h1
  exact ⟨_, List.getElem?_eq_getElem hj, h2⟩
theorem lose_sound {A : Ar} {t : Nat} {ids f : List Int} (hS : Sound A) (ht : t < 64) (h : OwnIds A.ths t ids) (hf : OwnIds A.ths t f) (hd : ∀ id ∈ f, id ∉ ids) : Sound (A.lose t ids f) := by
  obtain ⟨r1, r2, r3, r4⟩ := takes_rest A t ids
  have back := fun j y => takes_back ht h hS.mask (j := j) (y := y)
  have bm : ∀ y ∈ (A.lose t ids f).ths, ∃ (j : Nat) (x : Th), A.ths[j]? = some x ∧ y.key = x.key ∧ y.lv = x.lv ∧ y.va = x.va ∧ y.mask < 18446744073709551616 ∧ ∀ u, y.mask.testBit u = true ↔ x.mask.testBit u = true ∧ ¬ (u = t ∧ (j : Int) + 2 ∈ ids) := fun y hy => by
    obtain ⟨j, hj⟩ := List.getElem?_of_mem hy
    obtain ⟨x, hx⟩ := back j y hj
    exact ⟨j, x, hx⟩
  have keep : ∀ (u : Nat) (id : Int) (x : Th), A.ths[(id - 2).toNat]? = some x → 2 ≤ id → x.mask.testBit u = true → ¬ (u = t ∧ id ∈ ids) → ∃ y, (A.lose t ids f).ths[(id - 2).toNat]? = some y ∧ y.mask.testBit u = true := fun u id x hx h2 hb hn => by
    obtain ⟨y, h1, _, _, _, _, h6⟩ := takes_get t ht ids A (fun id hid => by
      obtain ⟨a, x, hx, _⟩ := h.2 id hid
      exact ⟨a, (List.getElem?_eq_some_iff.1 hx).1⟩) hS.mask _ x hx
    refine ⟨y, h1, (h6 u).2 ⟨hb, ?_⟩⟩
    rw [show (((id - 2).toNat : Nat) : Int) + 2 = id by omega]
    exact hn
  exact {
    free := r4.trans hS.free
    room0 := by show 0 ≤ (A.takes t ids).room; rw [r3]; exact hS.room0
    room1 := by show (A.takes t ids).room ≤ _; rw [r3]; exact hS.room1
    len := by show ((A.takes t ids).ths.length : Int) ≤ (A.takes t ids).room; rw [r3, takes_len]; exact hS.len
    mask := fun y hy => let ⟨_, _, _, _, _, _, h, _⟩ := bm y hy; h
    zero := fun y hy h0 => by
      obtain ⟨j, x, hx, e1, e2, e3, _, e5⟩ := bm y hy
      have hx0 : x = noTh := hS.zero x (List.mem_of_getElem? hx) (by rw [← key_k e1]; exact h0)
      subst hx0
      have hm0 : y.mask = 0 := Nat.eq_of_testBit_eq fun u => by
        rw [Nat.zero_testBit]
        cases hu : y.mask.testBit u with
        | false => rfl
        | true => have := ((e5 u).1 hu).1; simp [noTh] at this
      obtain ⟨k, p0, p1, p2, p3, lv, va, mask⟩ := y
      simp only [Th.key, Ky.mk.injEq] at e1
      simp only at e2 e3 hm0
      obtain ⟨rfl, rfl, rfl, rfl, rfl⟩ := e1
      subst e2 e3 hm0
      rfl
    fit := fun y hy => by
      obtain ⟨j, x, hx, e1, _⟩ := bm y hy
      rw [e1]; exact hS.fit x (List.mem_of_getElem? hx)
    lv := fun y hy => by
      obtain ⟨j, x, hx, _, e2, _⟩ := bm y hy
      rw [e2]; exact hS.lv x (List.mem_of_getElem? hx)
    va := fun y hy => by
      obtain ⟨j, x, hx, _, _, e3, _⟩ := bm y hy
      rw [e3]; exact hS.va x (List.mem_of_getElem? hx)
    uniq := fun i j y z hy hz h0 he => by
      obtain ⟨x, hx, e1, _⟩ := back i y hy
      obtain ⟨x', hx', e1', _⟩ := back j z hz
      exact hS.uniq i j x x' hx hx' (by rw [← key_k e1]; exact h0) (by rw [← e1, ← e1']; exact he)
    lim := fun u hu => by
      show 0 ≤ (A.takes t ids).lim u ∧ (A.takes t ids).lim u ≤ (A.takes t ids).room
      rw [r2, r3]; exact hS.lim u hu
    cnt := fun u hu => by
      show (A.takes t ids).cnt u = (ownN (A.takes t ids).ths u : Int)
      have e := takes_own t ht u ids A h hS.mask
      have hc := hS.cnt u hu
      rw [takes_cnt]
      unfold upd
      by_cases eu : u = t
      · subst eu
        rw [if_pos rfl] at e ⊢
        omega
      · rw [if_neg eu] at e ⊢
        omega
    fresh := fun u hu => by
      show (upd A.fresh t f u).Nodup ∧ ∀ id ∈ upd A.fresh t f u, _
      unfold upd
      by_cases eu : u = t
      · subst eu
        rw [if_pos rfl]
        exact ⟨hf.1, fun id hid => by
          obtain ⟨h2, x, hx, hb⟩ := hf.2 id hid
          exact ⟨h2, keep u id x hx h2 hb fun e => hd id hid e.2⟩⟩
      · rw [if_neg eu]
        exact ⟨(hS.fresh u hu).1, fun id hid => by
          obtain ⟨h2, x, hx, hb⟩ := (hS.fresh u hu).2 id hid
          exact ⟨h2, keep u id x hx h2 hb fun e => eu e.1⟩⟩ }
theorem takes_free (L : List Int) (t : Nat) : ∀ (l : List Int) (B : Ar), ({ B with free := L } : Ar).takes t l = { B.takes t l with free := L }
  | [], B => rfl
  | id :: l, B => by
    rw [takes_cons, takes_cons]
    exact takes_free L t l (B.take t (id - 2).toNat (thAt B.ths id))
theorem live_takes {A : Ar} {t : Nat} (ht : t < 64) {ids : List Int} (h : OwnIds A.ths t ids) (hm : ∀ x ∈ A.ths, x.mask < 18446744073709551616) : freeIds (A.takes t ids).ths = freeIds A.ths ∧ liveN (A.takes t ids).ths = liveN A.ths := by
  have e : freeIds (A.takes t ids).ths = freeIds A.ths := sel_congr 0 _ _ (takes_len _ _ _) fun j x y hx hy => by
    obtain ⟨z, hz, e1, _⟩ := takes_back ht h hm hx
    rw [hy] at hz
    obtain rfl := Option.some.inj hz
    simp [isNo, key_k e1]
  have h1 := free_live (A.takes t ids).ths
  have h2 := free_live A.ths
  rw [e, takes_len] at h1
  exact ⟨e, by omega⟩
theorem fresh_own {A : Ar} (hS : Sound A) {t : Nat} (ht : t < 64) : OwnIds A.ths t (A.fresh t) := hS.fresh t ht
theorem countP_any (b t : Nat) (F : Nat → Prop) (A : Ar) (w : World) (h : AtP w b F A) (ht : t < 64) :
    Calls Tryz.prog 11 #[.pointer (some ⟨b, 0, none⟩), .int .i64 t] w fun e w' => e = .returned (.int .i64 (A.cnt t)) ∧ w' = w := by
  obtain ⟨L, r, D, h, hp, hH⟩ := h
  have := count_any b r t w h.raw ht
  rw [show (r.tn t).cnt = A.cnt t from h.cnt t ht] at this
  exact this
end Go.Proofs.YtofbcngcblleaabGreat.A

namespace Go.Proofs.YtofbcngcblleaabGreat.A
open Go.RowKit Go.Maps
theorem IntRow.cutk {w : World} {g n c : Nat} {l : List Int} (h : IntRow w (.slice (some ⟨g, 0, none⟩) n c) l) {k : Nat} (hk : k ≤ l.length) : IntRow w (.slice (some ⟨g, 0, none⟩) k c) (l.take k) := by
  have hn : n = l.length := by
    obtain ⟨a, c', e⟩ := h.shape
    simp only [Value.slice.injEq] at e
    exact e.2.1
  subst hn
  have hlk : (l.take k).length = k := by rw [List.length_take]; omega
  rcases h.2 with ⟨h1, _⟩ | ⟨g', cap, cur, hv, hB, hg, h1, h2, h3, h4⟩
  · simp at h1
  · simp only [Value.slice.injEq, Option.some.injEq, Addr.mk.injEq] at hv
    obtain ⟨⟨rfl, _, _⟩, _, rfl⟩ := hv
    refine ⟨by rw [hlk]; simp; omega, Or.inr ⟨g, c, cur, by rw [hlk], hB, hg, by rw [hlk]; omega, h2, h3, ?_⟩⟩
    rw [hlk]
    have h5 := congrArg (fun L => L.take (k * 1)) h4
    simp only [List.take_take] at h5
    rw [show min (k * 1) (l.length * 1) = k * 1 by omega] at h5
    rw [h5, Nat.mul_one, List.map_take]
set_option maxRecDepth 20000 in
set_option maxHeartbeats 4000000 in
theorem backN_any (b t n k : Nat) (m : Int) (F : Nat → Prop) (A : Ar) (r : Raw) (D : DataW Unit) (w : World) (h : ArRaw w b F n A r D) (ht : t < 64) (hl : (A.fresh t).length < 10000000) (hid : ∀ id ∈ A.fresh t, 2 ≤ id ∧ (id - 2).toNat < A.ths.length) (hm : ∀ x ∈ A.ths, x.mask < 18446744073709551616)
    (hn : A.ths.length < 1000000) (hcnt : ((A.fresh t).length : Int) ≤ A.cnt t ∧ A.cnt t < 4611686018427387904) (hk : min (max m 0) ((A.fresh t).length : Int) = (k : Int)) :
    Calls Tryz.prog 42 #[.pointer (some ⟨b, 0, none⟩), .int .i64 t, .int .i64 m] w fun e w' => e = .returned (.int .i64 (((A.fresh t).length : Int) - (k : Int))) ∧ ArAt w' b F n (A.lose t ((A.fresh t).drop k) ((A.fresh t).take k)) ∧ Apart F w w' := by
  have hi := fun W => tenant_yes t ht W
  have cf := h.raw.at (4 + t * 3 + 2) (by omega)
  rw [Raw.cf] at cf
  have HH : Hid (ArRaw w b F n A r D) := h
  have h0 : (0 : Int) ≤ t := by omega
  have h1 : (t : Int) < 64 := by omega
  obtain ⟨L, hL⟩ : ∃ L, L = A.fresh t := ⟨_, rfl⟩
  obtain ⟨a, c, hv⟩ := (h.fresh t ht).shape
  rw [hv] at cf
  rw [← hL] at hl hid hcnt hv cf hk ⊢
  have HL : Hid (L = A.fresh t) := hL
  obtain ⟨fl, hfl⟩ : ∃ n, n = L.length := ⟨_, rfl⟩
  rw [← hfl] at hl hcnt hv cf hk ⊢
  have HFL : Hid (fl = L.length) := hfl
  have HV : Hid ((r.tn t).fr = .slice a fl c) := hv
  have HA : Hid (a = none ∧ fl = 0 ∧ c = 0 ∨ ∃ g, a = some ⟨g, 0, none⟩) := by
    rcases (h.fresh t ht).2 with ⟨e1, e2⟩ | ⟨g, cap, cur, e1, _⟩
    · rw [hv] at e1
      simp only [Value.slice.injEq] at e1
      exact Or.inl ⟨e1.1, e1.2.1, e1.2.2⟩
    · rw [hv] at e1
      simp only [Value.slice.injEq] at e1
      exact Or.inr ⟨g, e1.1⟩
  have hflc : fl ≤ c := by
    rcases (h.fresh t ht).2 with ⟨e1, e2⟩ | ⟨g, cap, cur, e1, _, _, e4, _⟩
    · rw [hv] at e1
      simp only [Value.slice.injEq] at e1
      omega
    · rw [hv] at e1
      simp only [Value.slice.injEq] at e1
      rw [e1.2.1, e1.2.2]
      exact e4
  have HID : Hid (∀ id ∈ L, 2 ≤ id ∧ (id - 2).toNat < A.ths.length) := hid
  have HM : Hid (∀ x ∈ A.ths, x.mask < 18446744073709551616) := hm
  have hkf : k ≤ fl := by omega
  have k0' : (0 : Int) ≤ (k : Int) := by omega
  have kf' : (k : Int) ≤ (fl : Int) := by omega
  have kc' : (k : Int) ≤ (c : Int) := by omega
  clear h hv hL hfl hid hm
  obtain ⟨d, hd⟩ : ∃ d, d = fl - k := ⟨_, rfl⟩
  have HD : Hid (d = fl - k) := hd
  have hdi : (fl : Int) - (k : Int) = (d : Int) := by omega
  clear hd
  by_cases hkk : k = fl
  · subst hkk
    have hdr : L.drop k = [] := List.drop_of_length_le (by rw [← HFL.out]; exact Nat.le_refl _)
    have htk : L.take k = L := List.take_of_length_le (by rw [← HFL.out]; exact Nat.le_refl _)
    rw [hdr, htk]
    have z2 := HH.out.raw.frozen (4 + t * 3 + 2)
    have H9 := HH.out.setFresh (F' := F) (l := L) (v := .slice a k c) ht (by have h2 := HH.out.fresh t ht; rw [HV.out, ← HL.out] at h2; exact h2) (fun _ _ _ => rfl) (Nat.le_refl _) (fun q hq => Or.inl (by rw [HV.out]; exact hq)) (fun _ h => h) (fun q hq => HH.out.ft t ht q (by rw [HV.out]; exact hq)) HH.out.flt
    have HEND : Hid (ArAt (w.setCell ⟨b, 4 + t * 3 + 2, none⟩ (.slice a k c)) b F n (A.lose t [] L) ∧ Apart F w (w.setCell ⟨b, 4 + t * 3 + 2, none⟩ (.slice a k c))) := ⟨⟨_, _, H9⟩, Apart.set w _ HH.out.fb⟩
    clear H9 hdr htk
    rcases HA.out with ⟨rfl, rfl, rfl⟩ | ⟨g, rfl⟩
    · have hk0 : min (max m (0 : Int)) 0 = 0 := by omega
      clear hk
      go_enter Tryz.func42, Tryz.ntmps42
      go_wp2_with fail
      refine (hi _).mono ?_
      rintro e w1 ⟨rfl, rfl⟩
      clear hi
      go_wp2_with fail
      refine wp_loop_rounds 1 ?_
      rw [rounds_succ]
      go_wp2_with fail
      go_region
      all_goals
        go_wp2_with fail
        go_ret
        exact ⟨by go_num, (let ⟨r9, D9, h9⟩ := HEND.out.1; ⟨r9, D9, h9.drew⟩), HEND.out.2.drew⟩
    · by_cases hc : c = k
      · subst hc
        go_enter Tryz.func42, Tryz.ntmps42
        go_wp2_with fail
        refine (hi _).mono ?_
        rintro e w1 ⟨rfl, rfl⟩
        clear hi
        go_wp2_with fail
        refine wp_loop_rounds 1 ?_
        rw [rounds_succ]
        go_wp2_with fail
        go_region
        all_goals
          go_wp2_with fail
          go_ret
          exact ⟨by go_num, (let ⟨r9, D9, h9⟩ := HEND.out.1; ⟨r9, D9, h9.drew⟩), HEND.out.2.drew⟩
      · have hck' : ¬ (c : Int) = (k : Int) := by omega
        go_enter Tryz.func42, Tryz.ntmps42
        go_wp2_with fail
        refine (hi _).mono ?_
        rintro e w1 ⟨rfl, rfl⟩
        clear hi
        go_wp2_with fail
        refine wp_loop_rounds 1 ?_
        rw [rounds_succ]
        go_wp2_with fail
        go_region
        all_goals
          go_wp2_with fail
          go_ret
          exact ⟨by go_num, (let ⟨r9, D9, h9⟩ := HEND.out.1; ⟨r9, D9, h9.drew⟩), HEND.out.2.drew⟩
  · have hck : ¬ c = k := by omega
    have hck' : ¬ (c : Int) = (k : Int) := by omega
    obtain ⟨g, rfl⟩ : ∃ g, a = some ⟨g, 0, none⟩ := by
      rcases HA.out with ⟨_, h, _⟩ | h
      · omega
      · exact h
    obtain ⟨M, hM⟩ : ∃ M, M = L.drop k := ⟨_, rfl⟩
    have HMD : Hid (M = L.drop k ∧ M.length = d) := ⟨hM, by rw [hM, List.length_drop, ← HFL.out]; exact HD.out.symm⟩
    rw [← hM]
    clear hM
    go_enter Tryz.func42, Tryz.ntmps42
    go_wp2_with fail
    refine (hi _).mono ?_
    rintro e w1 ⟨rfl, rfl⟩
    clear hi
    go_wp2_with fail
    have hdn : (fl - k : Nat) = d := HD.out.symm
    rw [hdn]
    clear hdn
    go_loopg [33] d (fun gh s33 wr => ∃ (i : Nat) (r' : Raw), i + gh = d ∧ s33 = .int .i64 i ∧ ArRaw wr b F n (A.takes t (M.take i)) r' D ∧ (r'.tn t).fr = .slice (some ⟨g, 0, none⟩) fl c ∧ Apart F w1 wr)
    case atStart => exact ⟨0, r, by omega, rfl, HH.out, HV.out, Apart.refl _ _⟩
    case round =>
      obtain ⟨i, r', hi', rfl, hr, hfr, P⟩ := hrel
      have HI : Hid (i + gk = d) := hi'
      have hin : i ≤ d := by omega
      clear hi' cf
      by_cases hlt : i < d
      · have k0 : (0 : Int) ≤ (i : Int) := by omega
        have k1 : (i : Int) < (d : Int) := by omega
        have hiL : i < M.length := by rw [HMD.out.2]; exact hlt
        have hrow := hr.fresh t ht
        rw [hfr, (takes_rest A t _).1, ← HL.out] at hrow
        have cg := hrow.get (k + i) (by rw [← HFL.out]; have := HD.out; omega)
        have hget : L[k + i]! = M[i]! := by
          rw [HMD.out.1, getElem!_pos L (k + i) (by rw [← HFL.out]; have := HD.out; omega), getElem!_pos (L.drop k) i (by rw [← HMD.out.1]; exact hiL), List.getElem_drop]
        rw [hget] at cg
        have hmem : M[i]! ∈ L := by rw [getElem!_pos M i hiL]; exact List.mem_of_mem_drop (by rw [← HMD.out.1]; exact List.getElem_mem _)
        have hti : M.take (i + 1) = M.take i ++ [M[i]!] := by rw [getElem!_pos M i hiL, List.take_add_one, List.getElem?_eq_getElem hiL]; rfl
        obtain ⟨q2, q3⟩ := HID.out _ hmem
        have HS : Hid (A.takes t (M.take (i + 1)) = (A.takes t (M.take i)).take t (M[i]! - 2).toNat (thAt (A.takes t (M.take i)).ths M[i]!)) := by rw [hti, takes_snoc]; exact Eq.refl _
        have hlen := takes_len A t (M.take i)
        have hth : (A.takes t (M.take i)).ths[(M[i]! - 2).toNat]? = some (thAt (A.takes t (M.take i)).ths M[i]!) := by
          unfold thAt
          rw [List.getElem?_eq_getElem (by rw [hlen]; exact q3)]; rfl
        have hmk : (thAt (A.takes t (M.take i)).ths M[i]!).mask < 18446744073709551616 := by
          obtain ⟨y, y1, _, _, _, y5, _⟩ := takes_get t ht (M.take i) A (fun z hz => HID.out z (List.mem_of_mem_drop (by rw [← HMD.out.1]; exact List.mem_of_mem_take hz))) HM.out _ _ (List.getElem?_eq_getElem q3)
          rw [hth] at y1
          obtain rfl := Option.some.inj y1
          exact y5
        have hcn : (A.takes t (M.take i)).cnt t = A.cnt t - (i : Int) := by
          rw [takes_cnt, upd_same, List.length_take, HMD.out.2]
          congr 2
          omega
        have c7 := take_any b t (M[i]! - 2).toNat n F M[i]! _ r' D _ wr hr hth (by omega) ht hmk (by rw [hlen]; omega) (by rw [hcn]; have := HD.out; omega)
        rw [← HS.out] at c7
        generalize M[i]! = id at *
        clear hrow hmem hti hth hmk hcn hlen hget
        go_wp2_with fail
        refine c7.mono ?_
        rintro e w2 ⟨rfl, hr2, P2⟩
        clear c7 cg
        go_wp2_with fail
        go_roundg (gk - 1)
        case measure => have := HI.out; omega
        case rel => exact ⟨i + 1, _, by have := HI.out; omega, by go_num, hr2, by rw [turn_same]; exact hfr, P.trans P2 fun k hk => Or.inl hk⟩
      · have k1 : ¬ (i : Int) < (d : Int) := by omega
        have hte : M.take i = M := List.take_of_length_le (by rw [HMD.out.2]; omega)
        rw [hte] at hr
        have cf2 := hr.raw.at (4 + t * 3 + 2) (by omega)
        have z2 := hr.raw.frozen (4 + t * 3 + 2)
        have hrow := hr.fresh t ht
        rw [Raw.cf, hfr] at cf2
        rw [hfr, (takes_rest A t _).1, ← HL.out] at hrow
        have hrow0 : IntRow wr (.slice (some ⟨g, 0, none⟩) k c) (L.take k) := hrow.cutk (by rw [← HFL.out]; exact hkf)
        have H9 := hr.setFresh (F' := F) (l := L.take k) ht hrow0 (fun _ _ _ => rfl) (Nat.le_refl _) (fun k hk => Or.inl (by rw [hfr]; exact hk)) (fun _ h => h) (fun k hk => hr.ft t ht k (by rw [hfr]; exact hk)) hr.flt
        have HEQ : Hid (({ A.takes t M with fresh := upd (A.takes t M).fresh t (L.take k) } : Ar) = A.lose t M (L.take k)) := by
          unfold Ar.lose
          rw [(takes_rest A t M).1]
          exact Eq.refl _
        rw [HEQ.out] at H9
        have hfb := hr.fb
        have HEND : Hid (ArAt (wr.setCell ⟨b, 4 + t * 3 + 2, none⟩ (.slice (some ⟨g, 0, none⟩) k c)) b F n (A.lose t M (L.take k)) ∧ Apart F w1 (wr.setCell ⟨b, 4 + t * 3 + 2, none⟩ (.slice (some ⟨g, 0, none⟩) k c))) := ⟨⟨_, _, H9⟩, P.trans (Apart.set wr _ hfb) fun k hk => Or.inl hk⟩
        clear hrow hrow0 hte H9 P
        go_wp2_with fail
        go_region
        all_goals
          go_wp2_with fail
          go_ret
          exact ⟨by go_num, (let ⟨r9, D9, h9⟩ := HEND.out.1; ⟨r9, D9, h9.drew⟩), HEND.out.2.drew⟩
def backK (m : Int) (l : List Int) : Nat := (min (max m 0) (l.length : Int)).toNat
theorem backN_sound {A : Ar} (hS : Sound A) {t : Nat} (ht : t < 64) (k : Nat) : Sound (A.lose t ((A.fresh t).drop k) ((A.fresh t).take k)) := by
  obtain ⟨h1, h2⟩ := fresh_own hS ht
  refine lose_sound hS ht ⟨h1.sublist (List.drop_sublist _ _), fun id hid => h2 id (List.mem_of_mem_drop hid)⟩ ⟨h1.sublist (List.take_sublist _ _), fun id hid => h2 id (List.mem_of_mem_take hid)⟩ fun id hid hd => ?_
  have h3 : ((A.fresh t).take k ++ (A.fresh t).drop k).Nodup := by rw [List.take_append_drop]; exact h1
  exact (List.nodup_append.1 h3).2.2 id hid id hd rfl
theorem backP_any (b t : Nat) (m : Int) (F : Nat → Prop) (A : Ar) (w : World) (h : AtP w b F A) (hS : Sound A) (ht : t < 64) :
    Calls Tryz.prog 42 #[.pointer (some ⟨b, 0, none⟩), .int .i64 t, .int .i64 m] w fun e w' => e = .returned (.int .i64 (((A.fresh t).length : Int) - (backK m (A.fresh t) : Int))) ∧ Led w b F (A.lose t ((A.fresh t).drop (backK m (A.fresh t))) ((A.fresh t).take (backK m (A.fresh t)))) w' := by
  obtain ⟨L, r, D, h, hp, hH⟩ := h
  have hl := hS.len
  have hrm := hS.room1
  have hfl := hS.freshLe ht
  have hc := hS.cnt t ht
  have hon : ownN A.ths t ≤ A.ths.length := List.countP_le_length
  have ho := takes_own t ht t (A.fresh t) A (fresh_own hS ht) hS.mask
  rw [if_pos rfl] at ho
  have hOw : OwnIds A.ths t ((A.fresh t).drop (backK m (A.fresh t))) := by
    obtain ⟨h1, h2⟩ := fresh_own hS ht
    exact ⟨h1.sublist (List.drop_sublist _ _), fun id hid => h2 id (List.mem_of_mem_drop hid)⟩
  have c := backN_any b t _ (backK m (A.fresh t)) m F { A with free := L } r D w h ht (by show (A.fresh t).length < _; omega) (fun id hid => by
    obtain ⟨h2, x, hx, _⟩ := (hS.fresh t ht).2 id hid
    exact ⟨h2, (List.getElem?_eq_some_iff.1 hx).1⟩) hS.mask (by show A.ths.length < _; omega) (by show ((A.fresh t).length : Int) ≤ A.cnt t ∧ A.cnt t < _; omega) (by unfold backK; show min (max m 0) ((A.fresh t).length : Int) = _; omega)
  refine c.mono ?_
  rintro e w' ⟨he, ⟨r', D', h'⟩, P⟩
  refine ⟨he, F, fun k hk => .inl hk, ⟨L, r', D', ?_, ?_, hH⟩, P⟩
  · have e1 := (live_takes ht hOw hS.mask).2
    have e2 : ({ A.lose t ((A.fresh t).drop (backK m (A.fresh t))) ((A.fresh t).take (backK m (A.fresh t))) with free := L } : Ar) = ({ A with free := L } : Ar).lose t ((A.fresh t).drop (backK m (A.fresh t))) ((A.fresh t).take (backK m (A.fresh t))) := by
      unfold Ar.lose
      rw [takes_free L t _ A]
    show ArRaw w' b F (liveN (A.takes t ((A.fresh t).drop (backK m (A.fresh t)))).ths) _ _ _
    rw [e1, e2]; exact h'
  · show L.Perm (freeIds (A.takes t ((A.fresh t).drop (backK m (A.fresh t)))).ths)
    rw [(live_takes ht hOw hS.mask).1]; exact hp
end Go.Proofs.YtofbcngcblleaabGreat.A
