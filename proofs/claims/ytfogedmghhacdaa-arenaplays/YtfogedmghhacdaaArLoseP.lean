/- What a tenant loses, in plain words. -/
import Derived.Test.YtfogedmghhacdaaArKeepG
namespace Go.Proofs.Ytfogedmghhacdaa.A
open Go.RowKit Go.Maps

/-- things are a tenant's no more; f: what can still be undone -/
def Ar.lose (A : Ar) (t : Nat) (ids f : List Int) : Ar := { A.takes t ids with fresh := upd A.fresh t f }
/-- a tenant's own things, each once -/
def OwnIds (l : List Th) (t : Nat) (ids : List Int) : Prop := ids.Nodup ∧ ∀ id ∈ ids, 2 ≤ id ∧ ∃ x, l[(id - 2).toNat]? = some x ∧ x.mask.testBit t = true
theorem takes_cons (A : Ar) (t : Nat) (id : Int) (l : List Int) : A.takes t (id :: l) = (A.take t (id - 2).toNat (thAt A.ths id)).takes t l := rfl
theorem takes_own (t : Nat) (ht : t < 64) (u : Nat) : ∀ (ids : List Int) (A : Ar), OwnIds A.ths t ids → (∀ x ∈ A.ths, x.mask < 18446744073709551616) → ownN (A.takes t ids).ths u + (if u = t then ids.length else 0) = ownN A.ths u
  | [], A, _, _ => by simp [Ar.takes]
  | id :: l, A, h, hm => by
    obtain ⟨h2, x, hx, hb⟩ := h.2 id (by simp)
    have hth : thAt A.ths id = x := by unfold thAt; rw [hx]; rfl
    have hxm := hm x (List.mem_of_getElem? hx)
    have e := set_count (y := { x with mask := clr x.mask t }) (fun z => z.mask.testBit u) hx
    have hnd := List.nodup_cons.1 h.1
    have hi := (List.getElem?_eq_some_iff.1 hx).1
    have ih := takes_own t ht u l (A.take t (id - 2).toNat x) ⟨hnd.2, fun k hk => by
      obtain ⟨k2, y, hy, hyb⟩ := h.2 k (by simp [hk])
      refine ⟨k2, y, ?_, hyb⟩
      show (A.ths.set _ _)[_]? = _
      rw [List.getElem?_set, if_neg (fun e => hnd.1 (by rw [show id = k by omega]; exact hk))]
      exact hy⟩ (fun z hz => by
      rcases List.mem_or_eq_of_mem_set (show z ∈ A.ths.set _ _ from hz) with h1 | h1
      · exact hm z h1
      · rw [h1]; exact clr_lt _ _ hxm)
    rw [takes_cons, hth]
    have e2 : ownN (A.take t (id - 2).toNat x).ths u = (A.ths.set (id - 2).toNat { x with mask := clr x.mask t }).countP fun z => z.mask.testBit u := rfl
    rw [e2] at ih
    generalize (A.ths.set (id - 2).toNat { x with mask := clr x.mask t }).countP (fun z => z.mask.testBit u) = N at *
    simp only [clr_bit x.mask t u hxm ht] at e
    unfold ownN at ih ⊢
    by_cases eu : u = t
    · subst eu
      rw [hb] at e
      simp at e ih ⊢
      omega
    · rw [if_neg eu] at ih ⊢
      simp [eu] at e
      omega
theorem takes_back {t : Nat} (ht : t < 64) {A : Ar} {ids : List Int} (h : OwnIds A.ths t ids) (hm : ∀ x ∈ A.ths, x.mask < 18446744073709551616) {j : Nat} {y : Th} (hy : (A.takes t ids).ths[j]? = some y) : ∃ x, A.ths[j]? = some x ∧ y.key = x.key ∧ y.lv = x.lv ∧ y.va = x.va ∧ y.mask < 18446744073709551616 ∧ ∀ u, y.mask.testBit u = true ↔ x.mask.testBit u = true ∧ ¬ (u = t ∧ (j : Int) + 2 ∈ ids) := by
  have hj := (List.getElem?_eq_some_iff.1 hy).1
  rw [takes_len] at hj
  obtain ⟨y', h1, h2⟩ := takes_get t ht ids A (fun id hid => by
    obtain ⟨a, x, hx, _⟩ := h.2 id hid
    exact ⟨a, (List.getElem?_eq_some_iff.1 hx).1⟩) hm j _ (List.getElem?_eq_getElem hj)
  rw [hy] at h1
  obtain rfl := Option.some.inj h1
  exact ⟨_, List.getElem?_eq_getElem hj, h2⟩
theorem lose_sound {A : Ar} {t : Nat} {ids f : List Int} (hS : Sound A) (ht : t < 64) (h : OwnIds A.ths t ids) (hf : OwnIds A.ths t f) (hd : ∀ id ∈ f, id ∉ ids) : Sound (A.lose t ids f) := by
  obtain ⟨r1, r2, r3, r4⟩ := takes_rest A t ids
  have back := fun j y => takes_back ht h hS.mask (j := j) (y := y)
  have bm : ∀ y ∈ (A.lose t ids f).ths, ∃ (j : Nat) (x : Th), A.ths[j]? = some x ∧ y.key = x.key ∧ y.lv = x.lv ∧ y.va = x.va ∧ y.mask < 18446744073709551616 ∧ ∀ u, y.mask.testBit u = true ↔ x.mask.testBit u = true ∧ ¬ (u = t ∧ (j : Int) + 2 ∈ ids) := fun y hy => by
    obtain ⟨j, hj⟩ := List.getElem?_of_mem hy
    obtain ⟨x, hx⟩ := back j y hj
    exact ⟨j, x, hx⟩
  have keep : ∀ (u : Nat) (id : Int) (x : Th), A.ths[(id - 2).toNat]? = some x → 2 ≤ id → x.mask.testBit u = true → ¬ (u = t ∧ id ∈ ids) → ∃ y, (A.lose t ids f).ths[(id - 2).toNat]? = some y ∧ y.mask.testBit u = true := fun u id x hx h2 hb hn => by
    obtain ⟨y, h1, _, _, _, _, h6⟩ := takes_get t ht ids A (fun id hid => by
      obtain ⟨a, x, hx, _⟩ := h.2 id hid
      exact ⟨a, (List.getElem?_eq_some_iff.1 hx).1⟩) hS.mask _ x hx
    refine ⟨y, h1, (h6 u).2 ⟨hb, ?_⟩⟩
    rw [show (((id - 2).toNat : Nat) : Int) + 2 = id by omega]
    exact hn
  exact {
    free := r4.trans hS.free
    room0 := by show 0 ≤ (A.takes t ids).room; rw [r3]; exact hS.room0
    room1 := by show (A.takes t ids).room ≤ _; rw [r3]; exact hS.room1
    len := by show ((A.takes t ids).ths.length : Int) ≤ (A.takes t ids).room; rw [r3, takes_len]; exact hS.len
    mask := fun y hy => let ⟨_, _, _, _, _, _, h, _⟩ := bm y hy; h
    zero := fun y hy h0 => by
      obtain ⟨j, x, hx, e1, e2, e3, _, e5⟩ := bm y hy
      have hx0 : x = noTh := hS.zero x (List.mem_of_getElem? hx) (by rw [← key_k e1]; exact h0)
      subst hx0
      have hm0 : y.mask = 0 := Nat.eq_of_testBit_eq fun u => by
        rw [Nat.zero_testBit]
        cases hu : y.mask.testBit u with
        | false => rfl
        | true => have := ((e5 u).1 hu).1; simp [noTh] at this
      obtain ⟨k, p0, p1, p2, p3, lv, va, mask⟩ := y
      simp only [Th.key, Ky.mk.injEq] at e1
      simp only at e2 e3 hm0
      obtain ⟨rfl, rfl, rfl, rfl, rfl⟩ := e1
      subst e2 e3 hm0
      rfl
    fit := fun y hy => by
      obtain ⟨j, x, hx, e1, _⟩ := bm y hy
      rw [e1]; exact hS.fit x (List.mem_of_getElem? hx)
    lv := fun y hy => by
      obtain ⟨j, x, hx, _, e2, _⟩ := bm y hy
      rw [e2]; exact hS.lv x (List.mem_of_getElem? hx)
    va := fun y hy => by
      obtain ⟨j, x, hx, _, _, e3, _⟩ := bm y hy
      rw [e3]; exact hS.va x (List.mem_of_getElem? hx)
    uniq := fun i j y z hy hz h0 he => by
      obtain ⟨x, hx, e1, _⟩ := back i y hy
      obtain ⟨x', hx', e1', _⟩ := back j z hz
      exact hS.uniq i j x x' hx hx' (by rw [← key_k e1]; exact h0) (by rw [← e1, ← e1']; exact he)
    lim := fun u hu => by
      show 0 ≤ (A.takes t ids).lim u ∧ (A.takes t ids).lim u ≤ (A.takes t ids).room
      rw [r2, r3]; exact hS.lim u hu
    cnt := fun u hu => by
      show (A.takes t ids).cnt u = (ownN (A.takes t ids).ths u : Int)
      have e := takes_own t ht u ids A h hS.mask
      have hc := hS.cnt u hu
      rw [takes_cnt]
      unfold upd
      by_cases eu : u = t
      · subst eu
        rw [if_pos rfl] at e ⊢
        omega
      · rw [if_neg eu] at e ⊢
        omega
    fresh := fun u hu => by
      show (upd A.fresh t f u).Nodup ∧ ∀ id ∈ upd A.fresh t f u, _
      unfold upd
      by_cases eu : u = t
      · subst eu
        rw [if_pos rfl]
        exact ⟨hf.1, fun id hid => by
          obtain ⟨h2, x, hx, hb⟩ := hf.2 id hid
          exact ⟨h2, keep u id x hx h2 hb fun e => hd id hid e.2⟩⟩
      · rw [if_neg eu]
        exact ⟨(hS.fresh u hu).1, fun id hid => by
          obtain ⟨h2, x, hx, hb⟩ := (hS.fresh u hu).2 id hid
          exact ⟨h2, keep u id x hx h2 hb fun e => eu e.1⟩⟩ }
theorem takes_free (L : List Int) (t : Nat) : ∀ (l : List Int) (B : Ar), ({ B with free := L } : Ar).takes t l = { B.takes t l with free := L }
  | [], B => rfl
  | id :: l, B => by
    rw [takes_cons, takes_cons]
    exact takes_free L t l (B.take t (id - 2).toNat (thAt B.ths id))
theorem own_nil (l : List Th) (t : Nat) : OwnIds l t [] := ⟨List.nodup_nil, fun _ h => by cases h⟩
theorem live_takes {A : Ar} {t : Nat} (ht : t < 64) {ids : List Int} (h : OwnIds A.ths t ids) (hm : ∀ x ∈ A.ths, x.mask < 18446744073709551616) : freeIds (A.takes t ids).ths = freeIds A.ths ∧ liveN (A.takes t ids).ths = liveN A.ths := by
  have e : freeIds (A.takes t ids).ths = freeIds A.ths := sel_congr 0 _ _ (takes_len _ _ _) fun j x y hx hy => by
    obtain ⟨z, hz, e1, _⟩ := takes_back ht h hm hx
    rw [hy] at hz
    obtain rfl := Option.some.inj hz
    simp [isNo, key_k e1]
  have h1 := free_live (A.takes t ids).ths
  have h2 := free_live A.ths
  rw [e, takes_len] at h1
  exact ⟨e, by omega⟩
theorem fresh_own {A : Ar} (hS : Sound A) {t : Nat} (ht : t < 64) : OwnIds A.ths t (A.fresh t) := hS.fresh t ht
theorem undo_sound {A : Ar} (hS : Sound A) {t : Nat} (ht : t < 64) : Sound (A.lose t (A.fresh t) []) := lose_sound hS ht (fresh_own hS ht) (own_nil _ _) (fun _ h => by cases h)

set_option maxHeartbeats 1000000 in
theorem undoP_any (b t : Nat) (F : Nat → Prop) (A : Ar) (w : World) (h : AtP w b F A) (hS : Sound A) (ht : t < 64) :
    Calls Try.prog 20 #[.pointer (some ⟨b, 0, none⟩), .int .i64 t] w fun e w' => e = .returned (.int .i64 ((A.fresh t).length : Int)) ∧ Led w b F (A.lose t (A.fresh t) []) w' := by
  obtain ⟨L, r, D, h, hp, hH⟩ := h
  have hl := hS.len
  have hrm := hS.room1
  have hfl := hS.freshLe ht
  have hc := hS.cnt t ht
  have hon : ownN A.ths t ≤ A.ths.length := List.countP_le_length
  have ho := takes_own t ht t (A.fresh t) A (fresh_own hS ht) hS.mask
  rw [if_pos rfl] at ho
  have c := back_any b t _ F { A with free := L } r D w h ht (by show (A.fresh t).length < _; omega) (fun id hid => by
    obtain ⟨h2, x, hx, _⟩ := (hS.fresh t ht).2 id hid
    exact ⟨h2, (List.getElem?_eq_some_iff.1 hx).1⟩) hS.mask (by show A.ths.length < _; omega) (by show ((A.fresh t).length : Int) ≤ A.cnt t ∧ A.cnt t < _; omega)
  have c : Calls Try.prog 45 #[.pointer (some ⟨b, 0, none⟩), .int .i64 t, .int .i64 0] w fun e w' => e = .returned (.int .i64 ((A.fresh t).length : Int)) ∧ Led w b F (A.lose t (A.fresh t) []) w' := by
    refine c.mono ?_
    rintro e w' ⟨rfl, ⟨r', D', h'⟩, P⟩
    refine ⟨rfl, F, fun k hk => .inl hk, ⟨L, r', D', ?_, ?_, hH⟩, P⟩
    · have e1 := (live_takes ht (fresh_own hS ht) hS.mask).2
      have e2 : ({ A.lose t (A.fresh t) [] with free := L } : Ar) = ({ A with free := L } : Ar).undo t := by
        unfold Ar.lose Ar.undo
        rw [takes_free L t (({ A with free := L } : Ar).fresh t) A]
      show ArRaw w' b F (liveN (A.takes t (A.fresh t)).ths) _ _ _
      rw [e1, e2]; exact h'
    · show L.Perm (freeIds (A.takes t (A.fresh t)).ths)
      rw [(live_takes ht (fresh_own hS ht) hS.mask).1]; exact hp
  clear hl hrm hfl hc hon ho hp hH h
  go_enter Try.func20, Try.ntmps20
  go_wp2_with fail
  refine c.mono ?_
  rintro e w1 ⟨rfl, h1⟩
  go_wp2_with fail
  go_ret
  exact ⟨rfl, h1⟩
theorem markP_any (b t : Nat) (F : Nat → Prop) (A : Ar) (w : World) (h : AtP w b F A) (ht : t < 64) :
    Calls Try.prog 19 #[.pointer (some ⟨b, 0, none⟩), .int .i64 t] w fun e w' => e = .returned (.int .i64 0) ∧ Led w b F (A.lose t [] []) w' := by
  obtain ⟨L, r, D, h, hp, hH⟩ := h
  refine (mark_any b t _ F { A with free := L } r D w h ht).mono ?_
  rintro e w' ⟨rfl, h', P⟩
  exact ⟨rfl, F, fun k hk => .inl hk, ⟨L, _, _, h', hp, hH⟩, P⟩
theorem mark_sound {A : Ar} (hS : Sound A) {t : Nat} (ht : t < 64) : Sound (A.lose t [] []) := lose_sound hS ht (own_nil _ _) (own_nil _ _) (fun _ h => by cases h)
theorem countP_any (b t : Nat) (F : Nat → Prop) (A : Ar) (w : World) (h : AtP w b F A) (ht : t < 64) :
    Calls Try.prog 22 #[.pointer (some ⟨b, 0, none⟩), .int .i64 t] w fun e w' => e = .returned (.int .i64 (A.cnt t)) ∧ w' = w := by
  obtain ⟨L, r, D, h, hp, hH⟩ := h
  have := count_any b r t w h.raw ht
  rw [show (r.tn t).cnt = A.cnt t from h.cnt t ht] at this
  exact this
end Go.Proofs.Ytfogedmghhacdaa.A
