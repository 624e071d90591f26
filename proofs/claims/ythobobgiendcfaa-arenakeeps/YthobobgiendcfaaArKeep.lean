/- keep: what a square is made of is marked. -/
import Derived.Test.YthobobgiendcfaaSqStep
import Derived.Test.YthobobgiendcfaaSqSub
import Derived.Test.YthobobgiendcfaaArTake
namespace Go.Proofs.Ythobobgiendcfaa.A
open Go.RowKit Go.Maps

/-- a row of marks in a block of its own -/
def Marks (w : World) (kb : Nat) (K : List Bool) : Prop := w.heap[kb]? = some (.cells (K.map Value.bool).toArray 4 (0, 0))
theorem Marks.get {w : World} {kb : Nat} {K : List Bool} (h : Marks w kb K) {i : Nat} (hi : i < K.length) : w.cell? ⟨kb, i, none⟩ = some (.bool K[i]!) := by
  rw [Lib.cell_of_heap h i]
  simp [hi]
theorem Marks.free {w : World} {kb : Nat} {K : List Bool} (h : Marks w kb K) (i : Nat) : w.frozen? ⟨kb, i, none⟩ = false := Lib.frozen_of_heap h i
theorem Marks.lt {w : World} {kb : Nat} {K : List Bool} (h : Marks w kb K) : kb < w.heap.size := (Array.getElem?_eq_some_iff.1 h).1
theorem Marks.set {w : World} {kb : Nat} {K : List Bool} (h : Marks w kb K) (i : Nat) (v : Bool) : Marks (w.setCell ⟨kb, i, none⟩ (.bool v)) kb (K.set i v) := by
  have := Go.Joins.block_setCell (i := i) h (.bool v)
  unfold Marks
  rw [this]
  simp [List.map_set]
theorem Marks.below {w w' : World} {kb : Nat} {K : List Bool} (h : Marks w kb K) (hb : Below w.heap.size w w') : Marks w' kb K := (hb.block kb h.lt).trans h

/-- marked -/
def Mk (K : List Bool) (i : Nat) : Prop := K[i]? = some true
/-- what is marked, up to a level, is marked with all that it is made of -/
def ClosedK (l : List Th) (K : List Bool) (n : Nat) : Prop := ∀ (j i m : Nat), Mk K j → m ≤ n → glevel l ((j : Int) + 2) = some (m : Int) → Sub l ((j : Int) + 2) ((i : Int) + 2) → Mk K i
theorem sub_small {l : List Th} {id j : Int} (h : Sub l id j) (h2 : id < 2) : j = id := by
  cases h with
  | self => rfl
  | p0 h _ => omega
  | p1 h _ => omega
  | p2 h _ => omega
  | p3 h _ => omega
theorem sub_parts {l : List Th} {id j : Int} (h2 : 2 ≤ id) : Sub l id j ↔ j = id ∨ ∃ i, i < 4 ∧ Sub l (quarterF (thAt l id) i) j := by
  constructor
  · intro h
    cases h with
    | self => exact Or.inl rfl
    | p0 _ h => exact Or.inr ⟨0, by omega, h⟩
    | p1 _ h => exact Or.inr ⟨1, by omega, h⟩
    | p2 _ h => exact Or.inr ⟨2, by omega, h⟩
    | p3 _ h => exact Or.inr ⟨3, by omega, h⟩
  · rintro (rfl | ⟨i, hi, h⟩)
    · exact Sub.self _
    · match i, hi, h with
      | 0, _, h => exact Sub.p0 h2 h
      | 1, _, h => exact Sub.p1 h2 h
      | 2, _, h => exact Sub.p2 h2 h
      | 3, _, h => exact Sub.p3 h2 h
theorem sub_trans {l : List Th} {a b c : Int} (h : Sub l a b) (k : Sub l b c) : Sub l a c := by
  induction h with
  | self => exact k
  | p0 h2 _ ih => exact Sub.p0 h2 (ih k)
  | p1 h2 _ ih => exact Sub.p1 h2 (ih k)
  | p2 h2 _ ih => exact Sub.p2 h2 (ih k)
  | p3 h2 _ ih => exact Sub.p3 h2 (ih k)

/-- what keep leaves -/
def KeepOut (w : World) (l : List Th) (kb : Nat) (K : List Bool) (id : Int) (w' : World) : Prop :=
  ∃ K', Marks w' kb K' ∧ K'.length = K.length ∧ (∀ i : Nat, Mk K' i ↔ Mk K i ∨ Sub l id ((i : Int) + 2)) ∧ Apart (fun k => k = kb) w w'

theorem mk_set {K : List Bool} {p j : Nat} (hp : p < K.length) : Mk (K.set p true) j ↔ Mk K j ∨ j = p := by
  unfold Mk
  rw [List.getElem?_set]
  by_cases e : p = j
  · subst e; simp [hp]
  · have : ¬ j = p := fun k => e k.symm
    simp [e, this]

set_option maxRecDepth 20000 in
set_option maxHeartbeats 4000000 in
theorem keep_none (b n t kb : Nat) (id : Int) (F : Nat → Prop) (A : Ar) (r : Raw) (D : DataW Unit) (K : List Bool) (w : World) (h : ArRaw w b F n A r D) (ht : t < 64) (hm : ∀ x ∈ A.ths, x.mask < 18446744073709551616) (hk : Marks w kb K) (hid : id = 0 ∨ id = 1) (ln : Nat) :
    Calls Try.prog 77 #[.pointer (some ⟨b, 0, none⟩), .int .i64 t, .int .i64 id, .slice (some ⟨kb, 0, none⟩) ln ln] w fun e w' => e = .returned (.tuple #[]) ∧ KeepOut w A.ths kb K id w' := by
  have ho := own_any b 0 t id r A.ths w h.raw h.ths ht hm (by omega)
  have hn : ownF A.ths t id = none := by unfold ownF; rw [if_neg (by omega)]
  rw [hn] at ho
  simp only [Option.getD_none, Option.isSome_none] at ho
  unfold noTh Th.val at ho
  go_enter Try.func77, Try.ntmps77
  go_wp2_with fail
  refine ho.mono ?_
  rintro e w1 ⟨rfl, hb1⟩
  simp only
  go_wp2_with fail
  refine bodyPost_ret (v := .tuple #[]) (by simp [results, Try.results77]) rfl ?_
  have hb2 := hb1.alloc hb1.size (.cells #[.int .i64 0, .int .i64 0, .int .i64 0, .int .i64 0, .int .i64 0, .int .i64 0, .int .i64 0, .int .u64 0] 115)
  exact ⟨rfl, K, hk.below hb2, rfl, fun i => ⟨Or.inl, fun hh => by
    rcases hh with hh | hh
    · exact hh
    · have := sub_small hh (by omega); omega⟩, Apart.of hb2⟩

/-- between two quarters -/
def KLoop (w : World) (l : List Th) (kb ln lv p : Nat) (K : List Bool) (x : Th) (i : Nat) (w' : World) : Prop :=
  ∃ K', Marks w' kb K' ∧ K'.length = ln ∧ ClosedK l K' lv ∧ (∀ j : Nat, Mk K' j ↔ Mk K j ∨ j = p ∨ ∃ i', i' < i ∧ Sub l (quarterF x i') ((j : Int) + 2)) ∧ Apart (fun k => k = kb) w w'

set_option maxRecDepth 20000 in
set_option maxHeartbeats 1000000 in
theorem keep_step (b n t kb ln lv p : Nat) (id : Int) (F : Nat → Prop) (A : Ar) (r : Raw) (D : DataW Unit) (K : List Bool) (x : Th) (w : World) (h : ArRaw w b F n A r D) (ht : t < 64) (hm : ∀ x ∈ A.ths, x.mask < 18446744073709551616) (hf : ln < 1000000) (hkb : ¬ F kb)
    (hk : Marks w kb K) (hkl : K.length = ln) (hC : ClosedK A.ths K (lv + 1)) (hown : ownF A.ths t id = some x) (hx1 : x.k = 1) (hl : glevel A.ths id = some ((lv + 1 : Nat) : Int)) (hth : thAt A.ths id = x) (hid : id = (p : Int) + 2) (hp : p < ln)
    (ih : ∀ (i : Nat) (K' : List Bool) (w' : World), i < 4 → ArRaw w' b F n A r D → Marks w' kb K' → K'.length = ln → ClosedK A.ths K' lv → Calls Try.prog 77 #[.pointer (some ⟨b, 0, none⟩), .int .i64 t, .int .i64 (quarterF x i), .slice (some ⟨kb, 0, none⟩) ln ln] w' fun e w'' => e = .returned (.tuple #[]) ∧ KeepOut w' A.ths kb K' (quarterF x i) w'') :
    Calls Try.prog 77 #[.pointer (some ⟨b, 0, none⟩), .int .i64 t, .int .i64 id, .slice (some ⟨kb, 0, none⟩) ln ln] w fun e w' => e = .returned (.tuple #[]) ∧ KeepOut w A.ths kb K id w' := by
  have ho := own_any b 0 t id r A.ths w h.raw h.ths ht hm (by omega)
  rw [hown] at ho
  simp only [Option.getD_some, Option.isSome_some] at ho
  unfold Th.val at ho
  rw [hx1] at ho
  have hkl' : p < K.length := by omega
  have hcell := hk.get hkl'
  have hfz := hk.free p
  have hp0 : (0 : Int) ≤ (p : Int) := by omega
  have hp1 : (p : Int) < (ln : Int) := by omega
  have hw2 : IntKind.i64.wrap (id - 2) = (p : Int) := by rw [IntKind.wrap_i64]; omega
  have HH : Hid (ArRaw w b F n A r D) := h
  have HMK : Hid (Marks w kb K) := hk
  have HID : Hid (id = (p : Int) + 2) := hid
  have HC : Hid (ClosedK A.ths K (lv + 1)) := hC
  have HGL : Hid (glevel A.ths id = some ((lv + 1 : Nat) : Int)) := hl
  clear hid hC hl hown
  have hkb' := hk.lt
  cases hK : K[p]! with
  | true =>
    have HY : Hid (Mk K p) := by
      show K[p]? = some true
      rw [List.getElem?_eq_getElem hkl', ← hK, getElem!_pos K p hkl']
    rw [hK] at hcell
    clear ih h hk
    go_enter Try.func77, Try.ntmps77
    go_wp2_with fail
    refine ho.mono ?_
    rintro e w1 ⟨rfl, hb1⟩
    have hc1 := cell_later hb1 hcell
    have hkb1 : kb < w1.heap.size := Nat.lt_of_lt_of_le hkb' hb1.size
    clear ho hcell
    simp only
    go_wp2_with fail
    refine bodyPost_ret (v := .tuple #[]) ?_ rfl ?_
    · simp [results, Try.results77]
    have hb2 := hb1.alloc hb1.size (.cells #[.int .i64 1, .int .i64 x.p0, .int .i64 x.p1, .int .i64 x.p2, .int .i64 x.p3, .int .i64 x.lv, .int .i64 x.va, .int .u64 x.mask] 115)
    exact ⟨rfl, K, HMK.out.below hb2, rfl, fun i => ⟨Or.inl, fun hh => by
      rcases hh with hh | hh
      · exact hh
      · exact HC.out p i (lv + 1) HY.out (Nat.le_refl _) (by rw [← HID.out]; exact HGL.out) (by rw [← HID.out]; exact hh)⟩, Apart.of hb2⟩
  | false =>
    rw [hK] at hcell
    have HNK : Hid (¬ Mk K p) := fun e => by
      have e' : K[p]? = some true := e
      rw [List.getElem?_eq_getElem hkl', ← getElem!_pos K p hkl', hK] at e'
      cases e'
    have HTH : Hid (thAt A.ths id = x) := hth
    have HIH : Hid (∀ (i : Nat) (K' : List Bool) (w' : World), i < 4 → ArRaw w' b F n A r D → Marks w' kb K' → K'.length = ln → ClosedK A.ths K' lv → Calls Try.prog 77 #[.pointer (some ⟨b, 0, none⟩), .int .i64 t, .int .i64 (quarterF x i), .slice (some ⟨kb, 0, none⟩) ln ln] w' fun e w'' => e = .returned (.tuple #[]) ∧ KeepOut w' A.ths kb K' (quarterF x i) w'') := ih
    have hkids := fun (i : Nat) (hi : i < 4) W => kids_at x i hi W
    clear ih h hk hth
    go_enter Try.func77, Try.ntmps77
    go_wp2_with fail
    refine ho.mono ?_
    rintro e w1 ⟨rfl, hb1⟩
    have hc1 := cell_later hb1 hcell
    have hkb1 : kb < w1.heap.size := Nat.lt_of_lt_of_le hkb' hb1.size
    have hfz1 := (HMK.out.below hb1).free p
    have HM1 : Hid (Marks ((w1.setCell ⟨kb, p, none⟩ (.bool true)).alloc (.cells #[.int .i64 1, .int .i64 x.p0, .int .i64 x.p1, .int .i64 x.p2, .int .i64 x.p3, .int .i64 x.lv, .int .i64 x.va, .int .u64 x.mask] 115)) kb (K.set p true) ∧ Apart (fun k => k = kb) w ((w1.setCell ⟨kb, p, none⟩ (.bool true)).alloc (.cells #[.int .i64 1, .int .i64 x.p0, .int .i64 x.p1, .int .i64 x.p2, .int .i64 x.p3, .int .i64 x.lv, .int .i64 x.va, .int .u64 x.mask] 115))) := by
      have m1 := (HMK.out.below hb1).set p true
      have a1 : Apart (fun k => k = kb) w (w1.setCell ⟨kb, p, none⟩ (.bool true)) := (Apart.of hb1).trans (Apart.set (F := fun k => k = kb) _ _ rfl) fun k hk => Or.inl hk
      have hb2 : Below (w1.setCell ⟨kb, p, none⟩ (.bool true)).heap.size (w1.setCell ⟨kb, p, none⟩ (.bool true)) ((w1.setCell ⟨kb, p, none⟩ (.bool true)).alloc (.cells #[.int .i64 1, .int .i64 x.p0, .int .i64 x.p1, .int .i64 x.p2, .int .i64 x.p3, .int .i64 x.lv, .int .i64 x.va, .int .u64 x.mask] 115)) := (Below.refl _ _).alloc (Nat.le_refl _) _
      exact ⟨m1.below hb2, a1.trans (Apart.of (F := fun k => k = kb) hb2) fun k hk => Or.inl hk⟩
    clear ho hcell hfz
    simp only
    go_wp2_with fail
    have HST : Hid (KLoop w A.ths kb ln lv p K x 0 ((w1.setCell ⟨kb, p, none⟩ (.bool true)).alloc (.cells #[.int .i64 1, .int .i64 x.p0, .int .i64 x.p1, .int .i64 x.p2, .int .i64 x.p3, .int .i64 x.lv, .int .i64 x.va, .int .u64 x.mask] 115))) := by
      refine ⟨K.set p true, HM1.out.1, by rw [List.length_set]; exact hkl, fun j i m hj hmn hg hs => ?_, fun j => ?_, HM1.out.2⟩
      · rcases (mk_set hkl').1 hj with h1 | h1
        · exact (mk_set hkl').2 (Or.inl (HC.out j i m h1 (by omega) hg hs))
        · subst h1
          rw [← HID.out, HGL.out] at hg
          have := Option.some.inj hg
          omega
      · rw [mk_set hkl']
        simp
    clear HM1 hc1 hfz1
    go_loopg [41] 4 (fun g s41 wr => ∃ i : Nat, i + g = 4 ∧ s41 = .int .i64 i ∧ KLoop w A.ths kb ln lv p K x i wr)
    case atStart => exact ⟨0, by omega, rfl, HST.out⟩
    case round =>
      obtain ⟨i, hig, rfl, hst⟩ := hrel
      have HI : Hid (i + gk = 4) := hig
      clear hig HST
      by_cases hi4 : i < 4
      · have hki := fun W => hkids i hi4 W
        have hil : (i : Int) < 4 := by omega
        have hi0 : (0 : Int) ≤ i := by omega
        obtain ⟨K', m1, m2, m3, m4, m5⟩ := hst
        have HA' : ArRaw wr b F n A r D := HH.out.other m5.size fun k hk => m5.block k (HH.out.flt k hk) (fun e => hkb (by rw [← e]; exact hk))
        have c9 := HIH.out i K' wr hi4 HA' m1 m2 m3
        have HS : Hid (∀ w', KeepOut wr A.ths kb K' (quarterF x i) w' → KLoop w A.ths kb ln lv p K x (i + 1) w') := by
          rintro w' ⟨K2, q1, q2, q3, q4⟩
          refine ⟨K2, q1, q2.trans m2, fun j a m hj hmn hg hs => ?_, fun j => ?_, m5.trans q4 fun k hk => Or.inl hk⟩
          · rcases (q3 j).1 hj with h1 | h1
            · exact (q3 a).2 (Or.inl (m3 j a m h1 hmn hg hs))
            · exact (q3 a).2 (Or.inr (sub_trans h1 hs))
          · rw [q3 j, m4 j]
            constructor
            · rintro ((h1 | h1 | ⟨i', h2, h3⟩) | h1)
              · exact Or.inl h1
              · exact Or.inr (Or.inl h1)
              · exact Or.inr (Or.inr ⟨i', by omega, h3⟩)
              · exact Or.inr (Or.inr ⟨i, by omega, h1⟩)
            · rintro (h1 | h1 | ⟨i', h2, h3⟩)
              · exact Or.inl (Or.inl h1)
              · exact Or.inl (Or.inr (Or.inl h1))
              · by_cases e : i' = i
                · subst e; exact Or.inr h3
                · exact Or.inl (Or.inr (Or.inr ⟨i', by omega, h3⟩))
        clear m1 m2 m3 m4 m5 HA' hkids
        go_wp2_with fail
        refine c9.mono ?_
        rintro e w3 ⟨rfl, hk3⟩
        go_wp2_with fail
        go_roundg (gk - 1)
        case measure => have := HI.out; omega
        case rel => exact ⟨i + 1, by have := HI.out; omega, by go_num, HS.out w3 hk3⟩
      · have hi4' : i = 4 := by have := HI.out; omega
        subst hi4'
        clear hkids
        go_wp2_with fail
        go_end0
        obtain ⟨K', m1, m2, m3, m4, m5⟩ := hst
        refine ⟨rfl, K', m1, by rw [m2, hkl], fun j => ?_, m5⟩
        rw [m4 j, sub_parts (by have := HID.out; omega), HTH.out]
        constructor
        · rintro (h1 | h1 | ⟨i', h2, h3⟩)
          · exact Or.inl h1
          · exact Or.inr (Or.inl (by rw [h1, HID.out]))
          · exact Or.inr (Or.inr ⟨i', h2, h3⟩)
        · rintro (h1 | h1 | ⟨i', h2, h3⟩)
          · exact Or.inl h1
          · exact Or.inr (Or.inl (by have := HID.out; omega))
          · exact Or.inr (Or.inr ⟨i', h2, h3⟩)

theorem keepSq_any (b n t kb ln : Nat) (F : Nat → Prop) (A : Ar) (r : Raw) (D : DataW Unit) (hI : Inv A) (ht : t < 64) (hm : ∀ x ∈ A.ths, x.mask < 18446744073709551616) (hf : A.ths.length < 1000000) (hkb : ¬ F kb) (hln : ln = A.ths.length) :
    ∀ (lv : Nat) (id : Int) (K : List Bool) (w : World), levelF A.ths t id = some (lv : Int) → ArRaw w b F n A r D → Marks w kb K → K.length = ln → ClosedK A.ths K lv →
      Calls Try.prog 77 #[.pointer (some ⟨b, 0, none⟩), .int .i64 t, .int .i64 id, .slice (some ⟨kb, 0, none⟩) ln ln] w fun e w' => e = .returned (.tuple #[]) ∧ KeepOut w A.ths kb K id w'
  | 0, id, K, w, hl, h, hk, _, _ => keep_none b n t kb id F A r D K w h ht hm hk (glevel_zero hI.good (glevel_of hl)) ln
  | lv + 1, id, K, w, hl, h, hk, hkl, hC => by
    obtain ⟨x, hsq, hth, h2, hlt, hq⟩ := square_of hI hl
    unfold squareF at hsq
    rw [Option.filter_eq_some_iff] at hsq
    exact keep_step b n t kb ln lv (id - 2).toNat id F A r D K x w h ht hm (by omega) hkb hk hkl hC hsq.1 (by simpa using hsq.2) (glevel_of hl) hth (by omega) (by omega) (fun i K' w' hi h' hk' hkl' hC' => keepSq_any b n t kb ln F A r D hI ht hm hf hkb hln lv (quarterF x i) K' w' (hq i hi) h' hk' hkl' hC')
end Go.Proofs.Ythobobgiendcfaa.A
