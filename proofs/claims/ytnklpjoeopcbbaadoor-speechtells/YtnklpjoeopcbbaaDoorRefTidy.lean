/- What lifelodgeref.Tidy answers. -/
import Derived.Test.YtnklpjoeopcbbaaDoorPutNil
namespace Go.Proofs.YtnklpjoeopcbbaaDoor
open Go.RowKit Go.Lib Go.Sort

/-- a slice's value that reads as a list of cells, wherever it lies -/
def RRow (w : World) (v : Value) (zs : List (Int × Int)) : Prop := IsRow w v zs.length (fun j => (zs[j]!).1) (fun j => (zs[j]!).2)

/-- what Tidy answers of a list -/
def TidyOutR (zs : List (Int × Int)) (w : World) (e : Ending) (w' : World) : Prop :=
  ∃ u code, e = .returned (.tuple #[u, .int .i64 code]) ∧ Below w.heap.size w w' ∧
    ((4096 < zs.length ∧ code = 5 ∧ u = .slice none 0 0) ∨ (zs.length ≤ 4096 ∧ zs.any farP = true ∧ code = 3 ∧ u = .slice none 0 0) ∨
    (zs.length ≤ 4096 ∧ zs.any farP = false ∧ code = 0 ∧ ∃ ys, Tidy ys ∧ (∀ p, p ∈ ys ↔ p ∈ zs) ∧ Row w' u ys))

theorem any_true_of {zs : List (Int × Int)} {k : Nat} (hk : k < zs.length) (h : farP zs[k]! = true) : zs.any farP = true := by
  rw [List.any_eq_true]
  exact ⟨zs[k]!, by rw [getElem!_pos zs k hk]; exact List.getElem_mem hk, h⟩
theorem any_false_of {zs : List (Int × Int)} (h : ∀ j, j < zs.length → farP zs[j]! = false) : zs.any farP = false := by
  rw [List.any_eq_false]
  intro p hp
  obtain ⟨j, hj, e⟩ := List.getElem_of_mem hp
  have := h j hj
  rw [getElem!_pos zs j hj, e] at this
  simp [this]

set_option maxHeartbeats 2000000 in
theorem refTidy_many (a : Option Addr) (c : Nat) (zs : List (Int × Int)) (w : World) (hbig : 4096 < zs.length) (hm : zs.length ≤ 9223372036854775807) :
    Calls Tryd.prog 29 #[.slice a zs.length c] w fun e w' => TidyOutR zs w e w' := by
  have hd : (4096 : Int) < (zs.length : Int) := by omega
  go_enter Tryd.func29, Tryd.ntmps29
  go_wp2
  go_ret2
  exact ⟨_, _, rfl, Below.refl _ _, Or.inl ⟨hbig, rfl, rfl⟩⟩

set_option maxHeartbeats 2000000 in
theorem refTidy_none (a : Option Addr) (c : Nat) (w : World) :
    Calls Tryd.prog 29 #[.slice a 0 c] w fun e w' => TidyOutR [] w e w' := by
  go_enter Tryd.func29, Tryd.ntmps29
  go_wp2
  refine wp_loop_rounds 1 ?_
  rw [rounds_succ]
  go_wp2
  refine wp_loop_rounds 1 ?_
  rw [rounds_succ]
  go_wp2
  go_ret2
  exact ⟨_, _, rfl, Below.refl _ _, Or.inr (Or.inr ⟨by simp, rfl, rfl, [], List.Pairwise.nil, fun p => Iff.rfl, Or.inl ⟨rfl, rfl⟩⟩)⟩

set_option maxHeartbeats 2000000 in
theorem refTidy_some (b off c : Nat) (zs : List (Int × Int)) (w : World) (hb : b < w.heap.size) (hn : zs.length ≤ 4096) (hH : HoldsR w b off zs) :
    Calls Tryd.prog 29 #[.slice (some ⟨b, off, none⟩) zs.length c] w fun e w' => TidyOutR zs w e w' := by
  have HH : Hid (HoldsR w b off zs) := hH
  clear hH
  generalize hl : zs.length = n at *
  have HL : Hid (zs.length = n) := hl
  clear hl
  have hd : ¬ (4096 : Int) < (n : Int) := by omega
  go_enter Tryd.func29, Tryd.ntmps29
  go_wp2
  go_loopg [13] n (fun g s wr => ∃ k : Nat, k + g = n ∧ s = .int .i64 k ∧ wr = w ∧ ∀ j, j < k → farP zs[j]! = false)
  case atStart => exact ⟨0, by omega, rfl, rfl, fun j hj => by omega⟩
  case round =>
    obtain ⟨k, hk, rfl, hw, hfar⟩ := hrel
    have hw' := hw.symm
    subst hw'
    clear hw
    have HK : Hid (k + gk = n) := hk
    have HF : Hid (∀ j, j < k → farP zs[j]! = false) := hfar
    have hkn : k ≤ n := by omega
    clear hk hfar
    by_cases hlt : k < n
    · obtain ⟨c0, c1⟩ := HH.out k (by rw [HL.out]; exact hlt)
      generalize hz : zs[k]! = z at c0 c1
      have HZ : Hid (zs[k]! = z) := hz
      clear hz
      obtain ⟨x, y⟩ := z
      have hcx := far_any x
      have hcy := far_any y
      have hi2 : (k : Int) < (n : Int) := by omega
      cases hx : farI x
      · rw [hx] at hcx
        cases hy : farI y
        · rw [hy] at hcy
          have HXY : Hid (farI x = false ∧ farI y = false) := ⟨hx, hy⟩
          clear hx hy
          go_wp2_with (first | (go_at_call_of 48 x; refine (hcx _).mono ?_; rintro e w' ⟨rfl, rfl⟩) | (go_at_call_of 48 y; refine (hcy _).mono ?_; rintro e w' ⟨rfl, rfl⟩))
          go_roundg (gk - 1)
          case measure => have := HK.out; omega
          case rel =>
            have := HK.out
            refine ⟨k + 1, by omega, by go_num, rfl, fun j hj => ?_⟩
            by_cases e : j = k
            · rw [e, HZ.out]; simp [farP, HXY.out.1, HXY.out.2]
            · exact HF.out j (by omega)
        · rw [hy] at hcy
          have HXY : Hid (farI y = true) := hy
          clear hx hy
          go_wp2_with (first | (go_at_call_of 48 x; refine (hcx _).mono ?_; rintro e w' ⟨rfl, rfl⟩) | (go_at_call_of 48 y; refine (hcy _).mono ?_; rintro e w' ⟨rfl, rfl⟩))
          go_ret2
          exact ⟨_, _, rfl, Below.refl _ _, Or.inr (Or.inl ⟨by rw [HL.out]; exact hn, any_true_of (k := k) (by rw [HL.out]; exact hlt) (by rw [HZ.out]; simp [farP, HXY.out]), rfl, rfl⟩)⟩
      · rw [hx] at hcx
        have HXY : Hid (farI x = true) := hx
        clear hx
        go_wp2_with (first | (go_at_call_of 48 x; refine (hcx _).mono ?_; rintro e w' ⟨rfl, rfl⟩))
        go_ret2
        exact ⟨_, _, rfl, Below.refl _ _, Or.inr (Or.inl ⟨by rw [HL.out]; exact hn, any_true_of (k := k) (by rw [HL.out]; exact hlt) (by rw [HZ.out]; simp [farP, HXY.out]), rfl, rfl⟩)⟩
    · have hke : k = n := by omega
      subst hke
      go_wp2
      go_loopg [5, 33] k (fun g s5 s33 wq => ∃ (m : Nat) (ys : List (Int × Int)), m + g = k ∧ s33 = .int .i64 m ∧ Kept wq w.heap.size s5 ys ∧ Tidy ys ∧ (∀ p, p ∈ ys ↔ ∃ j, j < m ∧ zs[j]! = p) ∧ ys.length ≤ m ∧ Below w.heap.size w wq)
      case atStart => exact ⟨0, [], by omega, rfl, Or.inl ⟨rfl, rfl⟩, List.Pairwise.nil, fun p => by simp, Nat.le_refl _, Below.refl _ _⟩
      case round =>
        obtain ⟨m, ys, hm, rfl, hkept, hty, hmem, hyl, hbel⟩ := hrel
        have HM : Hid (m + gk = k) := hm
        have HQ : Hid (Tidy ys ∧ (∀ p, p ∈ ys ↔ ∃ j, j < m ∧ zs[j]! = p) ∧ ys.length ≤ m) := ⟨hty, hmem, hyl⟩
        have KP : Hid (Kept wr w.heap.size u5 ys) := hkept
        have hmk : m ≤ k := by omega
        have hsz := hbel.size
        clear hm hty hmem hyl hkept
        by_cases hlt2 : m < k
        · obtain ⟨c0, c1⟩ := HH.out m (by rw [HL.out]; exact hlt2)
          rw [← hbel.cell (p := ⟨b, off + m * 2, none⟩) hb] at c0
          rw [← hbel.cell (p := ⟨b, off + m * 2 + 1, none⟩) hb] at c1
          generalize hz : zs[m]! = z at c0 c1
          have HZ : Hid (zs[m]! = z) := hz
          clear hz
          have hi2 : (m : Int) < (k : Int) := by omega
          go_wp2_with fail
          refine (put_any u5 w.heap.size ys z _ (by simp; omega) (KP.out.block (fun g hg => Below.heap_alloc _ _ _ hg)) HQ.out.1 (by have := HQ.out.2.2; omega)).mono ?_
          rintro e w1 ⟨u, ts, rfl, ht1, ht2, ht3, ht4, ht5, ht6⟩
          have hb1 : Below w.heap.size w w1 := (hbel.alloc hsz _).trans ht6
          have HN : Hid (Tidy ts ∧ (∀ p, p ∈ ts ↔ p = z ∨ p ∈ ys) ∧ ts ≠ [] ∧ ts.length ≤ ys.length + 1 ∧ w1.ownsRow w.heap.size 59 2 u ts.length (cellsL ts)) := ⟨ht1, ht2, ht3, ht4, ht5⟩
          clear ht1 ht2 ht3 ht4 ht5 ht6
          go_wp2
          go_roundg (gk - 1)
          case measure => have := HM.out; omega
          case rel =>
            have h1 := HM.out
            obtain ⟨q1, q2, q3⟩ := HQ.out
            obtain ⟨n1, n2, n3, n4, n5⟩ := HN.out
            refine ⟨m + 1, ts, by omega, by go_num, Or.inr ⟨n3, n5⟩, n1, fun p => ?_, by omega, hb1⟩
            rw [n2 p, q2 p]
            constructor
            · rintro (h | ⟨j, hj, e⟩)
              · exact ⟨m, by omega, by rw [HZ.out]; exact h.symm⟩
              · exact ⟨j, by omega, e⟩
            · rintro ⟨j, hj, e⟩
              by_cases h : j = m
              · left; rw [← e, h]; exact HZ.out
              · right; exact ⟨j, by omega, e⟩
        · go_wp2
          go_ret2
          obtain ⟨q1, q2, q3⟩ := HQ.out
          have hme : m = k := by omega
          refine ⟨_, _, rfl, hbel, Or.inr (Or.inr ⟨by rw [HL.out]; exact hn, any_false_of (fun j hj => HF.out j (by rw [HL.out] at hj; exact hj)), rfl, ys, q1, fun p => ?_, KP.out.row⟩)⟩
          rw [q2 p, hme]
          constructor
          · rintro ⟨j, hj, e⟩
            rw [← e, getElem!_pos zs j (by rw [HL.out]; exact hj)]
            exact List.getElem_mem _
          · intro hp
            obtain ⟨j, hj, e⟩ := List.getElem_of_mem hp
            exact ⟨j, by rw [← HL.out]; exact hj, by rw [getElem!_pos zs j hj]; exact e⟩

theorem refTidy_any (v : Value) (zs : List (Int × Int)) (w : World) (h : RRow w v zs) : Calls Tryd.prog 29 #[v] w fun e w' => TidyOutR zs w e w' := by
  obtain ⟨a, c, rfl, hc, hm, _, h⟩ := h
  unfold maxLen at hm
  by_cases hbig : 4096 < zs.length
  · exact refTidy_many a c zs w hbig (by omega)
  · rcases h with h | ⟨b, off, rfl, hb, hp⟩
    · have hz := List.length_eq_zero_iff.1 h
      subst hz
      exact refTidy_none a c w
    · exact refTidy_some b off c zs w hb (by omega) hp
end Go.Proofs.YtnklpjoeopcbbaaDoor
