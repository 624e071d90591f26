/- What merge answers. -/
import Derived.Test.YthobobgiendcfaaSqOpen
namespace Go.Proofs.Ythobobgiendcfaa
open Go.RowKit Go.Lib Go.Sort

/-- the error's number that Tidy tells of a list -/
def tcode (zs : List (Int × Int)) : Int := if 4096 < zs.length then 5 else if zs.any farP = true then 3 else 0
/-- the list that Tidy answers -/
def Tidied (zs ys : List (Int × Int)) : Prop := Tidy ys ∧ ∀ p, p ∈ ys ↔ p ∈ zs ∧ tcode zs = 0
theorem Tidied.unique {zs ys ts : List (Int × Int)} (h : Tidied zs ys) (k : Tidied zs ts) : ys = ts := tidy_unique _ _ h.1 k.1 fun p => (h.2 p).trans (k.2 p).symm

theorem tidyOut_row {zs : List (Int × Int)} {w : World} {base : Nat} {u : Value} {code : Int} (h : TidyOut zs w base u code) : code = tcode zs ∧ ∃ ys, Tidied zs ys ∧ ORow w base u ys := by
  rcases h with ⟨h1, rfl, rfl⟩ | ⟨h1, h2, rfl, rfl⟩ | ⟨h1, h2, rfl, ys, h3, h4, h5⟩
  · have e : tcode zs = 5 := by simp [tcode, h1]
    exact ⟨e.symm, [], ⟨List.Pairwise.nil, fun p => by simp [e]⟩, Or.inl ⟨rfl, rfl⟩⟩
  · have e : tcode zs = 3 := by rw [tcode, if_neg (by omega), if_pos h2]
    exact ⟨e.symm, [], ⟨List.Pairwise.nil, fun p => by simp [e]⟩, Or.inl ⟨rfl, rfl⟩⟩
  · have e : tcode zs = 0 := by rw [tcode, if_neg (by omega), if_neg (by rw [h2]; simp)]
    exact ⟨e.symm, ys, ⟨h3, fun p => by rw [h4 p, e]; simp⟩, h5⟩
theorem tidyOutR_row {zs : List (Int × Int)} {w w' : World} {e : Ending} (h : TidyOutR zs w e w') : ∃ u, e = .returned (.tuple #[u, .int .i64 (tcode zs)]) ∧ Below w.heap.size w w' ∧ ∃ ys, Tidied zs ys ∧ Row w' u ys := by
  obtain ⟨u, code, he, hb, h⟩ := h
  rcases h with ⟨h1, rfl, rfl⟩ | ⟨h1, h2, rfl, rfl⟩ | ⟨h1, h2, rfl, ys, h3, h4, h5⟩
  · have e : tcode zs = 5 := by simp [tcode, h1]
    exact ⟨_, by rw [he, e], hb, [], ⟨List.Pairwise.nil, fun p => by simp [e]⟩, Or.inl ⟨rfl, rfl⟩⟩
  · have e : tcode zs = 3 := by rw [tcode, if_neg (by omega), if_pos h2]
    exact ⟨_, by rw [he, e], hb, [], ⟨List.Pairwise.nil, fun p => by simp [e]⟩, Or.inl ⟨rfl, rfl⟩⟩
  · have e : tcode zs = 0 := by rw [tcode, if_neg (by omega), if_neg (by rw [h2]; simp)]
    exact ⟨_, by rw [he, e], hb, ys, ⟨h3, fun p => by rw [h4 p, e]; simp⟩, h5⟩

/-- plane.Tidy, told in one form -/
theorem tidy_told (v : Value) (zs : List (Int × Int)) (w : World) (h : Row w v zs) :
    Calls Try.prog 57 #[v] w fun e w' => ∃ u ys, e = .returned (.tuple #[u, .int .i64 (tcode zs)]) ∧ Below w.heap.size w w' ∧ Tidied zs ys ∧ ORow w' w.heap.size u ys :=
  (tidy_any v zs w h).mono fun e w' ⟨u, code, he, hb, ho⟩ => by
    obtain ⟨hc, ys, ht, hr⟩ := tidyOut_row ho
    exact ⟨u, ys, by rw [he, hc], hb, ht, hr⟩
theorem refTidy_told (v : Value) (zs : List (Int × Int)) (w : World) (h : RRow w v zs) :
    Calls Try.prog 40 #[v] w fun e w' => ∃ u ys, e = .returned (.tuple #[u, .int .i64 (tcode zs)]) ∧ Below w.heap.size w w' ∧ Tidied zs ys ∧ Row w' u ys :=
  (refTidy_any v zs w h).mono fun e w' ho => by
    obtain ⟨u, he, hb, ys, ht, hr⟩ := tidyOutR_row ho
    exact ⟨u, ys, he, hb, ht, hr⟩

theorem RRow.below {w w' : World} {v : Value} {zs : List (Int × Int)} (h : RRow w v zs) (hb : Below w.heap.size w w') : RRow w' v zs := IsRow.below h hb

theorem cells_row (v : Value) (zs : List (Int × Int)) (w : World) (hn : zs.length * 16 ≤ 140737488355328) (h : RRow w v zs) :
    Calls Try.prog 82 #[v] w fun e w' => ∃ u, e = .returned u ∧ Below w.heap.size w w' ∧ Row w' u zs := by
  obtain ⟨a, c, rfl, hc, hm, ha, h⟩ := h
  by_cases h0 : zs.length = 0
  · have hz := List.length_eq_zero_iff.1 h0
    subst hz
    cases a with
    | none =>
      have h0 := ha rfl
      subst h0
      refine (cells_nil w).mono ?_
      rintro e w' ⟨rfl, rfl⟩
      exact ⟨_, rfl, Below.refl _ _, Or.inl ⟨rfl, rfl⟩⟩
    | some ad =>
      refine (cells_zero ad c w).mono ?_
      rintro e w' ⟨rfl, hb⟩
      exact ⟨_, rfl, hb, Or.inl ⟨rfl, rfl⟩⟩
  · rcases h with h | ⟨b, off, rfl, hb, hp⟩
    · exact absurd h h0
    refine (cells_some b off zs.length c _ _ w hn hp).mono ?_
    rintro e w' ⟨u, rfl, hb', hu⟩
    refine ⟨u, rfl, hb', ?_⟩
    rcases hu with ⟨h1, rfl⟩ | ⟨g, cap, rfl, _, hg, hcap, hmx, hP⟩
    · exact absurd h1 h0
    · exact Or.inr ⟨fun e => h0 (by rw [e]; rfl), g, 0, cap, rfl, hg, hcap, hmx, hP⟩

/-- a list of one cell, made by the law itself -/
theorem one_row (w : World) (x y : Int) : Row (w.alloc (.cells #[.int .i64 x, .int .i64 y] 87)) (.slice (some ⟨w.heap.size, 0, none⟩) 1 1) [(x, y)] := by
  refine Or.inr ⟨by simp, w.heap.size, 0, 1, rfl, by simp, by simp, by unfold maxLen; simp, fun j hj => ?_⟩
  have : j = 0 := by simpa using hj
  subst this
  simp
theorem tidied_one (ys : List (Int × Int)) (h : Tidied [(1, 0)] ys) : ys = [(1, 0)] :=
  h.unique ⟨List.pairwise_singleton _ _, fun p => by
    have : tcode [(1, 0)] = 0 := by decide
    rw [this]; simp⟩

end Go.Proofs.Ythobobgiendcfaa

namespace Go.Proofs.Ythobobgiendcfaa.A
open Go.RowKit Go.Lib Go.Sort

/-- what Tidy answers of a list -/
def TidyOutK (zs : List (Int × Int)) (w : World) (e : Ending) (w' : World) : Prop :=
  ∃ u code, e = .returned (.tuple #[u, .int .i64 code]) ∧ Below w.heap.size w w' ∧
    ((4096 < zs.length ∧ code = 5 ∧ u = .slice none 0 0) ∨ (zs.length ≤ 4096 ∧ zs.any farP = true ∧ code = 3 ∧ u = .slice none 0 0) ∨
    (zs.length ≤ 4096 ∧ zs.any farP = false ∧ code = 0 ∧ ∃ ys, Tidy ys ∧ (∀ p, p ∈ ys ↔ p ∈ zs) ∧ Kept w' w.heap.size u ys))

set_option maxHeartbeats 2000000 in
theorem refTidyK_many (a : Option Addr) (c : Nat) (zs : List (Int × Int)) (w : World) (hbig : 4096 < zs.length) (hm : zs.length ≤ 9223372036854775807) :
    Calls Try.prog 40 #[.slice a zs.length c] w fun e w' => TidyOutK zs w e w' := by
  have hd : (4096 : Int) < (zs.length : Int) := by omega
  go_enter Try.func40, Try.ntmps40
  go_wp2
  go_ret2
  exact ⟨_, _, rfl, Below.refl _ _, Or.inl ⟨hbig, rfl, rfl⟩⟩

set_option maxHeartbeats 2000000 in
theorem refTidyK_none (a : Option Addr) (c : Nat) (w : World) :
    Calls Try.prog 40 #[.slice a 0 c] w fun e w' => TidyOutK [] w e w' := by
  go_enter Try.func40, Try.ntmps40
  go_wp2
  refine wp_loop_rounds 1 ?_
  rw [rounds_succ]
  go_wp2
  refine wp_loop_rounds 1 ?_
  rw [rounds_succ]
  go_wp2
  go_ret2
  exact ⟨_, _, rfl, Below.refl _ _, Or.inr (Or.inr ⟨by simp, rfl, rfl, [], List.Pairwise.nil, fun p => Iff.rfl, Or.inl ⟨rfl, rfl⟩⟩)⟩

set_option maxHeartbeats 2000000 in
theorem refTidyK_some (b off c : Nat) (zs : List (Int × Int)) (w : World) (hb : b < w.heap.size) (hn : zs.length ≤ 4096) (hH : HoldsR w b off zs) :
    Calls Try.prog 40 #[.slice (some ⟨b, off, none⟩) zs.length c] w fun e w' => TidyOutK zs w e w' := by
  have HH : Hid (HoldsR w b off zs) := hH
  clear hH
  generalize hl : zs.length = n at *
  have HL : Hid (zs.length = n) := hl
  clear hl
  have hd : ¬ (4096 : Int) < (n : Int) := by omega
  go_enter Try.func40, Try.ntmps40
  go_wp2
  go_loopg [13] n (fun g s wr => ∃ k : Nat, k + g = n ∧ s = .int .i64 k ∧ wr = w ∧ ∀ j, j < k → farP zs[j]! = false)
  case atStart => exact ⟨0, by omega, rfl, rfl, fun j hj => by omega⟩
  case round =>
    obtain ⟨k, hk, rfl, hw, hfar⟩ := hrel
    have hw' := hw.symm
    subst hw'
    clear hw
    have HK : Hid (k + gk = n) := hk
    have HF : Hid (∀ j, j < k → farP zs[j]! = false) := hfar
    have hkn : k ≤ n := by omega
    clear hk hfar
    by_cases hlt : k < n
    · obtain ⟨c0, c1⟩ := HH.out k (by rw [HL.out]; exact hlt)
      generalize hz : zs[k]! = z at c0 c1
      have HZ : Hid (zs[k]! = z) := hz
      clear hz
      obtain ⟨x, y⟩ := z
      have hcx := far_any x
      have hcy := far_any y
      have hi2 : (k : Int) < (n : Int) := by omega
      cases hx : farI x
      · rw [hx] at hcx
        cases hy : farI y
        · rw [hy] at hcy
          have HXY : Hid (farI x = false ∧ farI y = false) := ⟨hx, hy⟩
          clear hx hy
          go_wp2_with (first | (go_at_call_of 83 x; refine (hcx _).mono ?_; rintro e w' ⟨rfl, rfl⟩) | (go_at_call_of 83 y; refine (hcy _).mono ?_; rintro e w' ⟨rfl, rfl⟩))
          go_roundg (gk - 1)
          case measure => have := HK.out; omega
          case rel =>
            have := HK.out
            refine ⟨k + 1, by omega, by go_num, rfl, fun j hj => ?_⟩
            by_cases e : j = k
            · rw [e, HZ.out]; simp [farP, HXY.out.1, HXY.out.2]
            · exact HF.out j (by omega)
        · rw [hy] at hcy
          have HXY : Hid (farI y = true) := hy
          clear hx hy
          go_wp2_with (first | (go_at_call_of 83 x; refine (hcx _).mono ?_; rintro e w' ⟨rfl, rfl⟩) | (go_at_call_of 83 y; refine (hcy _).mono ?_; rintro e w' ⟨rfl, rfl⟩))
          go_ret2
          exact ⟨_, _, rfl, Below.refl _ _, Or.inr (Or.inl ⟨by rw [HL.out]; exact hn, any_true_of (k := k) (by rw [HL.out]; exact hlt) (by rw [HZ.out]; simp [farP, HXY.out]), rfl, rfl⟩)⟩
      · rw [hx] at hcx
        have HXY : Hid (farI x = true) := hx
        clear hx
        go_wp2_with (first | (go_at_call_of 83 x; refine (hcx _).mono ?_; rintro e w' ⟨rfl, rfl⟩))
        go_ret2
        exact ⟨_, _, rfl, Below.refl _ _, Or.inr (Or.inl ⟨by rw [HL.out]; exact hn, any_true_of (k := k) (by rw [HL.out]; exact hlt) (by rw [HZ.out]; simp [farP, HXY.out]), rfl, rfl⟩)⟩
    · have hke : k = n := by omega
      subst hke
      go_wp2
      go_loopg [5, 33] k (fun g s5 s33 wq => ∃ (m : Nat) (ys : List (Int × Int)), m + g = k ∧ s33 = .int .i64 m ∧ Kept wq w.heap.size s5 ys ∧ Tidy ys ∧ (∀ p, p ∈ ys ↔ ∃ j, j < m ∧ zs[j]! = p) ∧ ys.length ≤ m ∧ Below w.heap.size w wq)
      case atStart => exact ⟨0, [], by omega, rfl, Or.inl ⟨rfl, rfl⟩, List.Pairwise.nil, fun p => by simp, Nat.le_refl _, Below.refl _ _⟩
      case round =>
        obtain ⟨m, ys, hm, rfl, hkept, hty, hmem, hyl, hbel⟩ := hrel
        have HM : Hid (m + gk = k) := hm
        have HQ : Hid (Tidy ys ∧ (∀ p, p ∈ ys ↔ ∃ j, j < m ∧ zs[j]! = p) ∧ ys.length ≤ m) := ⟨hty, hmem, hyl⟩
        have KP : Hid (Kept wr w.heap.size u5 ys) := hkept
        have hmk : m ≤ k := by omega
        have hsz := hbel.size
        clear hm hty hmem hyl hkept
        by_cases hlt2 : m < k
        · obtain ⟨c0, c1⟩ := HH.out m (by rw [HL.out]; exact hlt2)
          rw [← hbel.cell (p := ⟨b, off + m * 2, none⟩) hb] at c0
          rw [← hbel.cell (p := ⟨b, off + m * 2 + 1, none⟩) hb] at c1
          generalize hz : zs[m]! = z at c0 c1
          have HZ : Hid (zs[m]! = z) := hz
          clear hz
          have hi2 : (m : Int) < (k : Int) := by omega
          go_wp2_with fail
          refine (put_any u5 w.heap.size ys z _ (by simp; omega) (KP.out.block (fun g hg => Below.heap_alloc _ _ _ hg)) HQ.out.1 (by have := HQ.out.2.2; omega)).mono ?_
          rintro e w1 ⟨u, ts, rfl, ht1, ht2, ht3, ht4, ht5, ht6⟩
          have hb1 : Below w.heap.size w w1 := (hbel.alloc hsz _).trans ht6
          have HN : Hid (Tidy ts ∧ (∀ p, p ∈ ts ↔ p = z ∨ p ∈ ys) ∧ ts ≠ [] ∧ ts.length ≤ ys.length + 1 ∧ w1.ownsRow w.heap.size 87 2 u ts.length (cellsL ts)) := ⟨ht1, ht2, ht3, ht4, ht5⟩
          clear ht1 ht2 ht3 ht4 ht5 ht6
          go_wp2
          go_roundg (gk - 1)
          case measure => have := HM.out; omega
          case rel =>
            have h1 := HM.out
            obtain ⟨q1, q2, q3⟩ := HQ.out
            obtain ⟨n1, n2, n3, n4, n5⟩ := HN.out
            refine ⟨m + 1, ts, by omega, by go_num, Or.inr ⟨n3, n5⟩, n1, fun p => ?_, by omega, hb1⟩
            rw [n2 p, q2 p]
            constructor
            · rintro (h | ⟨j, hj, e⟩)
              · exact ⟨m, by omega, by rw [HZ.out]; exact h.symm⟩
              · exact ⟨j, by omega, e⟩
            · rintro ⟨j, hj, e⟩
              by_cases h : j = m
              · left; rw [← e, h]; exact HZ.out
              · right; exact ⟨j, by omega, e⟩
        · go_wp2
          go_ret2
          obtain ⟨q1, q2, q3⟩ := HQ.out
          have hme : m = k := by omega
          refine ⟨_, _, rfl, hbel, Or.inr (Or.inr ⟨by rw [HL.out]; exact hn, any_false_of (fun j hj => HF.out j (by rw [HL.out] at hj; exact hj)), rfl, ys, q1, fun p => ?_, KP.out⟩)⟩
          rw [q2 p, hme]
          constructor
          · rintro ⟨j, hj, e⟩
            rw [← e, getElem!_pos zs j (by rw [HL.out]; exact hj)]
            exact List.getElem_mem _
          · intro hp
            obtain ⟨j, hj, e⟩ := List.getElem_of_mem hp
            exact ⟨j, by rw [← HL.out]; exact hj, by rw [getElem!_pos zs j hj]; exact e⟩

theorem refTidyK_any (v : Value) (zs : List (Int × Int)) (w : World) (h : RRow w v zs) : Calls Try.prog 40 #[v] w fun e w' => TidyOutK zs w e w' := by
  obtain ⟨a, c, rfl, hc, hm, _, h⟩ := h
  unfold maxLen at hm
  by_cases hbig : 4096 < zs.length
  · exact refTidyK_many a c zs w hbig (by omega)
  · rcases h with h | ⟨b, off, rfl, hb, hp⟩
    · have hz := List.length_eq_zero_iff.1 h
      subst hz
      exact refTidyK_none a c w
    · exact refTidyK_some b off c zs w hb (by omega) hp


theorem refTidy_own (v : Value) (zs : List (Int × Int)) (w : World) (h : RRow w v zs) :
    Calls Try.prog 40 #[v] w fun e w' => ∃ u ys, e = .returned (.tuple #[u, .int .i64 (tcode zs)]) ∧ Below w.heap.size w w' ∧ Tidied zs ys ∧ Kept w' w.heap.size u ys :=
  (refTidyK_any v zs w h).mono fun e w' ho => by
    obtain ⟨u, code, he, hb, h⟩ := ho
    rcases h with ⟨h1, rfl, rfl⟩ | ⟨h1, h2, rfl, rfl⟩ | ⟨h1, h2, rfl, ys, h3, h4, h5⟩
    · have e : tcode zs = 5 := by simp [tcode, h1]
      exact ⟨_, [], by rw [he, e], hb, ⟨List.Pairwise.nil, fun p => by simp [e]⟩, Or.inl ⟨rfl, rfl⟩⟩
    · have e : tcode zs = 3 := by rw [tcode, if_neg (by omega), if_pos h2]
      exact ⟨_, [], by rw [he, e], hb, ⟨List.Pairwise.nil, fun p => by simp [e]⟩, Or.inl ⟨rfl, rfl⟩⟩
    · have e : tcode zs = 0 := by rw [tcode, if_neg (by omega), if_neg (by rw [h2]; simp)]
      exact ⟨_, ys, by rw [he, e], hb, ⟨h3, fun p => by rw [h4 p, e]; simp⟩, h5⟩
end Go.Proofs.Ythobobgiendcfaa.A

namespace Go.Proofs.Ythobobgiendcfaa
open Go.RowKit Go.Lib Go.Sort

/-- the first cell of two lists, and which of them begin with it -/
def firstF : List (Int × Int) → List (Int × Int) → (Int × Int) × Bool × Bool
  | a :: _, [] => (a, true, false)
  | [], b :: _ => (b, false, true)
  | a :: _, b :: _ => if 0 < cmpP a b then (b, false, true) else (a, true, cmpP a b == 0)
  | [], [] => ((0, 0), false, false)
/-- a list without its first cell, if it is to go -/
def cutF (go : Bool) (l : List (Int × Int)) : List (Int × Int) := if go then l.tail else l
/-- the cells that are kept -/
def mg (keep : Bool → Bool → Bool) : Nat → List (Int × Int) → List (Int × Int) → List (Int × Int)
  | 0, _, _ => []
  | f + 1, la, lb => if la = [] ∧ lb = [] then [] else
      (if keep (firstF la lb).2.1 (firstF la lb).2.2 then [(firstF la lb).1] else []) ++ mg keep f (cutF (firstF la lb).2.1 la) (cutF (firstF la lb).2.2 lb)

theorem cmpP_pos (p q : Int × Int) : 0 < cmpP p q ↔ ahead q p := by
  unfold cmpP orI cmpI ahead
  split <;> split <;> (try split) <;> (try split) <;> omega

/-- what the first cell is -/
theorem firstF_spec (la lb : List (Int × Int)) (ha : Tidy la) (hb : Tidy lb) (hne : ¬ (la = [] ∧ lb = [])) :
    ((firstF la lb).2.1 = true → la = (firstF la lb).1 :: la.tail) ∧ ((firstF la lb).2.2 = true → lb = (firstF la lb).1 :: lb.tail) ∧ ((firstF la lb).2.1 = true ∨ (firstF la lb).2.2 = true) ∧
    (∀ p, p ∈ cutF (firstF la lb).2.1 la → ahead (firstF la lb).1 p) ∧ (∀ p, p ∈ cutF (firstF la lb).2.2 lb → ahead (firstF la lb).1 p) := by
  cases la with
  | nil =>
    cases lb with
    | nil => exact absurd ⟨rfl, rfl⟩ hne
    | cons b lb =>
      have h := (List.pairwise_cons.1 hb).1
      exact ⟨fun h => by simp [firstF] at h, fun _ => rfl, Or.inr rfl, fun p hp => by simp [firstF, cutF] at hp, fun p hp => h p (by simpa [firstF, cutF] using hp)⟩
  | cons a la =>
    have h1 := (List.pairwise_cons.1 ha).1
    cases lb with
    | nil => exact ⟨fun _ => rfl, fun h => by simp [firstF] at h, Or.inl rfl, fun p hp => h1 p (by simpa [firstF, cutF] using hp), fun p hp => by simp [firstF, cutF] at hp⟩
    | cons b lb =>
      have h2 := (List.pairwise_cons.1 hb).1
      by_cases hc : 0 < cmpP a b
      · have e : firstF (a :: la) (b :: lb) = (b, false, true) := by simp [firstF, hc]
        have hba := (cmpP_pos a b).1 hc
        rw [e]
        refine ⟨fun h => by simp at h, fun _ => rfl, Or.inr rfl, fun p hp => ?_, fun p hp => h2 p (by simpa [cutF] using hp)⟩
        rcases List.mem_cons.1 (show p ∈ a :: la by simpa [cutF] using hp) with rfl | hp
        · exact hba
        · exact ahead_trans hba (h1 p hp)
      · have e : firstF (a :: la) (b :: lb) = (a, true, cmpP a b == 0) := by simp [firstF, hc]
        rw [e]
        by_cases h0 : cmpP a b = 0
        · have hab := (cmpP_zero a b).1 h0
          subst hab
          have e0 : (cmpP a a == 0) = true := by simpa using h0
          rw [e0]
          exact ⟨fun _ => rfl, fun _ => rfl, Or.inl rfl, fun p hp => h1 p (by simpa [cutF] using hp), fun p hp => h2 p (by simpa [cutF] using hp)⟩
        · have e0 : (cmpP a b == 0) = false := by simpa using h0
          have hab : ahead a b := (cmpP_neg a b).1 (by omega)
          rw [e0]
          refine ⟨fun _ => rfl, fun h => by simp at h, Or.inl rfl, fun p hp => h1 p (by simpa [cutF] using hp), fun p hp => ?_⟩
          rcases List.mem_cons.1 (show p ∈ b :: lb by simpa [cutF] using hp) with rfl | hp
          · exact hab
          · exact ahead_trans hab (h2 p hp)

theorem cutF_tidy {go : Bool} {l : List (Int × Int)} (h : Tidy l) : Tidy (cutF go l) := by
  unfold cutF
  split
  · exact h.tail
  · exact h
theorem cutF_length {go : Bool} {l : List (Int × Int)} {c : Int × Int} (h : go = true → l = c :: l.tail) : (cutF go l).length + (if go then 1 else 0) = l.length := by
  cases go with
  | false => simp [cutF]
  | true => have := h rfl; rw [this]; simp [cutF]
theorem cutF_mem {go : Bool} {l : List (Int × Int)} {c : Int × Int} (h : go = true → l = c :: l.tail) (p : Int × Int) : p ∈ l ↔ (go = true ∧ p = c) ∨ p ∈ cutF go l := by
  cases go with
  | false => simp [cutF]
  | true => rw [h rfl]; simp [cutF]

/-- in order, each once, and of each cell: kept by which of the lists it is in -/
theorem mg_spec (keep : Bool → Bool → Bool) : ∀ (f : Nat) (la lb : List (Int × Int)), Tidy la → Tidy lb → la.length + lb.length ≤ f →
    Tidy (mg keep f la lb) ∧ (∀ p, p ∈ mg keep f la lb ↔ (p ∈ la ∨ p ∈ lb) ∧ keep (decide (p ∈ la)) (decide (p ∈ lb)) = true)
  | 0, la, lb, _, _, hl => by
    have h1 : la = [] := List.length_eq_zero_iff.1 (by omega)
    have h2 : lb = [] := List.length_eq_zero_iff.1 (by omega)
    subst h1 h2
    exact ⟨List.Pairwise.nil, fun p => by simp [mg]⟩
  | f + 1, la, lb, ha, hb, hl => by
    by_cases hne : la = [] ∧ lb = []
    · obtain ⟨rfl, rfl⟩ := hne
      exact ⟨by simp [mg, Tidy], fun p => by simp [mg]⟩
    · obtain ⟨s1, s2, s3, s4, s5⟩ := firstF_spec la lb ha hb hne
      rw [mg, if_neg hne]
      generalize hF : firstF la lb = F at *
      obtain ⟨c, i, j⟩ := F
      simp only at s1 s2 s3 s4 s5 ⊢
      have l1 := cutF_length s1
      have l2 := cutF_length s2
      have hlen : (cutF i la).length + (cutF j lb).length ≤ f := by
        rcases s3 with h | h
        · have l1' : (cutF i la).length + 1 = la.length := by rw [← l1, if_pos h]
          omega
        · have l2' : (cutF j lb).length + 1 = lb.length := by rw [← l2, if_pos h]
          omega
      obtain ⟨t1, t2⟩ := mg_spec keep f (cutF i la) (cutF j lb) (cutF_tidy ha) (cutF_tidy hb) hlen
      have hcA : ¬ c ∈ cutF i la := fun h => ahead_irrefl c (s4 c h)
      have hcB : ¬ c ∈ cutF j lb := fun h => ahead_irrefl c (s5 c h)
      have mA := fun p => cutF_mem s1 p
      have mB := fun p => cutF_mem s2 p
      constructor
      · refine List.pairwise_append.2 ⟨?_, t1, fun p hp q hq => ?_⟩
        · split
          · exact List.pairwise_singleton _ _
          · exact List.Pairwise.nil
        · have hpc : p = c := by
            split at hp
            · simpa using hp
            · simp at hp
          subst hpc
          rcases ((t2 q).1 hq).1 with h | h
          · exact s4 q h
          · exact s5 q h
      · intro p
        rw [List.mem_append, t2 p]
        by_cases hpc : p = c
        · subst hpc
          have dA : decide (p ∈ la) = i := by
            cases i with
            | true => rw [decide_eq_true_eq]; exact (mA p).2 (Or.inl ⟨rfl, rfl⟩)
            | false => rw [decide_eq_false_iff_not, mA p]; simp [hcA]
          have dB : decide (p ∈ lb) = j := by
            cases j with
            | true => rw [decide_eq_true_eq]; exact (mB p).2 (Or.inl ⟨rfl, rfl⟩)
            | false => rw [decide_eq_false_iff_not, mB p]; simp [hcB]
          rw [dA, dB]
          have hor : p ∈ la ∨ p ∈ lb := by
            rcases s3 with h | h
            · left; exact (mA p).2 (Or.inl ⟨h, rfl⟩)
            · right; exact (mB p).2 (Or.inl ⟨h, rfl⟩)
          constructor
          · rintro (h | h)
            · refine ⟨hor, ?_⟩
              split at h
              · assumption
              · simp at h
            · rcases h.1 with h | h
              · exact absurd h hcA
              · exact absurd h hcB
          · rintro ⟨_, h⟩
            left
            rw [if_pos h]
            simp
        · have nA : (p ∈ la ↔ p ∈ cutF i la) := by rw [mA p]; simp [hpc]
          have nB : (p ∈ lb ↔ p ∈ cutF j lb) := by rw [mB p]; simp [hpc]
          have dA : decide (p ∈ la) = decide (p ∈ cutF i la) := decide_eq_decide.2 nA
          have dB : decide (p ∈ lb) = decide (p ∈ cutF j lb) := decide_eq_decide.2 nB
          rw [dA, dB, nA, nB]
          constructor
          · rintro (h | h)
            · split at h
              · exact absurd (by simpa using h) hpc
              · simp at h
            · exact h
          · intro h
            exact Or.inr h
end Go.Proofs.Ythobobgiendcfaa

namespace Go.Proofs.Ythobobgiendcfaa
open Go.RowKit Go.Lib Go.Sort

theorem mg_length (keep : Bool → Bool → Bool) : ∀ (f : Nat) (la lb : List (Int × Int)), (mg keep f la lb).length ≤ f
  | 0, _, _ => by simp [mg]
  | f + 1, la, lb => by
    rw [mg]
    split
    · simp
    · have := mg_length keep f (cutF (firstF la lb).2.1 la) (cutF (firstF la lb).2.2 lb)
      rw [List.length_append]
      split <;> simp <;> omega

/-- the error's number and the list that merge answers -/
def mergeF (keep : Bool → Bool → Bool) (tc uc : Int) (ys ts : List (Int × Int)) : Int × List (Int × Int) :=
  if tc ≠ 0 then (tc, []) else if uc ≠ 0 then (uc, []) else if 4096 < (mg keep (ys.length + ts.length) ys ts).length then (5, []) else (0, mg keep (ys.length + ts.length) ys ts)
def MergeOut (keep : Bool → Bool → Bool) (za zb : List (Int × Int)) (w : World) (e : Ending) (w' : World) : Prop :=
  ∃ u ys ts, Tidied za ys ∧ Tidied zb ts ∧ e = .returned (.tuple #[u, .int .i64 (mergeF keep (tcode za) (tcode zb) ys ts).1]) ∧ Below w.heap.size w w' ∧ Row w' u (mergeF keep (tcode za) (tcode zb) ys ts).2

theorem ORow.rrow {w : World} {base : Nat} {v : Value} {zs : List (Int × Int)} (h : ORow w base v zs) : RRow w v zs := h.read.isRow

theorem mg_none (keep : Bool → Bool → Bool) (f : Nat) : mg keep f [] [] = [] := by
  cases f <;> simp [mg]
/-- there is such a list -/
theorem tidied_exists (zs : List (Int × Int)) : ∃ ys, Tidied zs ys := by
  by_cases hc : tcode zs = 0
  · have : ∀ l : List (Int × Int), ∃ m, Tidy m ∧ ∀ p, p ∈ m ↔ p ∈ l := by
      intro l
      induction l with
      | nil => exact ⟨[], List.Pairwise.nil, fun p => Iff.rfl⟩
      | cons c l ih =>
        obtain ⟨m, h1, h2⟩ := ih
        obtain ⟨t1, t2⟩ := mg_spec (fun _ _ => true) (1 + m.length) [c] m (List.pairwise_singleton _ _) h1 (by simp)
        exact ⟨_, t1, fun p => by rw [t2 p]; simp [h2 p]⟩
    obtain ⟨m, h1, h2⟩ := this zs
    exact ⟨m, h1, fun p => by rw [h2 p, hc]; simp⟩
  · exact ⟨[], List.Pairwise.nil, fun p => by simp [hc]⟩

theorem len_le : ∀ {ys zs : List (Int × Int)}, ys.Nodup → (∀ p, p ∈ ys → p ∈ zs) → ys.length ≤ zs.length
  | [], _, _, _ => Nat.zero_le _
  | p :: r, zs, hn, hs => by
    have h1 := List.nodup_cons.1 hn
    have hp : p ∈ zs := hs p (by simp)
    have h2 : r.length ≤ (zs.erase p).length := len_le h1.2 fun q hq => by
      have hne : q ≠ p := fun e => h1.1 (by rw [← e]; exact hq)
      exact (List.mem_erase_of_ne hne).2 (hs q (by simp [hq]))
    have h3 := List.length_erase_of_mem hp
    have h4 : 0 < zs.length := List.length_pos_of_mem hp
    rw [List.length_cons]
    omega
theorem tidied_short {zs ys : List (Int × Int)} (h : Tidied zs ys) (hz : tcode zs = 0) : ys.length ≤ 4096 := by
  have h1 : ys.Nodup := by
    refine h.1.imp ?_
    intro a b hab e
    subst e
    exact ahead_irrefl a hab
  have h2 : ys.length ≤ zs.length := len_le h1 (fun p hp => ((h.2 p).1 hp).1)
  have h3 : zs.length ≤ 4096 := by
    unfold tcode at hz
    by_cases c1 : 4096 < zs.length
    · rw [if_pos c1] at hz; omega
    · omega
  omega
end Go.Proofs.Ythobobgiendcfaa
