/- PlaneTidies: both Tidy answer the same of every list. The walk of the law itself. -/
import Derived.Test.YtoppncaidhlenaaRefTidy
namespace Go.Proofs.Ytoppncaidhlenaa
open Go.RowKit Go.Lib Go.Sort

/-- the error's number that Tidy tells of a list -/
def tcode (zs : List (Int × Int)) : Int := if 4096 < zs.length then 5 else if zs.any farP = true then 3 else 0
/-- the list that Tidy answers -/
def Tidied (zs ys : List (Int × Int)) : Prop := Tidy ys ∧ ∀ p, p ∈ ys ↔ p ∈ zs ∧ tcode zs = 0
theorem Tidied.unique {zs ys ts : List (Int × Int)} (h : Tidied zs ys) (k : Tidied zs ts) : ys = ts := tidy_unique _ _ h.1 k.1 fun p => (h.2 p).trans (k.2 p).symm

theorem tidyOut_row {zs : List (Int × Int)} {w : World} {base : Nat} {u : Value} {code : Int} (h : TidyOut zs w base u code) : code = tcode zs ∧ ∃ ys, Tidied zs ys ∧ ORow w base u ys := by
  rcases h with ⟨h1, rfl, rfl⟩ | ⟨h1, h2, rfl, rfl⟩ | ⟨h1, h2, rfl, ys, h3, h4, h5⟩
  · have e : tcode zs = 5 := by simp [tcode, h1]
    exact ⟨e.symm, [], ⟨List.Pairwise.nil, fun p => by simp [e]⟩, Or.inl ⟨rfl, rfl⟩⟩
  · have e : tcode zs = 3 := by rw [tcode, if_neg (by omega), if_pos h2]
    exact ⟨e.symm, [], ⟨List.Pairwise.nil, fun p => by simp [e]⟩, Or.inl ⟨rfl, rfl⟩⟩
  · have e : tcode zs = 0 := by rw [tcode, if_neg (by omega), if_neg (by rw [h2]; simp)]
    exact ⟨e.symm, ys, ⟨h3, fun p => by rw [h4 p, e]; simp⟩, h5⟩
theorem tidyOutR_row {zs : List (Int × Int)} {w w' : World} {e : Ending} (h : TidyOutR zs w e w') : ∃ u, e = .returned (.tuple #[u, .int .i64 (tcode zs)]) ∧ Below w.heap.size w w' ∧ ∃ ys, Tidied zs ys ∧ Row w' u ys := by
  obtain ⟨u, code, he, hb, h⟩ := h
  rcases h with ⟨h1, rfl, rfl⟩ | ⟨h1, h2, rfl, rfl⟩ | ⟨h1, h2, rfl, ys, h3, h4, h5⟩
  · have e : tcode zs = 5 := by simp [tcode, h1]
    exact ⟨_, by rw [he, e], hb, [], ⟨List.Pairwise.nil, fun p => by simp [e]⟩, Or.inl ⟨rfl, rfl⟩⟩
  · have e : tcode zs = 3 := by rw [tcode, if_neg (by omega), if_pos h2]
    exact ⟨_, by rw [he, e], hb, [], ⟨List.Pairwise.nil, fun p => by simp [e]⟩, Or.inl ⟨rfl, rfl⟩⟩
  · have e : tcode zs = 0 := by rw [tcode, if_neg (by omega), if_neg (by rw [h2]; simp)]
    exact ⟨_, by rw [he, e], hb, ys, ⟨h3, fun p => by rw [h4 p, e]; simp⟩, h5⟩

/-- plane.Tidy, told in one form -/
theorem tidy_told (v : Value) (zs : List (Int × Int)) (w : World) (h : Row w v zs) :
    Calls Try.prog 9 #[v] w fun e w' => ∃ u ys, e = .returned (.tuple #[u, .int .i64 (tcode zs)]) ∧ Below w.heap.size w w' ∧ Tidied zs ys ∧ ORow w' w.heap.size u ys :=
  (tidy_any v zs w h).mono fun e w' ⟨u, code, he, hb, ho⟩ => by
    obtain ⟨hc, ys, ht, hr⟩ := tidyOut_row ho
    exact ⟨u, ys, by rw [he, hc], hb, ht, hr⟩
theorem refTidy_told (v : Value) (zs : List (Int × Int)) (w : World) (h : RRow w v zs) :
    Calls Try.prog 11 #[v] w fun e w' => ∃ u ys, e = .returned (.tuple #[u, .int .i64 (tcode zs)]) ∧ Below w.heap.size w w' ∧ Tidied zs ys ∧ Row w' u ys :=
  (refTidy_any v zs w h).mono fun e w' ho => by
    obtain ⟨u, he, hb, ys, ht, hr⟩ := tidyOutR_row ho
    exact ⟨u, ys, he, hb, ht, hr⟩

theorem RRow.below {w w' : World} {v : Value} {zs : List (Int × Int)} (h : RRow w v zs) (hb : Below w.heap.size w w') : RRow w' v zs := IsRow.below h hb

theorem cells_row (v : Value) (zs : List (Int × Int)) (w : World) (hn : zs.length * 16 ≤ 140737488355328) (h : RRow w v zs) :
    Calls Try.prog 10 #[v] w fun e w' => ∃ u, e = .returned u ∧ Below w.heap.size w w' ∧ Row w' u zs := by
  obtain ⟨a, c, rfl, hc, hm, ha, h⟩ := h
  by_cases h0 : zs.length = 0
  · have hz := List.length_eq_zero_iff.1 h0
    subst hz
    cases a with
    | none =>
      have h0 := ha rfl
      subst h0
      refine (cells_nil w).mono ?_
      rintro e w' ⟨rfl, rfl⟩
      exact ⟨_, rfl, Below.refl _ _, Or.inl ⟨rfl, rfl⟩⟩
    | some ad =>
      refine (cells_zero ad c w).mono ?_
      rintro e w' ⟨rfl, hb⟩
      exact ⟨_, rfl, hb, Or.inl ⟨rfl, rfl⟩⟩
  · rcases h with h | ⟨b, off, rfl, hb, hp⟩
    · exact absurd h h0
    refine (cells_some b off zs.length c _ _ w hn hp).mono ?_
    rintro e w' ⟨u, rfl, hb', hu⟩
    refine ⟨u, rfl, hb', ?_⟩
    rcases hu with ⟨h1, rfl⟩ | ⟨g, cap, rfl, _, hg, hcap, hmx, hP⟩
    · exact absurd h1 h0
    · exact Or.inr ⟨fun e => h0 (by rw [e]; rfl), g, 0, cap, rfl, hg, hcap, hmx, hP⟩

/-- a list of one cell, made by the law itself -/
theorem one_row (w : World) (x y : Int) : Row (w.alloc (.cells #[.int .i64 x, .int .i64 y] 28)) (.slice (some ⟨w.heap.size, 0, none⟩) 1 1) [(x, y)] := by
  refine Or.inr ⟨by simp, w.heap.size, 0, 1, rfl, by simp, by simp, by unfold maxLen; simp, fun j hj => ?_⟩
  have : j = 0 := by simpa using hj
  subst this
  simp
theorem tidied_one (ys : List (Int × Int)) (h : Tidied [(1, 0)] ys) : ys = [(1, 0)] :=
  h.unique ⟨List.pairwise_singleton _ _, fun p => by
    have : tcode [(1, 0)] = 0 := by decide
    rw [this]; simp⟩

set_option maxHeartbeats 1000000 in
theorem tidies_any (v : Value) (zs : List (Int × Int)) (w : World) (hn : zs.length * 16 ≤ 140737488355328) (h : RRow w v zs) :
    Calls Try.prog 3 #[v] w fun e w' => e = .returned (.bool true) ∧ Below w.heap.size w w' := by
  go_enter Try.func3, Try.ntmps3
  go_wp2_with fail
  refine (cells_row v zs w hn h).mono ?_
  rintro e w1 ⟨c, rfl, hb1, hr1⟩
  go_wp2_with fail
  refine (tidy_told c zs w1 hr1).mono ?_
  rintro e w2 ⟨a, ys, rfl, hb2, ht2, hr2⟩
  have hb12 : Below w.heap.size w w2 := hb1.trans (hb2.mono hb1.size)
  have HT2 : Hid (Tidied zs ys) := ht2
  have HR2 : Hid (Row w2 a ys) := hr2.read
  clear ht2 hr2 hr1
  go_wp2_with fail
  refine (refTidy_told v zs w2 (h.below hb12)).mono ?_
  rintro e w3 ⟨b, ts, rfl, hb3, ht3, hr3⟩
  have hb123 : Below w.heap.size w w3 := hb12.trans (hb3.mono hb12.size)
  have HR3 : Hid (Row w3 a ys ∧ Row w3 b ys) := ⟨HR2.out.below hb3, by rw [HT2.out.unique ht3]; exact hr3⟩
  clear ht3 hr3
  go_wp2_with fail
  refine (tidy_told _ [(1, 0)] _ (one_row w3 1 0)).mono ?_
  rintro e w4 ⟨x, us, rfl, hb4, ht4, hr4⟩
  have hu := tidied_one us ht4
  subst hu
  obtain ⟨ax, cx, hx⟩ := hr4.shape
  simp only [List.length_singleton] at hx
  subst hx
  have hb1234 : Below w.heap.size w w4 := (hb123.alloc hb123.size _).trans (hb4.mono (by simp; have := hb123.size; omega))
  have b34 : Below w3.heap.size w3 w4 := ((Below.refl _ _).alloc (Nat.le_refl _) _).trans (hb4.mono (by simp))
  have HR4 : Hid (Row w4 a ys ∧ Row w4 b ys) := ⟨HR3.out.1.below b34, HR3.out.2.below b34⟩
  clear ht4 hr4
  generalize tcode zs = code at *
  go_wp2_with fail
  refine (sameCells_any a b ys w4 HR4.out.1 HR4.out.2).mono ?_
  rintro e w5 ⟨rfl, hb5⟩
  go_wp2_with fail
  go_ret
  exact ⟨rfl, hb1234.trans (hb5.mono hb1234.size)⟩
end Go.Proofs.Ytoppncaidhlenaa
