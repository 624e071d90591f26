/- What lifelodgekeep.alive, spot and cells answer. -/
import Derived.Test.YtoppncaidhlenaaTidyLaw
namespace Go.Proofs.Ytoppncaidhlenaa
open Go.RowKit Go.Lib Go.Sort

/-- a number counted round -/
def spotI (v n : Int) : Int := if v.tmod n < 0 then v.tmod n + n else v.tmod n
theorem spotI_bound (v n : Int) (hn : 0 < n) : 0 ≤ spotI v n ∧ spotI v n < n := by
  have h1 := Int.lt_tmod_of_pos v hn
  have h2 := Int.tmod_lt_of_pos v hn
  unfold spotI
  split <;> omega

set_option maxHeartbeats 400000 in
theorem spot_any (v n : Int) (w : World) (hn : 0 < n) (hn2 : n ≤ 4611686018427387904) : Calls Try.prog 27 #[.int .i64 v, .int .i64 n] w fun e w' => e = .returned (.int .i64 (spotI v n)) ∧ w' = w := by
  have h1 := Int.lt_tmod_of_pos v hn
  have h2 := Int.tmod_lt_of_pos v hn

  have hz : (n == 0) = false := by simp; omega
  by_cases h0 : v.tmod n < 0
  · have e : spotI v n = v.tmod n + n := by rw [spotI, if_pos h0]
    rw [e]
    go_enter Try.func27, Try.ntmps27
    go_wp2
    go_ret
    exact ⟨rfl, rfl⟩
  · have e : spotI v n = v.tmod n := by rw [spotI, if_neg h0]
    rw [e]
    go_enter Try.func27, Try.ntmps27
    go_wp2
    go_ret
    exact ⟨rfl, rfl⟩

set_option maxHeartbeats 400000 in
theorem kcells_nil (w : World) : Calls Try.prog 26 #[.slice none 0 0] w fun e w' => e = .returned (.slice none 0 0) ∧ w' = w := by
  go_enter Try.func26, Try.ntmps26
  go_wp2
  go_ret
  exact ⟨rfl, rfl⟩
set_option maxHeartbeats 400000 in
theorem kcells_zero (ad : Addr) (c : Nat) (w : World) : Calls Try.prog 26 #[.slice (some ad) 0 c] w fun e w' => e = .returned (.slice none 0 0) ∧ Below w.heap.size w w' := by
  obtain ⟨i0, hi, hz0, hz1, hz2⟩ := info_parts Try.info28
  go_enter Try.func26, Try.ntmps26
  go_wp2_with (at_builtin; refine wpList_append_own _ rfl _ _ 22 rfl w.heap.size 28 i0 (.agg #[.int .i64 0, .int .i64 0]) 2 16 Try.underlying22 hi hz0 hz1 hz2 rfl (by decide) (.slice none 0 0) 0 [] rfl (World.ownsRow_nil _ _ _ _) ad 0 c [] rfl rfl (by simp) (by simp) (by unfold maxLen; omega) (by omega) (Nat.le_refl _) ?_; intro v' w1 hown hgrow hnil)
  go_ret
  refine ⟨?_, (Below.refl _ _).grown hgrow (Nat.le_refl _) (by intro k hk; simp [Value.ownBlock] at hk)⟩
  have hv : v' = .slice none 0 0 := hnil.2 ⟨trivial, trivial⟩
  rw [hv]
  rfl
set_option maxHeartbeats 400000 in
theorem kcells_some (b off n c : Nat) (xs : List Value) (w : World) (hn : n * 16 ≤ 140737488355328) (hl : xs.length = n * 2) (hx : ∀ j u, xs[j]? = some u → w.cell? ((⟨b, off, none⟩ : Addr).add j) = some u) (h1 : ∀ u, u ∈ xs → u.oneCell' = true) :
    Calls Try.prog 26 #[.slice (some ⟨b, off, none⟩) n c] w fun e w' => ∃ v, e = .returned v ∧ Below w.heap.size w w' ∧ w'.ownsRow w.heap.size 28 2 v n xs := by
  obtain ⟨i0, hi, hz0, hz1, hz2⟩ := info_parts Try.info28
  go_enter Try.func26, Try.ntmps26
  go_wp2_with (at_builtin; refine wpList_append_own _ rfl _ _ 22 rfl w.heap.size 28 i0 (.agg #[.int .i64 0, .int .i64 0]) 2 16 Try.underlying22 hi hz0 hz1 hz2 rfl (by decide) (.slice none 0 0) 0 [] rfl (World.ownsRow_nil _ _ _ _) ⟨b, off, none⟩ n c xs rfl hl hx h1 (by unfold maxLen; omega) (by omega) (Nat.le_refl _) ?_; intro v' w1 hown hgrow hnil)
  go_ret
  rw [Nat.zero_add, List.nil_append] at hown
  exact ⟨v', rfl, (Below.refl _ _).grown hgrow (Nat.le_refl _) (by intro k hk; simp [Value.ownBlock] at hk), hown⟩

theorem three_row (w : World) : Row (w.alloc (.cells #[.int .i64 2, .int .i64 0, .int .i64 1, .int .i64 0, .int .i64 2, .int .i64 0] 28)) (.slice (some ⟨w.heap.size, 0, none⟩) 3 3) [(2, 0), (1, 0), (2, 0)] := by
  refine Or.inr ⟨by simp, w.heap.size, 0, 3, rfl, by simp, by simp, by unfold maxLen; simp, fun j hj => ?_⟩
  rw [World.cell?_alloc_new, World.cell?_alloc_new]
  match j, hj with
  | 0, _ => exact ⟨rfl, rfl⟩
  | 1, _ => exact ⟨rfl, rfl⟩
  | 2, _ => exact ⟨rfl, rfl⟩
theorem two_row (w : World) : Row (w.alloc (.cells #[.int .i64 1, .int .i64 0, .int .i64 2, .int .i64 0] 28)) (.slice (some ⟨w.heap.size, 0, none⟩) 2 2) [(1, 0), (2, 0)] := by
  refine Or.inr ⟨by simp, w.heap.size, 0, 2, rfl, by simp, by simp, by unfold maxLen; simp, fun j hj => ?_⟩
  rw [World.cell?_alloc_new, World.cell?_alloc_new]
  match j, hj with
  | 0, _ => exact ⟨rfl, rfl⟩
  | 1, _ => exact ⟨rfl, rfl⟩
theorem tidied_three (ys : List (Int × Int)) (h : Tidied [(2, 0), (1, 0), (2, 0)] ys) : ys = [(1, 0), (2, 0)] :=
  h.unique ⟨by simp [Tidy, ahead], fun p => by
    have : tcode [(2, 0), (1, 0), (2, 0)] = 0 := by decide
    rw [this]
    simp only [List.mem_cons, List.not_mem_nil, or_false, and_true]
    constructor
    · rintro (h | h)
      · exact Or.inr (Or.inl h)
      · exact Or.inl h
    · rintro (h | h | h)
      · exact Or.inr h
      · exact Or.inl h
      · exact Or.inr h⟩

set_option maxHeartbeats 1000000 in
theorem alive_any (w : World) : Calls Try.prog 24 #[] w fun e w' => e = .returned (.bool true) ∧ Below w.heap.size w w' := by
  have hcode : tcode [(2, 0), (1, 0), (2, 0)] = 0 := by decide
  go_enter Try.func24, Try.ntmps24
  go_wp2_with fail
  refine (tidy_told _ [(2, 0), (1, 0), (2, 0)] _ (three_row w)).mono ?_
  rintro e w1 ⟨u, ys, rfl, hb1, ht1, hr1⟩
  have hy := tidied_three ys ht1
  subst hy
  rw [hcode]
  have hbw : Below w.heap.size w w1 := ((Below.refl _ _).alloc (Nat.le_refl _) _).trans (hb1.mono (by simp))
  have HR : Hid (Row w1 u [(1, 0), (2, 0)]) := hr1.read
  clear ht1 hr1 hcode
  go_wp2_with fail
  refine (same_any u _ [(1, 0), (2, 0)] _ (HR.out.below ((Below.refl _ _).alloc (Nat.le_refl _) _)) (two_row w1)).mono ?_
  rintro e w2 ⟨rfl, hb2⟩
  go_wp2_with fail
  go_ret
  exact ⟨rfl, (hbw.alloc hbw.size _).trans (hb2.mono (by simp; have := hbw.size; omega))⟩

theorem kcells_row (v : Value) (zs : List (Int × Int)) (w : World) (hn : zs.length * 16 ≤ 140737488355328) (h : RRow w v zs) :
    Calls Try.prog 26 #[v] w fun e w' => ∃ u, e = .returned u ∧ Below w.heap.size w w' ∧ Kept w' w.heap.size u zs := by
  obtain ⟨a, c, rfl, hc, hm, ha, h⟩ := h
  by_cases h0 : zs.length = 0
  · have hz := List.length_eq_zero_iff.1 h0
    subst hz
    cases a with
    | none =>
      have h0 := ha rfl
      subst h0
      refine (kcells_nil w).mono ?_
      rintro e w' ⟨rfl, rfl⟩
      exact ⟨_, rfl, Below.refl _ _, Or.inl ⟨rfl, rfl⟩⟩
    | some ad =>
      refine (kcells_zero ad c w).mono ?_
      rintro e w' ⟨rfl, hb⟩
      exact ⟨_, rfl, hb, Or.inl ⟨rfl, rfl⟩⟩
  · rcases h with h | ⟨b, off, rfl, hb, hp⟩
    · exact absurd h h0
    refine (kcells_some b off zs.length c (cellsL zs) w hn (cellsL_length zs) (fun j u hu => ?_) (cellsL_one zs)).mono ?_
    · have hj : j < zs.length * 2 := by rw [← cellsL_length]; exact (List.getElem?_eq_some_iff.1 hu).1
      obtain ⟨e0, e1⟩ := cellsL_get zs (j / 2) (by omega)
      obtain ⟨c0, c1⟩ := hp (j / 2) (by omega)
      rw [addP]
      by_cases hm2 : j % 2 = 0
      · rw [show j / 2 * 2 = j by omega] at e0
        rw [e0] at hu
        rw [← hu, ← c0]
        congr 2
        omega
      · rw [show j / 2 * 2 + 1 = j by omega] at e1
        rw [e1] at hu
        rw [← hu, ← c1]
        congr 2
        omega
    · rintro e w' ⟨u, rfl, hb', hu⟩
      exact ⟨u, rfl, hb', Or.inr ⟨fun e => h0 (by rw [e]; rfl), hu⟩⟩
end Go.Proofs.Ytoppncaidhlenaa
