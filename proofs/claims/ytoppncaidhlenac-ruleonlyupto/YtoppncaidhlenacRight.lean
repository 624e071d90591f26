/- lifelodgekeep.right and lifelodgekeep.lives: what they answer. -/
import Derived.Test.YtoppncaidhlenacLaws
namespace Go.Proofs.Ytoppncaidhlenac
open Go.RowKit

/-- the rule that right makes -/
def rightB (b : Int) : Int := bits .andNot .i64 (spotI b 512) 1

set_option maxHeartbeats 1000000 in
theorem right_any (b l : Int) (w : World) : Calls Try.prog 13 #[.agg #[.int .i64 b, .int .i64 l]] w fun e w' => e = .returned (.agg #[.int .i64 (rightB b), .int .i64 (spotI l 512)]) ∧ Below w.heap.size w w' := by
  have h0 := fun o => pair_drew (pair_go (pair_born w (.int .i64 b) (.int .i64 l) 23) ((Below.refl _ _).alloc (Nat.le_refl _) o))
  have hb1 := fun W => spot_any b 512 W (by omega) (by omega)
  have hl1 := fun W => spot_any l 512 W (by omega) (by omega)
  have hr : rightB b = bits .andNot .i64 (spotI b 512) 1 := rfl
  rw [hr]
  generalize spotI b 512 = sb at *
  generalize spotI l 512 = sl at *
  go_enter Try.func13, Try.ntmps13
  go_wp2_with fail
  go_region_held3 (fun w' => w'.cell? ⟨w.heap.size, 0, none⟩ = some (.int .i64 b) ∧ w'.cell? ⟨w.heap.size, 1, none⟩ = some (.int .i64 l) ∧ w.heap.size < w'.heap.size ∧ Below w.heap.size w w') (first | exact h0 _ | assumption)
    (first | (go_at_call_of 15 b; refine (hb1 _).mono ?_; rintro e w' ⟨rfl, hw⟩; subst hw) | (go_at_call_of 15 l; refine (hl1 _).mono ?_; rintro e w' ⟨rfl, hw⟩; subst hw))
  rename_i hH
  go_wp2_with fail
  refine bodyPost_ret (v := .agg #[.int .i64 (bits .andNot .i64 sb 1), .int .i64 sl]) ?_ rfl ⟨rfl, hH.2.2.2⟩
  simp [results, Try.results13, go_sem]

theorem right_table : ∀ n : Fin 512, (withinB (bits .andNot .i64 (n.val : Int) 1) && !hasB (bits .andNot .i64 (n.val : Int) 1) 0) = true := by decide +kernel
theorem right_good (b l : Int) : goodB (rightB b) (spotI l 512) = true := by
  obtain ⟨h0, h1⟩ := spotI_bound b 512 (by omega)
  obtain ⟨k0, k1⟩ := spotI_bound l 512 (by omega)
  obtain ⟨m, hm⟩ := Int.eq_ofNat_of_zero_le h0
  have ht := right_table ⟨m, by omega⟩
  simp only at ht
  unfold goodB rightB
  rw [hm]
  have hw : withinB (spotI l 512) = true := by simp [withinB]; omega
  rw [hw, Bool.and_true]
  exact ht

/-- what Next answers of three cells in a row -/
theorem rod_next {out ts ys : List (Int × Int)} (hy : Tidied [(0, 0), (1, 0), (2, 0)] ys) (h : NextSet 8 12 ys out) (ht : Tidied out ts) : tcode out = 0 ∧ ts = [(1, -1), (1, 0), (1, 1)] := by
  have hz : ys = [(0, 0), (1, 0), (2, 0)] := tidy_unique _ _ hy.1 (by unfold Tidy ahead; decide) fun p => by
    rw [hy.2 p]
    have : tcode [(0, 0), (1, 0), (2, 0)] = 0 := by decide
    simp [this]
  subst hz
  have hg : goodB 8 12 = true := by decide
  have hc := (next_code (m := 2) hg h (by decide) (by decide) (by decide)).1
  refine ⟨hc, tidy_unique _ _ ht.1 (by unfold Tidy ahead; decide) fun p => ?_⟩
  rw [ht.2 p, hc, h.2 p]
  simp only [and_true]
  constructor
  · intro hv
    obtain ⟨c, hc, h1, h2, h3, h4⟩ := lv_key hg hv
    have hb : p ∈ ([(0, 0), (1, 0), (2, 0)] : List (Int × Int)).flatMap nine := by
      rw [List.mem_flatMap]
      refine ⟨c, hc, ?_⟩
      obtain ⟨px, py⟩ := p
      obtain ⟨cx, cy⟩ := c
      simp only [nine, List.mem_cons, Prod.mk.injEq, List.not_mem_nil, or_false]
      simp only at h1 h2 h3 h4
      omega
    have hall : ∀ q ∈ ([(0, 0), (1, 0), (2, 0)] : List (Int × Int)).flatMap nine, lvB 8 12 [(0, 0), (1, 0), (2, 0)] q = true → q ∈ [(1, -1), (1, 0), (1, 1)] := by decide +kernel
    exact hall p hb hv
  · intro hp
    have hall : ∀ q ∈ ([(1, -1), (1, 0), (1, 1)] : List (Int × Int)), lvB 8 12 [(0, 0), (1, 0), (2, 0)] q = true := by decide +kernel
    exact hall p hp

theorem rod_row (w : World) (x0 y0 x1 y1 x2 y2 : Int) : Row (w.alloc (.cells #[.int .i64 x0, .int .i64 y0, .int .i64 x1, .int .i64 y1, .int .i64 x2, .int .i64 y2] 59)) (.slice (some ⟨w.heap.size, 0, none⟩) 3 3) [(x0, y0), (x1, y1), (x2, y2)] := by
  refine Or.inr ⟨by simp, w.heap.size, 0, 3, rfl, by simp, by simp, by unfold maxLen; omega, fun j hj => ?_⟩
  simp only [World.cell?_alloc_new]
  match j, hj with
  | 0, _ => exact ⟨rfl, rfl⟩
  | 1, _ => exact ⟨rfl, rfl⟩
  | 2, _ => exact ⟨rfl, rfl⟩

set_option maxRecDepth 4000 in
set_option maxHeartbeats 1000000 in
theorem livesOk_any (w : World) : Calls Try.prog 11 #[] w fun e w' => e = .returned (.bool true) ∧ Below w.heap.size w w' := by
  go_enter Try.func11, Try.ntmps11
  go_wp2_with fail
  refine (next_some 8 12 _ [(0, 0), (1, 0), (2, 0)] _ (rod_row w 0 0 1 0 2 0) (by decide) (by decide)).mono ?_
  rintro e w1 ⟨u, ys, out, ts, ht1, hn1, ht2, rfl, hb1, hr1⟩
  obtain ⟨hcode, rfl⟩ := rod_next ht1 hn1 ht2
  rw [hcode]
  have hbw : Below w.heap.size w w1 := ((Below.refl _ _).alloc (Nat.le_refl _) _).trans (hb1.mono (by simp))
  have HR : Hid (Row w1 u [(1, -1), (1, 0), (1, 1)]) := hr1.read
  clear ht1 hn1 ht2 hr1 hcode
  go_wp2_with fail
  refine (same_any u _ [(1, -1), (1, 0), (1, 1)] _ (HR.out.below ((Below.refl _ _).alloc (Nat.le_refl _) _)) (rod_row w1 1 (-1) 1 0 1 1)).mono ?_
  rintro e w2 ⟨rfl, hb2⟩
  go_wp2_with fail
  go_ret
  exact ⟨rfl, (hbw.alloc hbw.size _).trans (hb2.mono (by simp; have := hbw.size; omega))⟩
end Go.Proofs.Ytoppncaidhlenac
