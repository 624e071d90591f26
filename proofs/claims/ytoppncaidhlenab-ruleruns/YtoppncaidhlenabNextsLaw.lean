/- RuleNexts: the walk of the law itself. -/
import Derived.Test.YtoppncaidhlenabRefNext
namespace Go.Proofs.Ytoppncaidhlenab
open Go.RowKit

/-- the three cells in a row, and what comes of them -/
theorem rod_next : NextSet 8 12 [(0, 0), (1, 0), (2, 0)] [(1, -1), (1, 0), (1, 1)] := by
  refine ⟨by decide, fun p => ?_⟩
  constructor
  · intro h
    simp only [List.mem_cons, List.not_mem_nil, or_false] at h
    rcases h with rfl | rfl | rfl <;> decide +kernel
  · intro h
    obtain ⟨c, hc, h1, h2, h3, h4⟩ := lv_key (by decide +kernel) h
    obtain ⟨px, py⟩ := p
    simp only at h1 h2 h3 h4
    have hb : -1 ≤ px ∧ px ≤ 3 ∧ -1 ≤ py ∧ py ≤ 1 := by
      simp only [List.mem_cons, List.not_mem_nil, or_false] at hc
      rcases hc with rfl | rfl | rfl <;> simp only at h1 h2 h3 h4 <;> omega
    clear h1 h2 h3 h4 hc
    rcases (show px = -1 ∨ px = 0 ∨ px = 1 ∨ px = 2 ∨ px = 3 by omega) with rfl | rfl | rfl | rfl | rfl <;> rcases (show py = -1 ∨ py = 0 ∨ py = 1 by omega) with rfl | rfl | rfl
    all_goals first
      | decide
      | exact absurd h (by decide +kernel)
theorem tidied_of {zs : List (Int × Int)} (ht : Tidy zs) (hc : tcode zs = 0) : Tidied zs zs := ⟨ht, fun p => by rw [hc]; simp⟩
theorem rod_is {c : Int} {ts : List (Int × Int)} (h : NextIs 8 12 [(0, 0), (1, 0), (2, 0)] c ts) : ts.length = 3 := by
  have k : NextIs 8 12 [(0, 0), (1, 0), (2, 0)] 0 [(1, -1), (1, 0), (1, 1)] :=
    Or.inr (Or.inr ⟨by decide +kernel, by decide +kernel, _, _, tidied_of (by unfold Tidy; simp [ahead]) (by decide +kernel), rod_next, by decide +kernel, tidied_of (by unfold Tidy; simp [ahead]) (by decide +kernel)⟩)
  rw [(h.unique k).2]
  rfl

set_option maxHeartbeats 400000 in
theorem life_any (w : World) : Calls Try.prog 27 #[] w fun e w' => e = .returned (.agg #[.int .i64 8, .int .i64 12]) ∧ Below w.heap.size w w' := by
  go_enter Try.func27, Try.ntmps27
  go_wp2_with fail
  refine bodyPost_ret (v := .agg #[.int .i64 8, .int .i64 12]) ?_ rfl ⟨rfl, (Below.refl _ _).alloc (Nat.le_refl _) _⟩
  simp [results, Try.results27, go_sem]
theorem rod_row (w : World) : Row (w.alloc (.cells #[.int .i64 0, .int .i64 0, .int .i64 1, .int .i64 0, .int .i64 2, .int .i64 0] 53)) (.slice (some ⟨w.heap.size, 0, none⟩) 3 3) [(0, 0), (1, 0), (2, 0)] := by
  refine Or.inr ⟨by simp, w.heap.size, 0, 3, rfl, by simp, by simp, by unfold maxLen; simp, fun j hj => ?_⟩
  have : j = 0 ∨ j = 1 ∨ j = 2 := by simp at hj; omega
  rcases this with rfl | rfl | rfl <;> simp
set_option maxHeartbeats 400000 in
theorem rod_any (w : World) : Calls Try.prog 28 #[] w fun e w' => ∃ u, e = .returned u ∧ Below w.heap.size w w' ∧ Row w' u [(0, 0), (1, 0), (2, 0)] := by
  go_enter Try.func28, Try.ntmps28
  go_wp2_with fail
  go_ret
  exact ⟨_, rfl, (Below.refl _ _).alloc (Nat.le_refl _) _, rod_row w⟩

set_option maxRecDepth 4000 in
set_option maxHeartbeats 2000000 in
theorem nexts_any (b l : Int) (v : Value) (zs : List (Int × Int)) (w : World) (hn : zs.length * 16 ≤ 140737488355328) (h : RRow w v zs) :
    Calls Try.prog 7 #[.agg #[.int .i64 b, .int .i64 l], v] w fun e w' => e = .returned (.bool true) ∧ Below w.heap.size w w' := by
  have q0 := RuleIn.born w b l 37
  have hc := fun W (hb : Below w.heap.size w W) => cells_row v zs W hn (h.below hb)
  have hrf := fun W (hb : Below w.heap.size w W) => refNext_says b l v zs W (h.below hb)
  clear h
  go_enter Try.func7, Try.ntmps7
  go_wp2_with fail
  have kR : ∀ W, RuleIn w b l W → W.cell? ⟨w.heap.size, 0, none⟩ = some (.int .i64 b) ∧ W.cell? ⟨w.heap.size, 1, none⟩ = some (.int .i64 l) ∧ RuleIn w b l W := fun W q => ⟨q.1, q.2.1, q⟩
  have qd := q0.go (below_drewN' _ 1)
  go_region_held3 (fun w' => w'.cell? ⟨w.heap.size, 0, none⟩ = some (.int .i64 b) ∧ w'.cell? ⟨w.heap.size, 1, none⟩ = some (.int .i64 l) ∧ RuleIn w b l w') (first | exact kR _ qd | exact kR _ (qd.go c5) | exact kR _ ((qd.go c5).go c6))
    (first | (go_at_call 25; refine (hc _ qd.2.2.2.2.2).mono ?_; rintro e w5 ⟨vc, rfl, c5, r5⟩) | (go_at_call 24; refine (next_says b l _ zs _ r5).mono ?_; rintro e w6 ⟨va, ea, ta, rfl, c6, ra, na⟩))
  all_goals
    have q6 := (qd.go c5).go c6
    have HA : Hid (Row w6 va ta ∧ NextIs b l zs ea ta) := ⟨ra, na⟩
    obtain ⟨f0, f1, _⟩ := id q6
    have b6 : Below w.heap.size w w6 := q6.2.2.2.2.2
    clear ra na r5 c5 c6 q0 qd kR hc q6
    go_wp2_with fail
    refine (hrf w6 b6).mono ?_
    rintro e w7 ⟨vb, eb, tb, rfl, c7, rb, nb⟩
    have b7 : Below w.heap.size w w7 := b6.trans (c7.mono b6.size)
    obtain ⟨u1, u2⟩ := HA.out.2.unique nb
    subst u1 u2
    have H7 : Hid (Row w7 va ta ∧ Row w7 vb ta) := ⟨HA.out.1.below c7, rb⟩
    clear rb nb c7 hrf b6 HA f0 f1
    go_wp2_with fail
    refine (life_any _).mono ?_
    rintro e w8 ⟨rfl, c8⟩
    go_wp2_with fail
    refine (rod_any _).mono ?_
    rintro e w9 ⟨vr, rfl, c9, r9⟩
    go_wp2_with fail
    refine (next_says 8 12 vr _ w9 r9).mono ?_
    rintro e w10 ⟨vx, ex, tx, rfl, c10, rx, nx⟩
    have hx := rod_is nx
    obtain ⟨ax, cx, hvx, _⟩ := rx.shape
    rw [hx] at hvx
    subst hvx
    have c78 : Below w7.heap.size w7 w10 := (c8.trans (c9.mono c8.size)).trans (c10.mono (c8.trans (c9.mono c8.size)).size)
    have H10 : Hid (Row w10 va ta ∧ Row w10 vb ta) := ⟨H7.out.1.below c78, H7.out.2.below c78⟩
    have b10 : Below w.heap.size w w10 := b7.trans (c78.mono b7.size)
    clear c8 c9 c10 r9 rx nx hx c78 H7 b7
    go_wp2_with fail
    refine (sameCells_any va vb ta w10 H10.out.1 H10.out.2).mono ?_
    rintro e w11 ⟨rfl, c11⟩
    go_wp2_with fail
    go_ret
    exact ⟨rfl, b10.trans (c11.mono b10.size)⟩
end Go.Proofs.Ytoppncaidhlenab
