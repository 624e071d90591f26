/- RuleRuns: the walk of the law itself. -/
import Derived.Test.YtoppncaidhlenabNextsLaw
import Derived.Test.YtoppncaidhlenabRun
namespace Go.Proofs.Ytoppncaidhlenab
open Go.RowKit

theorem pole_next : NextSet 8 12 [(1, -1), (1, 0), (1, 1)] [(0, 0), (1, 0), (2, 0)] := by
  refine ⟨by decide, fun p => ?_⟩
  constructor
  · intro h
    simp only [List.mem_cons, List.not_mem_nil, or_false] at h
    rcases h with rfl | rfl | rfl <;> decide +kernel
  · intro h
    obtain ⟨c, hc, h1, h2, h3, h4⟩ := lv_key (by decide +kernel) h
    obtain ⟨px, py⟩ := p
    simp only at h1 h2 h3 h4
    have hb : 0 ≤ px ∧ px ≤ 2 ∧ -2 ≤ py ∧ py ≤ 2 := by
      simp only [List.mem_cons, List.not_mem_nil, or_false] at hc
      rcases hc with rfl | rfl | rfl <;> simp only at h1 h2 h3 h4 <;> omega
    clear h1 h2 h3 h4 hc
    rcases (show px = 0 ∨ px = 1 ∨ px = 2 by omega) with rfl | rfl | rfl <;> rcases (show py = -2 ∨ py = -1 ∨ py = 0 ∨ py = 1 ∨ py = 2 by omega) with rfl | rfl | rfl | rfl | rfl
    all_goals first
      | decide
      | exact absurd h (by decide +kernel)
theorem rod_runs {c : Int} {ts : List (Int × Int)} (h : RunIs 8 12 [(0, 0), (1, 0), (2, 0)] 2 c ts) : ts.length = 3 := by
  have g : goodB 8 12 = true := by decide +kernel
  have k1 : NextIs 8 12 [(0, 0), (1, 0), (2, 0)] 0 [(1, -1), (1, 0), (1, 1)] :=
    Or.inr (Or.inr ⟨g, by decide +kernel, _, _, tidied_of (by unfold Tidy; simp [ahead]) (by decide +kernel), rod_next, by decide +kernel, tidied_of (by unfold Tidy; simp [ahead]) (by decide +kernel)⟩)
  have k2 : NextIs 8 12 [(1, -1), (1, 0), (1, 1)] 0 [(0, 0), (1, 0), (2, 0)] :=
    Or.inr (Or.inr ⟨g, by decide +kernel, _, _, tidied_of (by unfold Tidy; simp [ahead]) (by decide +kernel), pole_next, by decide +kernel, tidied_of (by unfold Tidy; simp [ahead]) (by decide +kernel)⟩)
  have k0 : StepsTo 8 12 [(0, 0), (1, 0), (2, 0)] 0 0 [(0, 0), (1, 0), (2, 0)] := ⟨by decide +kernel, tidied_of (by unfold Tidy; simp [ahead]) (by decide +kernel)⟩
  have k : RunIs 8 12 [(0, 0), (1, 0), (2, 0)] ((2 : Nat) : Int) 0 [(0, 0), (1, 0), (2, 0)] := runIs_of g (by omega) ⟨0, _, ⟨0, _, k0, Or.inr ⟨rfl, k1⟩⟩, Or.inr ⟨rfl, k2⟩⟩
  rw [(h.unique k).2]
  rfl

set_option maxRecDepth 4000 in
set_option maxHeartbeats 2000000 in
theorem runs_few (b l n : Int) (a : Option Addr) (m c : Nat) (zs : List (Int × Int)) (w : World) (hn : zs.length * 16 ≤ 140737488355328) (hl : m ≤ 60) (h : RRow w (.slice a m c) zs) :
    Calls Try.prog 8 #[.agg #[.int .i64 b, .int .i64 l], .slice a m c, .int .i64 n] w fun e w' => e = .returned (.bool true) ∧ Below w.heap.size w w' := by
  have hl1 : ¬ (60 : Int) < (m : Int) := by omega
  have q0 := RuleIn.born w b l 37
  have hc := fun W (hb : Below w.heap.size w W) => cells_row _ zs W hn (h.below hb)
  have hrf := fun W (hb : Below w.heap.size w W) => refRun_says b l n _ zs W (h.below hb)
  clear h
  go_enter Try.func8, Try.ntmps8
  go_wp2_with fail
  have kR : ∀ W, RuleIn w b l W → W.cell? ⟨w.heap.size, 0, none⟩ = some (.int .i64 b) ∧ W.cell? ⟨w.heap.size, 1, none⟩ = some (.int .i64 l) ∧ RuleIn w b l W := fun W q => ⟨q.1, q.2.1, q⟩
  have qd := q0.go (below_drewN' _ 1)
  go_region_held3 (fun w' => w'.cell? ⟨w.heap.size, 0, none⟩ = some (.int .i64 b) ∧ w'.cell? ⟨w.heap.size, 1, none⟩ = some (.int .i64 l) ∧ RuleIn w b l w') (first | exact kR _ qd | exact kR _ (qd.go c5) | exact kR _ ((qd.go c5).go c6))
    (first | (go_at_call 25; refine (hc _ qd.2.2.2.2.2).mono ?_; rintro e w5 ⟨vc, rfl, c5, r5⟩) | (go_at_call 30; refine (run_says b l n _ zs _ r5).mono ?_; rintro e w6 ⟨va, ea, ta, rfl, c6, ra, na⟩))
  all_goals
    have q6 := (qd.go c5).go c6
    have HA : Hid (Row w6 va ta ∧ RunIs b l zs n ea ta) := ⟨ra, na⟩
    obtain ⟨f0, f1, _⟩ := id q6
    have b6 : Below w.heap.size w w6 := q6.2.2.2.2.2
    clear ra na r5 c5 c6 q0 qd kR hc q6
    go_wp2_with fail
    refine (hrf w6 b6).mono ?_
    rintro e w7 ⟨vb, eb, tb, rfl, c7, rb, nb⟩
    have b7 : Below w.heap.size w w7 := b6.trans (c7.mono b6.size)
    obtain ⟨u1, u2⟩ := HA.out.2.unique nb
    subst u1 u2
    have H7 : Hid (Row w7 va ta ∧ Row w7 vb ta) := ⟨HA.out.1.below c7, rb⟩
    clear rb nb c7 hrf b6 HA f0 f1
    go_wp2_with fail
    refine (life_any _).mono ?_
    rintro e w8 ⟨rfl, c8⟩
    go_wp2_with fail
    refine (rod_any _).mono ?_
    rintro e w9 ⟨vr, rfl, c9, r9⟩
    go_wp2_with fail
    refine (run_says 8 12 2 vr _ w9 r9).mono ?_
    rintro e w10 ⟨vx, ex, tx, rfl, c10, rx, nx⟩
    have hx := rod_runs nx
    obtain ⟨ax, cx, hvx, _⟩ := rx.shape
    rw [hx] at hvx
    subst hvx
    have c78 : Below w7.heap.size w7 w10 := (c8.trans (c9.mono c8.size)).trans (c10.mono (c8.trans (c9.mono c8.size)).size)
    have H10 : Hid (Row w10 va ta ∧ Row w10 vb ta) := ⟨H7.out.1.below c78, H7.out.2.below c78⟩
    have b10 : Below w.heap.size w w10 := b7.trans (c78.mono b7.size)
    clear c8 c9 c10 r9 rx nx hx c78 H7 b7
    go_wp2_with fail
    refine (sameCells_any va vb ta w10 H10.out.1 H10.out.2).mono ?_
    rintro e w11 ⟨rfl, c11⟩
    go_wp2_with fail
    go_ret
    exact ⟨rfl, b10.trans (c11.mono b10.size)⟩
set_option maxRecDepth 4000 in
set_option maxHeartbeats 2000000 in
theorem runs_many (b l n : Int) (a : Option Addr) (m c : Nat) (zs : List (Int × Int)) (w : World) (hn : zs.length * 16 ≤ 140737488355328) (hl : 60 < m) (hmc : m ≤ c) (hcm : c ≤ 9223372036854775807) (h : RRow w (.slice a 60 c) zs) :
    Calls Try.prog 8 #[.agg #[.int .i64 b, .int .i64 l], .slice a m c, .int .i64 n] w fun e w' => e = .returned (.bool true) ∧ Below w.heap.size w w' := by
  have hl1 : (60 : Int) < (m : Int) := by omega
  have hl2 : (60 : Int) ≤ (c : Int) := by omega
  have q0 := RuleIn.born w b l 37
  have hc := fun W (hb : Below w.heap.size w W) => cells_row _ zs W hn (h.below hb)
  have hrf := fun W (hb : Below w.heap.size w W) => refRun_says b l n _ zs W (h.below hb)
  clear h
  go_enter Try.func8, Try.ntmps8
  go_wp2_with fail
  have kR : ∀ W, RuleIn w b l W → W.cell? ⟨w.heap.size, 0, none⟩ = some (.int .i64 b) ∧ W.cell? ⟨w.heap.size, 1, none⟩ = some (.int .i64 l) ∧ RuleIn w b l W := fun W q => ⟨q.1, q.2.1, q⟩
  have qd := q0.go (below_drewN' _ 1)
  go_region_held3 (fun w' => w'.cell? ⟨w.heap.size, 0, none⟩ = some (.int .i64 b) ∧ w'.cell? ⟨w.heap.size, 1, none⟩ = some (.int .i64 l) ∧ RuleIn w b l w') (first | exact kR _ qd | exact kR _ (qd.go c5) | exact kR _ ((qd.go c5).go c6))
    (first | (go_at_call 25; refine (hc _ qd.2.2.2.2.2).mono ?_; rintro e w5 ⟨vc, rfl, c5, r5⟩) | (go_at_call 30; refine (run_says b l n _ zs _ r5).mono ?_; rintro e w6 ⟨va, ea, ta, rfl, c6, ra, na⟩))
  all_goals
    have q6 := (qd.go c5).go c6
    have HA : Hid (Row w6 va ta ∧ RunIs b l zs n ea ta) := ⟨ra, na⟩
    obtain ⟨f0, f1, _⟩ := id q6
    have b6 : Below w.heap.size w w6 := q6.2.2.2.2.2
    clear ra na r5 c5 c6 q0 qd kR hc q6
    go_wp2_with fail
    refine (hrf w6 b6).mono ?_
    rintro e w7 ⟨vb, eb, tb, rfl, c7, rb, nb⟩
    have b7 : Below w.heap.size w w7 := b6.trans (c7.mono b6.size)
    obtain ⟨u1, u2⟩ := HA.out.2.unique nb
    subst u1 u2
    have H7 : Hid (Row w7 va ta ∧ Row w7 vb ta) := ⟨HA.out.1.below c7, rb⟩
    clear rb nb c7 hrf b6 HA f0 f1
    go_wp2_with fail
    refine (life_any _).mono ?_
    rintro e w8 ⟨rfl, c8⟩
    go_wp2_with fail
    refine (rod_any _).mono ?_
    rintro e w9 ⟨vr, rfl, c9, r9⟩
    go_wp2_with fail
    refine (run_says 8 12 2 vr _ w9 r9).mono ?_
    rintro e w10 ⟨vx, ex, tx, rfl, c10, rx, nx⟩
    have hx := rod_runs nx
    obtain ⟨ax, cx, hvx, _⟩ := rx.shape
    rw [hx] at hvx
    subst hvx
    have c78 : Below w7.heap.size w7 w10 := (c8.trans (c9.mono c8.size)).trans (c10.mono (c8.trans (c9.mono c8.size)).size)
    have H10 : Hid (Row w10 va ta ∧ Row w10 vb ta) := ⟨H7.out.1.below c78, H7.out.2.below c78⟩
    have b10 : Below w.heap.size w w10 := b7.trans (c78.mono b7.size)
    clear c8 c9 c10 r9 rx nx hx c78 H7 b7
    go_wp2_with fail
    refine (sameCells_any va vb ta w10 H10.out.1 H10.out.2).mono ?_
    rintro e w11 ⟨rfl, c11⟩
    go_wp2_with fail
    go_ret
    exact ⟨rfl, b10.trans (c11.mono b10.size)⟩
/-- the first sixty -/
theorem take_row {w : World} {a : Option Addr} {c : Nat} {zs : List (Int × Int)} (hl : 60 < zs.length) (hc : zs.length ≤ c) (hm : c ≤ maxLen) (ha : a = none → c = 0)
    (hp : zs.length = 0 ∨ ∃ b off, a = some ⟨b, off, none⟩ ∧ b < w.heap.size ∧ HoldsR w b off zs) : RRow w (.slice a 60 c) (zs.take 60) := by
  have hlen : (zs.take 60).length = 60 := by rw [List.length_take]; omega
  refine ⟨a, c, by rw [hlen], by rw [hlen]; omega, hm, ha, ?_⟩
  rcases hp with hp | ⟨b, off, e, hb, hp⟩
  · omega
  · refine Or.inr ⟨b, off, e, hb, fun j hj => ?_⟩
    rw [hlen] at hj
    have e1 : (zs.take 60)[j]! = zs[j]! := by
      rw [getElem!_pos (zs.take 60) j (by omega), getElem!_pos zs j (by omega), List.getElem_take]
    simp only [e1]
    exact hp j (by omega)
theorem runs_any (b l n : Int) (v : Value) (zs : List (Int × Int)) (w : World) (hn : zs.length * 16 ≤ 140737488355328) (h : RRow w v zs) :
    Calls Try.prog 8 #[.agg #[.int .i64 b, .int .i64 l], v, .int .i64 n] w fun e w' => e = .returned (.bool true) ∧ Below w.heap.size w w' := by
  obtain ⟨a, c, rfl, hc, hm, ha, hp⟩ := id h
  by_cases hl : zs.length ≤ 60
  · exact runs_few b l n a zs.length c zs w hn hl h
  · have hlt : (zs.take 60).length = 60 := by rw [List.length_take]; omega
    exact runs_many b l n a zs.length c (zs.take 60) w (by rw [hlt]; omega) (by omega) hc (by unfold maxLen at hm; omega) (take_row (by omega) hc hm ha hp)
end Go.Proofs.Ytoppncaidhlenab
