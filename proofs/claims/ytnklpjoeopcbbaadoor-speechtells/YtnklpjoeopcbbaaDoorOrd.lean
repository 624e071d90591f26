/- What plane.outside, plane.order and what they call answer. -/
import Derived.Test.YtnklpjoeopcbbaaDoorOpen
import Derived.Test.YtnklpjoeopcbbaaDoorShelf
import Derived.Deep.RegionHeld3
import Derived.Deep.DrawnRows
namespace Go.Proofs.YtnklpjoeopcbbaaDoor
open Go.RowKit

attribute [local go_sem ↓] Go.wp_at_zero Go.wp_at_succ

/-- not above -bound and below bound -/
def farI (n : Int) : Bool := decide (n ≤ -1099511627776) || decide (1099511627776 ≤ n)
def farP (p : Int × Int) : Bool := farI p.1 || farI p.2
def encPt (p : Int × Int) : List Value := [.int .i64 p.1, .int .i64 p.2]
/-- cmp.Compare of two numbers -/
def cmpI (x y : Int) : Int := if x < y then -1 else if y < x then 1 else 0
/-- cmp.Or of two numbers -/
def orI (p q : Int) : Int := if p ≠ 0 then p else q
/-- plane.order of two cells -/
def cmpP (p q : Int × Int) : Int := orI (cmpI p.2 q.2) (cmpI p.1 q.1)

set_option maxHeartbeats 400000 in
theorem nearer_any (n : Int) (w : World) : Calls Tryd.prog 81 #[.int .i64 n, .int .i64 1099511627776] w fun e w' => e = .returned (.bool (!farI n)) ∧ w' = w := by
  by_cases h1 : -1099511627776 < n
  · have hd : decide (-1099511627776 < n) = true := by simpa using h1
    go_enter Tryd.func81, Tryd.ntmps81
    go_wp2
    go_ret
    refine ⟨?_, rfl⟩
    congr 2
    simp only [farI]
    by_cases h2 : n < 1099511627776
    · simp [h2]; omega
    · simp [h2]; omega
  · have hd : decide (-1099511627776 < n) = false := by simpa using h1
    go_enter Tryd.func81, Tryd.ntmps81
    go_wp2
    go_ret
    refine ⟨?_, rfl⟩
    congr 2
    simp only [farI]
    simp; omega

set_option maxHeartbeats 400000 in
theorem outside_any (p : Int × Int) (w : World) : Calls Tryd.prog 57 #[.agg #[.int .i64 p.1, .int .i64 p.2]] w fun e w' => e = .returned (.bool (farP p)) ∧ w' = w.alloc (.cells #[.int .i64 p.1, .int .i64 p.2] 59) := by
  obtain ⟨x, y⟩ := p
  cases hx : farI x
  · go_enter Tryd.func57, Tryd.ntmps57
    go_wp2_with (first | (go_at_call_of 81 x; refine (nearer_any x _).mono ?_; rw [hx]; rintro e w' ⟨rfl, rfl⟩) | (go_at_call_of 81 y; refine (nearer_any y _).mono ?_; rintro e w' ⟨rfl, rfl⟩))
    go_ret
    refine ⟨?_, rfl⟩
    simp [farP, hx]
  · go_enter Tryd.func57, Tryd.ntmps57
    go_wp2_with (first | (go_at_call_of 81 x; refine (nearer_any x _).mono ?_; rw [hx]; rintro e w' ⟨rfl, rfl⟩))
    go_ret
    refine ⟨?_, rfl⟩
    simp [farP, hx]

set_option maxHeartbeats 400000 in
theorem compare_any (x y : Int) (w : World) : Calls Tryd.prog 85 #[.int .i64 x, .int .i64 y] w fun e w' => e = .returned (.int .i64 (cmpI x y)) ∧ w' = w := by
  go_enter Tryd.func85, Tryd.ntmps85
  go_wp2
  · go_ret
    exact ⟨by simp_all [cmpI], rfl⟩
  · go_ret
    refine ⟨?_, rfl⟩
    unfold cmpI
    rw [if_neg (by omega), if_pos (by omega)]
    rfl
  · go_ret
    refine ⟨?_, rfl⟩
    unfold cmpI
    rw [if_neg (by omega), if_neg (by omega)]
    rfl

set_option maxHeartbeats 400000 in
theorem or_any (b : Nat) (p q : Int) (w : World) (h0 : w.cell? ⟨b, 0, none⟩ = some (.int .i64 p)) (h1 : w.cell? ⟨b, 1, none⟩ = some (.int .i64 q)) :
    Calls Tryd.prog 84 #[.slice (some ⟨b, 0, none⟩) 2 2] w fun e w' => e = .returned (.int .i64 (orI p q)) ∧ w' = w := by
  unfold orI
  by_cases hp : p = 0
  · subst hp
    by_cases hq : q = 0
    · subst hq
      go_enter Tryd.func84, Tryd.ntmps84
      go_wp2
      refine wp_loop_rounds 3 ?_
      rw [rounds_succ]
      go_wp2
      rw [rounds_succ]
      go_wp2
      rw [rounds_succ]
      go_wp2
      go_ret
      exact ⟨rfl, rfl⟩
    · have hq' : (q != 0) = true := by simpa using hq
      go_enter Tryd.func84, Tryd.ntmps84
      go_wp2
      refine wp_loop_rounds 2 ?_
      rw [rounds_succ]
      go_wp2
      rw [rounds_succ]
      go_wp2
      go_ret
      exact ⟨by simp, rfl⟩
  · have hp' : (p != 0) = true := by simpa using hp
    go_enter Tryd.func84, Tryd.ntmps84
    go_wp2
    refine wp_loop_rounds 1 ?_
    rw [rounds_succ]
    go_wp2
    go_ret
    exact ⟨by simp, rfl⟩

theorem three_grow (w : World) (A B C : Obj) : (((w.alloc A).alloc B).alloc C).drew = Sort.grow (w.drewN 1) (#[A] ++ #[B] ++ #[C]) := by
  rw [Sort.alloc_eq_grow, Sort.alloc_eq_grow, Sort.alloc_eq_grow, Sort.grow_grow, Sort.grow_grow]
  rfl

set_option maxHeartbeats 1000000 in
theorem order_any (p q : Int × Int) (w : World) : Calls Tryd.prog 60 #[.agg #[.int .i64 p.1, .int .i64 p.2], .agg #[.int .i64 q.1, .int .i64 q.2]] w fun e w' => e = .returned (.int .i64 (cmpP p q)) ∧ ∃ n os', w' = Sort.grow (w.drewN n) os' := by
  obtain ⟨px, py⟩ := p
  obtain ⟨qx, qy⟩ := q
  go_enter Tryd.func60, Tryd.ntmps60
  go_wp2
  go_region_held3 (fun w' => w'.cell? ⟨w.heap.size, 0, none⟩ = some (.int .i64 px) ∧ w'.cell? ⟨w.heap.size, 1, none⟩ = some (.int .i64 py) ∧ w'.cell? ⟨w.heap.size + 1, 0, none⟩ = some (.int .i64 qx) ∧ w'.cell? ⟨w.heap.size + 1, 1, none⟩ = some (.int .i64 qy)) (go_keep)
    (first | (go_at_call 85; refine (compare_any _ _ _).mono ?_; rintro e w' ⟨rfl, rfl⟩) | (go_at_call 84; refine (or_any _ (cmpI py qy) (cmpI px qx) _ (by simp; exact (World.cell?_alloc_at _ _ _ _ (by simp)).trans rfl) (by simp; exact (World.cell?_alloc_at _ _ _ _ (by simp)).trans rfl)).mono ?_; rintro e w' ⟨rfl, rfl⟩))
  all_goals
    go_wp2
    go_ret
    exact ⟨rfl, 1, _, three_grow _ _ _ _⟩

theorem outside_pred (w : World) : PredBelow Tryd.prog 57 #[] (fun x => .agg (encPt x).toArray) farP w := fun W x hb =>
  (outside_any x W).mono fun e w' ⟨he, hw⟩ => ⟨he, by rw [hw]; exact hb.alloc hb.size _⟩

theorem order_lays (blk off size : Nat) (w : World) : CmpLays Tryd.prog 60 #[] encPt 2 cmpP blk off size w :=
  fun _ _ _ _ x y => order_any x y _

/-- a cell comes ahead of another -/
def ahead (p q : Int × Int) : Prop := p.2 < q.2 ∨ p.2 = q.2 ∧ p.1 < q.1
theorem cmpP_neg (p q : Int × Int) : cmpP p q < 0 ↔ ahead p q := by
  unfold cmpP orI cmpI ahead
  split <;> split <;> (try split) <;> (try split) <;> omega
theorem cmpP_zero (p q : Int × Int) : cmpP p q = 0 ↔ p = q := by
  rw [Prod.ext_iff]
  unfold cmpP orI cmpI
  split <;> split <;> (try split) <;> (try split) <;> omega
theorem cmpP_lt (p q : Int × Int) : ltOf cmpP p q = true ↔ ahead p q := by
  unfold ltOf
  rw [decide_eq_true_eq]
  exact cmpP_neg p q
theorem cmpP_nlt (p q : Int × Int) : ltOf cmpP p q = false ↔ ¬ ahead p q := by
  rw [← cmpP_lt, Bool.not_eq_true]
theorem swoP : Sort.SWO (ltOf cmpP) := {
  irrefl := fun x => by rw [cmpP_nlt]; unfold ahead; omega
  trans := fun x y z h1 h2 => by
    rw [cmpP_lt] at *
    unfold ahead at *
    omega
  ntrans := fun x y z h1 h2 => by
    rw [cmpP_nlt] at *
    unfold ahead at *
    omega }
end Go.Proofs.YtnklpjoeopcbbaaDoor
