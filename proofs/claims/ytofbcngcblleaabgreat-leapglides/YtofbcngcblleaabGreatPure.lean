/- Lists of cells in order, each once: what is plain mathematics of them. -/
import Derived.Shelf.SlSortCmp.WholeK
import Derived.Shelf.SlicesQ.IndexFunc
import Derived.Shelf.SlicesE.Clone
import Derived.Test.YtofbcngcblleaabGreatProg
import Derived.Test.YtofbcngcblleaabGreatBoxLaw
import Derived.Deep.RegionHeld3
import Derived.Deep.DrawnRows
import Derived.Lib.SlicesCompact
import Derived.Lib.SliceRun
namespace Go.Proofs
open Go.Shelf
def Tryz.sortCells_ren : Go.Shelf.Ren := ⟨fun | 6 => 30 | 15 => 51 | 14 => 50 | 28 => 76 | 29 => 77 | 20 => 68 | 21 => 69 | 22 => 70 | 23 => 71 | 24 => 72 | 25 => 73 | 26 => 74 | 27 => 75 | 46 => 92 | 47 => 93 | 48 => 94 | 49 => 95 | 50 => 96 | 57 => 105 | n => n, fun | 22 => 28 | 24 => 27 | 25 => 81 | 3 => 3 | 39 => 97 | 0 => 0 | 53 => 121 | 55 => 76 | 4 => 4 | 46 => 115 | 45 => 114 | 50 => 71 | 5 => 5 | 9 => 9 | 66 => 141 | 70 => 145 | 76 => 159 | 77 => 103 | n => n, fun | n => n⟩
theorem Tryz.sortCells : Go.Proofs.SlLaysF0.n6 Tryz.prog Tryz.sortCells_ren := {
  mixed := by kernel_rfl
  f6 := ⟨Tryz.f30.name, by decide, Tryz.func30.trans (congrArg some (by kernel_rfl))⟩
  f14 := ⟨Tryz.f50.name, by decide, Tryz.func50.trans (congrArg some (by kernel_rfl))⟩
  f15 := Tryz.func51.trans (congrArg some (by kernel_rfl))
  f20 := ⟨Tryz.f68.name, by decide, Tryz.func68.trans (congrArg some (by kernel_rfl))⟩
  f21 := ⟨Tryz.f69.name, by decide, Tryz.func69.trans (congrArg some (by kernel_rfl))⟩
  f22 := ⟨Tryz.f70.name, by decide, Tryz.func70.trans (congrArg some (by kernel_rfl))⟩
  f23 := ⟨Tryz.f71.name, by decide, Tryz.func71.trans (congrArg some (by kernel_rfl))⟩
  f24 := ⟨Tryz.f72.name, by decide, Tryz.func72.trans (congrArg some (by kernel_rfl))⟩
  f25 := ⟨Tryz.f73.name, by decide, Tryz.func73.trans (congrArg some (by kernel_rfl))⟩
  f26 := ⟨Tryz.f74.name, by decide, Tryz.func74.trans (congrArg some (by kernel_rfl))⟩
  f27 := ⟨Tryz.f75.name, by decide, Tryz.func75.trans (congrArg some (by kernel_rfl))⟩
  f28 := Tryz.func76.trans (congrArg some (by kernel_rfl))
  f29 := Tryz.func77.trans (congrArg some (by kernel_rfl))
  f46 := ⟨Tryz.f92.name, by decide, Tryz.func92.trans (congrArg some (by kernel_rfl))⟩
  f47 := Tryz.func93.trans (congrArg some (by kernel_rfl))
  f48 := Tryz.func94.trans (congrArg some (by kernel_rfl))
  f49 := ⟨Tryz.f95.name, by decide, Tryz.func95.trans (congrArg some (by kernel_rfl))⟩
  f50 := ⟨Tryz.f96.name, by decide, Tryz.func96.trans (congrArg some (by kernel_rfl))⟩
  f57 := ⟨Tryz.f105.name, by decide, Tryz.func105.trans (congrArg some (by kernel_rfl))⟩
  t0 := Tryz.underlying0
  a0 := Tryz.isAgg0
  z0 := Tryz.sizeOf0
  v0 := Tryz.zeroValue0
  t3 := Tryz.underlying3
  a3 := Tryz.isAgg3
  z3 := Tryz.sizeOf3
  v3 := Tryz.zeroValue3
  t4 := Tryz.underlying4
  a4 := Tryz.isAgg4
  z4 := Tryz.sizeOf4
  v4 := Tryz.zeroValue4
  t5 := Tryz.underlying5
  a5 := Tryz.isAgg5
  z5 := Tryz.sizeOf5
  v5 := Tryz.zeroValue5
  t9 := Tryz.underlying9
  a9 := Tryz.isAgg9
  z9 := Tryz.sizeOf9
  v9 := Tryz.zeroValue9
  t22 := Tryz.underlying28
  a22 := Tryz.isAgg28
  z22 := Tryz.sizeOf28
  v22 := Tryz.zeroValue28
  t25 := Tryz.underlying81
  a25 := Tryz.isAgg81
  z25 := Tryz.sizeOf81
  v25 := Tryz.zeroValue81
  t39 := Tryz.underlying97
  a39 := Tryz.isAgg97
  z39 := Tryz.sizeOf97
  v39 := Tryz.zeroValue97
  t45 := Tryz.underlying114
  a45 := Tryz.isAgg114
  z45 := Tryz.sizeOf114
  v45 := Tryz.zeroValue114
  t46 := Tryz.underlying115
  a46 := Tryz.isAgg115
  z46 := Tryz.sizeOf115
  v46 := Tryz.zeroValue115
  t50 := Tryz.underlying71
  a50 := Tryz.isAgg71
  z50 := Tryz.sizeOf71
  v50 := Tryz.zeroValue71
  t53 := Tryz.underlying121
  a53 := Tryz.isAgg121
  z53 := Tryz.sizeOf121
  v53 := Tryz.zeroValue121
  t55 := Tryz.underlying76
  a55 := Tryz.isAgg76
  z55 := Tryz.sizeOf76
  v55 := Tryz.zeroValue76
  t66 := Tryz.underlying141
  a66 := Tryz.isAgg141
  z66 := Tryz.sizeOf141
  v66 := Tryz.zeroValue141
  t70 := Tryz.underlying145
  a70 := Tryz.isAgg145
  z70 := Tryz.sizeOf145
  v70 := Tryz.zeroValue145
  t76 := Tryz.underlying159
  a76 := Tryz.isAgg159
  z76 := Tryz.sizeOf159
  v76 := Tryz.zeroValue159
  t77 := Tryz.underlying103
  a77 := Tryz.isAgg103
  z77 := Tryz.sizeOf103
  v77 := Tryz.zeroValue103 }
def Tryz.containsCells_ren : Go.Shelf.Ren := ⟨fun | 8 => 24 | 6 => 43 | n => n, fun | 22 => 28 | 23 => 27 | 25 => 62 | 4 => 4 | 3 => 3 | 0 => 0 | n => n, fun | n => n⟩
theorem Tryz.containsCells : Go.Proofs.SlLaysH0.n8 Tryz.prog Tryz.containsCells_ren := {
  mixed := by kernel_rfl
  f6 := ⟨Tryz.f43.name, by decide, Tryz.func43.trans (congrArg some (by kernel_rfl))⟩
  f8 := ⟨Tryz.f24.name, by decide, Tryz.func24.trans (congrArg some (by kernel_rfl))⟩
  t0 := Tryz.underlying0
  a0 := Tryz.isAgg0
  z0 := Tryz.sizeOf0
  v0 := Tryz.zeroValue0
  t3 := Tryz.underlying3
  a3 := Tryz.isAgg3
  z3 := Tryz.sizeOf3
  v3 := Tryz.zeroValue3
  t4 := Tryz.underlying4
  a4 := Tryz.isAgg4
  z4 := Tryz.sizeOf4
  v4 := Tryz.zeroValue4
  t22 := Tryz.underlying28
  a22 := Tryz.isAgg28
  z22 := Tryz.sizeOf28
  v22 := Tryz.zeroValue28
  t25 := Tryz.underlying62
  a25 := Tryz.isAgg62
  z25 := Tryz.sizeOf62
  v25 := Tryz.zeroValue62 }
def Tryz.cloneCells_ren : Go.Shelf.Ren := ⟨fun | 41 => 29 | n => n, fun | 22 => 28 | 23 => 27 | 4 => 4 | n => n, fun | n => n⟩
theorem Tryz.cloneCells : Go.Proofs.SlLaysE0.n41 Tryz.prog Tryz.cloneCells_ren := {
  mixed := by kernel_rfl
  f41 := ⟨Tryz.f29.name, by decide, Tryz.func29.trans (congrArg some (by kernel_rfl))⟩
  t4 := Tryz.underlying4
  a4 := Tryz.isAgg4
  z4 := Tryz.sizeOf4
  v4 := Tryz.zeroValue4
  t22 := Tryz.underlying28
  a22 := Tryz.isAgg28
  z22 := Tryz.sizeOf28
  v22 := Tryz.zeroValue28 }
end Go.Proofs

namespace Go.Proofs.YtofbcngcblleaabGreat
open Go.RowKit
attribute [local go_sem ↓] Go.wp_at_zero Go.wp_at_succ
def farI (n : Int) : Bool := decide (n ≤ -1099511627776) || decide (1099511627776 ≤ n)
def farP (p : Int × Int) : Bool := farI p.1 || farI p.2
def encPt (p : Int × Int) : List Value := [.int .i64 p.1, .int .i64 p.2]
def cmpI (x y : Int) : Int := if x < y then -1 else if y < x then 1 else 0
def orI (p q : Int) : Int := if p ≠ 0 then p else q
def cmpP (p q : Int × Int) : Int := orI (cmpI p.2 q.2) (cmpI p.1 q.1)
set_option maxHeartbeats 400000 in
theorem nearer_any (n : Int) (w : World) : Calls Tryz.prog 23 #[.int .i64 n, .int .i64 1099511627776] w fun e w' => e = .returned (.bool (!farI n)) ∧ w' = w := by
  by_cases h1 : -1099511627776 < n
  · have hd : decide (-1099511627776 < n) = true := by simpa using h1
    go_enter Tryz.func23, Tryz.ntmps23
    go_wp2
    go_ret
    refine ⟨?_, rfl⟩
    congr 2
    simp only [farI]
    by_cases h2 : n < 1099511627776
    · simp [h2]; omega
    · simp [h2]; omega
  · have hd : decide (-1099511627776 < n) = false := by simpa using h1
    go_enter Tryz.func23, Tryz.ntmps23
    go_wp2
    go_ret
    refine ⟨?_, rfl⟩
    congr 2
    simp only [farI]
    simp; omega
set_option maxHeartbeats 400000 in
theorem outside_any (p : Int × Int) (w : World) : Calls Tryz.prog 25 #[.agg #[.int .i64 p.1, .int .i64 p.2]] w fun e w' => e = .returned (.bool (farP p)) ∧ w' = w.alloc (.cells #[.int .i64 p.1, .int .i64 p.2] 27) := by
  obtain ⟨x, y⟩ := p
  cases hx : farI x
  · go_enter Tryz.func25, Tryz.ntmps25
    go_wp2_with (first | (go_at_call_of 23 x; refine (nearer_any x _).mono ?_; rw [hx]; rintro e w' ⟨rfl, rfl⟩) | (go_at_call_of 23 y; refine (nearer_any y _).mono ?_; rintro e w' ⟨rfl, rfl⟩))
    go_ret
    refine ⟨?_, rfl⟩
    simp [farP, hx]
  · go_enter Tryz.func25, Tryz.ntmps25
    go_wp2_with (first | (go_at_call_of 23 x; refine (nearer_any x _).mono ?_; rw [hx]; rintro e w' ⟨rfl, rfl⟩))
    go_ret
    refine ⟨?_, rfl⟩
    simp [farP, hx]
set_option maxHeartbeats 400000 in
theorem compare_any (x y : Int) (w : World) : Calls Tryz.prog 53 #[.int .i64 x, .int .i64 y] w fun e w' => e = .returned (.int .i64 (cmpI x y)) ∧ w' = w := by
  go_enter Tryz.func53, Tryz.ntmps53
  go_wp2
  · go_ret
    exact ⟨by simp_all [cmpI], rfl⟩
  · go_ret
    refine ⟨?_, rfl⟩
    unfold cmpI
    rw [if_neg (by omega), if_pos (by omega)]
    rfl
  · go_ret
    refine ⟨?_, rfl⟩
    unfold cmpI
    rw [if_neg (by omega), if_neg (by omega)]
    rfl
set_option maxHeartbeats 400000 in
theorem or_any (b : Nat) (p q : Int) (w : World) (h0 : w.cell? ⟨b, 0, none⟩ = some (.int .i64 p)) (h1 : w.cell? ⟨b, 1, none⟩ = some (.int .i64 q)) :
    Calls Tryz.prog 52 #[.slice (some ⟨b, 0, none⟩) 2 2] w fun e w' => e = .returned (.int .i64 (orI p q)) ∧ w' = w := by
  unfold orI
  by_cases hp : p = 0
  · subst hp
    by_cases hq : q = 0
    · subst hq
      go_enter Tryz.func52, Tryz.ntmps52
      go_wp2
      refine wp_loop_rounds 3 ?_
      rw [rounds_succ]
      go_wp2
      rw [rounds_succ]
      go_wp2
      rw [rounds_succ]
      go_wp2
      go_ret
      exact ⟨rfl, rfl⟩
    · have hq' : (q != 0) = true := by simpa using hq
      go_enter Tryz.func52, Tryz.ntmps52
      go_wp2
      refine wp_loop_rounds 2 ?_
      rw [rounds_succ]
      go_wp2
      rw [rounds_succ]
      go_wp2
      go_ret
      exact ⟨by simp, rfl⟩
  · have hp' : (p != 0) = true := by simpa using hp
    go_enter Tryz.func52, Tryz.ntmps52
    go_wp2
    refine wp_loop_rounds 1 ?_
    rw [rounds_succ]
    go_wp2
    go_ret
    exact ⟨by simp, rfl⟩
theorem three_grow (w : World) (A B C : Obj) : (((w.alloc A).alloc B).alloc C).drew = Sort.grow (w.drewN 1) (#[A] ++ #[B] ++ #[C]) := by
  rw [Sort.alloc_eq_grow, Sort.alloc_eq_grow, Sort.alloc_eq_grow, Sort.grow_grow, Sort.grow_grow]
  rfl
set_option maxHeartbeats 1000000 in
theorem order_any (p q : Int × Int) (w : World) : Calls Tryz.prog 31 #[.agg #[.int .i64 p.1, .int .i64 p.2], .agg #[.int .i64 q.1, .int .i64 q.2]] w fun e w' => e = .returned (.int .i64 (cmpP p q)) ∧ ∃ n os', w' = Sort.grow (w.drewN n) os' := by
  obtain ⟨px, py⟩ := p
  obtain ⟨qx, qy⟩ := q
  go_enter Tryz.func31, Tryz.ntmps31
  go_wp2
  go_region_held3 (fun w' => w'.cell? ⟨w.heap.size, 0, none⟩ = some (.int .i64 px) ∧ w'.cell? ⟨w.heap.size, 1, none⟩ = some (.int .i64 py) ∧ w'.cell? ⟨w.heap.size + 1, 0, none⟩ = some (.int .i64 qx) ∧ w'.cell? ⟨w.heap.size + 1, 1, none⟩ = some (.int .i64 qy)) (go_keep)
    (first | (go_at_call 53; refine (compare_any _ _ _).mono ?_; rintro e w' ⟨rfl, rfl⟩) | (go_at_call 52; refine (or_any _ (cmpI py qy) (cmpI px qx) _ (by simp; exact (World.cell?_alloc_at _ _ _ _ (by simp)).trans rfl) (by simp; exact (World.cell?_alloc_at _ _ _ _ (by simp)).trans rfl)).mono ?_; rintro e w' ⟨rfl, rfl⟩))
  all_goals
    go_wp2
    go_ret
    exact ⟨rfl, 1, _, three_grow _ _ _ _⟩
theorem outside_pred (w : World) : PredBelow Tryz.prog 25 #[] (fun x => .agg (encPt x).toArray) farP w := fun W x hb =>
  (outside_any x W).mono fun e w' ⟨he, hw⟩ => ⟨he, by rw [hw]; exact hb.alloc hb.size _⟩
theorem order_lays (blk off size : Nat) (w : World) : CmpLays Tryz.prog 31 #[] encPt 2 cmpP blk off size w :=
  fun _ _ _ _ x y => order_any x y _
def ahead (p q : Int × Int) : Prop := p.2 < q.2 ∨ p.2 = q.2 ∧ p.1 < q.1
theorem cmpP_neg (p q : Int × Int) : cmpP p q < 0 ↔ ahead p q := by
  unfold cmpP orI cmpI ahead
  split <;> split <;> (try split) <;> (try split) <;> omega
theorem cmpP_lt (p q : Int × Int) : ltOf cmpP p q = true ↔ ahead p q := by
  unfold ltOf
  rw [decide_eq_true_eq]
  exact cmpP_neg p q
theorem cmpP_nlt (p q : Int × Int) : ltOf cmpP p q = false ↔ ¬ ahead p q := by
  rw [← cmpP_lt, Bool.not_eq_true]
theorem swoP : Sort.SWO (ltOf cmpP) := {
  irrefl := fun x => by rw [cmpP_nlt]; unfold ahead; omega
  trans := fun x y z h1 h2 => by
    rw [cmpP_lt] at *
    unfold ahead at *
    omega
  ntrans := fun x y z h1 h2 => by
    rw [cmpP_nlt] at *
    unfold ahead at *
    omega }
end Go.Proofs.YtofbcngcblleaabGreat

namespace Go.Proofs.YtofbcngcblleaabGreat
open Go.RowKit Go.Lib Go.Sort
theorem eqP_run (x y : Int × Int) (w : World) : (binOp .eql 27 (.agg #[.int .i64 x.1, .int .i64 x.2]) (.agg #[.int .i64 y.1, .int .i64 y.2])).run Tryz.prog w = .ok (.bool (decide (x = y))) w := by
  have hS : Tryz.prog.underlying 27 = some (.struct (Tryz.prog.fieldsOf 27)) := by kernel_rfl
  have hp : Tryz.prog.stoodInHeld 27 = false := by kernel_rfl
  rw [run_eql_struct, show (10000 : Nat) = 9999 + 1 from rfl, run_equalIn_agg w 9999 27 _ _ hS hp]
  simp only [Program.fieldsOf, Tryz.underlying27]
  go_simp
  by_cases h1 : x.fst = y.fst <;> by_cases h2 : x.snd = y.snd <;> simp [h1, h2, Prod.ext_iff]
theorem neP_run (x y : Int × Int) (w : World) : (binOp .neq 27 (.agg #[.int .i64 x.1, .int .i64 x.2]) (.agg #[.int .i64 y.1, .int .i64 y.2])).run Tryz.prog w = .ok (.bool (!decide (x = y))) w := by
  have hS : Tryz.prog.underlying 27 = some (.struct (Tryz.prog.fieldsOf 27)) := by kernel_rfl
  have hp : Tryz.prog.stoodInHeld 27 = false := by kernel_rfl
  rw [run_neq_struct, show (10000 : Nat) = 9999 + 1 from rfl, run_equalIn_agg w 9999 27 _ _ hS hp]
  simp only [Program.fieldsOf, Tryz.underlying27]
  go_simp
  by_cases h1 : x.fst = y.fst <;> by_cases h2 : x.snd = y.snd <;> simp [h1, h2, Prod.ext_iff]
def HoldsA (w : World) (b off : Nat) (d : Array (Int × Int)) : Prop :=
  ∀ j, j < d.size → w.cell? ⟨b, off + j * 2, none⟩ = some (.int .i64 (d[j]!).1) ∧ w.cell? ⟨b, off + j * 2 + 1, none⟩ = some (.int .i64 (d[j]!).2) ∧ w.frozen? ⟨b, off + j * 2, none⟩ = false ∧ w.frozen? ⟨b, off + j * 2 + 1, none⟩ = false
theorem HoldsA.set {w : World} {b off : Nat} {d : Array (Int × Int)} (h : HoldsA w b off d) (i : Nat) (hi : i < d.size) (p : Int × Int) :
    HoldsA ((w.setCell ⟨b, off + i * 2, none⟩ (.int .i64 p.1)).setCell ⟨b, off + i * 2 + 1, none⟩ (.int .i64 p.2)) b off (d.setIfInBounds i p) := by
  intro j hj
  have hj' : j < d.size := by simpa using hj
  obtain ⟨c0, c1, f0, f1⟩ := h j hj'
  rw [World.frozen?_setCell, World.frozen?_setCell, World.frozen?_setCell, World.frozen?_setCell]
  by_cases e : j = i
  · subst e
    rw [getElem!_set_same d j p hj']
    refine ⟨?_, ?_, f0, f1⟩
    · rw [World.cell?_setCell_other _ _ _ _ (by simp), World.cell?_setCell_same _ _ _ c0]
    · rw [World.cell?_setCell_same (u := .int .i64 (d[j]!).2) _ _ _ (by rw [World.cell?_setCell_other _ _ _ _ (by simp)]; exact c1)]
  · rw [getElem!_set_other d i j p e]
    refine ⟨?_, ?_, f0, f1⟩
    · rw [World.cell?_setCell_other _ _ _ _ (by intro h; have := congrArg Addr.off h; simp only at this; omega), World.cell?_setCell_other _ _ _ _ (by intro h; have := congrArg Addr.off h; simp only at this; omega)]; exact c0
    · rw [World.cell?_setCell_other _ _ _ _ (by intro h; have := congrArg Addr.off h; simp only at this; omega), World.cell?_setCell_other _ _ _ _ (by intro h; have := congrArg Addr.off h; simp only at this; omega)]; exact c1
structure Only (b : Nat) (w w' : World) : Prop where
  os : w'.os = w.os
  tape : w'.tape = w.tape
  output : w'.output = w.output
  size : w'.heap.size = w.heap.size
  block : ∀ k, k ≠ b → w'.heap[k]? = w.heap[k]?
theorem Only.refl (b : Nat) (w : World) : Only b w w := ⟨rfl, rfl, rfl, rfl, fun _ _ => rfl⟩
theorem Only.drew {b : Nat} {w w' : World} (h : Only b w w') : Only b w w'.drew := ⟨h.os, h.tape, h.output, h.size, h.block⟩
theorem Only.setCell {b : Nat} {w w' : World} (h : Only b w w') (o : Nat) (v : Value) : Only b w (w'.setCell ⟨b, o, none⟩ v) :=
  ⟨h.os, h.tape, h.output, by simpa [World.setCell] using h.size, fun k hk => by rw [Below.heap_setCell _ _ _ _ hk]; exact h.block k hk⟩
theorem Only.setCells {b : Nat} {w w' : World} (h : Only b w w') (o : Nat) (vs : List Value) : Only b w (w'.setCells b o vs) := by
  induction vs generalizing o w' with
  | nil => exact h
  | cons v r ih => exact ih (h.setCell o v) (o + 1)
theorem Only.below {b B : Nat} {w w' : World} (h : Only b w w') (hB : B ≤ b) : Below B w w' := ⟨h.os, h.tape, h.output, by rw [h.size]; exact Nat.le_refl _, fun k hk => h.block k (by omega)⟩
end Go.Proofs.YtofbcngcblleaabGreat

namespace Go.Proofs.YtofbcngcblleaabGreat
open Go.Lib Go.Sort
theorem ahead_irrefl (p : Int × Int) : ¬ ahead p p := by unfold ahead; omega
theorem ahead_asymm {p q : Int × Int} (h : ahead p q) : ¬ ahead q p := by unfold ahead at *; omega
theorem ahead_or (p q : Int × Int) : ahead p q ∨ p = q ∨ ahead q p := by
  obtain ⟨a, b⟩ := p
  obtain ⟨c, d⟩ := q
  simp only [ahead, Prod.mk.injEq]
  omega
def Tidy (l : List (Int × Int)) : Prop := l.Pairwise ahead
theorem tidy_unique : ∀ (l m : List (Int × Int)), Tidy l → Tidy m → (∀ p, p ∈ l ↔ p ∈ m) → l = m
  | [], [], _, _, _ => rfl
  | [], q :: m, _, _, h => absurd ((h q).2 (by simp)) (by simp)
  | p :: l, [], _, _, h => absurd ((h p).1 (by simp)) (by simp)
  | p :: l, q :: m, hl, hm, h => by
    have h1 := List.pairwise_cons.1 hl
    have h2 := List.pairwise_cons.1 hm
    have e : p = q := by
      rcases List.mem_cons.1 ((h p).1 (by simp)) with e | e
      · exact e
      · rcases List.mem_cons.1 ((h q).2 (by simp)) with e' | e'
        · exact e'.symm
        · exact absurd (h2.1 p e) (ahead_asymm (h1.1 q e'))
    subst e
    congr 1
    refine tidy_unique l m h1.2 h2.2 fun r => ?_
    constructor
    · intro hr
      rcases List.mem_cons.1 ((h r).1 (by simp [hr])) with e | e
      · subst e; exact absurd (h1.1 r hr) (ahead_irrefl r)
      · exact e
    · intro hr
      rcases List.mem_cons.1 ((h r).2 (by simp [hr])) with e | e
      · subst e; exact absurd (h2.1 r hr) (ahead_irrefl r)
      · exact e
theorem compact_tidy (d : Array (Int × Int)) (n : Nat) (hs : ∀ i j, i < j → j < n → ¬ ahead d[j]! d[i]!) :
    ∀ m, m ≤ n → Tidy (compactUpTo d m) ∧ ∀ p, p ∈ compactUpTo d m ↔ ∃ j, j < m ∧ d[j]! = p := by
  intro m
  induction m with
  | zero => intro _; exact ⟨List.Pairwise.nil, fun p => by simp [compactUpTo]⟩
  | succ m ih =>
    intro hm
    obtain ⟨h1, h2⟩ := ih (by omega)
    rw [compactUpTo_succ]
    by_cases hk : keeps d m = true
    · rw [if_pos hk]
      have hk' : m = 0 ∨ d[m]! ≠ d[m - 1]! := by simpa [keeps] using hk
      constructor
      · refine List.pairwise_append.2 ⟨h1, List.pairwise_singleton _ _, fun p hp q hq => ?_⟩
        rw [List.mem_singleton] at hq
        subst hq
        obtain ⟨j, hj, rfl⟩ := (h2 p).1 hp
        have a := hs j m hj (by omega)
        rcases ahead_or d[j]! d[m]! with h | h | h
        · exact h
        · rcases hk' with h0 | h0
          · omega
          · exfalso
            by_cases e : j = m - 1
            · subst e; exact h0 h.symm
            · have b := hs j (m - 1) (by omega) (by omega)
              have c := hs (m - 1) m (by omega) (by omega)
              rw [h] at b
              rcases ahead_or d[m]! d[m - 1]! with x | x | x
              · exact c x
              · exact h0 x
              · exact b x
        · exact absurd h a
      · intro p
        rw [List.mem_append, h2 p, List.mem_singleton]
        constructor
        · rintro (⟨j, hj, e⟩ | e)
          · exact ⟨j, by omega, e⟩
          · exact ⟨m, by omega, e.symm⟩
        · rintro ⟨j, hj, e⟩
          by_cases h : j = m
          · subst h; exact Or.inr e.symm
          · exact Or.inl ⟨j, by omega, e⟩
    · rw [if_neg hk, List.append_nil]
      refine ⟨h1, fun p => ?_⟩
      have hk' : ¬ (m = 0 ∨ d[m]! ≠ d[m - 1]!) := by simpa [keeps] using hk
      rw [h2 p]
      constructor
      · rintro ⟨j, hj, e⟩; exact ⟨j, by omega, e⟩
      · rintro ⟨j, hj, e⟩
        by_cases h : j = m
        · subst h
          refine ⟨j - 1, by omega, ?_⟩
          rw [← e]
          exact (Classical.byContradiction fun c => hk' (Or.inr fun x => c x.symm))
        · exact ⟨j, by omega, e⟩
end Go.Proofs.YtofbcngcblleaabGreat
