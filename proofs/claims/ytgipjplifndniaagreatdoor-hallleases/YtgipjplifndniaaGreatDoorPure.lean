/- Lists of cells in order, each once: what is plain mathematics of them. -/
import Derived.Shelf.SlSortCmp.WholeK
import Derived.Shelf.SlicesQ.IndexFunc
import Derived.Shelf.SlicesE.Clone
import Derived.Test.YtgipjplifndniaaGreatDoorProg
import Derived.Test.YtgipjplifndniaaGreatDoorBoxLaw
import Derived.Deep.RegionHeld3
import Derived.Deep.DrawnRows
import Derived.Lib.SlicesCompact
import Derived.Lib.SliceRun
namespace Go.Proofs
open Go.Shelf
def Tryz.sortCells_ren : Go.Shelf.Ren := ⟨fun | 6 => 20 | 15 => 43 | 14 => 42 | 28 => 76 | 29 => 77 | 20 => 68 | 21 => 69 | 22 => 70 | 23 => 71 | 24 => 72 | 25 => 73 | 26 => 74 | 27 => 75 | 46 => 117 | 47 => 118 | 48 => 119 | 49 => 120 | 50 => 121 | 57 => 142 | n => n, fun | 22 => 22 | 24 => 50 | 25 => 64 | 3 => 3 | 39 => 91 | 0 => 0 | 53 => 135 | 55 => 98 | 4 => 4 | 46 => 129 | 45 => 128 | 50 => 93 | 5 => 5 | 9 => 9 | 66 => 182 | 70 => 186 | 76 => 212 | 77 => 201 | n => n, fun | n => n⟩
theorem Tryz.sortCells : Go.Proofs.SlLaysF0.n6 Tryz.prog Tryz.sortCells_ren := {
  mixed := by kernel_rfl
  f6 := ⟨Tryz.f20.name, by decide, Tryz.func20.trans (congrArg some (by kernel_rfl))⟩
  f14 := ⟨Tryz.f42.name, by decide, Tryz.func42.trans (congrArg some (by kernel_rfl))⟩
  f15 := Tryz.func43.trans (congrArg some (by kernel_rfl))
  f20 := ⟨Tryz.f68.name, by decide, Tryz.func68.trans (congrArg some (by kernel_rfl))⟩
  f21 := ⟨Tryz.f69.name, by decide, Tryz.func69.trans (congrArg some (by kernel_rfl))⟩
  f22 := ⟨Tryz.f70.name, by decide, Tryz.func70.trans (congrArg some (by kernel_rfl))⟩
  f23 := ⟨Tryz.f71.name, by decide, Tryz.func71.trans (congrArg some (by kernel_rfl))⟩
  f24 := ⟨Tryz.f72.name, by decide, Tryz.func72.trans (congrArg some (by kernel_rfl))⟩
  f25 := ⟨Tryz.f73.name, by decide, Tryz.func73.trans (congrArg some (by kernel_rfl))⟩
  f26 := ⟨Tryz.f74.name, by decide, Tryz.func74.trans (congrArg some (by kernel_rfl))⟩
  f27 := ⟨Tryz.f75.name, by decide, Tryz.func75.trans (congrArg some (by kernel_rfl))⟩
  f28 := Tryz.func76.trans (congrArg some (by kernel_rfl))
  f29 := Tryz.func77.trans (congrArg some (by kernel_rfl))
  f46 := ⟨Tryz.f117.name, by decide, Tryz.func117.trans (congrArg some (by kernel_rfl))⟩
  f47 := Tryz.func118.trans (congrArg some (by kernel_rfl))
  f48 := Tryz.func119.trans (congrArg some (by kernel_rfl))
  f49 := ⟨Tryz.f120.name, by decide, Tryz.func120.trans (congrArg some (by kernel_rfl))⟩
  f50 := ⟨Tryz.f121.name, by decide, Tryz.func121.trans (congrArg some (by kernel_rfl))⟩
  f57 := ⟨Tryz.f142.name, by decide, Tryz.func142.trans (congrArg some (by kernel_rfl))⟩
  t0 := Tryz.underlying0
  a0 := Tryz.isAgg0
  z0 := Tryz.sizeOf0
  v0 := Tryz.zeroValue0
  t3 := Tryz.underlying3
  a3 := Tryz.isAgg3
  z3 := Tryz.sizeOf3
  v3 := Tryz.zeroValue3
  t4 := Tryz.underlying4
  a4 := Tryz.isAgg4
  z4 := Tryz.sizeOf4
  v4 := Tryz.zeroValue4
  t5 := Tryz.underlying5
  a5 := Tryz.isAgg5
  z5 := Tryz.sizeOf5
  v5 := Tryz.zeroValue5
  t9 := Tryz.underlying9
  a9 := Tryz.isAgg9
  z9 := Tryz.sizeOf9
  v9 := Tryz.zeroValue9
  t22 := Tryz.underlying22
  a22 := Tryz.isAgg22
  z22 := Tryz.sizeOf22
  v22 := Tryz.zeroValue22
  t25 := Tryz.underlying64
  a25 := Tryz.isAgg64
  z25 := Tryz.sizeOf64
  v25 := Tryz.zeroValue64
  t39 := Tryz.underlying91
  a39 := Tryz.isAgg91
  z39 := Tryz.sizeOf91
  v39 := Tryz.zeroValue91
  t45 := Tryz.underlying128
  a45 := Tryz.isAgg128
  z45 := Tryz.sizeOf128
  v45 := Tryz.zeroValue128
  t46 := Tryz.underlying129
  a46 := Tryz.isAgg129
  z46 := Tryz.sizeOf129
  v46 := Tryz.zeroValue129
  t50 := Tryz.underlying93
  a50 := Tryz.isAgg93
  z50 := Tryz.sizeOf93
  v50 := Tryz.zeroValue93
  t53 := Tryz.underlying135
  a53 := Tryz.isAgg135
  z53 := Tryz.sizeOf135
  v53 := Tryz.zeroValue135
  t55 := Tryz.underlying98
  a55 := Tryz.isAgg98
  z55 := Tryz.sizeOf98
  v55 := Tryz.zeroValue98
  t66 := Tryz.underlying182
  a66 := Tryz.isAgg182
  z66 := Tryz.sizeOf182
  v66 := Tryz.zeroValue182
  t70 := Tryz.underlying186
  a70 := Tryz.isAgg186
  z70 := Tryz.sizeOf186
  v70 := Tryz.zeroValue186
  t76 := Tryz.underlying212
  a76 := Tryz.isAgg212
  z76 := Tryz.sizeOf212
  v76 := Tryz.zeroValue212
  t77 := Tryz.underlying201
  a77 := Tryz.isAgg201
  z77 := Tryz.sizeOf201
  v77 := Tryz.zeroValue201 }
def Tryz.containsCells_ren : Go.Shelf.Ren := ⟨fun | 8 => 17 | 6 => 40 | n => n, fun | 22 => 22 | 23 => 50 | 25 => 62 | 4 => 4 | 3 => 3 | 0 => 0 | n => n, fun | n => n⟩
theorem Tryz.containsCells : Go.Proofs.SlLaysH0.n8 Tryz.prog Tryz.containsCells_ren := {
  mixed := by kernel_rfl
  f6 := ⟨Tryz.f40.name, by decide, Tryz.func40.trans (congrArg some (by kernel_rfl))⟩
  f8 := ⟨Tryz.f17.name, by decide, Tryz.func17.trans (congrArg some (by kernel_rfl))⟩
  t0 := Tryz.underlying0
  a0 := Tryz.isAgg0
  z0 := Tryz.sizeOf0
  v0 := Tryz.zeroValue0
  t3 := Tryz.underlying3
  a3 := Tryz.isAgg3
  z3 := Tryz.sizeOf3
  v3 := Tryz.zeroValue3
  t4 := Tryz.underlying4
  a4 := Tryz.isAgg4
  z4 := Tryz.sizeOf4
  v4 := Tryz.zeroValue4
  t22 := Tryz.underlying22
  a22 := Tryz.isAgg22
  z22 := Tryz.sizeOf22
  v22 := Tryz.zeroValue22
  t25 := Tryz.underlying62
  a25 := Tryz.isAgg62
  z25 := Tryz.sizeOf62
  v25 := Tryz.zeroValue62 }
def Tryz.cloneCells_ren : Go.Shelf.Ren := ⟨fun | 41 => 19 | n => n, fun | 22 => 22 | 23 => 50 | 4 => 4 | n => n, fun | n => n⟩
theorem Tryz.cloneCells : Go.Proofs.SlLaysE0.n41 Tryz.prog Tryz.cloneCells_ren := {
  mixed := by kernel_rfl
  f41 := ⟨Tryz.f19.name, by decide, Tryz.func19.trans (congrArg some (by kernel_rfl))⟩
  t4 := Tryz.underlying4
  a4 := Tryz.isAgg4
  z4 := Tryz.sizeOf4
  v4 := Tryz.zeroValue4
  t22 := Tryz.underlying22
  a22 := Tryz.isAgg22
  z22 := Tryz.sizeOf22
  v22 := Tryz.zeroValue22 }
end Go.Proofs

namespace Go.Proofs.YtgipjplifndniaaGreatDoor
open Go.RowKit

attribute [local go_sem ↓] Go.wp_at_zero Go.wp_at_succ

def farI (n : Int) : Bool := decide (n ≤ -1099511627776) || decide (1099511627776 ≤ n)
def farP (p : Int × Int) : Bool := farI p.1 || farI p.2
def encPt (p : Int × Int) : List Value := [.int .i64 p.1, .int .i64 p.2]
def cmpI (x y : Int) : Int := if x < y then -1 else if y < x then 1 else 0
def orI (p q : Int) : Int := if p ≠ 0 then p else q
def cmpP (p q : Int × Int) : Int := orI (cmpI p.2 q.2) (cmpI p.1 q.1)

set_option maxHeartbeats 400000 in
theorem nearer_any (n : Int) (w : World) : Calls Tryz.prog 41 #[.int .i64 n, .int .i64 1099511627776] w fun e w' => e = .returned (.bool (!farI n)) ∧ w' = w := by
  by_cases h1 : -1099511627776 < n
  · have hd : decide (-1099511627776 < n) = true := by simpa using h1
    go_enter Tryz.func41, Tryz.ntmps41
    go_wp2
    go_ret
    refine ⟨?_, rfl⟩
    congr 2
    simp only [farI]
    by_cases h2 : n < 1099511627776
    · simp [h2]; omega
    · simp [h2]; omega
  · have hd : decide (-1099511627776 < n) = false := by simpa using h1
    go_enter Tryz.func41, Tryz.ntmps41
    go_wp2
    go_ret
    refine ⟨?_, rfl⟩
    congr 2
    simp only [farI]
    simp; omega

set_option maxHeartbeats 400000 in
theorem outside_any (p : Int × Int) (w : World) : Calls Tryz.prog 18 #[.agg #[.int .i64 p.1, .int .i64 p.2]] w fun e w' => e = .returned (.bool (farP p)) ∧ w' = w.alloc (.cells #[.int .i64 p.1, .int .i64 p.2] 50) := by
  obtain ⟨x, y⟩ := p
  cases hx : farI x
  · go_enter Tryz.func18, Tryz.ntmps18
    go_wp2_with (first | (go_at_call_of 41 x; refine (nearer_any x _).mono ?_; rw [hx]; rintro e w' ⟨rfl, rfl⟩) | (go_at_call_of 41 y; refine (nearer_any y _).mono ?_; rintro e w' ⟨rfl, rfl⟩))
    go_ret
    refine ⟨?_, rfl⟩
    simp [farP, hx]
  · go_enter Tryz.func18, Tryz.ntmps18
    go_wp2_with (first | (go_at_call_of 41 x; refine (nearer_any x _).mono ?_; rw [hx]; rintro e w' ⟨rfl, rfl⟩))
    go_ret
    refine ⟨?_, rfl⟩
    simp [farP, hx]

set_option maxHeartbeats 400000 in
theorem compare_any (x y : Int) (w : World) : Calls Tryz.prog 45 #[.int .i64 x, .int .i64 y] w fun e w' => e = .returned (.int .i64 (cmpI x y)) ∧ w' = w := by
  go_enter Tryz.func45, Tryz.ntmps45
  go_wp2
  · go_ret
    exact ⟨by simp_all [cmpI], rfl⟩
  · go_ret
    refine ⟨?_, rfl⟩
    unfold cmpI
    rw [if_neg (by omega), if_pos (by omega)]
    rfl
  · go_ret
    refine ⟨?_, rfl⟩
    unfold cmpI
    rw [if_neg (by omega), if_neg (by omega)]
    rfl

set_option maxHeartbeats 400000 in
theorem or_any (b : Nat) (p q : Int) (w : World) (h0 : w.cell? ⟨b, 0, none⟩ = some (.int .i64 p)) (h1 : w.cell? ⟨b, 1, none⟩ = some (.int .i64 q)) :
    Calls Tryz.prog 44 #[.slice (some ⟨b, 0, none⟩) 2 2] w fun e w' => e = .returned (.int .i64 (orI p q)) ∧ w' = w := by
  unfold orI
  by_cases hp : p = 0
  · subst hp
    by_cases hq : q = 0
    · subst hq
      go_enter Tryz.func44, Tryz.ntmps44
      go_wp2
      refine wp_loop_rounds 3 ?_
      rw [rounds_succ]
      go_wp2
      rw [rounds_succ]
      go_wp2
      rw [rounds_succ]
      go_wp2
      go_ret
      exact ⟨rfl, rfl⟩
    · have hq' : (q != 0) = true := by simpa using hq
      go_enter Tryz.func44, Tryz.ntmps44
      go_wp2
      refine wp_loop_rounds 2 ?_
      rw [rounds_succ]
      go_wp2
      rw [rounds_succ]
      go_wp2
      go_ret
      exact ⟨by simp, rfl⟩
  · have hp' : (p != 0) = true := by simpa using hp
    go_enter Tryz.func44, Tryz.ntmps44
    go_wp2
    refine wp_loop_rounds 1 ?_
    rw [rounds_succ]
    go_wp2
    go_ret
    exact ⟨by simp, rfl⟩

theorem three_grow (w : World) (A B C : Obj) : (((w.alloc A).alloc B).alloc C).drew = Sort.grow (w.drewN 1) (#[A] ++ #[B] ++ #[C]) := by
  rw [Sort.alloc_eq_grow, Sort.alloc_eq_grow, Sort.alloc_eq_grow, Sort.grow_grow, Sort.grow_grow]
  rfl

set_option maxHeartbeats 1000000 in
theorem order_any (p q : Int × Int) (w : World) : Calls Tryz.prog 21 #[.agg #[.int .i64 p.1, .int .i64 p.2], .agg #[.int .i64 q.1, .int .i64 q.2]] w fun e w' => e = .returned (.int .i64 (cmpP p q)) ∧ ∃ n os', w' = Sort.grow (w.drewN n) os' := by
  obtain ⟨px, py⟩ := p
  obtain ⟨qx, qy⟩ := q
  go_enter Tryz.func21, Tryz.ntmps21
  go_wp2
  go_region_held3 (fun w' => w'.cell? ⟨w.heap.size, 0, none⟩ = some (.int .i64 px) ∧ w'.cell? ⟨w.heap.size, 1, none⟩ = some (.int .i64 py) ∧ w'.cell? ⟨w.heap.size + 1, 0, none⟩ = some (.int .i64 qx) ∧ w'.cell? ⟨w.heap.size + 1, 1, none⟩ = some (.int .i64 qy)) (go_keep)
    (first | (go_at_call 45; refine (compare_any _ _ _).mono ?_; rintro e w' ⟨rfl, rfl⟩) | (go_at_call 44; refine (or_any _ (cmpI py qy) (cmpI px qx) _ (by simp; exact (World.cell?_alloc_at _ _ _ _ (by simp)).trans rfl) (by simp; exact (World.cell?_alloc_at _ _ _ _ (by simp)).trans rfl)).mono ?_; rintro e w' ⟨rfl, rfl⟩))
  all_goals
    go_wp2
    go_ret
    exact ⟨rfl, 1, _, three_grow _ _ _ _⟩

theorem outside_pred (w : World) : PredBelow Tryz.prog 18 #[] (fun x => .agg (encPt x).toArray) farP w := fun W x hb =>
  (outside_any x W).mono fun e w' ⟨he, hw⟩ => ⟨he, by rw [hw]; exact hb.alloc hb.size _⟩

theorem order_lays (blk off size : Nat) (w : World) : CmpLays Tryz.prog 21 #[] encPt 2 cmpP blk off size w :=
  fun _ _ _ _ x y => order_any x y _

def ahead (p q : Int × Int) : Prop := p.2 < q.2 ∨ p.2 = q.2 ∧ p.1 < q.1
theorem cmpP_neg (p q : Int × Int) : cmpP p q < 0 ↔ ahead p q := by
  unfold cmpP orI cmpI ahead
  split <;> split <;> (try split) <;> (try split) <;> omega
theorem cmpP_lt (p q : Int × Int) : ltOf cmpP p q = true ↔ ahead p q := by
  unfold ltOf
  rw [decide_eq_true_eq]
  exact cmpP_neg p q
theorem cmpP_nlt (p q : Int × Int) : ltOf cmpP p q = false ↔ ¬ ahead p q := by
  rw [← cmpP_lt, Bool.not_eq_true]
theorem swoP : Sort.SWO (ltOf cmpP) := {
  irrefl := fun x => by rw [cmpP_nlt]; unfold ahead; omega
  trans := fun x y z h1 h2 => by
    rw [cmpP_lt] at *
    unfold ahead at *
    omega
  ntrans := fun x y z h1 h2 => by
    rw [cmpP_nlt] at *
    unfold ahead at *
    omega }
end Go.Proofs.YtgipjplifndniaaGreatDoor

namespace Go.Proofs.YtgipjplifndniaaGreatDoor
open Go.RowKit Go.Lib Go.Sort

theorem eqP_run (x y : Int × Int) (w : World) : (binOp .eql 50 (.agg #[.int .i64 x.1, .int .i64 x.2]) (.agg #[.int .i64 y.1, .int .i64 y.2])).run Tryz.prog w = .ok (.bool (decide (x = y))) w := by
  have hS : Tryz.prog.underlying 50 = some (.struct (Tryz.prog.fieldsOf 50)) := by kernel_rfl
  have hp : Tryz.prog.stoodInHeld 50 = false := by kernel_rfl
  rw [run_eql_struct, show (10000 : Nat) = 9999 + 1 from rfl, run_equalIn_agg w 9999 50 _ _ hS hp]
  simp only [Program.fieldsOf, Tryz.underlying50]
  go_simp
  by_cases h1 : x.fst = y.fst <;> by_cases h2 : x.snd = y.snd <;> simp [h1, h2, Prod.ext_iff]
theorem neP_run (x y : Int × Int) (w : World) : (binOp .neq 50 (.agg #[.int .i64 x.1, .int .i64 x.2]) (.agg #[.int .i64 y.1, .int .i64 y.2])).run Tryz.prog w = .ok (.bool (!decide (x = y))) w := by
  have hS : Tryz.prog.underlying 50 = some (.struct (Tryz.prog.fieldsOf 50)) := by kernel_rfl
  have hp : Tryz.prog.stoodInHeld 50 = false := by kernel_rfl
  rw [run_neq_struct, show (10000 : Nat) = 9999 + 1 from rfl, run_equalIn_agg w 9999 50 _ _ hS hp]
  simp only [Program.fieldsOf, Tryz.underlying50]
  go_simp
  by_cases h1 : x.fst = y.fst <;> by_cases h2 : x.snd = y.snd <;> simp [h1, h2, Prod.ext_iff]

def HoldsA (w : World) (b off : Nat) (d : Array (Int × Int)) : Prop :=
  ∀ j, j < d.size → w.cell? ⟨b, off + j * 2, none⟩ = some (.int .i64 (d[j]!).1) ∧ w.cell? ⟨b, off + j * 2 + 1, none⟩ = some (.int .i64 (d[j]!).2) ∧ w.frozen? ⟨b, off + j * 2, none⟩ = false ∧ w.frozen? ⟨b, off + j * 2 + 1, none⟩ = false

theorem HoldsA.set {w : World} {b off : Nat} {d : Array (Int × Int)} (h : HoldsA w b off d) (i : Nat) (hi : i < d.size) (p : Int × Int) :
    HoldsA ((w.setCell ⟨b, off + i * 2, none⟩ (.int .i64 p.1)).setCell ⟨b, off + i * 2 + 1, none⟩ (.int .i64 p.2)) b off (d.setIfInBounds i p) := by
  intro j hj
  have hj' : j < d.size := by simpa using hj
  obtain ⟨c0, c1, f0, f1⟩ := h j hj'
  rw [World.frozen?_setCell, World.frozen?_setCell, World.frozen?_setCell, World.frozen?_setCell]
  by_cases e : j = i
  · subst e
    rw [getElem!_set_same d j p hj']
    refine ⟨?_, ?_, f0, f1⟩
    · rw [World.cell?_setCell_other _ _ _ _ (by simp), World.cell?_setCell_same _ _ _ c0]
    · rw [World.cell?_setCell_same (u := .int .i64 (d[j]!).2) _ _ _ (by rw [World.cell?_setCell_other _ _ _ _ (by simp)]; exact c1)]
  · rw [getElem!_set_other d i j p e]
    refine ⟨?_, ?_, f0, f1⟩
    · rw [World.cell?_setCell_other _ _ _ _ (by intro h; have := congrArg Addr.off h; simp only at this; omega), World.cell?_setCell_other _ _ _ _ (by intro h; have := congrArg Addr.off h; simp only at this; omega)]; exact c0
    · rw [World.cell?_setCell_other _ _ _ _ (by intro h; have := congrArg Addr.off h; simp only at this; omega), World.cell?_setCell_other _ _ _ _ (by intro h; have := congrArg Addr.off h; simp only at this; omega)]; exact c1

structure Only (b : Nat) (w w' : World) : Prop where
  os : w'.os = w.os
  tape : w'.tape = w.tape
  output : w'.output = w.output
  size : w'.heap.size = w.heap.size
  block : ∀ k, k ≠ b → w'.heap[k]? = w.heap[k]?
theorem Only.refl (b : Nat) (w : World) : Only b w w := ⟨rfl, rfl, rfl, rfl, fun _ _ => rfl⟩
theorem Only.drew {b : Nat} {w w' : World} (h : Only b w w') : Only b w w'.drew := ⟨h.os, h.tape, h.output, h.size, h.block⟩
theorem Only.setCell {b : Nat} {w w' : World} (h : Only b w w') (o : Nat) (v : Value) : Only b w (w'.setCell ⟨b, o, none⟩ v) :=
  ⟨h.os, h.tape, h.output, by simpa [World.setCell] using h.size, fun k hk => by rw [Below.heap_setCell _ _ _ _ hk]; exact h.block k hk⟩
theorem Only.setCells {b : Nat} {w w' : World} (h : Only b w w') (o : Nat) (vs : List Value) : Only b w (w'.setCells b o vs) := by
  induction vs generalizing o w' with
  | nil => exact h
  | cons v r ih => exact ih (h.setCell o v) (o + 1)
theorem Only.below {b B : Nat} {w w' : World} (h : Only b w w') (hB : B ≤ b) : Below B w w' := ⟨h.os, h.tape, h.output, by rw [h.size]; exact Nat.le_refl _, fun k hk => h.block k (by omega)⟩
end Go.Proofs.YtgipjplifndniaaGreatDoor

namespace Go.Proofs.YtgipjplifndniaaGreatDoor
open Go.Lib Go.Sort

theorem ahead_irrefl (p : Int × Int) : ¬ ahead p p := by unfold ahead; omega
theorem ahead_trans {p q r : Int × Int} (h : ahead p q) (k : ahead q r) : ahead p r := by unfold ahead at *; omega
theorem ahead_asymm {p q : Int × Int} (h : ahead p q) : ¬ ahead q p := by unfold ahead at *; omega
theorem ahead_or (p q : Int × Int) : ahead p q ∨ p = q ∨ ahead q p := by
  obtain ⟨a, b⟩ := p
  obtain ⟨c, d⟩ := q
  simp only [ahead, Prod.mk.injEq]
  omega

def Tidy (l : List (Int × Int)) : Prop := l.Pairwise ahead

theorem tidy_unique : ∀ (l m : List (Int × Int)), Tidy l → Tidy m → (∀ p, p ∈ l ↔ p ∈ m) → l = m
  | [], [], _, _, _ => rfl
  | [], q :: m, _, _, h => absurd ((h q).2 (by simp)) (by simp)
  | p :: l, [], _, _, h => absurd ((h p).1 (by simp)) (by simp)
  | p :: l, q :: m, hl, hm, h => by
    have h1 := List.pairwise_cons.1 hl
    have h2 := List.pairwise_cons.1 hm
    have e : p = q := by
      rcases List.mem_cons.1 ((h p).1 (by simp)) with e | e
      · exact e
      · rcases List.mem_cons.1 ((h q).2 (by simp)) with e' | e'
        · exact e'.symm
        · exact absurd (h2.1 p e) (ahead_asymm (h1.1 q e'))
    subst e
    congr 1
    refine tidy_unique l m h1.2 h2.2 fun r => ?_
    constructor
    · intro hr
      rcases List.mem_cons.1 ((h r).1 (by simp [hr])) with e | e
      · subst e; exact absurd (h1.1 r hr) (ahead_irrefl r)
      · exact e
    · intro hr
      rcases List.mem_cons.1 ((h r).2 (by simp [hr])) with e | e
      · subst e; exact absurd (h2.1 r hr) (ahead_irrefl r)
      · exact e

theorem compact_tidy (d : Array (Int × Int)) (n : Nat) (hs : ∀ i j, i < j → j < n → ¬ ahead d[j]! d[i]!) :
    ∀ m, m ≤ n → Tidy (compactUpTo d m) ∧ ∀ p, p ∈ compactUpTo d m ↔ ∃ j, j < m ∧ d[j]! = p := by
  intro m
  induction m with
  | zero => intro _; exact ⟨List.Pairwise.nil, fun p => by simp [compactUpTo]⟩
  | succ m ih =>
    intro hm
    obtain ⟨h1, h2⟩ := ih (by omega)
    rw [compactUpTo_succ]
    by_cases hk : keeps d m = true
    · rw [if_pos hk]
      have hk' : m = 0 ∨ d[m]! ≠ d[m - 1]! := by simpa [keeps] using hk
      constructor
      · refine List.pairwise_append.2 ⟨h1, List.pairwise_singleton _ _, fun p hp q hq => ?_⟩
        rw [List.mem_singleton] at hq
        subst hq
        obtain ⟨j, hj, rfl⟩ := (h2 p).1 hp
        have a := hs j m hj (by omega)
        rcases ahead_or d[j]! d[m]! with h | h | h
        · exact h
        · rcases hk' with h0 | h0
          · omega
          · exfalso
            by_cases e : j = m - 1
            · subst e; exact h0 h.symm
            · have b := hs j (m - 1) (by omega) (by omega)
              have c := hs (m - 1) m (by omega) (by omega)
              rw [h] at b
              rcases ahead_or d[m]! d[m - 1]! with x | x | x
              · exact c x
              · exact h0 x
              · exact b x
        · exact absurd h a
      · intro p
        rw [List.mem_append, h2 p, List.mem_singleton]
        constructor
        · rintro (⟨j, hj, e⟩ | e)
          · exact ⟨j, by omega, e⟩
          · exact ⟨m, by omega, e.symm⟩
        · rintro ⟨j, hj, e⟩
          by_cases h : j = m
          · subst h; exact Or.inr e.symm
          · exact Or.inl ⟨j, by omega, e⟩
    · rw [if_neg hk, List.append_nil]
      refine ⟨h1, fun p => ?_⟩
      have hk' : ¬ (m = 0 ∨ d[m]! ≠ d[m - 1]!) := by simpa [keeps] using hk
      rw [h2 p]
      constructor
      · rintro ⟨j, hj, e⟩; exact ⟨j, by omega, e⟩
      · rintro ⟨j, hj, e⟩
        by_cases h : j = m
        · subst h
          refine ⟨j - 1, by omega, ?_⟩
          rw [← e]
          exact (Classical.byContradiction fun c => hk' (Or.inr fun x => c x.symm))
        · exact ⟨j, by omega, e⟩
end Go.Proofs.YtgipjplifndniaaGreatDoor
