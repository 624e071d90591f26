/- PlaneBoxes: both Bounds answer the same box of every list. The walk of the law itself. -/
import Derived.Test.YtofbcngcblleaaaGreatFour
import Derived.ProofKit
import Derived.SizedLaws
import Derived.Deep.SlicePairs
import Derived.Shelf.SlSortCmp.WholeK
import Derived.Shelf.SlicesQ.IndexFunc
import Derived.Shelf.SlicesE.Clone
import Derived.Test.YtofbcngcblleaaaGreatProg
import Derived.Deep.RegionHeld3
import Derived.Deep.DrawnRows
import Derived.Lib.SlicesCompact
import Derived.Lib.SliceRun
import Derived.Deep.LoopGhost
import Derived.Deep.Draws
import Derived.Shelf.SlSortCmp.NoneTotal
import Derived.Deep.CutRange
import Derived.Test.YtofbcngcblleaaaGreatBoxWalk
namespace Go.Proofs.YtofbcngcblleaaaGreat
open Go.RowKit

set_option maxHeartbeats 400000 in
theorem bounds_one (b off : Nat) (x y : Int) (w : World) (hb : b < w.heap.size) (hx0 : w.cell? ⟨b, off, none⟩ = some (.int .i64 x)) (hy0 : w.cell? ⟨b, off + 1, none⟩ = some (.int .i64 y)) :
    Calls Tryz.prog 47 #[.slice (some ⟨b, off, none⟩) 1 1] w fun e w' => e = .returned (.tuple #[.agg #[.int .i64 x, .int .i64 y, .int .i64 x, .int .i64 y], .bool true]) ∧ Below w.heap.size w w' := by
  have hne : b ≠ w.heap.size := by omega
  go_enter Tryz.func47, Tryz.ntmps47
  go_wp2
  go_region
  go_wp2
  refine wp_loop_rounds 1 ?_
  rw [rounds_succ]
  go_wp2
  refine bodyPost_ret (v := .tuple #[.agg #[.int .i64 x, .int .i64 y, .int .i64 x, .int .i64 y], .bool true]) ?_ rfl ⟨rfl, ?_⟩
  · simp [results, Tryz.results47, go_sem]
  · exact (((Below.refl _ _).alloc (Nat.le_refl _) _).alloc (by simp) _).drew

set_option maxHeartbeats 400000 in
theorem bounds_none (a : Option Addr) (c : Nat) (w : World) :
    Calls Tryz.prog 47 #[.slice a 0 c] w fun e w' => e = .returned (.tuple #[.agg #[.int .i64 0, .int .i64 0, .int .i64 0, .int .i64 0], .bool false]) ∧ Below w.heap.size w w' := by
  go_enter Tryz.func47, Tryz.ntmps47
  go_wp2
  refine bodyPost_ret (v := .tuple #[.agg #[.int .i64 0, .int .i64 0, .int .i64 0, .int .i64 0], .bool false]) ?_ rfl ⟨rfl, ?_⟩
  · simp [results, Tryz.results47, go_sem]
  · exact (Below.refl _ _).alloc (Nat.le_refl _) _

theorem Tryz.info52 : (Tryz.prog.info? 52).map (fun i => (i.zero, i.size, i.bytes)) = some (some (.agg #[.int .i64 0, .int .i64 0]), 2, 16) := by kernel_rfl

theorem addP (b off i : Nat) : (⟨b, off, none⟩ : Addr).add i = ⟨b, off + i, none⟩ := by unfold Addr.add; split <;> simp_all

/-- the cells of n pairs of numbers, in a row -/
def pairCells (X Y : Nat → Int) (n : Nat) : List Value := (List.range (n * 2)).map fun i => if i % 2 = 0 then .int .i64 (X (i / 2)) else .int .i64 (Y (i / 2))
theorem pairCells_length (X Y : Nat → Int) (n : Nat) : (pairCells X Y n).length = n * 2 := by simp [pairCells]
theorem pairCells_one (X Y : Nat → Int) (n : Nat) (u : Value) (h : u ∈ pairCells X Y n) : u.oneCell' = true := by
  simp only [pairCells, List.mem_map, List.mem_range] at h
  obtain ⟨i, _, rfl⟩ := h
  split <;> rfl
theorem pairCells_at {w : World} {b off n : Nat} {X Y : Nat → Int} (hp : Pairs w b off n X Y) (j : Nat) (u : Value) (h : (pairCells X Y n)[j]? = some u) : w.cell? ((⟨b, off, none⟩ : Addr).add j) = some u := by
  simp only [pairCells, List.getElem?_map, Option.map_eq_some_iff] at h
  obtain ⟨i, hi, rfl⟩ := h
  have hj : j < n * 2 := by
    have := (List.getElem?_eq_some_iff.1 hi).1
    simpa using this
  rw [List.getElem?_range hj] at hi
  simp only [Option.some.injEq] at hi
  subst hi
  obtain ⟨h0, h1⟩ := hp (j / 2) (by omega)
  rw [addP]
  by_cases hm : j % 2 = 0
  · rw [if_pos hm, ← h0]; congr 2; omega
  · rw [if_neg hm, ← h1]; congr 2; omega
theorem pairs_of {w : World} {g n : Nat} {X Y : Nat → Int} (h : ∀ j u, (pairCells X Y n)[j]? = some u → w.cell? ((⟨g, 0, none⟩ : Addr).add j) = some u) : Pairs w g 0 n X Y := by
  intro j hj
  have h0 := h (j * 2) (.int .i64 (X j)) (by simp [pairCells, List.getElem?_range (show j * 2 < n * 2 by omega)])
  have h1 := h (j * 2 + 1) (.int .i64 (Y j)) (by
    rw [pairCells, List.getElem?_map, List.getElem?_range (show j * 2 + 1 < n * 2 by omega)]
    simp only [Option.map_some, Option.some.injEq]
    rw [if_neg (by omega), show (j * 2 + 1) / 2 = j by omega])
  rw [addP] at h0 h1
  exact ⟨h0, by rw [← h1]; congr 2⟩

end Go.Proofs.YtofbcngcblleaaaGreat

namespace Go.Proofs.YtofbcngcblleaaaGreat
open Go.ChangeShapes Go.WideShapes Go.ChangeAt Go.RowKit Go.Deep

theorem Tryz.laidOut : laidOutB Tryz.prog = true := by kernel_rfl
theorem Tryz.cells3 : Tryz.prog.cellsOf 3 = 1 := by kernel_rfl
/-- a slice's value over n pairs of numbers -/
def IsRow (w : World) (v : Value) (n : Nat) (X Y : Nat → Int) : Prop :=
  ∃ a c, v = .slice a n c ∧ n ≤ c ∧ c ≤ maxLen ∧ (a = none → c = 0) ∧ (n = 0 ∨ ∃ b off, a = some ⟨b, off, none⟩ ∧ b < w.heap.size ∧ Pairs w b off n X Y)

theorem IsRow.nil (w : World) (X Y : Nat → Int) : IsRow w (.slice none 0 0) 0 X Y := ⟨none, 0, rfl, Nat.le_refl _, Nat.zero_le _, fun _ => rfl, Or.inl rfl⟩

/-- within int's bounds -/
def Fits (x : Int) : Prop := -9223372036854775808 ≤ x ∧ x ≤ 9223372036854775807

end Go.Proofs.YtofbcngcblleaaaGreat

namespace Go.Proofs
open Go.Shelf
def Tryz.sortCells_ren : Go.Shelf.Ren := ⟨fun | 6 => 69 | 15 => 88 | 14 => 87 | 28 => 112 | 29 => 113 | 20 => 104 | 21 => 105 | 22 => 106 | 23 => 107 | 24 => 108 | 25 => 109 | 26 => 110 | 27 => 111 | 46 => 124 | 47 => 125 | 48 => 126 | 49 => 127 | 50 => 128 | 57 => 133 | n => n, fun | 22 => 24 | 24 => 52 | 25 => 114 | 3 => 3 | 39 => 35 | 0 => 0 | 53 => 154 | 55 => 121 | 4 => 4 | 46 => 148 | 45 => 147 | 50 => 100 | 5 => 5 | 9 => 9 | 66 => 167 | 70 => 171 | 76 => 181 | 77 => 110 | n => n, fun | n => n⟩
theorem Tryz.sortCells : Go.Proofs.SlLaysF0.n6 Tryz.prog Tryz.sortCells_ren := {
  mixed := by kernel_rfl
  f6 := ⟨Tryz.f69.name, by decide, Tryz.func69.trans (congrArg some (by kernel_rfl))⟩
  f14 := ⟨Tryz.f87.name, by decide, Tryz.func87.trans (congrArg some (by kernel_rfl))⟩
  f15 := Tryz.func88.trans (congrArg some (by kernel_rfl))
  f20 := ⟨Tryz.f104.name, by decide, Tryz.func104.trans (congrArg some (by kernel_rfl))⟩
  f21 := ⟨Tryz.f105.name, by decide, Tryz.func105.trans (congrArg some (by kernel_rfl))⟩
  f22 := ⟨Tryz.f106.name, by decide, Tryz.func106.trans (congrArg some (by kernel_rfl))⟩
  f23 := ⟨Tryz.f107.name, by decide, Tryz.func107.trans (congrArg some (by kernel_rfl))⟩
  f24 := ⟨Tryz.f108.name, by decide, Tryz.func108.trans (congrArg some (by kernel_rfl))⟩
  f25 := ⟨Tryz.f109.name, by decide, Tryz.func109.trans (congrArg some (by kernel_rfl))⟩
  f26 := ⟨Tryz.f110.name, by decide, Tryz.func110.trans (congrArg some (by kernel_rfl))⟩
  f27 := ⟨Tryz.f111.name, by decide, Tryz.func111.trans (congrArg some (by kernel_rfl))⟩
  f28 := Tryz.func112.trans (congrArg some (by kernel_rfl))
  f29 := Tryz.func113.trans (congrArg some (by kernel_rfl))
  f46 := ⟨Tryz.f124.name, by decide, Tryz.func124.trans (congrArg some (by kernel_rfl))⟩
  f47 := Tryz.func125.trans (congrArg some (by kernel_rfl))
  f48 := Tryz.func126.trans (congrArg some (by kernel_rfl))
  f49 := ⟨Tryz.f127.name, by decide, Tryz.func127.trans (congrArg some (by kernel_rfl))⟩
  f50 := ⟨Tryz.f128.name, by decide, Tryz.func128.trans (congrArg some (by kernel_rfl))⟩
  f57 := ⟨Tryz.f133.name, by decide, Tryz.func133.trans (congrArg some (by kernel_rfl))⟩
  t0 := Tryz.underlying0
  a0 := Tryz.isAgg0
  z0 := Tryz.sizeOf0
  v0 := Tryz.zeroValue0
  t3 := Tryz.underlying3
  a3 := Tryz.isAgg3
  z3 := Tryz.sizeOf3
  v3 := Tryz.zeroValue3
  t4 := Tryz.underlying4
  a4 := Tryz.isAgg4
  z4 := Tryz.sizeOf4
  v4 := Tryz.zeroValue4
  t5 := Tryz.underlying5
  a5 := Tryz.isAgg5
  z5 := Tryz.sizeOf5
  v5 := Tryz.zeroValue5
  t9 := Tryz.underlying9
  a9 := Tryz.isAgg9
  z9 := Tryz.sizeOf9
  v9 := Tryz.zeroValue9
  t22 := Tryz.underlying24
  a22 := Tryz.isAgg24
  z22 := Tryz.sizeOf24
  v22 := Tryz.zeroValue24
  t25 := Tryz.underlying114
  a25 := Tryz.isAgg114
  z25 := Tryz.sizeOf114
  v25 := Tryz.zeroValue114
  t39 := Tryz.underlying35
  a39 := Tryz.isAgg35
  z39 := Tryz.sizeOf35
  v39 := Tryz.zeroValue35
  t45 := Tryz.underlying147
  a45 := Tryz.isAgg147
  z45 := Tryz.sizeOf147
  v45 := Tryz.zeroValue147
  t46 := Tryz.underlying148
  a46 := Tryz.isAgg148
  z46 := Tryz.sizeOf148
  v46 := Tryz.zeroValue148
  t50 := Tryz.underlying100
  a50 := Tryz.isAgg100
  z50 := Tryz.sizeOf100
  v50 := Tryz.zeroValue100
  t53 := Tryz.underlying154
  a53 := Tryz.isAgg154
  z53 := Tryz.sizeOf154
  v53 := Tryz.zeroValue154
  t55 := Tryz.underlying121
  a55 := Tryz.isAgg121
  z55 := Tryz.sizeOf121
  v55 := Tryz.zeroValue121
  t66 := Tryz.underlying167
  a66 := Tryz.isAgg167
  z66 := Tryz.sizeOf167
  v66 := Tryz.zeroValue167
  t70 := Tryz.underlying171
  a70 := Tryz.isAgg171
  z70 := Tryz.sizeOf171
  v70 := Tryz.zeroValue171
  t76 := Tryz.underlying181
  a76 := Tryz.isAgg181
  z76 := Tryz.sizeOf181
  v76 := Tryz.zeroValue181
  t77 := Tryz.underlying110
  a77 := Tryz.isAgg110
  z77 := Tryz.sizeOf110
  v77 := Tryz.zeroValue110 }
def Tryz.containsCells_ren : Go.Shelf.Ren := ⟨fun | 8 => 52 | 6 => 79 | n => n, fun | 22 => 24 | 23 => 52 | 25 => 90 | 4 => 4 | 3 => 3 | 0 => 0 | n => n, fun | n => n⟩
theorem Tryz.containsCells : Go.Proofs.SlLaysH0.n8 Tryz.prog Tryz.containsCells_ren := {
  mixed := by kernel_rfl
  f6 := ⟨Tryz.f79.name, by decide, Tryz.func79.trans (congrArg some (by kernel_rfl))⟩
  f8 := ⟨Tryz.f52.name, by decide, Tryz.func52.trans (congrArg some (by kernel_rfl))⟩
  t0 := Tryz.underlying0
  a0 := Tryz.isAgg0
  z0 := Tryz.sizeOf0
  v0 := Tryz.zeroValue0
  t3 := Tryz.underlying3
  a3 := Tryz.isAgg3
  z3 := Tryz.sizeOf3
  v3 := Tryz.zeroValue3
  t4 := Tryz.underlying4
  a4 := Tryz.isAgg4
  z4 := Tryz.sizeOf4
  v4 := Tryz.zeroValue4
  t22 := Tryz.underlying24
  a22 := Tryz.isAgg24
  z22 := Tryz.sizeOf24
  v22 := Tryz.zeroValue24
  t25 := Tryz.underlying90
  a25 := Tryz.isAgg90
  z25 := Tryz.sizeOf90
  v25 := Tryz.zeroValue90 }
def Tryz.cloneCells_ren : Go.Shelf.Ren := ⟨fun | 41 => 68 | n => n, fun | 22 => 24 | 23 => 52 | 4 => 4 | n => n, fun | n => n⟩
theorem Tryz.cloneCells : Go.Proofs.SlLaysE0.n41 Tryz.prog Tryz.cloneCells_ren := {
  mixed := by kernel_rfl
  f41 := ⟨Tryz.f68.name, by decide, Tryz.func68.trans (congrArg some (by kernel_rfl))⟩
  t4 := Tryz.underlying4
  a4 := Tryz.isAgg4
  z4 := Tryz.sizeOf4
  v4 := Tryz.zeroValue4
  t22 := Tryz.underlying24
  a22 := Tryz.isAgg24
  z22 := Tryz.sizeOf24
  v22 := Tryz.zeroValue24 }
end Go.Proofs

namespace Go.Proofs.YtofbcngcblleaaaGreat
open Go.RowKit

attribute [local go_sem ↓] Go.wp_at_zero Go.wp_at_succ

/-- not above -bound and below bound -/
def farI (n : Int) : Bool := decide (n ≤ -1099511627776) || decide (1099511627776 ≤ n)
def farP (p : Int × Int) : Bool := farI p.1 || farI p.2
def encPt (p : Int × Int) : List Value := [.int .i64 p.1, .int .i64 p.2]
/-- cmp.Compare of two numbers -/
def cmpI (x y : Int) : Int := if x < y then -1 else if y < x then 1 else 0
/-- cmp.Or of two numbers -/
def orI (p q : Int) : Int := if p ≠ 0 then p else q
/-- plane.order of two cells -/
def cmpP (p q : Int × Int) : Int := orI (cmpI p.2 q.2) (cmpI p.1 q.1)

set_option maxHeartbeats 400000 in
theorem nearer_any (n : Int) (w : World) : Calls Tryz.prog 51 #[.int .i64 n, .int .i64 1099511627776] w fun e w' => e = .returned (.bool (!farI n)) ∧ w' = w := by
  by_cases h1 : -1099511627776 < n
  · have hd : decide (-1099511627776 < n) = true := by simpa using h1
    go_enter Tryz.func51, Tryz.ntmps51
    go_wp2
    go_ret
    refine ⟨?_, rfl⟩
    congr 2
    simp only [farI]
    by_cases h2 : n < 1099511627776
    · simp [h2]; omega
    · simp [h2]; omega
  · have hd : decide (-1099511627776 < n) = false := by simpa using h1
    go_enter Tryz.func51, Tryz.ntmps51
    go_wp2
    go_ret
    refine ⟨?_, rfl⟩
    congr 2
    simp only [farI]
    simp; omega

set_option maxHeartbeats 400000 in
theorem outside_any (p : Int × Int) (w : World) : Calls Tryz.prog 53 #[.agg #[.int .i64 p.1, .int .i64 p.2]] w fun e w' => e = .returned (.bool (farP p)) ∧ w' = w.alloc (.cells #[.int .i64 p.1, .int .i64 p.2] 52) := by
  obtain ⟨x, y⟩ := p
  cases hx : farI x
  · go_enter Tryz.func53, Tryz.ntmps53
    go_wp2_with (first | (go_at_call_of 51 x; refine (nearer_any x _).mono ?_; rw [hx]; rintro e w' ⟨rfl, rfl⟩) | (go_at_call_of 51 y; refine (nearer_any y _).mono ?_; rintro e w' ⟨rfl, rfl⟩))
    go_ret
    refine ⟨?_, rfl⟩
    simp [farP, hx]
  · go_enter Tryz.func53, Tryz.ntmps53
    go_wp2_with (first | (go_at_call_of 51 x; refine (nearer_any x _).mono ?_; rw [hx]; rintro e w' ⟨rfl, rfl⟩))
    go_ret
    refine ⟨?_, rfl⟩
    simp [farP, hx]

set_option maxHeartbeats 400000 in
theorem compare_any (x y : Int) (w : World) : Calls Tryz.prog 90 #[.int .i64 x, .int .i64 y] w fun e w' => e = .returned (.int .i64 (cmpI x y)) ∧ w' = w := by
  go_enter Tryz.func90, Tryz.ntmps90
  go_wp2
  · go_ret
    exact ⟨by simp_all [cmpI], rfl⟩
  · go_ret
    refine ⟨?_, rfl⟩
    unfold cmpI
    rw [if_neg (by omega), if_pos (by omega)]
    rfl
  · go_ret
    refine ⟨?_, rfl⟩
    unfold cmpI
    rw [if_neg (by omega), if_neg (by omega)]
    rfl

set_option maxHeartbeats 400000 in
theorem or_any (b : Nat) (p q : Int) (w : World) (h0 : w.cell? ⟨b, 0, none⟩ = some (.int .i64 p)) (h1 : w.cell? ⟨b, 1, none⟩ = some (.int .i64 q)) :
    Calls Tryz.prog 89 #[.slice (some ⟨b, 0, none⟩) 2 2] w fun e w' => e = .returned (.int .i64 (orI p q)) ∧ w' = w := by
  unfold orI
  by_cases hp : p = 0
  · subst hp
    by_cases hq : q = 0
    · subst hq
      go_enter Tryz.func89, Tryz.ntmps89
      go_wp2
      refine wp_loop_rounds 3 ?_
      rw [rounds_succ]
      go_wp2
      rw [rounds_succ]
      go_wp2
      rw [rounds_succ]
      go_wp2
      go_ret
      exact ⟨rfl, rfl⟩
    · have hq' : (q != 0) = true := by simpa using hq
      go_enter Tryz.func89, Tryz.ntmps89
      go_wp2
      refine wp_loop_rounds 2 ?_
      rw [rounds_succ]
      go_wp2
      rw [rounds_succ]
      go_wp2
      go_ret
      exact ⟨by simp, rfl⟩
  · have hp' : (p != 0) = true := by simpa using hp
    go_enter Tryz.func89, Tryz.ntmps89
    go_wp2
    refine wp_loop_rounds 1 ?_
    rw [rounds_succ]
    go_wp2
    go_ret
    exact ⟨by simp, rfl⟩

theorem three_grow (w : World) (A B C : Obj) : (((w.alloc A).alloc B).alloc C).drew = Sort.grow (w.drewN 1) (#[A] ++ #[B] ++ #[C]) := by
  rw [Sort.alloc_eq_grow, Sort.alloc_eq_grow, Sort.alloc_eq_grow, Sort.grow_grow, Sort.grow_grow]
  rfl

set_option maxHeartbeats 1000000 in
theorem order_any (p q : Int × Int) (w : World) : Calls Tryz.prog 70 #[.agg #[.int .i64 p.1, .int .i64 p.2], .agg #[.int .i64 q.1, .int .i64 q.2]] w fun e w' => e = .returned (.int .i64 (cmpP p q)) ∧ ∃ n os', w' = Sort.grow (w.drewN n) os' := by
  obtain ⟨px, py⟩ := p
  obtain ⟨qx, qy⟩ := q
  go_enter Tryz.func70, Tryz.ntmps70
  go_wp2
  go_region_held3 (fun w' => w'.cell? ⟨w.heap.size, 0, none⟩ = some (.int .i64 px) ∧ w'.cell? ⟨w.heap.size, 1, none⟩ = some (.int .i64 py) ∧ w'.cell? ⟨w.heap.size + 1, 0, none⟩ = some (.int .i64 qx) ∧ w'.cell? ⟨w.heap.size + 1, 1, none⟩ = some (.int .i64 qy)) (go_keep)
    (first | (go_at_call 90; refine (compare_any _ _ _).mono ?_; rintro e w' ⟨rfl, rfl⟩) | (go_at_call 89; refine (or_any _ (cmpI py qy) (cmpI px qx) _ (by simp; exact (World.cell?_alloc_at _ _ _ _ (by simp)).trans rfl) (by simp; exact (World.cell?_alloc_at _ _ _ _ (by simp)).trans rfl)).mono ?_; rintro e w' ⟨rfl, rfl⟩))
  all_goals
    go_wp2
    go_ret
    exact ⟨rfl, 1, _, three_grow _ _ _ _⟩

theorem outside_pred (w : World) : PredBelow Tryz.prog 53 #[] (fun x => .agg (encPt x).toArray) farP w := fun W x hb =>
  (outside_any x W).mono fun e w' ⟨he, hw⟩ => ⟨he, by rw [hw]; exact hb.alloc hb.size _⟩

theorem order_lays (blk off size : Nat) (w : World) : CmpLays Tryz.prog 70 #[] encPt 2 cmpP blk off size w :=
  fun _ _ _ _ x y => order_any x y _

/-- a cell comes ahead of another -/
def ahead (p q : Int × Int) : Prop := p.2 < q.2 ∨ p.2 = q.2 ∧ p.1 < q.1
theorem cmpP_neg (p q : Int × Int) : cmpP p q < 0 ↔ ahead p q := by
  unfold cmpP orI cmpI ahead
  split <;> split <;> (try split) <;> (try split) <;> omega
theorem cmpP_lt (p q : Int × Int) : ltOf cmpP p q = true ↔ ahead p q := by
  unfold ltOf
  rw [decide_eq_true_eq]
  exact cmpP_neg p q
theorem cmpP_nlt (p q : Int × Int) : ltOf cmpP p q = false ↔ ¬ ahead p q := by
  rw [← cmpP_lt, Bool.not_eq_true]
theorem swoP : Sort.SWO (ltOf cmpP) := {
  irrefl := fun x => by rw [cmpP_nlt]; unfold ahead; omega
  trans := fun x y z h1 h2 => by
    rw [cmpP_lt] at *
    unfold ahead at *
    omega
  ntrans := fun x y z h1 h2 => by
    rw [cmpP_nlt] at *
    unfold ahead at *
    omega }
end Go.Proofs.YtofbcngcblleaaaGreat

namespace Go.Proofs.YtofbcngcblleaaaGreat
open Go.RowKit Go.Lib Go.Sort

theorem eqP_run (x y : Int × Int) (w : World) : (binOp .eql 52 (.agg #[.int .i64 x.1, .int .i64 x.2]) (.agg #[.int .i64 y.1, .int .i64 y.2])).run Tryz.prog w = .ok (.bool (decide (x = y))) w := by
  have hS : Tryz.prog.underlying 52 = some (.struct (Tryz.prog.fieldsOf 52)) := by kernel_rfl
  have hp : Tryz.prog.stoodInHeld 52 = false := by kernel_rfl
  rw [run_eql_struct, show (10000 : Nat) = 9999 + 1 from rfl, run_equalIn_agg w 9999 52 _ _ hS hp]
  simp only [Program.fieldsOf, Tryz.underlying52]
  go_simp
  by_cases h1 : x.fst = y.fst <;> by_cases h2 : x.snd = y.snd <;> simp [h1, h2, Prod.ext_iff]
theorem neP_run (x y : Int × Int) (w : World) : (binOp .neq 52 (.agg #[.int .i64 x.1, .int .i64 x.2]) (.agg #[.int .i64 y.1, .int .i64 y.2])).run Tryz.prog w = .ok (.bool (!decide (x = y))) w := by
  have hS : Tryz.prog.underlying 52 = some (.struct (Tryz.prog.fieldsOf 52)) := by kernel_rfl
  have hp : Tryz.prog.stoodInHeld 52 = false := by kernel_rfl
  rw [run_neq_struct, show (10000 : Nat) = 9999 + 1 from rfl, run_equalIn_agg w 9999 52 _ _ hS hp]
  simp only [Program.fieldsOf, Tryz.underlying52]
  go_simp
  by_cases h1 : x.fst = y.fst <;> by_cases h2 : x.snd = y.snd <;> simp [h1, h2, Prod.ext_iff]

/-- an array of pairs lies in a block from a place on, free to be written -/
def HoldsA (w : World) (b off : Nat) (d : Array (Int × Int)) : Prop :=
  ∀ j, j < d.size → w.cell? ⟨b, off + j * 2, none⟩ = some (.int .i64 (d[j]!).1) ∧ w.cell? ⟨b, off + j * 2 + 1, none⟩ = some (.int .i64 (d[j]!).2) ∧ w.frozen? ⟨b, off + j * 2, none⟩ = false ∧ w.frozen? ⟨b, off + j * 2 + 1, none⟩ = false

theorem HoldsA.set {w : World} {b off : Nat} {d : Array (Int × Int)} (h : HoldsA w b off d) (i : Nat) (hi : i < d.size) (p : Int × Int) :
    HoldsA ((w.setCell ⟨b, off + i * 2, none⟩ (.int .i64 p.1)).setCell ⟨b, off + i * 2 + 1, none⟩ (.int .i64 p.2)) b off (d.setIfInBounds i p) := by
  intro j hj
  have hj' : j < d.size := by simpa using hj
  obtain ⟨c0, c1, f0, f1⟩ := h j hj'
  rw [World.frozen?_setCell, World.frozen?_setCell, World.frozen?_setCell, World.frozen?_setCell]
  by_cases e : j = i
  · subst e
    rw [getElem!_set_same d j p hj']
    refine ⟨?_, ?_, f0, f1⟩
    · rw [World.cell?_setCell_other _ _ _ _ (by simp), World.cell?_setCell_same _ _ _ c0]
    · rw [World.cell?_setCell_same (u := .int .i64 (d[j]!).2) _ _ _ (by rw [World.cell?_setCell_other _ _ _ _ (by simp)]; exact c1)]
  · rw [getElem!_set_other d i j p e]
    refine ⟨?_, ?_, f0, f1⟩
    · rw [World.cell?_setCell_other _ _ _ _ (by intro h; have := congrArg Addr.off h; simp only at this; omega), World.cell?_setCell_other _ _ _ _ (by intro h; have := congrArg Addr.off h; simp only at this; omega)]; exact c0
    · rw [World.cell?_setCell_other _ _ _ _ (by intro h; have := congrArg Addr.off h; simp only at this; omega), World.cell?_setCell_other _ _ _ _ (by intro h; have := congrArg Addr.off h; simp only at this; omega)]; exact c1

/-- all but one block is as it was -/
structure Only (b : Nat) (w w' : World) : Prop where
  os : w'.os = w.os
  tape : w'.tape = w.tape
  output : w'.output = w.output
  size : w'.heap.size = w.heap.size
  block : ∀ k, k ≠ b → w'.heap[k]? = w.heap[k]?
theorem Only.refl (b : Nat) (w : World) : Only b w w := ⟨rfl, rfl, rfl, rfl, fun _ _ => rfl⟩
theorem Only.drew {b : Nat} {w w' : World} (h : Only b w w') : Only b w w'.drew := ⟨h.os, h.tape, h.output, h.size, h.block⟩
theorem Only.setCell {b : Nat} {w w' : World} (h : Only b w w') (o : Nat) (v : Value) : Only b w (w'.setCell ⟨b, o, none⟩ v) :=
  ⟨h.os, h.tape, h.output, by simpa [World.setCell] using h.size, fun k hk => by rw [Below.heap_setCell _ _ _ _ hk]; exact h.block k hk⟩
theorem Only.setCells {b : Nat} {w w' : World} (h : Only b w w') (o : Nat) (vs : List Value) : Only b w (w'.setCells b o vs) := by
  induction vs generalizing o w' with
  | nil => exact h
  | cons v r ih => exact ih (h.setCell o v) (o + 1)
theorem Only.below {b B : Nat} {w w' : World} (h : Only b w w') (hB : B ≤ b) : Below B w w' := ⟨h.os, h.tape, h.output, by rw [h.size]; exact Nat.le_refl _, fun k hk => h.block k (by omega)⟩
end Go.Proofs.YtofbcngcblleaaaGreat

namespace Go.Proofs.YtofbcngcblleaaaGreat
open Go.RowKit Go.Lib Go.Sort

/-- 'clear' of a slice of cells -/
theorem clear_run (w : World) (ty : TypeId) (b o n c : Nat) (hn : 0 < n) (hc : ∀ j, j < n * 2 → (w.cell? ⟨b, o + j, none⟩).isSome = true) (hf : ∀ j, j < n * 2 → w.frozen? ⟨b, o + j, none⟩ = false) :
    (Builtin.clear_ #[24] ty #[.slice (some ⟨b, o, none⟩) n c]).run Tryz.prog w = .ok (.tuple #[]) (w.setCells b o (Builtin.zeroCells #[.int .i64 0, .int .i64 0] n).toList) := by
  have hl : (Builtin.zeroCells #[.int .i64 0, .int .i64 0] n).toList.length = n * 2 := by
    rw [Array.length_toList, size_zeroCells]; rfl
  have h1 : ∀ v ∈ (Builtin.zeroCells #[.int .i64 0, .int .i64 0] n).toList, v.oneCell' = true := by
    intro v hv
    simp only [Builtin.zeroCells, Array.toList_map, List.mem_map] at hv
    obtain ⟨i, _, rfl⟩ := hv
    have : i % 2 < 2 := Nat.mod_lt _ (by omega)
    rcases (by omega : i % 2 = 0 ∨ i % 2 = 1) with h | h <;> simp [h] <;> rfl
  have hst := run_storeCells_cells (P := Tryz.prog) b o (Builtin.zeroCells #[.int .i64 0, .int .i64 0] n).toList 0 w (by rw [hl]; simpa using hc) (by rw [hl]; simpa using hf) h1
  simp only [Nat.add_zero] at hst
  obtain ⟨m, rfl⟩ : ∃ m, n = m + 1 := ⟨n - 1, by omega⟩
  simp [Builtin.clear_, run_underlying Tryz.underlying24, Value.cells, hst]

theorem holds_some {w : World} {b off : Nat} {d : Array (Int × Int)} (h : HoldsA w b off d) (k n : Nat) (hk : k + n ≤ d.size) : ∀ j, j < n * 2 → (w.cell? ⟨b, off + k * 2 + j, none⟩).isSome = true := by
  intro j hj
  obtain ⟨c0, c1, _, _⟩ := h (k + j / 2) (by omega)
  by_cases hm : j % 2 = 0
  · rw [show off + k * 2 + j = off + (k + j / 2) * 2 by omega, c0]; rfl
  · rw [show off + k * 2 + j = off + (k + j / 2) * 2 + 1 by omega, c1]; rfl
theorem holds_free {w : World} {b off : Nat} {d : Array (Int × Int)} (h : HoldsA w b off d) (k n : Nat) (hk : k + n ≤ d.size) : ∀ j, j < n * 2 → w.frozen? ⟨b, off + k * 2 + j, none⟩ = false := by
  intro j hj
  obtain ⟨_, _, c0, c1⟩ := h (k + j / 2) (by omega)
  by_cases hm : j % 2 = 0
  · rw [show off + k * 2 + j = off + (k + j / 2) * 2 by omega, c0]
  · rw [show off + k * 2 + j = off + (k + j / 2) * 2 + 1 by omega, c1]

set_option maxHeartbeats 2000000 in
set_option maxRecDepth 100000 in
theorem compact_any (blk off cap : Nat) (d : Array (Int × Int)) (w : World) (hH : HoldsA w blk off d) (hsz : d.size ≤ 4096) (hcap : d.size ≤ cap) (hcm : cap ≤ maxLen) :
    Calls Tryz.prog 71 #[.slice (some ⟨blk, off, none⟩) d.size cap] w fun e w' => e = .returned (.slice (some ⟨blk, off, none⟩) (compactUpTo d d.size).length cap) ∧ Only blk w w' ∧ HoldsA w' blk off (compactUpTo d d.size).toArray := by
  unfold maxLen at hcm
  have same : (∀ j, j < d.size → keeps d j = true) → (compactUpTo d d.size).length = d.size ∧ (compactUpTo d d.size).toArray = d := by
    intro hall
    have e : compactUpTo d d.size = d.toList := by rw [compactUpTo_all d _ hall, range_map_get]
    rw [e]
    exact ⟨by simp, by simp⟩
  have HS : Hid ((∀ j, j < d.size → keeps d j = true) → (compactUpTo d d.size).length = d.size ∧ (compactUpTo d d.size).toArray = d) := same
  clear same
  by_cases h2 : d.size < 2
  · have HH : Hid (HoldsA w blk off d) := hH
    clear hH
    go_enter Tryz.func71, Tryz.ntmps71
    go_wp2
    go_ret
    obtain ⟨e1, e2⟩ := HS.out (fun j hj => keeps_lt_one d j (by omega))
    exact ⟨by rw [e1]; rfl, Only.refl _ _, by rw [e2]; exact HH.out⟩
  · have HH : Hid (HoldsA w blk off d) := hH
    clear hH
    go_enter Tryz.func71, Tryz.ntmps71
    go_wp2
    go_loopg [3] d.size (fun g s3 wr => ∃ k q : Nat, 1 ≤ k ∧ k ≤ d.size ∧ d.size - k ≤ g ∧ s3 = .int .i64 k ∧ wr = w.drewN q ∧ ∀ j, j < k → keeps d j = true)
    case atStart => exact ⟨1, 0, Nat.le_refl _, by omega, by omega, rfl, rfl, keeps_lt_one d⟩
    case round =>
      obtain ⟨k, q, hk1, hk, hg, rfl, rfl, hall⟩ := hrel
      by_cases hlt : k < d.size
      · obtain ⟨c1, c1', _, _⟩ := HH.out k hlt
        obtain ⟨c0, c0', _, _⟩ := HH.out (k - 1) (by omega)
        have A : Hid (∀ j, j < k → keeps d j = true) := hall
        clear hall
        generalize hx : d[k]! = x at c1 c1'
        generalize hy : d[k - 1]! = y at c0 c0'
        have B : Hid (d[k]! = x ∧ d[k - 1]! = y) := ⟨hx, hy⟩
        clear hx hy
        have hi1 : (1 : Int) ≤ (k : Int) := by omega
        have hi2 : (k : Int) < (d.size : Int) := by omega
        by_cases hdup : x = y
        · subst hdup
          have heq : ∀ w, (binOp .eql 52 (.agg #[.int .i64 x.1, .int .i64 x.2]) (.agg #[.int .i64 x.1, .int .i64 x.2])).run Tryz.prog w = .ok (.bool true) w := fun w => by rw [eqP_run]; simp
          go_wp2
          go_region
          go_wp2
          clear c0 c0' c1 c1' heq hi1 hi2
          go_loopg [3, 5] d.size (fun g s3 s5 wr => ∃ (kk k2 : Nat) (dk : Array (Int × Int)), s3 = .int .i64 kk ∧ s5 = .int .i64 k2 ∧ 1 ≤ k2 ∧ k + k2 ≤ d.size ∧ d.size - (k + k2) ≤ g ∧ Only blk w wr ∧ HoldsA wr blk off dk ∧ CompInv d (k + k2) kk dk)
          case atStart => exact ⟨k, 1, d, rfl, rfl, Nat.le_refl _, by omega, by omega, ⟨rfl, rfl, rfl, rfl, fun _ _ => rfl⟩, HH.out, CompInv.start A.out (keeps_neg (by omega) (by rw [B.out.1, B.out.2]))⟩
          case round =>
            obtain ⟨kk, k2, dk, rfl, rfl, h1, hle, hg2, hO, hHk, hI⟩ := hrel
            have hkk := hI.lt
            have hds := hI.size
            have I2 : Hid (CompInv d (k + k2) kk dk) := hI
            have H2 : Hid (HoldsA wr blk off dk) := hHk
            have D2 : Hid (dk.size = d.size) := hds
            by_cases hlt2 : k + k2 < d.size
            · obtain ⟨cm, cm', _, _⟩ := hHk (k + k2) (by omega)
              obtain ⟨cp, cp', _, _⟩ := hHk (k + k2 - 1) (by omega)
              obtain ⟨ck, ck', fk, fk'⟩ := hHk kk (by omega)
              rw [hI.high (k + k2) (by omega)] at cm cm'
              rw [hI.high (k + k2 - 1) (by omega)] at cp cp'
              rw [show off + (k + k2) * 2 = off + k * 2 + k2 * 2 by omega] at cm cm'
              rw [show off + (k + k2 - 1) * 2 = off + k * 2 + (k2 - 1) * 2 by omega] at cp cp'
              clear hHk hI hds
              generalize hu : d[k + k2]! = u at cm cm'
              generalize hv : d[k + k2 - 1]! = v at cp cp'
              generalize dk[kk]! = old at ck ck'
              have C : Hid (d[k + k2]! = u ∧ d[k + k2 - 1]! = v) := ⟨hu, hv⟩
              clear hu hv
              have hi1 : (1 : Int) ≤ (k2 : Int) := by omega
              have hi2 : (k2 : Int) < ((d.size - k : Nat) : Int) := by omega
              by_cases huv : u = v
              · subst huv
                have hne : ∀ w, (binOp .neq 52 (.agg #[.int .i64 u.1, .int .i64 u.2]) (.agg #[.int .i64 u.1, .int .i64 u.2])).run Tryz.prog w = .ok (.bool false) w := fun w => by rw [neP_run]; simp
                go_wp2
                go_region
                go_wp2
                go_roundg (d.size - (k + (k2 + 1)))
                case measure => omega
                case rel => exact ⟨kk, k2 + 1, dk, rfl, by go_num, by omega, by omega, Nat.le_refl _, hO.drew, H2.out, I2.out.skip (keeps_neg (by omega) (by rw [C.out.1, C.out.2]))⟩
              · have hne : ∀ w, (binOp .neq 52 (.agg #[.int .i64 u.1, .int .i64 u.2]) (.agg #[.int .i64 v.1, .int .i64 v.2])).run Tryz.prog w = .ok (.bool true) w := fun w => by rw [neP_run]; simp [huv]
                have HU : Hid (¬ u = v) := huv
                clear huv
                go_wp2
                go_region
                go_wp2
                go_roundg (d.size - (k + (k2 + 1)))
                case measure => omega
                case rel =>
                  refine ⟨kk + 1, k2 + 1, dk.setIfInBounds kk u, by go_num, by go_num, by omega, by omega, Nat.le_refl _, ((hO.setCell _ _).setCell _ _).drew, H2.out.set kk (by have := D2.out; omega) u, ?_⟩
                  have := I2.out.keep hlt2 (keeps_pos (by rw [C.out.1, C.out.2]; exact HU.out))
                  rwa [C.out.1] at this
            · have hend : k + k2 = d.size := by omega
              have hcl := fun ty => clear_run wr ty blk (off + kk * 2) (d.size - kk) (cap - kk) (by omega) (holds_some hHk kk (d.size - kk) (by omega)) (holds_free hHk kk (d.size - kk) (by omega))
              have HE : Hid (k + k2 = d.size) := hend
              clear hHk hI hds
              go_wp2
              go_ret
              have hI := I2.out
              rw [HE.out] at hI
              refine ⟨by rw [hI.len]; rfl, hO.setCells _ _, fun j hj => ?_⟩
              have hj' : j < kk := by simpa [hI.len] using hj
              have hd := D2.out
              obtain ⟨a0, a1, b0, b1⟩ := H2.out j (by omega)
              have hz : (Builtin.zeroCells #[.int .i64 0, .int .i64 0] (d.size - kk)).toList.length = (d.size - kk) * 2 := by rw [Array.length_toList, size_zeroCells]; rfl
              have hget : ((compactUpTo d d.size).toArray)[j]! = dk[j]! := by
                have := hI.low j hj'
                rw [getElem!_def, List.getElem?_toArray, this]
              rw [hget, World.frozen?_setCells, World.frozen?_setCells, World.cell?_setCells_out _ _ _ _ _ (fun _ _ => by left; show off + j * 2 < off + kk * 2; omega), World.cell?_setCells_out _ _ _ _ _ (fun _ _ => by left; show off + j * 2 + 1 < off + kk * 2; omega)]
              exact ⟨a0, a1, b0, b1⟩
        · have heq : ∀ w, (binOp .eql 52 (.agg #[.int .i64 x.1, .int .i64 x.2]) (.agg #[.int .i64 y.1, .int .i64 y.2])).run Tryz.prog w = .ok (.bool false) w := fun w => by rw [eqP_run]; simp [hdup]
          have HD : Hid (¬ x = y) := hdup
          clear hdup
          go_wp2
          go_region
          go_wp2
          go_roundg (d.size - (k + 1))
          case measure => omega
          case rel =>
            refine ⟨k + 1, q + 1, by omega, by omega, Nat.le_refl _, by go_num, rfl, fun j hj => ?_⟩
            by_cases e : j = k
            · subst e
              exact keeps_pos (by rw [B.out.1, B.out.2]; exact HD.out)
            · exact A.out j (by omega)
      · have hke : k = d.size := by omega
        subst hke
        have A : Hid (∀ j, j < d.size → keeps d j = true) := hall
        clear hall
        go_wp2
        go_ret
        obtain ⟨e1, e2⟩ := HS.out A.out
        exact ⟨by rw [e1]; rfl, ⟨rfl, rfl, rfl, rfl, fun _ _ => rfl⟩, by rw [e2]; exact HH.out⟩
end Go.Proofs.YtofbcngcblleaaaGreat

namespace Go.Proofs.YtofbcngcblleaaaGreat
open Go.Lib Go.Sort

theorem ahead_irrefl (p : Int × Int) : ¬ ahead p p := by unfold ahead; omega
theorem ahead_asymm {p q : Int × Int} (h : ahead p q) : ¬ ahead q p := by unfold ahead at *; omega
theorem ahead_or (p q : Int × Int) : ahead p q ∨ p = q ∨ ahead q p := by
  obtain ⟨a, b⟩ := p
  obtain ⟨c, d⟩ := q
  simp only [ahead, Prod.mk.injEq]
  omega

/-- in order, each once -/
def Tidy (l : List (Int × Int)) : Prop := l.Pairwise ahead

/-- two lists in order, each once, of the same cells are one -/
theorem tidy_unique : ∀ (l m : List (Int × Int)), Tidy l → Tidy m → (∀ p, p ∈ l ↔ p ∈ m) → l = m
  | [], [], _, _, _ => rfl
  | [], q :: m, _, _, h => absurd ((h q).2 (by simp)) (by simp)
  | p :: l, [], _, _, h => absurd ((h p).1 (by simp)) (by simp)
  | p :: l, q :: m, hl, hm, h => by
    have h1 := List.pairwise_cons.1 hl
    have h2 := List.pairwise_cons.1 hm
    have e : p = q := by
      rcases List.mem_cons.1 ((h p).1 (by simp)) with e | e
      · exact e
      · rcases List.mem_cons.1 ((h q).2 (by simp)) with e' | e'
        · exact e'.symm
        · exact absurd (h2.1 p e) (ahead_asymm (h1.1 q e'))
    subst e
    congr 1
    refine tidy_unique l m h1.2 h2.2 fun r => ?_
    constructor
    · intro hr
      rcases List.mem_cons.1 ((h r).1 (by simp [hr])) with e | e
      · subst e; exact absurd (h1.1 r hr) (ahead_irrefl r)
      · exact e
    · intro hr
      rcases List.mem_cons.1 ((h r).2 (by simp [hr])) with e | e
      · subst e; exact absurd (h2.1 r hr) (ahead_irrefl r)
      · exact e

/-- what Compact keeps of a sorted row: in order, each once, the same cells -/
theorem compact_tidy (d : Array (Int × Int)) (n : Nat) (hs : ∀ i j, i < j → j < n → ¬ ahead d[j]! d[i]!) :
    ∀ m, m ≤ n → Tidy (compactUpTo d m) ∧ ∀ p, p ∈ compactUpTo d m ↔ ∃ j, j < m ∧ d[j]! = p := by
  intro m
  induction m with
  | zero => intro _; exact ⟨List.Pairwise.nil, fun p => by simp [compactUpTo]⟩
  | succ m ih =>
    intro hm
    obtain ⟨h1, h2⟩ := ih (by omega)
    rw [compactUpTo_succ]
    by_cases hk : keeps d m = true
    · rw [if_pos hk]
      have hk' : m = 0 ∨ d[m]! ≠ d[m - 1]! := by simpa [keeps] using hk
      constructor
      · refine List.pairwise_append.2 ⟨h1, List.pairwise_singleton _ _, fun p hp q hq => ?_⟩
        rw [List.mem_singleton] at hq
        subst hq
        obtain ⟨j, hj, rfl⟩ := (h2 p).1 hp
        have a := hs j m hj (by omega)
        rcases ahead_or d[j]! d[m]! with h | h | h
        · exact h
        · rcases hk' with h0 | h0
          · omega
          · exfalso
            by_cases e : j = m - 1
            · subst e; exact h0 h.symm
            · have b := hs j (m - 1) (by omega) (by omega)
              have c := hs (m - 1) m (by omega) (by omega)
              rw [h] at b
              rcases ahead_or d[m]! d[m - 1]! with x | x | x
              · exact c x
              · exact h0 x
              · exact b x
        · exact absurd h a
      · intro p
        rw [List.mem_append, h2 p, List.mem_singleton]
        constructor
        · rintro (⟨j, hj, e⟩ | e)
          · exact ⟨j, by omega, e⟩
          · exact ⟨m, by omega, e.symm⟩
        · rintro ⟨j, hj, e⟩
          by_cases h : j = m
          · subst h; exact Or.inr e.symm
          · exact Or.inl ⟨j, by omega, e⟩
    · rw [if_neg hk, List.append_nil]
      refine ⟨h1, fun p => ?_⟩
      have hk' : ¬ (m = 0 ∨ d[m]! ≠ d[m - 1]!) := by simpa [keeps] using hk
      rw [h2 p]
      constructor
      · rintro ⟨j, hj, e⟩; exact ⟨j, by omega, e⟩
      · rintro ⟨j, hj, e⟩
        by_cases h : j = m
        · subst h
          refine ⟨j - 1, by omega, ?_⟩
          rw [← e]
          exact (Classical.byContradiction fun c => hk' (Or.inr fun x => c x.symm))
        · exact ⟨j, by omega, e⟩
end Go.Proofs.YtofbcngcblleaaaGreat

namespace Go.Proofs.YtofbcngcblleaaaGreat
open Go.RowKit Go.Lib Go.Sort

/-- the cells of a list lie in a block from a place on -/
def HoldsR (w : World) (b off : Nat) (zs : List (Int × Int)) : Prop :=
  ∀ j, j < zs.length → w.cell? ⟨b, off + j * 2, none⟩ = some (.int .i64 (zs[j]!).1) ∧ w.cell? ⟨b, off + j * 2 + 1, none⟩ = some (.int .i64 (zs[j]!).2)

/-- a slice's value that reads as a list of cells: nil if there is none -/
def Row (w : World) (v : Value) (zs : List (Int × Int)) : Prop :=
  (zs = [] ∧ v = .slice none 0 0) ∨ (zs ≠ [] ∧ ∃ b off c, v = .slice (some ⟨b, off, none⟩) zs.length c ∧ b < w.heap.size ∧ zs.length ≤ c ∧ c ≤ maxLen ∧ HoldsR w b off zs)
/-- the same, in memory from a block on, free to be written -/
def ORow (w : World) (base : Nat) (v : Value) (zs : List (Int × Int)) : Prop :=
  (zs = [] ∧ v = .slice none 0 0) ∨ (zs ≠ [] ∧ ∃ b off c, v = .slice (some ⟨b, off, none⟩) zs.length c ∧ base ≤ b ∧ b < w.heap.size ∧ zs.length ≤ c ∧ c ≤ maxLen ∧ HoldsA w b off zs.toArray)

theorem toArray_get (zs : List (Int × Int)) (j : Nat) : zs.toArray[j]! = zs[j]! := by simp
theorem toList_get (d : Array (Int × Int)) (j : Nat) : d.toList[j]! = d[j]! := by
  have := toArray_get d.toList j
  rw [Array.toArray_toList] at this
  exact this.symm
theorem HoldsA.read {w : World} {b off : Nat} {zs : List (Int × Int)} (h : HoldsA w b off zs.toArray) : HoldsR w b off zs := fun j hj => by
  obtain ⟨c0, c1, _, _⟩ := h j (by simpa using hj)
  rw [toArray_get] at c0 c1
  exact ⟨c0, c1⟩
theorem ORow.read {w : World} {base : Nat} {v : Value} {zs : List (Int × Int)} (h : ORow w base v zs) : Row w v zs := by
  rcases h with h | ⟨hz, b, off, c, hv, _, hb, hl, hm, hh⟩
  · exact Or.inl h
  · exact Or.inr ⟨hz, b, off, c, hv, hb, hl, hm, hh.read⟩
theorem Row.below {w w' : World} {v : Value} {zs : List (Int × Int)} (h : Row w v zs) (hb : Below w.heap.size w w') : Row w' v zs := by
  rcases h with h | ⟨hz, b, off, c, hv, hlt, hl, hm, hh⟩
  · exact Or.inl h
  · refine Or.inr ⟨hz, b, off, c, hv, Nat.lt_of_lt_of_le hlt hb.size, hl, hm, fun j hj => ?_⟩
    rw [hb.cell (p := ⟨b, off + j * 2, none⟩) hlt, hb.cell (p := ⟨b, off + j * 2 + 1, none⟩) hlt]
    exact hh j hj
theorem ORow.below {w w' : World} {base : Nat} {v : Value} {zs : List (Int × Int)} (h : ORow w base v zs) (hb : Below w.heap.size w w') : ORow w' base v zs := by
  rcases h with h | ⟨hz, b, off, c, hv, hba, hlt, hl, hm, hh⟩
  · exact Or.inl h
  · refine Or.inr ⟨hz, b, off, c, hv, hba, Nat.lt_of_lt_of_le hlt hb.size, hl, hm, fun j hj => ?_⟩
    rw [hb.cell (p := ⟨b, off + j * 2, none⟩) hlt, hb.cell (p := ⟨b, off + j * 2 + 1, none⟩) hlt, hb.frozen (p := ⟨b, off + j * 2, none⟩) hlt, hb.frozen (p := ⟨b, off + j * 2 + 1, none⟩) hlt]
    exact hh j hj
theorem ORow.mono {w : World} {base base' : Nat} {v : Value} {zs : List (Int × Int)} (h : ORow w base v zs) (hb : base' ≤ base) : ORow w base' v zs := by
  rcases h with h | ⟨hz, b, off, c, hv, hba, r⟩
  · exact Or.inl h
  · exact Or.inr ⟨hz, b, off, c, hv, by omega, r⟩
theorem Row.isRow {w : World} {v : Value} {zs : List (Int × Int)} (h : Row w v zs) : IsRow w v zs.length (fun j => (zs[j]!).1) (fun j => (zs[j]!).2) := by
  rcases h with ⟨rfl, rfl⟩ | ⟨hz, b, off, c, rfl, hlt, hl, hm, hh⟩
  · exact IsRow.nil _ _ _
  · exact ⟨_, c, rfl, hl, hm, (fun e => by cases e), Or.inr ⟨b, off, rfl, hlt, hh⟩⟩

/-- a list out of its two coordinates -/
def zip2 (n : Nat) (X Y : Nat → Int) : List (Int × Int) := (List.range n).map fun j => (X j, Y j)
/-- a row that the call made, as append's law tells it -/
theorem holds_of_owns {w : World} {base : Nat} {g n cap : Nat} {zs : List (Int × Int)} (hn : zs.length = n) (h : w.ownsRow base 52 2 (.slice (some ⟨g, 0, none⟩) n cap) n (pairCells (fun j => (zs[j]!).1) (fun j => (zs[j]!).2) n)) : HoldsA w g 0 zs.toArray := by
  intro j hj
  have hj' : j < n := by rw [← hn]; simpa using hj
  have hp := pairs_of (h.cells rfl) j hj'
  rw [toArray_get]
  refine ⟨hp.1, hp.2, ?_, ?_⟩
  all_goals
    rcases h.2 with ⟨e, _⟩ | ⟨g', cap', cur, e, _, hh, _⟩
    · cases e
    · injection e with e1 _ _
      injection e1 with e1
      injection e1 with e1 _ _
      subst e1
      simp [World.frozen?, hh]

theorem encPt_one (x : Int × Int) (v : Value) (hv : v ∈ encPt x) : v.oneCell' = true := by
  simp [encPt] at hv
  rcases hv with rfl | rfl <;> rfl

theorem holdsK_of {w : World} {b off : Nat} {d : Array (Int × Int)} (h : HoldsA w b off d) : HoldsK encPt 2 w b off d := by
  intro t ht
  rw [size_flatK] at ht
  rw [get_flatK _ _ _ _ ht]
  obtain ⟨c0, c1, f0, f1⟩ := h (t / 2) (by omega)
  by_cases hm : t % 2 = 0
  · rw [show off + t = off + t / 2 * 2 by omega, c0, f0, hm]; exact ⟨rfl, rfl⟩
  · rw [show off + t = off + t / 2 * 2 + 1 by omega, c1, f1, show t % 2 = 1 by omega]; exact ⟨rfl, rfl⟩
theorem holdsA_of {w : World} {b off : Nat} {d : Array (Int × Int)} (h : HoldsK encPt 2 w b off d) : HoldsA w b off d := by
  intro j hj
  have h0 := h (j * 2) (by rw [size_flatK]; omega)
  have h1 := h (j * 2 + 1) (by rw [size_flatK]; omega)
  rw [get_flatK _ _ _ _ (by omega), show j * 2 / 2 = j by omega, show j * 2 % 2 = 0 by omega] at h0
  rw [get_flatK _ _ _ _ (by omega), show (j * 2 + 1) / 2 = j by omega, show (j * 2 + 1) % 2 = 1 by omega] at h1
  exact ⟨h0.1, h1.1, h0.2, h1.2⟩

set_option maxHeartbeats 400000 in
theorem contains_nil (fv : Value) (w : World) : Calls Tryz.prog 52 #[.slice none 0 0, fv] w fun e w' => e = .returned (.bool false) ∧ w' = w := by
  go_enter Tryz.func52, Tryz.ntmps52
  go_wp2
  refine wp_loop_rounds 1 ?_
  rw [rounds_succ]
  go_wp2
  go_ret
  exact ⟨rfl, rfl⟩

theorem contains_any (v : Value) (zs : List (Int × Int)) (w : World) (h : Row w v zs) : Calls Tryz.prog 52 #[v, .func (.func 53) #[] #[]] w fun e w' => e = .returned (.bool (zs.any farP)) ∧ Below w.heap.size w w' := by
  rcases h with ⟨rfl, rfl⟩ | ⟨hz, b, off, c, rfl, hlt, hl, hm, hh⟩
  · exact (contains_nil _ w).mono fun e w' ⟨he, hw⟩ => ⟨he, by rw [hw]; exact Below.refl _ _⟩
  · have eg : ∀ args w, (callFunc 53 args).run Tryz.prog w = .ok (.enter 53 args) w := enters_of Tryz.func53 (by kernel_rfl) rfl
    unfold maxLen at hm
    have hcon := AnyQ.slices_ContainsFunc Tryz.containsCells 2 Tryz.isAgg52 Tryz.sizeOf52 encPt (fun _ => rfl) farP 53 #[] eg b off zs.length c zs w (outside_pred w) (Nat.le_refl _) (by omega) hlt (fun j hj i u hi => by
      obtain ⟨c0, c1⟩ := hh j hj
      generalize zs[j]! = y at hi c0 c1
      match i, hi with
      | 0, hi => simp [encPt] at hi; rw [← hi]; exact c0
      | 1, hi => simp [encPt] at hi; rw [← hi]; exact c1
      | i + 2, hi => simp [encPt] at hi)
    change Calls Tryz.prog 52 _ _ _ at hcon
    rwa [List.take_length] at hcon

theorem clone_any (v : Value) (zs : List (Int × Int)) (w : World) (h : Row w v zs) (hn : zs.length ≤ 4096) : Calls Tryz.prog 68 #[v] w fun e w' => ∃ u, e = .returned u ∧ Below w.heap.size w w' ∧ ORow w' w.heap.size u zs := by
  rcases h with ⟨rfl, rfl⟩ | ⟨hz, b, off, c, rfl, hlt, hl, hm, hh⟩
  · have hcon := AnyE.slices_Clone_nil Tryz.cloneCells 0 0 w
    change Calls Tryz.prog 68 _ _ _ at hcon
    exact hcon.mono fun e w' ⟨he, hw⟩ => ⟨_, he, by rw [hw]; exact Below.refl _ _, Or.inl ⟨rfl, rfl⟩⟩
  · obtain ⟨i0, hi, hz0, hz1, hz2⟩ := info_parts Tryz.info52
    have hcon := AnyE.slices_Clone Tryz.cloneCells i0 (.agg #[.int .i64 0, .int .i64 0]) 2 16 hi hz0 hz1 hz2 rfl (by decide) Tryz.sizeOf52 b off zs.length c (pairCells (fun j => (zs[j]!).1) (fun j => (zs[j]!).2) zs.length) w (pairCells_length _ _ _) (by unfold maxLen; omega) (by omega)
      (fun j u hu => by have := pairCells_at (w := w) (b := b) (off := off) (n := zs.length) (X := fun j => (zs[j]!).1) (Y := fun j => (zs[j]!).2) hh j u hu; rwa [addP] at this) (pairCells_one _ _ _)
    change Calls Tryz.prog 68 _ _ _ at hcon
    refine hcon.mono fun e w' ⟨u, he, hown, hne, hb⟩ => ⟨u, he, hb, ?_⟩
    rcases id hown with ⟨_, ⟨hv, _⟩ | ⟨g, cap, cur, hv, hg, hblk, hcap, hmax, _, _⟩⟩
    · exact absurd hv hne
    · subst hv
      exact Or.inr ⟨hz, g, 0, cap, rfl, hg, (hown.lt g rfl).2, hcap, hmax, holds_of_owns rfl hown⟩

theorem sortWorld_below (w : World) (b off n : Nat) (d : Array (Int × Int)) (os : Array Obj) (hb : b < w.heap.size) : Below b w (sortWorldK encPt 2 w b off n d os) ∧ w.heap.size ≤ (sortWorldK encPt 2 w b off n d os).heap.size := by
  have hsz : w.heap.size ≤ (sortWorldK encPt 2 w b off n d os).heap.size := by
    simp [sortWorldK, putRowK, grow, Sort.ahead, putRow, mapBlock]
  refine ⟨⟨rfl, rfl, rfl, hsz, fun k hk => ?_⟩, hsz⟩
  simp only [sortWorldK, putRowK, grow, Sort.ahead, putRow, mapBlock]
  rw [Array.getElem?_append_left (by simp; omega), Array.getElem?_modify, if_neg (by omega)]

/-- no later cell is ahead of an earlier one -/
def Rising (zs : List (Int × Int)) : Prop := ∀ i j, i < j → j < zs.length → ¬ ahead zs[j]! zs[i]!

theorem sort_any (v : Value) (base : Nat) (zs : List (Int × Int)) (w : World) (h : ORow w base v zs) (hn : zs.length ≤ 4096) :
    Calls Tryz.prog 69 #[v, .func (.func 70) #[] #[]] w fun e w' => e = .returned (.tuple #[]) ∧ ∃ ys, ys.Perm zs ∧ Rising ys ∧ ORow w' base v ys ∧ Below base w w' := by
  rcases h with ⟨rfl, rfl⟩ | ⟨hz, b, off, c, rfl, hba, hlt, hl, hm, hh⟩
  · have hcon := AnyF.slices_SortFunc_none Tryz.sortCells none 0 (.func (.func 70) #[] #[]) w
    change Calls Tryz.prog 69 _ _ _ at hcon
    exact hcon.mono fun e w' ⟨he, hw⟩ => ⟨he, [], List.Perm.nil, (fun i j _ hj => by simp at hj), Or.inl ⟨rfl, rfl⟩, by rw [hw]; exact Below.refl _ _⟩
  · have eg : ∀ args w, (callFunc 70 args).run Tryz.prog w = .ok (.enter 70 args) w := enters_of Tryz.func70 (by kernel_rfl) rfl
    have hcon := AnyQ.slices_SortFunc Tryz.sortCells 2 Tryz.isAgg52 Tryz.sizeOf52 encPt (fun _ => rfl) encPt_one cmpP swoP 70 #[] b off c zs.toArray w eg (order_lays b off _ w) (holdsK_of hh) hlt (by simp; omega)
    change Calls Tryz.prog 69 _ _ _ at hcon
    rw [List.size_toArray] at hcon
    refine hcon.mono fun e w' ⟨he, d', n, os, hp, hs, hw⟩ => ⟨he, d'.toList, ?_, ?_, ?_, ?_⟩
    · have h1 := hp.2.2
      have hs1 : d'.size = zs.length := by simpa using hp.1
      rw [← hs1, Array.extract_size] at h1
      rw [hs1] at h1
      simpa using h1
    · intro i j hij hj
      have hs1 : d'.size = zs.length := by simpa using hp.1
      have := hs i j (Nat.zero_le _) hij (by simpa [hs1] using hj)
      rw [cmpP_nlt] at this
      rw [toList_get, toList_get]
      exact this
    · have hs1 : d'.size = zs.length := by simpa using hp.1
      have hs2 : d'.toList.length = zs.length := by simpa using hs1
      have hsw := sortWorld_below w b off n d' os hlt
      refine Or.inr ⟨fun e => hz ?_, b, off, c, ?_, hba, ?_, ?_, hm, ?_⟩
      · have : d'.toList.length = 0 := by rw [e]; rfl
        exact List.length_eq_zero_iff.1 (by rw [← hs1]; simpa using this)
      · rw [hs2]
      · rw [hw]; omega
      · rw [hs2]; exact hl
      · rw [hw, Array.toArray_toList]
        refine holdsA_of (holdsK_grow encPt 2 _ os b off d' (by simpa [putRowK, putRow, mapBlock, Sort.ahead] using hlt) ?_)
        exact holdsK_putRowK encPt 2 _ b off zs.toArray d' (holdsK_ahead encPt 2 w n b off _ (holdsK_of hh)) (by rw [hs1]; simp)
    · rw [hw]
      exact (sortWorld_below w b off n d' os hlt).1.mono hba

set_option maxHeartbeats 400000 in
theorem compact_nil (w : World) : Calls Tryz.prog 71 #[.slice none 0 0] w fun e w' => e = .returned (.slice none 0 0) ∧ w' = w := by
  go_enter Tryz.func71, Tryz.ntmps71
  go_wp2
  go_ret
  exact ⟨rfl, rfl⟩

theorem compact_row (v : Value) (base : Nat) (zs : List (Int × Int)) (w : World) (h : ORow w base v zs) (hn : zs.length ≤ 4096) (hr : Rising zs) :
    Calls Tryz.prog 71 #[v] w fun e w' => ∃ u ys, e = .returned u ∧ Tidy ys ∧ (∀ p, p ∈ ys ↔ p ∈ zs) ∧ ORow w' base u ys ∧ Below base w w' := by
  rcases h with ⟨rfl, rfl⟩ | ⟨hz, b, off, c, rfl, hba, hlt, hl, hm, hh⟩
  · exact (compact_nil w).mono fun e w' ⟨he, hw⟩ => ⟨_, [], he, List.Pairwise.nil, fun p => Iff.rfl, Or.inl ⟨rfl, rfl⟩, by rw [hw]; exact Below.refl _ _⟩
  · have hcon := compact_any b off c zs.toArray w hh (by simpa using hn) (by simpa using hl) hm
    rw [List.size_toArray] at hcon
    obtain ⟨ht, hmem⟩ := compact_tidy zs.toArray zs.length (fun i j hij hj => by rw [toArray_get, toArray_get]; exact hr i j hij hj) zs.length (Nat.le_refl _)
    have hmem' : ∀ p, p ∈ compactUpTo zs.toArray zs.length ↔ p ∈ zs := by
      intro p
      rw [hmem p]
      constructor
      · rintro ⟨j, hj, rfl⟩
        rw [toArray_get, getElem!_pos zs j hj]
        exact List.getElem_mem hj
      · intro hp
        obtain ⟨j, hj, e⟩ := List.getElem_of_mem hp
        exact ⟨j, hj, by rw [toArray_get, getElem!_pos zs j hj]; exact e⟩
    refine hcon.mono fun e w' ⟨he, hO, hH⟩ => ⟨_, _, he, ht, hmem', ?_, hO.below hba⟩
    refine Or.inr ⟨fun e => hz ?_, b, off, c, rfl, hba, by rw [hO.size]; exact hlt, ?_, hm, hH⟩
    · cases zs with
      | nil => rfl
      | cons p r => have := (hmem' p).2 (by simp); rw [e] at this; simp at this
    · have : (compactUpTo zs.toArray zs.length).length ≤ zs.length := by
        unfold compactUpTo
        rw [List.length_map]
        exact Nat.le_trans (List.length_filter_le _ _) (by simp)
      omega

/-- what Tidy answers of a list -/
def TidyOut (zs : List (Int × Int)) (w : World) (base : Nat) (u : Value) (code : Int) : Prop :=
  (4096 < zs.length ∧ code = 5 ∧ u = .slice none 0 0) ∨ (zs.length ≤ 4096 ∧ zs.any farP = true ∧ code = 3 ∧ u = .slice none 0 0) ∨
  (zs.length ≤ 4096 ∧ zs.any farP = false ∧ code = 0 ∧ ∃ ys, Tidy ys ∧ (∀ p, p ∈ ys ↔ p ∈ zs) ∧ ORow w base u ys)

theorem Row.shape {w : World} {v : Value} {zs : List (Int × Int)} (h : Row w v zs) : ∃ a c, v = .slice a zs.length c ∧ zs.length ≤ maxLen := by
  rcases h with ⟨rfl, rfl⟩ | ⟨_, b, off, c, rfl, _, hl, hm, _⟩
  · exact ⟨none, 0, rfl, Nat.zero_le _⟩
  · exact ⟨_, c, rfl, Nat.le_trans hl hm⟩
set_option maxHeartbeats 400000 in
theorem tidy_any (v : Value) (zs : List (Int × Int)) (w : World) (h : Row w v zs) :
    Calls Tryz.prog 39 #[v] w fun e w' => ∃ u code, e = .returned (.tuple #[u, .int .i64 code]) ∧ Below w.heap.size w w' ∧ TidyOut zs w' w.heap.size u code := by
  obtain ⟨a, c, hv, hmx⟩ := h.shape
  unfold maxLen at hmx
  by_cases hbig : 4096 < zs.length
  · have hd : (4096 : Int) < (zs.length : Int) := by omega
    rw [hv]
    clear h
    go_enter Tryz.func39, Tryz.ntmps39
    go_wp2
    go_ret2
    exact ⟨_, _, rfl, Below.refl _ _, Or.inl ⟨hbig, rfl, rfl⟩⟩
  · have hd : ¬ (4096 : Int) < (zs.length : Int) := by omega
    have hle : zs.length ≤ 4096 := by omega
    have HR : Hid (Row w v zs) := h
    have h1 := contains_any v zs w h
    have H1 := h1
    clear h h1
    rw [hv] at H1 ⊢
    cases hf : zs.any farP
    · rw [hf] at H1
      have HF : Hid (zs.any farP = false) := hf
      have HV : Hid (v = .slice a zs.length c) := hv
      clear hf hv
      have HC := H1
      clear H1
      go_enter Tryz.func39, Tryz.ntmps39
      go_wp2_with fail
      refine HC.mono ?_
      rintro e w1 ⟨rfl, hb1⟩
      go_wp2_with fail
      refine (clone_any _ zs w1 ?_ hle).mono ?_
      · have := HR.out.below hb1
        rwa [HV.out] at this
      rintro e w2 ⟨u, rfl, hb2, hu⟩
      have hb12 : Below w.heap.size w w2 := hb1.trans (hb2.mono hb1.size)
      go_wp2_with fail
      refine (sort_any u w1.heap.size zs w2 hu hle).mono ?_
      rintro e w3 ⟨rfl, ys, hperm, hris, hrow, hb3⟩
      have hb123 : Below w.heap.size w w3 := hb12.trans (hb3.mono hb1.size)
      have hle' : ys.length ≤ 4096 := by rw [hperm.length_eq]; exact hle
      go_wp2_with fail
      refine (compact_row u w1.heap.size ys w3 hrow hle' hris).mono ?_
      rintro e w4 ⟨t, ts, rfl, htidy, hmem, hrow4, hb4⟩
      have hb1234 : Below w.heap.size w w4 := hb123.trans (hb4.mono hb1.size)
      go_wp2_with fail
      go_ret2
      exact ⟨_, _, rfl, hb1234, Or.inr (Or.inr ⟨hle, HF.out, rfl, ts, htidy, fun p => (hmem p).trans hperm.mem_iff, hrow4.mono hb1.size⟩)⟩
    · rw [hf] at H1
      have HF : Hid (zs.any farP = true) := hf
      clear hf
      have HC := H1
      clear H1
      go_enter Tryz.func39, Tryz.ntmps39
      go_wp2_with fail
      refine HC.mono ?_
      rintro e w1 ⟨rfl, hb1⟩
      go_wp2
      go_ret2
      exact ⟨_, _, rfl, hb1, Or.inr (Or.inl ⟨hle, HF.out, rfl, rfl⟩)⟩
end Go.Proofs.YtofbcngcblleaaaGreat

namespace Go.Proofs.YtofbcngcblleaaaGreat
open Go.RowKit

def lo' (f : Nat → Int) : Nat → Int
  | 0 => 0
  | k + 1 => lo f k
def hi' (f : Nat → Int) : Nat → Int
  | 0 => 0
  | k + 1 => hi f k
/-- in the midst of a round: the answer's block, the box's block, the cell that is looked at -/
structure Mid (w wc : World) (g : Nat) (x y a0 a1 a2 a3 : Int) : Prop where
  bel : Below w.heap.size w wc
  z : Four wc w.heap.size 0 0 0 0
  q : Four wc (w.heap.size + 1) a0 a1 a2 a3
  cx : wc.cell? ⟨g, 0, none⟩ = some (.int .i64 x)
  cy : wc.cell? ⟨g, 1, none⟩ = some (.int .i64 y)
  lt : g < wc.heap.size
  gt : w.heap.size + 1 < g
end Go.Proofs.YtofbcngcblleaaaGreat

namespace Go.Proofs.YtofbcngcblleaaaGreat
open Go.RowKit

/-- what both answer -/
def boxOf (X Y : Nat → Int) (n : Nat) : Value := .tuple #[.agg #[.int .i64 (lo' X n), .int .i64 (lo' Y n), .int .i64 (hi' X n), .int .i64 (hi' Y n)], .bool (decide (0 < n))]

theorem boxOf_zero (X Y : Nat → Int) : boxOf X Y 0 = .tuple #[.agg #[.int .i64 0, .int .i64 0, .int .i64 0, .int .i64 0], .bool false] := rfl
theorem boxOf_pos (X Y : Nat → Int) (n : Nat) (h : 0 < n) : boxOf X Y n = .tuple #[.agg #[.int .i64 (lo X (n - 1)), .int .i64 (lo Y (n - 1)), .int .i64 (hi X (n - 1)), .int .i64 (hi Y (n - 1))], .bool true] := by
  cases n with
  | zero => omega
  | succ n => simp [boxOf, lo', hi']

theorem bounds_any (v : Value) (n : Nat) (X Y : Nat → Int) (w : World) (h : IsRow w v n X Y) :
    Calls Tryz.prog 47 #[v] w fun e w' => e = .returned (boxOf X Y n) ∧ Below w.heap.size w w' := by
  obtain ⟨a, c, rfl, hc, hm, _, h⟩ := h
  by_cases h0 : n = 0
  · subst h0; rw [boxOf_zero]; exact bounds_none a c w
  · rcases h with h | ⟨b, off, rfl, hb, hp⟩
    · exact absurd h h0
    rw [boxOf_pos _ _ _ (by omega)]
    by_cases h1 : c = 1
    · subst h1
      have hn : n = 1 := by omega
      subst hn
      have h := hp 0 (by omega)
      exact bounds_one b off (X 0) (Y 0) w hb (by simpa using h.1) (by simpa using h.2)
    · exact bounds_some b off n c X Y w (by omega) hc hm hb hp h1

end Go.Proofs.YtofbcngcblleaaaGreat
