/- Lists of cells in order, each once: what is plain mathematics of them. -/
import Derived.Shelf.SlSortCmp.WholeK
import Derived.Shelf.SlicesQ.IndexFunc
import Derived.Shelf.SlicesE.Clone
import Derived.Test.YthobobgiendcfaaProg
import Derived.Test.YthobobgiendcfaaEntry
import Derived.Deep.RegionHeld3
import Derived.Deep.DrawnRows
import Derived.Lib.SlicesCompact
namespace Go.Proofs
open Go.Shelf
def Try.sortCells_ren : Go.Shelf.Ren := ⟨fun | 6 => 111 | 15 => 133 | 14 => 132 | 28 => 147 | 29 => 148 | 20 => 139 | 21 => 140 | 22 => 141 | 23 => 142 | 24 => 143 | 25 => 144 | 26 => 145 | 27 => 146 | 46 => 151 | 47 => 152 | 48 => 153 | 49 => 154 | 50 => 155 | 57 => 156 | n => n, fun | 22 => 69 | 24 => 87 | 25 => 159 | 3 => 3 | 39 => 75 | 0 => 0 | 53 => 201 | 55 => 109 | 4 => 4 | 46 => 195 | 45 => 194 | 50 => 53 | 5 => 5 | 9 => 9 | 66 => 205 | 70 => 209 | 76 => 211 | 77 => 176 | n => n, fun | n => n⟩
theorem Try.sortCells : Go.Proofs.SlLaysF0.n6 Try.prog Try.sortCells_ren := {
  mixed := by kernel_rfl
  f6 := ⟨Try.f111.name, by decide, Try.func111.trans (congrArg some (by kernel_rfl))⟩
  f14 := ⟨Try.f132.name, by decide, Try.func132.trans (congrArg some (by kernel_rfl))⟩
  f15 := Try.func133.trans (congrArg some (by kernel_rfl))
  f20 := ⟨Try.f139.name, by decide, Try.func139.trans (congrArg some (by kernel_rfl))⟩
  f21 := ⟨Try.f140.name, by decide, Try.func140.trans (congrArg some (by kernel_rfl))⟩
  f22 := ⟨Try.f141.name, by decide, Try.func141.trans (congrArg some (by kernel_rfl))⟩
  f23 := ⟨Try.f142.name, by decide, Try.func142.trans (congrArg some (by kernel_rfl))⟩
  f24 := ⟨Try.f143.name, by decide, Try.func143.trans (congrArg some (by kernel_rfl))⟩
  f25 := ⟨Try.f144.name, by decide, Try.func144.trans (congrArg some (by kernel_rfl))⟩
  f26 := ⟨Try.f145.name, by decide, Try.func145.trans (congrArg some (by kernel_rfl))⟩
  f27 := ⟨Try.f146.name, by decide, Try.func146.trans (congrArg some (by kernel_rfl))⟩
  f28 := Try.func147.trans (congrArg some (by kernel_rfl))
  f29 := Try.func148.trans (congrArg some (by kernel_rfl))
  f46 := ⟨Try.f151.name, by decide, Try.func151.trans (congrArg some (by kernel_rfl))⟩
  f47 := Try.func152.trans (congrArg some (by kernel_rfl))
  f48 := Try.func153.trans (congrArg some (by kernel_rfl))
  f49 := ⟨Try.f154.name, by decide, Try.func154.trans (congrArg some (by kernel_rfl))⟩
  f50 := ⟨Try.f155.name, by decide, Try.func155.trans (congrArg some (by kernel_rfl))⟩
  f57 := ⟨Try.f156.name, by decide, Try.func156.trans (congrArg some (by kernel_rfl))⟩
  t0 := Try.underlying0
  a0 := Try.isAgg0
  z0 := Try.sizeOf0
  v0 := Try.zeroValue0
  t3 := Try.underlying3
  a3 := Try.isAgg3
  z3 := Try.sizeOf3
  v3 := Try.zeroValue3
  t4 := Try.underlying4
  a4 := Try.isAgg4
  z4 := Try.sizeOf4
  v4 := Try.zeroValue4
  t5 := Try.underlying5
  a5 := Try.isAgg5
  z5 := Try.sizeOf5
  v5 := Try.zeroValue5
  t9 := Try.underlying9
  a9 := Try.isAgg9
  z9 := Try.sizeOf9
  v9 := Try.zeroValue9
  t22 := Try.underlying69
  a22 := Try.isAgg69
  z22 := Try.sizeOf69
  v22 := Try.zeroValue69
  t25 := Try.underlying159
  a25 := Try.isAgg159
  z25 := Try.sizeOf159
  v25 := Try.zeroValue159
  t39 := Try.underlying75
  a39 := Try.isAgg75
  z39 := Try.sizeOf75
  v39 := Try.zeroValue75
  t45 := Try.underlying194
  a45 := Try.isAgg194
  z45 := Try.sizeOf194
  v45 := Try.zeroValue194
  t46 := Try.underlying195
  a46 := Try.isAgg195
  z46 := Try.sizeOf195
  v46 := Try.zeroValue195
  t50 := Try.underlying53
  a50 := Try.isAgg53
  z50 := Try.sizeOf53
  v50 := Try.zeroValue53
  t53 := Try.underlying201
  a53 := Try.isAgg201
  z53 := Try.sizeOf201
  v53 := Try.zeroValue201
  t55 := Try.underlying109
  a55 := Try.isAgg109
  z55 := Try.sizeOf109
  v55 := Try.zeroValue109
  t66 := Try.underlying205
  a66 := Try.isAgg205
  z66 := Try.sizeOf205
  v66 := Try.zeroValue205
  t70 := Try.underlying209
  a70 := Try.isAgg209
  z70 := Try.sizeOf209
  v70 := Try.zeroValue209
  t76 := Try.underlying211
  a76 := Try.isAgg211
  z76 := Try.sizeOf211
  v76 := Try.zeroValue211
  t77 := Try.underlying176
  a77 := Try.isAgg176
  z77 := Try.sizeOf176
  v77 := Try.zeroValue176 }
def Try.containsCells_ren : Go.Shelf.Ren := ⟨fun | 8 => 108 | 6 => 130 | n => n, fun | 22 => 69 | 23 => 87 | 25 => 157 | 4 => 4 | 3 => 3 | 0 => 0 | n => n, fun | n => n⟩
theorem Try.containsCells : Go.Proofs.SlLaysH0.n8 Try.prog Try.containsCells_ren := {
  mixed := by kernel_rfl
  f6 := ⟨Try.f130.name, by decide, Try.func130.trans (congrArg some (by kernel_rfl))⟩
  f8 := ⟨Try.f108.name, by decide, Try.func108.trans (congrArg some (by kernel_rfl))⟩
  t0 := Try.underlying0
  a0 := Try.isAgg0
  z0 := Try.sizeOf0
  v0 := Try.zeroValue0
  t3 := Try.underlying3
  a3 := Try.isAgg3
  z3 := Try.sizeOf3
  v3 := Try.zeroValue3
  t4 := Try.underlying4
  a4 := Try.isAgg4
  z4 := Try.sizeOf4
  v4 := Try.zeroValue4
  t22 := Try.underlying69
  a22 := Try.isAgg69
  z22 := Try.sizeOf69
  v22 := Try.zeroValue69
  t25 := Try.underlying157
  a25 := Try.isAgg157
  z25 := Try.sizeOf157
  v25 := Try.zeroValue157 }
def Try.cloneCells_ren : Go.Shelf.Ren := ⟨fun | 41 => 110 | n => n, fun | 22 => 69 | 23 => 87 | 4 => 4 | n => n, fun | n => n⟩
theorem Try.cloneCells : Go.Proofs.SlLaysE0.n41 Try.prog Try.cloneCells_ren := {
  mixed := by kernel_rfl
  f41 := ⟨Try.f110.name, by decide, Try.func110.trans (congrArg some (by kernel_rfl))⟩
  t4 := Try.underlying4
  a4 := Try.isAgg4
  z4 := Try.sizeOf4
  v4 := Try.zeroValue4
  t22 := Try.underlying69
  a22 := Try.isAgg69
  z22 := Try.sizeOf69
  v22 := Try.zeroValue69 }
end Go.Proofs

namespace Go.Proofs.Ythobobgiendcfaa
open Go.RowKit

attribute [local go_sem ↓] Go.wp_at_zero Go.wp_at_succ

/-- not above -bound and below bound -/
def farI (n : Int) : Bool := decide (n ≤ -1099511627776) || decide (1099511627776 ≤ n)
def farP (p : Int × Int) : Bool := farI p.1 || farI p.2
def encPt (p : Int × Int) : List Value := [.int .i64 p.1, .int .i64 p.2]
/-- cmp.Compare of two numbers -/
def cmpI (x y : Int) : Int := if x < y then -1 else if y < x then 1 else 0
/-- cmp.Or of two numbers -/
def orI (p q : Int) : Int := if p ≠ 0 then p else q
/-- plane.order of two cells -/
def cmpP (p q : Int × Int) : Int := orI (cmpI p.2 q.2) (cmpI p.1 q.1)

set_option maxHeartbeats 400000 in
theorem nearer_any (n : Int) (w : World) : Calls Try.prog 131 #[.int .i64 n, .int .i64 1099511627776] w fun e w' => e = .returned (.bool (!farI n)) ∧ w' = w := by
  by_cases h1 : -1099511627776 < n
  · have hd : decide (-1099511627776 < n) = true := by simpa using h1
    go_enter Try.func131, Try.ntmps131
    go_wp2
    go_ret
    refine ⟨?_, rfl⟩
    congr 2
    simp only [farI]
    by_cases h2 : n < 1099511627776
    · simp [h2]; omega
    · simp [h2]; omega
  · have hd : decide (-1099511627776 < n) = false := by simpa using h1
    go_enter Try.func131, Try.ntmps131
    go_wp2
    go_ret
    refine ⟨?_, rfl⟩
    congr 2
    simp only [farI]
    simp; omega

set_option maxHeartbeats 400000 in
theorem outside_any (p : Int × Int) (w : World) : Calls Try.prog 109 #[.agg #[.int .i64 p.1, .int .i64 p.2]] w fun e w' => e = .returned (.bool (farP p)) ∧ w' = w.alloc (.cells #[.int .i64 p.1, .int .i64 p.2] 87) := by
  obtain ⟨x, y⟩ := p
  cases hx : farI x
  · go_enter Try.func109, Try.ntmps109
    go_wp2_with (first | (go_at_call_of 131 x; refine (nearer_any x _).mono ?_; rw [hx]; rintro e w' ⟨rfl, rfl⟩) | (go_at_call_of 131 y; refine (nearer_any y _).mono ?_; rintro e w' ⟨rfl, rfl⟩))
    go_ret
    refine ⟨?_, rfl⟩
    simp [farP, hx]
  · go_enter Try.func109, Try.ntmps109
    go_wp2_with (first | (go_at_call_of 131 x; refine (nearer_any x _).mono ?_; rw [hx]; rintro e w' ⟨rfl, rfl⟩))
    go_ret
    refine ⟨?_, rfl⟩
    simp [farP, hx]

set_option maxHeartbeats 400000 in
theorem compare_any (x y : Int) (w : World) : Calls Try.prog 135 #[.int .i64 x, .int .i64 y] w fun e w' => e = .returned (.int .i64 (cmpI x y)) ∧ w' = w := by
  go_enter Try.func135, Try.ntmps135
  go_wp2
  · go_ret
    exact ⟨by simp_all [cmpI], rfl⟩
  · go_ret
    refine ⟨?_, rfl⟩
    unfold cmpI
    rw [if_neg (by omega), if_pos (by omega)]
    rfl
  · go_ret
    refine ⟨?_, rfl⟩
    unfold cmpI
    rw [if_neg (by omega), if_neg (by omega)]
    rfl

set_option maxHeartbeats 400000 in
theorem or_any (b : Nat) (p q : Int) (w : World) (h0 : w.cell? ⟨b, 0, none⟩ = some (.int .i64 p)) (h1 : w.cell? ⟨b, 1, none⟩ = some (.int .i64 q)) :
    Calls Try.prog 134 #[.slice (some ⟨b, 0, none⟩) 2 2] w fun e w' => e = .returned (.int .i64 (orI p q)) ∧ w' = w := by
  unfold orI
  by_cases hp : p = 0
  · subst hp
    by_cases hq : q = 0
    · subst hq
      go_enter Try.func134, Try.ntmps134
      go_wp2
      refine wp_loop_rounds 3 ?_
      rw [rounds_succ]
      go_wp2
      rw [rounds_succ]
      go_wp2
      rw [rounds_succ]
      go_wp2
      go_ret
      exact ⟨rfl, rfl⟩
    · have hq' : (q != 0) = true := by simpa using hq
      go_enter Try.func134, Try.ntmps134
      go_wp2
      refine wp_loop_rounds 2 ?_
      rw [rounds_succ]
      go_wp2
      rw [rounds_succ]
      go_wp2
      go_ret
      exact ⟨by simp, rfl⟩
  · have hp' : (p != 0) = true := by simpa using hp
    go_enter Try.func134, Try.ntmps134
    go_wp2
    refine wp_loop_rounds 1 ?_
    rw [rounds_succ]
    go_wp2
    go_ret
    exact ⟨by simp, rfl⟩

theorem three_grow (w : World) (A B C : Obj) : (((w.alloc A).alloc B).alloc C).drew = Sort.grow (w.drewN 1) (#[A] ++ #[B] ++ #[C]) := by
  rw [Sort.alloc_eq_grow, Sort.alloc_eq_grow, Sort.alloc_eq_grow, Sort.grow_grow, Sort.grow_grow]
  rfl

set_option maxHeartbeats 1000000 in
theorem order_any (p q : Int × Int) (w : World) : Calls Try.prog 112 #[.agg #[.int .i64 p.1, .int .i64 p.2], .agg #[.int .i64 q.1, .int .i64 q.2]] w fun e w' => e = .returned (.int .i64 (cmpP p q)) ∧ ∃ n os', w' = Sort.grow (w.drewN n) os' := by
  obtain ⟨px, py⟩ := p
  obtain ⟨qx, qy⟩ := q
  go_enter Try.func112, Try.ntmps112
  go_wp2
  go_region_held3 (fun w' => w'.cell? ⟨w.heap.size, 0, none⟩ = some (.int .i64 px) ∧ w'.cell? ⟨w.heap.size, 1, none⟩ = some (.int .i64 py) ∧ w'.cell? ⟨w.heap.size + 1, 0, none⟩ = some (.int .i64 qx) ∧ w'.cell? ⟨w.heap.size + 1, 1, none⟩ = some (.int .i64 qy)) (go_keep)
    (first | (go_at_call 135; refine (compare_any _ _ _).mono ?_; rintro e w' ⟨rfl, rfl⟩) | (go_at_call 134; refine (or_any _ (cmpI py qy) (cmpI px qx) _ (by simp; exact (World.cell?_alloc_at _ _ _ _ (by simp)).trans rfl) (by simp; exact (World.cell?_alloc_at _ _ _ _ (by simp)).trans rfl)).mono ?_; rintro e w' ⟨rfl, rfl⟩))
  all_goals
    go_wp2
    go_ret
    exact ⟨rfl, 1, _, three_grow _ _ _ _⟩

theorem outside_pred (w : World) : PredBelow Try.prog 109 #[] (fun x => .agg (encPt x).toArray) farP w := fun W x hb =>
  (outside_any x W).mono fun e w' ⟨he, hw⟩ => ⟨he, by rw [hw]; exact hb.alloc hb.size _⟩

theorem order_lays (blk off size : Nat) (w : World) : CmpLays Try.prog 112 #[] encPt 2 cmpP blk off size w :=
  fun _ _ _ _ x y => order_any x y _

/-- a cell comes ahead of another -/
def ahead (p q : Int × Int) : Prop := p.2 < q.2 ∨ p.2 = q.2 ∧ p.1 < q.1
theorem cmpP_neg (p q : Int × Int) : cmpP p q < 0 ↔ ahead p q := by
  unfold cmpP orI cmpI ahead
  split <;> split <;> (try split) <;> (try split) <;> omega
theorem cmpP_zero (p q : Int × Int) : cmpP p q = 0 ↔ p = q := by
  rw [Prod.ext_iff]
  unfold cmpP orI cmpI
  split <;> split <;> (try split) <;> (try split) <;> omega
theorem cmpP_lt (p q : Int × Int) : ltOf cmpP p q = true ↔ ahead p q := by
  unfold ltOf
  rw [decide_eq_true_eq]
  exact cmpP_neg p q
theorem cmpP_nlt (p q : Int × Int) : ltOf cmpP p q = false ↔ ¬ ahead p q := by
  rw [← cmpP_lt, Bool.not_eq_true]
theorem swoP : Sort.SWO (ltOf cmpP) := {
  irrefl := fun x => by rw [cmpP_nlt]; unfold ahead; omega
  trans := fun x y z h1 h2 => by
    rw [cmpP_lt] at *
    unfold ahead at *
    omega
  ntrans := fun x y z h1 h2 => by
    rw [cmpP_nlt] at *
    unfold ahead at *
    omega }
end Go.Proofs.Ythobobgiendcfaa

namespace Go.Proofs.Ythobobgiendcfaa
open Go.Lib Go.Sort

theorem ahead_irrefl (p : Int × Int) : ¬ ahead p p := by unfold ahead; omega
theorem ahead_trans {p q r : Int × Int} (h : ahead p q) (k : ahead q r) : ahead p r := by unfold ahead at *; omega
theorem ahead_asymm {p q : Int × Int} (h : ahead p q) : ¬ ahead q p := by unfold ahead at *; omega
theorem ahead_or (p q : Int × Int) : ahead p q ∨ p = q ∨ ahead q p := by
  obtain ⟨a, b⟩ := p
  obtain ⟨c, d⟩ := q
  simp only [ahead, Prod.mk.injEq]
  omega

/-- in order, each once -/
def Tidy (l : List (Int × Int)) : Prop := l.Pairwise ahead

/-- two lists in order, each once, of the same cells are one -/
theorem tidy_unique : ∀ (l m : List (Int × Int)), Tidy l → Tidy m → (∀ p, p ∈ l ↔ p ∈ m) → l = m
  | [], [], _, _, _ => rfl
  | [], q :: m, _, _, h => absurd ((h q).2 (by simp)) (by simp)
  | p :: l, [], _, _, h => absurd ((h p).1 (by simp)) (by simp)
  | p :: l, q :: m, hl, hm, h => by
    have h1 := List.pairwise_cons.1 hl
    have h2 := List.pairwise_cons.1 hm
    have e : p = q := by
      rcases List.mem_cons.1 ((h p).1 (by simp)) with e | e
      · exact e
      · rcases List.mem_cons.1 ((h q).2 (by simp)) with e' | e'
        · exact e'.symm
        · exact absurd (h2.1 p e) (ahead_asymm (h1.1 q e'))
    subst e
    congr 1
    refine tidy_unique l m h1.2 h2.2 fun r => ?_
    constructor
    · intro hr
      rcases List.mem_cons.1 ((h r).1 (by simp [hr])) with e | e
      · subst e; exact absurd (h1.1 r hr) (ahead_irrefl r)
      · exact e
    · intro hr
      rcases List.mem_cons.1 ((h r).2 (by simp [hr])) with e | e
      · subst e; exact absurd (h2.1 r hr) (ahead_irrefl r)
      · exact e

/-- what Compact keeps of a sorted row: in order, each once, the same cells -/
theorem compact_tidy (d : Array (Int × Int)) (n : Nat) (hs : ∀ i j, i < j → j < n → ¬ ahead d[j]! d[i]!) :
    ∀ m, m ≤ n → Tidy (compactUpTo d m) ∧ ∀ p, p ∈ compactUpTo d m ↔ ∃ j, j < m ∧ d[j]! = p := by
  intro m
  induction m with
  | zero => intro _; exact ⟨List.Pairwise.nil, fun p => by simp [compactUpTo]⟩
  | succ m ih =>
    intro hm
    obtain ⟨h1, h2⟩ := ih (by omega)
    rw [compactUpTo_succ]
    by_cases hk : keeps d m = true
    · rw [if_pos hk]
      have hk' : m = 0 ∨ d[m]! ≠ d[m - 1]! := by simpa [keeps] using hk
      constructor
      · refine List.pairwise_append.2 ⟨h1, List.pairwise_singleton _ _, fun p hp q hq => ?_⟩
        rw [List.mem_singleton] at hq
        subst hq
        obtain ⟨j, hj, rfl⟩ := (h2 p).1 hp
        have a := hs j m hj (by omega)
        rcases ahead_or d[j]! d[m]! with h | h | h
        · exact h
        · rcases hk' with h0 | h0
          · omega
          · exfalso
            by_cases e : j = m - 1
            · subst e; exact h0 h.symm
            · have b := hs j (m - 1) (by omega) (by omega)
              have c := hs (m - 1) m (by omega) (by omega)
              rw [h] at b
              rcases ahead_or d[m]! d[m - 1]! with x | x | x
              · exact c x
              · exact h0 x
              · exact b x
        · exact absurd h a
      · intro p
        rw [List.mem_append, h2 p, List.mem_singleton]
        constructor
        · rintro (⟨j, hj, e⟩ | e)
          · exact ⟨j, by omega, e⟩
          · exact ⟨m, by omega, e.symm⟩
        · rintro ⟨j, hj, e⟩
          by_cases h : j = m
          · subst h; exact Or.inr e.symm
          · exact Or.inl ⟨j, by omega, e⟩
    · rw [if_neg hk, List.append_nil]
      refine ⟨h1, fun p => ?_⟩
      have hk' : ¬ (m = 0 ∨ d[m]! ≠ d[m - 1]!) := by simpa [keeps] using hk
      rw [h2 p]
      constructor
      · rintro ⟨j, hj, e⟩; exact ⟨j, by omega, e⟩
      · rintro ⟨j, hj, e⟩
        by_cases h : j = m
        · subst h
          refine ⟨j - 1, by omega, ?_⟩
          rw [← e]
          exact (Classical.byContradiction fun c => hk' (Or.inr fun x => c x.symm))
        · exact ⟨j, by omega, e⟩
end Go.Proofs.Ythobobgiendcfaa
