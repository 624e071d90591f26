/- quarters: the cells of each quarter of a square. -/
import Derived.Test.YtofbcngcblleaabGreatQuCount
namespace Go.Proofs.YtofbcngcblleaabGreat.A
open Go.RowKit Go.Maps
def addF (n m : Int) : Int := if 4611686018427387904 - m < n then 4611686018427387904 else n + m
theorem add_any (n m : Int) (w : World) (hn : 0 ≤ n ∧ n ≤ 4611686018427387904) (hm : 0 ≤ m ∧ m ≤ 4611686018427387904) :
    Calls Tryz.prog 108 #[.int .i64 n, .int .i64 m] w fun x w' => x = .returned (.int .i64 (addF n m)) ∧ w' = w := by
  by_cases h : 4611686018427387904 - m < n
  · have HE : Hid (addF n m = 4611686018427387904) := by show _ = _; unfold addF; rw [if_pos h]
    go_enter Tryz.func108, Tryz.ntmps108
    go_wp2_with fail
    go_ret
    exact ⟨ret_i HE.out.symm, rfl⟩
  · have HE : Hid (addF n m = n + m) := by show _ = _; unfold addF; rw [if_neg h]
    go_enter Tryz.func108, Tryz.ntmps108
    go_wp2_with fail
    go_ret
    exact ⟨ret_i HE.out.symm, rfl⟩
/-! where a quarter's corner is -/
theorem corner0 (n : Nat) (w : World) (h1 : 1 ≤ n) (h2 : n ≤ 62) : Calls Tryz.prog 57 #[.int .i64 0, .int .i64 n] w fun x w' => x = .returned (.tuple #[.int .i64 0, .int .i64 0]) ∧ w' = w := by
  have hh := fun W => half_any n W h1 h2
  have hb := halfN_bd n h2
  generalize halfN n = k at *
  go_enter Tryz.func57, Tryz.ntmps57
  go_wp2_with fail
  refine (hh _).mono ?_
  rintro e w1 ⟨rfl, rfl⟩
  go_wp2_with fail
  refine (hh _).mono ?_
  rintro e w2 ⟨rfl, rfl⟩
  go_wp2_with fail
  go_ret2
  exact ⟨by simp, rfl⟩
theorem corner1 (n : Nat) (w : World) (h1 : 1 ≤ n) (h2 : n ≤ 62) : Calls Tryz.prog 57 #[.int .i64 1, .int .i64 n] w fun x w' => x = .returned (.tuple #[.int .i64 (halfN n : Int), .int .i64 0]) ∧ w' = w := by
  have hh := fun W => half_any n W h1 h2
  have hb := halfN_bd n h2
  generalize halfN n = k at *
  go_enter Tryz.func57, Tryz.ntmps57
  go_wp2_with fail
  refine (hh _).mono ?_
  rintro e w1 ⟨rfl, rfl⟩
  go_wp2_with fail
  refine (hh _).mono ?_
  rintro e w2 ⟨rfl, rfl⟩
  go_wp2_with fail
  go_ret2
  exact ⟨by simp, rfl⟩
theorem corner2 (n : Nat) (w : World) (h1 : 1 ≤ n) (h2 : n ≤ 62) : Calls Tryz.prog 57 #[.int .i64 2, .int .i64 n] w fun x w' => x = .returned (.tuple #[.int .i64 0, .int .i64 (halfN n : Int)]) ∧ w' = w := by
  have hh := fun W => half_any n W h1 h2
  have hb := halfN_bd n h2
  generalize halfN n = k at *
  go_enter Tryz.func57, Tryz.ntmps57
  go_wp2_with fail
  refine (hh _).mono ?_
  rintro e w1 ⟨rfl, rfl⟩
  go_wp2_with fail
  refine (hh _).mono ?_
  rintro e w2 ⟨rfl, rfl⟩
  go_wp2_with fail
  go_ret2
  exact ⟨by simp, rfl⟩
theorem corner3 (n : Nat) (w : World) (h1 : 1 ≤ n) (h2 : n ≤ 62) : Calls Tryz.prog 57 #[.int .i64 3, .int .i64 n] w fun x w' => x = .returned (.tuple #[.int .i64 (halfN n : Int), .int .i64 (halfN n : Int)]) ∧ w' = w := by
  have hh := fun W => half_any n W h1 h2
  have hb := halfN_bd n h2
  generalize halfN n = k at *
  go_enter Tryz.func57, Tryz.ntmps57
  go_wp2_with fail
  refine (hh _).mono ?_
  rintro e w1 ⟨rfl, rfl⟩
  go_wp2_with fail
  refine (hh _).mono ?_
  rintro e w2 ⟨rfl, rfl⟩
  go_wp2_with fail
  go_ret2
  exact ⟨by simp, rfl⟩
theorem least_any (N : Nat) (x0 y0 x1 y1 : Int) (w : World) (h2 : 2 ≤ N) (h62 : N ≤ 62) (hN : reachB N x0 y0 x1 y1 = true) (hno : ∀ j, 2 ≤ j → j < N → reachB j x0 y0 x1 y1 = false) :
    Calls Tryz.prog 15 #[.agg #[.int .i64 x0, .int .i64 y0, .int .i64 x1, .int .i64 y1]] w fun x w' => x = .returned (.int .i64 N) ∧ Below w.heap.size w w' := by
  have hr := fun (j : Nat) W (h1 : 1 ≤ j) (hj : j ≤ 62) => reaches_any j x0 y0 x1 y1 W h1 hj
  have hb0 : Below w.heap.size w (w.alloc (.cells #[.int .i64 x0, .int .i64 y0, .int .i64 x1, .int .i64 y1] 49)) := (Below.refl _ _).alloc (Nat.le_refl _) _
  have hX : (w.alloc (.cells #[.int .i64 x0, .int .i64 y0, .int .i64 x1, .int .i64 y1] 49)).heap[w.heap.size]? = some (.cells #[.int .i64 x0, .int .i64 y0, .int .i64 x1, .int .i64 y1] 49 (0, 0)) := heap_alloc_new w _
  have HN : Hid (∀ i : Nat, 2 ≤ i → i ≤ N → reachB i x0 y0 x1 y1 = decide (i = N)) := fun i hi hiN => by
    by_cases e : i = N
    · subst e; rw [hN]; simp
    · rw [hno i hi (by omega)]; simp [e]
  clear hN hno
  go_enter Tryz.func15, Tryz.ntmps15
  go_wp2_with fail
  go_loopg [3] (N - 2) (fun g s3 wr => ∃ i : Nat, i + g = N ∧ 2 ≤ i ∧ s3 = .int .i64 i ∧ wr.heap[w.heap.size]? = some (.cells #[.int .i64 x0, .int .i64 y0, .int .i64 x1, .int .i64 y1] 49 (0, 0)) ∧ Below w.heap.size w wr)
  case atStart => exact ⟨2, by omega, by omega, rfl, hX, hb0⟩
  case round =>
    obtain ⟨i, hig, hi2, rfl, hXr, hbr⟩ := hrel
    have HI : Hid (i + gk = N) := hig
    have hr1 := hr i wr (by omega) (by omega)
    rw [HN.out i hi2 (by omega)] at hr1
    have hi62 : i < 100 := by omega
    have k0 := Lib.cell_of_heap hXr 0
    have k1 := Lib.cell_of_heap hXr 1
    have k2 := Lib.cell_of_heap hXr 2
    have k3 := Lib.cell_of_heap hXr 3
    have hlr : w.heap.size < wr.heap.size := (Array.getElem?_eq_some_iff.1 hXr).1
    clear hX hb0 hig hr
    by_cases e : i = N
    · have HE : Hid (i = N) := e
      rw [show decide (i = N) = true by simp [e]] at hr1
      clear e
      go_wp2_with fail
      refine hr1.mono ?_
      rintro y w1 ⟨rfl, b1⟩
      go_wp2_with fail
      go_ret
      exact ⟨ret_i (by rw [HE.out]), hbr.trans (b1.mono hbr.size)⟩
    · have HE : Hid (i ≠ N) := e
      rw [show decide (i = N) = false by simp [e]] at hr1
      clear e
      go_wp2_with fail
      refine hr1.mono ?_
      rintro y w1 ⟨rfl, b1⟩
      go_wp2_with fail
      go_roundg (gk - 1)
      case measure => have := HI.out; have := HE.out; omega
      case rel => exact ⟨i + 1, by have := HI.out; have := HE.out; omega, by omega, by go_num, (b1.block _ hlr).trans hXr, hbr.trans (b1.mono hbr.size)⟩
end Go.Proofs.YtofbcngcblleaabGreat.A

namespace Go.Proofs.YtofbcngcblleaabGreat.A
open Go.RowKit Go.Maps
def qi (x y : Int) (c : Int × Int) : Nat := (if x ≤ c.1 then 1 else 0) + (if y ≤ c.2 then 2 else 0)
def part (x y : Int) (zs : List (Int × Int)) (i : Nat) : List (Int × Int) := zs.filter fun c => qi x y c == i
def cL (zs : List (Int × Int)) : List Value := zs.flatMap fun c => [.int .i64 c.1, .int .i64 c.2]
theorem part_snoc (x y : Int) (zs : List (Int × Int)) (c : Int × Int) (i : Nat) : part x y (zs ++ [c]) i = if qi x y c = i then part x y zs i ++ [c] else part x y zs i := by
  unfold part
  rw [List.filter_append]
  by_cases h : qi x y c = i <;> simp [h]
theorem cL_snoc (zs : List (Int × Int)) (c : Int × Int) : cL (zs ++ [c]) = cL zs ++ [.int .i64 c.1, .int .i64 c.2] := by simp [cL]
theorem part_le (x y : Int) (zs : List (Int × Int)) (i : Nat) : (part x y zs i).length ≤ zs.length := List.length_filter_le _ _
abbrev nil4 : Array Value := #[.slice none 0 0, .slice none 0 0, .slice none 0 0, .slice none 0 0]
structure QS (w wr : World) (x y : Int) (zs : List (Int × Int)) (vs : Nat → Value) : Prop where
  blk : wr.heap[w.heap.size + 1]? = some (.cells #[vs 0, vs 1, vs 2, vs 3] 101 (0, 0))
  res : wr.heap[w.heap.size]? = some (.cells nil4 101 (0, 0))
  row : ∀ i, i < 4 → wr.ownsRow (w.heap.size + 2) 27 2 (vs i) (part x y zs i).length (cL (part x y zs i))
  ap : ∀ i j b, i < 4 → j < 4 → (vs i).ownBlock = some b → (vs j).ownBlock = some b → i = j
  bel : Below w.heap.size w wr
def updV (vs : Nat → Value) (i : Nat) (v : Value) : Nat → Value := fun j => if j = i then v else vs j
theorem QS.step {w wr W w5 : World} {x y : Int} {zs : List (Int × Int)} {vs : Nat → Value} {c : Int × Int} {i g5 cap5 : Nat} (h : QS w wr x y zs vs) (hi : qi x y c = i) (hi4 : i < 4) (hW : Below wr.heap.size wr W)
    (hown : w5.ownsRow (w.heap.size + 2) 27 2 (.slice (some ⟨g5, 0, none⟩) ((part x y zs i).length + 1) cap5) ((part x y zs i).length + 1) (cL (part x y zs i) ++ [.int .i64 c.1, .int .i64 c.2]))
    (hg : W.grownBy w5 (vs i).ownBlock) (hat : (vs i).ownBlock = some g5 ∨ wr.heap.size ≤ g5) :
    QS w (w5.setCell ⟨w.heap.size + 1, i, none⟩ (.slice (some ⟨g5, 0, none⟩) ((part x y zs i).length + 1) cap5)) x y (zs ++ [c]) (updV vs i (.slice (some ⟨g5, 0, none⟩) ((part x y zs i).length + 1) cap5)) := by
  have hq : w.heap.size + 1 < wr.heap.size := (Array.getElem?_eq_some_iff.1 h.blk).1
  have hlt : ∀ j, j < 4 → ∀ k, (vs j).ownBlock = some k → w.heap.size + 2 ≤ k ∧ k < wr.heap.size := fun j hj k hk => World.ownsRow.lt (h.row j hj) k hk
  have keep : ∀ k, k < wr.heap.size → (vs i).ownBlock ≠ some k → w5.heap[k]? = wr.heap[k]? := fun k hk hn => (hg.block k (Nat.lt_of_lt_of_le hk hW.size) hn.symm).trans (hW.block k hk)
  have hq5 : w5.heap[w.heap.size + 1]? = some (.cells #[vs 0, vs 1, vs 2, vs 3] 101 (0, 0)) := (keep _ hq (fun e => by have := hlt i hi4 _ e; omega)).trans h.blk
  have hset : ∀ k, k ≠ w.heap.size + 1 → (w5.setCell ⟨w.heap.size + 1, i, none⟩ (.slice (some ⟨g5, 0, none⟩) ((part x y zs i).length + 1) cap5)).heap[k]? = w5.heap[k]? := fun k hk => Below.heap_setCell _ _ _ _ hk
  refine ⟨?_, ?_, fun j hj => ?_, fun j l b hj hl h1 h2 => ?_, ?_⟩
  · have := Go.Joins.block_setCell (i := i) hq5 (.slice (some ⟨g5, 0, none⟩) ((part x y zs i).length + 1) cap5)
    rw [this]
    match i, hi4 with
    | 0, _ => rfl
    | 1, _ => rfl
    | 2, _ => rfl
    | 3, _ => rfl
  · rw [hset _ (by omega), keep _ (by omega) (fun e => by have := hlt i hi4 _ e; omega)]
    exact h.res
  · rw [part_snoc]
    by_cases e : j = i
    · subst e
      rw [if_pos hi, cL_snoc]
      simp only [updV, if_pos, List.length_append, List.length_singleton]
      refine row_other hown fun k hk => hset k ?_
      simp only [Value.ownBlock, Option.some.injEq] at hk
      subst hk
      rcases hat with h1 | h1
      · have := hlt j hj _ h1; omega
      · omega
    · rw [if_neg (fun e' => e (by omega))]
      simp only [updV, if_neg e]
      refine row_other (h.row j hj) fun k hk => ?_
      have hb := hlt j hj k hk
      rw [hset k (by omega), keep k hb.2 (fun e' => e (h.ap j i k hj hi4 hk e'))]
  · unfold updV at h1 h2
    by_cases ej : j = i
    · by_cases el : l = i
      · omega
      · rw [if_pos ej] at h1
        rw [if_neg el] at h2
        simp only [Value.ownBlock, Option.some.injEq] at h1
        subst h1
        rcases hat with h3 | h3
        · exact absurd (h.ap l i _ hl hi4 h2 h3) el
        · have := hlt l hl _ h2; omega
    · rw [if_neg ej] at h1
      by_cases el : l = i
      · rw [if_pos el] at h2
        simp only [Value.ownBlock, Option.some.injEq] at h2
        subst h2
        rcases hat with h3 | h3
        · exact absurd (h.ap j i _ hj hi4 h1 h3) ej
        · have := hlt j hj _ h1; omega
      · rw [if_neg el] at h2
        exact h.ap j l b hj hl h1 h2
  · have hb := h.bel
    refine ⟨hg.os.trans (hW.os.trans hb.os), hg.tape.trans (hW.tape.trans hb.tape), hg.output.trans (hW.output.trans hb.output), ?_, fun k hk => ?_⟩
    · have a := hg.size; have b := hW.size; have c := hb.size
      rw [size_set]
      omega
    · rw [hset k (by omega), keep k (by have := hb.size; omega) (fun e => by have := hlt i hi4 _ e; omega)]
      exact hb.block k hk
end Go.Proofs.YtofbcngcblleaabGreat.A
