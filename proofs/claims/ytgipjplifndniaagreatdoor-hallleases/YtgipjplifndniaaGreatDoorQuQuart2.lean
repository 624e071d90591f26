/- quarters: the walk. -/
import Derived.Test.YtgipjplifndniaaGreatDoorLpOpenA
namespace Go.Proofs.YtgipjplifndniaaGreatDoor.A
open Go.RowKit Go.Maps

def addF (n m : Int) : Int := if 4611686018427387904 - m < n then 4611686018427387904 else n + m
theorem add_any (n m : Int) (w : World) (hn : 0 ≤ n ∧ n ≤ 4611686018427387904) (hm : 0 ≤ m ∧ m ≤ 4611686018427387904) :
    Calls Tryz.prog 137 #[.int .i64 n, .int .i64 m] w fun x w' => x = .returned (.int .i64 (addF n m)) ∧ w' = w := by
  by_cases h : 4611686018427387904 - m < n
  · have HE : Hid (addF n m = 4611686018427387904) := by show _ = _; unfold addF; rw [if_pos h]
    go_enter Tryz.func137, Tryz.ntmps137
    go_wp2_with fail
    go_ret
    exact ⟨ret_i HE.out.symm, rfl⟩
  · have HE : Hid (addF n m = n + m) := by show _ = _; unfold addF; rw [if_neg h]
    go_enter Tryz.func137, Tryz.ntmps137
    go_wp2_with fail
    go_ret
    exact ⟨ret_i HE.out.symm, rfl⟩

/-! where a quarter's corner is -/
theorem corner0 (n : Nat) (w : World) (h1 : 1 ≤ n) (h2 : n ≤ 62) : Calls Tryz.prog 132 #[.int .i64 0, .int .i64 n] w fun x w' => x = .returned (.tuple #[.int .i64 0, .int .i64 0]) ∧ w' = w := by
  have hh := fun W => half_any n W h1 h2
  have hb := halfN_bd n h2
  generalize halfN n = k at *
  go_enter Tryz.func132, Tryz.ntmps132
  go_wp2_with fail
  refine (hh _).mono ?_
  rintro e w1 ⟨rfl, rfl⟩
  go_wp2_with fail
  refine (hh _).mono ?_
  rintro e w2 ⟨rfl, rfl⟩
  go_wp2_with fail
  go_ret2
  exact ⟨by simp, rfl⟩
theorem corner1 (n : Nat) (w : World) (h1 : 1 ≤ n) (h2 : n ≤ 62) : Calls Tryz.prog 132 #[.int .i64 1, .int .i64 n] w fun x w' => x = .returned (.tuple #[.int .i64 (halfN n : Int), .int .i64 0]) ∧ w' = w := by
  have hh := fun W => half_any n W h1 h2
  have hb := halfN_bd n h2
  generalize halfN n = k at *
  go_enter Tryz.func132, Tryz.ntmps132
  go_wp2_with fail
  refine (hh _).mono ?_
  rintro e w1 ⟨rfl, rfl⟩
  go_wp2_with fail
  refine (hh _).mono ?_
  rintro e w2 ⟨rfl, rfl⟩
  go_wp2_with fail
  go_ret2
  exact ⟨by simp, rfl⟩
theorem corner2 (n : Nat) (w : World) (h1 : 1 ≤ n) (h2 : n ≤ 62) : Calls Tryz.prog 132 #[.int .i64 2, .int .i64 n] w fun x w' => x = .returned (.tuple #[.int .i64 0, .int .i64 (halfN n : Int)]) ∧ w' = w := by
  have hh := fun W => half_any n W h1 h2
  have hb := halfN_bd n h2
  generalize halfN n = k at *
  go_enter Tryz.func132, Tryz.ntmps132
  go_wp2_with fail
  refine (hh _).mono ?_
  rintro e w1 ⟨rfl, rfl⟩
  go_wp2_with fail
  refine (hh _).mono ?_
  rintro e w2 ⟨rfl, rfl⟩
  go_wp2_with fail
  go_ret2
  exact ⟨by simp, rfl⟩
theorem corner3 (n : Nat) (w : World) (h1 : 1 ≤ n) (h2 : n ≤ 62) : Calls Tryz.prog 132 #[.int .i64 3, .int .i64 n] w fun x w' => x = .returned (.tuple #[.int .i64 (halfN n : Int), .int .i64 (halfN n : Int)]) ∧ w' = w := by
  have hh := fun W => half_any n W h1 h2
  have hb := halfN_bd n h2
  generalize halfN n = k at *
  go_enter Tryz.func132, Tryz.ntmps132
  go_wp2_with fail
  refine (hh _).mono ?_
  rintro e w1 ⟨rfl, rfl⟩
  go_wp2_with fail
  refine (hh _).mono ?_
  rintro e w2 ⟨rfl, rfl⟩
  go_wp2_with fail
  go_ret2
  exact ⟨by simp, rfl⟩

theorem least_any (N : Nat) (x0 y0 x1 y1 : Int) (w : World) (h2 : 2 ≤ N) (h62 : N ≤ 62) (hN : reachB N x0 y0 x1 y1 = true) (hno : ∀ j, 2 ≤ j → j < N → reachB j x0 y0 x1 y1 = false) :
    Calls Tryz.prog 91 #[.agg #[.int .i64 x0, .int .i64 y0, .int .i64 x1, .int .i64 y1]] w fun x w' => x = .returned (.int .i64 N) ∧ Below w.heap.size w w' := by
  have hr := fun (j : Nat) W (h1 : 1 ≤ j) (hj : j ≤ 62) => reaches_any j x0 y0 x1 y1 W h1 hj
  have hb0 : Below w.heap.size w (w.alloc (.cells #[.int .i64 x0, .int .i64 y0, .int .i64 x1, .int .i64 y1] 31)) := (Below.refl _ _).alloc (Nat.le_refl _) _
  have hX : (w.alloc (.cells #[.int .i64 x0, .int .i64 y0, .int .i64 x1, .int .i64 y1] 31)).heap[w.heap.size]? = some (.cells #[.int .i64 x0, .int .i64 y0, .int .i64 x1, .int .i64 y1] 31 (0, 0)) := heap_alloc_new w _
  have HN : Hid (∀ i : Nat, 2 ≤ i → i ≤ N → reachB i x0 y0 x1 y1 = decide (i = N)) := fun i hi hiN => by
    by_cases e : i = N
    · subst e; rw [hN]; simp
    · rw [hno i hi (by omega)]; simp [e]
  clear hN hno
  go_enter Tryz.func91, Tryz.ntmps91
  go_wp2_with fail
  go_loopg [3] (N - 2) (fun g s3 wr => ∃ i : Nat, i + g = N ∧ 2 ≤ i ∧ s3 = .int .i64 i ∧ wr.heap[w.heap.size]? = some (.cells #[.int .i64 x0, .int .i64 y0, .int .i64 x1, .int .i64 y1] 31 (0, 0)) ∧ Below w.heap.size w wr)
  case atStart => exact ⟨2, by omega, by omega, rfl, hX, hb0⟩
  case round =>
    obtain ⟨i, hig, hi2, rfl, hXr, hbr⟩ := hrel
    have HI : Hid (i + gk = N) := hig
    have hr1 := hr i wr (by omega) (by omega)
    rw [HN.out i hi2 (by omega)] at hr1
    have hi62 : i < 100 := by omega
    have k0 := Lib.cell_of_heap hXr 0
    have k1 := Lib.cell_of_heap hXr 1
    have k2 := Lib.cell_of_heap hXr 2
    have k3 := Lib.cell_of_heap hXr 3
    have hlr : w.heap.size < wr.heap.size := (Array.getElem?_eq_some_iff.1 hXr).1
    clear hX hb0 hig hr
    by_cases e : i = N
    · have HE : Hid (i = N) := e
      rw [show decide (i = N) = true by simp [e]] at hr1
      clear e
      go_wp2_with fail
      refine hr1.mono ?_
      rintro y w1 ⟨rfl, b1⟩
      go_wp2_with fail
      go_ret
      exact ⟨ret_i (by rw [HE.out]), hbr.trans (b1.mono hbr.size)⟩
    · have HE : Hid (i ≠ N) := e
      rw [show decide (i = N) = false by simp [e]] at hr1
      clear e
      go_wp2_with fail
      refine hr1.mono ?_
      rintro y w1 ⟨rfl, b1⟩
      go_wp2_with fail
      go_roundg (gk - 1)
      case measure => have := HI.out; have := HE.out; omega
      case rel => exact ⟨i + 1, by have := HI.out; have := HE.out; omega, by omega, by go_num, (b1.block _ hlr).trans hXr, hbr.trans (b1.mono hbr.size)⟩
end Go.Proofs.YtgipjplifndniaaGreatDoor.A

namespace Go.Proofs.YtgipjplifndniaaGreatDoor.A
open Go.RowKit Go.Maps

def qi (x y : Int) (c : Int × Int) : Nat := (if x ≤ c.1 then 1 else 0) + (if y ≤ c.2 then 2 else 0)
def part (x y : Int) (zs : List (Int × Int)) (i : Nat) : List (Int × Int) := zs.filter fun c => qi x y c == i
def cL (zs : List (Int × Int)) : List Value := zs.flatMap fun c => [.int .i64 c.1, .int .i64 c.2]
theorem part_snoc (x y : Int) (zs : List (Int × Int)) (c : Int × Int) (i : Nat) : part x y (zs ++ [c]) i = if qi x y c = i then part x y zs i ++ [c] else part x y zs i := by
  unfold part
  rw [List.filter_append]
  by_cases h : qi x y c = i <;> simp [h]
theorem cL_snoc (zs : List (Int × Int)) (c : Int × Int) : cL (zs ++ [c]) = cL zs ++ [.int .i64 c.1, .int .i64 c.2] := by simp [cL]
theorem part_le (x y : Int) (zs : List (Int × Int)) (i : Nat) : (part x y zs i).length ≤ zs.length := List.length_filter_le _ _

abbrev nil4 : Array Value := #[.slice none 0 0, .slice none 0 0, .slice none 0 0, .slice none 0 0]
structure QS (w wr : World) (x y : Int) (zs : List (Int × Int)) (vs : Nat → Value) : Prop where
  blk : wr.heap[w.heap.size + 1]? = some (.cells #[vs 0, vs 1, vs 2, vs 3] 199 (0, 0))
  res : wr.heap[w.heap.size]? = some (.cells nil4 199 (0, 0))
  row : ∀ i, i < 4 → wr.ownsRow (w.heap.size + 2) 50 2 (vs i) (part x y zs i).length (cL (part x y zs i))
  ap : ∀ i j b, i < 4 → j < 4 → (vs i).ownBlock = some b → (vs j).ownBlock = some b → i = j
  bel : Below w.heap.size w wr
def updV (vs : Nat → Value) (i : Nat) (v : Value) : Nat → Value := fun j => if j = i then v else vs j

theorem QS.step {w wr W w5 : World} {x y : Int} {zs : List (Int × Int)} {vs : Nat → Value} {c : Int × Int} {i g5 cap5 : Nat} (h : QS w wr x y zs vs) (hi : qi x y c = i) (hi4 : i < 4) (hW : Below wr.heap.size wr W)
    (hown : w5.ownsRow (w.heap.size + 2) 50 2 (.slice (some ⟨g5, 0, none⟩) ((part x y zs i).length + 1) cap5) ((part x y zs i).length + 1) (cL (part x y zs i) ++ [.int .i64 c.1, .int .i64 c.2]))
    (hg : W.grownBy w5 (vs i).ownBlock) (hat : (vs i).ownBlock = some g5 ∨ wr.heap.size ≤ g5) :
    QS w (w5.setCell ⟨w.heap.size + 1, i, none⟩ (.slice (some ⟨g5, 0, none⟩) ((part x y zs i).length + 1) cap5)) x y (zs ++ [c]) (updV vs i (.slice (some ⟨g5, 0, none⟩) ((part x y zs i).length + 1) cap5)) := by
  have hq : w.heap.size + 1 < wr.heap.size := (Array.getElem?_eq_some_iff.1 h.blk).1
  have hlt : ∀ j, j < 4 → ∀ k, (vs j).ownBlock = some k → w.heap.size + 2 ≤ k ∧ k < wr.heap.size := fun j hj k hk => World.ownsRow.lt (h.row j hj) k hk
  have keep : ∀ k, k < wr.heap.size → (vs i).ownBlock ≠ some k → w5.heap[k]? = wr.heap[k]? := fun k hk hn => (hg.block k (Nat.lt_of_lt_of_le hk hW.size) hn.symm).trans (hW.block k hk)
  have hq5 : w5.heap[w.heap.size + 1]? = some (.cells #[vs 0, vs 1, vs 2, vs 3] 199 (0, 0)) := (keep _ hq (fun e => by have := hlt i hi4 _ e; omega)).trans h.blk
  have hset : ∀ k, k ≠ w.heap.size + 1 → (w5.setCell ⟨w.heap.size + 1, i, none⟩ (.slice (some ⟨g5, 0, none⟩) ((part x y zs i).length + 1) cap5)).heap[k]? = w5.heap[k]? := fun k hk => Below.heap_setCell _ _ _ _ hk
  refine ⟨?_, ?_, fun j hj => ?_, fun j l b hj hl h1 h2 => ?_, ?_⟩
  · have := Go.Joins.block_setCell (i := i) hq5 (.slice (some ⟨g5, 0, none⟩) ((part x y zs i).length + 1) cap5)
    rw [this]
    match i, hi4 with
    | 0, _ => rfl
    | 1, _ => rfl
    | 2, _ => rfl
    | 3, _ => rfl
  · rw [hset _ (by omega), keep _ (by omega) (fun e => by have := hlt i hi4 _ e; omega)]
    exact h.res
  · rw [part_snoc]
    by_cases e : j = i
    · subst e
      rw [if_pos hi, cL_snoc]
      simp only [updV, if_pos, List.length_append, List.length_singleton]
      refine row_other hown fun k hk => hset k ?_
      simp only [Value.ownBlock, Option.some.injEq] at hk
      subst hk
      rcases hat with h1 | h1
      · have := hlt j hj _ h1; omega
      · omega
    · rw [if_neg (fun e' => e (by omega))]
      simp only [updV, if_neg e]
      refine row_other (h.row j hj) fun k hk => ?_
      have hb := hlt j hj k hk
      rw [hset k (by omega), keep k hb.2 (fun e' => e (h.ap j i k hj hi4 hk e'))]
  · unfold updV at h1 h2
    by_cases ej : j = i
    · by_cases el : l = i
      · omega
      · rw [if_pos ej] at h1
        rw [if_neg el] at h2
        simp only [Value.ownBlock, Option.some.injEq] at h1
        subst h1
        rcases hat with h3 | h3
        · exact absurd (h.ap l i _ hl hi4 h2 h3) el
        · have := hlt l hl _ h2; omega
    · rw [if_neg ej] at h1
      by_cases el : l = i
      · rw [if_pos el] at h2
        simp only [Value.ownBlock, Option.some.injEq] at h2
        subst h2
        rcases hat with h3 | h3
        · exact absurd (h.ap j i _ hj hi4 h1 h3) ej
        · have := hlt j hj _ h1; omega
      · rw [if_neg el] at h2
        exact h.ap j l b hj hl h1 h2
  · have hb := h.bel
    refine ⟨hg.os.trans (hW.os.trans hb.os), hg.tape.trans (hW.tape.trans hb.tape), hg.output.trans (hW.output.trans hb.output), ?_, fun k hk => ?_⟩
    · have a := hg.size; have b := hW.size; have c := hb.size
      rw [size_set]
      omega
    · rw [hset k (by omega), keep k (by have := hb.size; omega) (fun e => by have := hlt i hi4 _ e; omega)]
      exact hb.block k hk
end Go.Proofs.YtgipjplifndniaaGreatDoor.A

namespace Go.Proofs.YtgipjplifndniaaGreatDoor.A
open Go.RowKit Go.Maps

theorem hnw (p q : Int) (W : World) : ∀ (j : Nat) (u : Value), [Value.int .i64 p, .int .i64 q][j]? = some u → (W.alloc (.cells #[.int .i64 p, .int .i64 q] 50)).drew.cell? ((⟨W.heap.size, 0, none⟩ : Addr).add j) = some u :=
  World.news_of_block (cs := #[.int .i64 p, .int .i64 q]) (t := 50) (fr := (0, 0)) (heap_alloc_new W _)
theorem row_slice {w : World} {B e n sz : Nat} {v : Value} {xs : List Value} (h : w.ownsRow B e sz v n xs) : ∃ a c, v = .slice a n c := by
  obtain ⟨_, ⟨h1, h2⟩ | ⟨g, cap, cur, h1, _⟩⟩ := h
  · exact ⟨none, 0, by rw [h1, h2]⟩
  · exact ⟨_, _, h1⟩
theorem hone (p q : Int) : ∀ u ∈ [Value.int .i64 p, .int .i64 q], u.oneCell' = true := by
  intro u hu
  simp at hu
  rcases hu with rfl | rfl <;> rfl

set_option maxRecDepth 20000 in
set_option maxHeartbeats 8000000 in
theorem quarters_some (b off cp : Nat) (zs : List (Int × Int)) (x y : Int) (w : World) (hb : b < w.heap.size) (hn : zs.length ≤ 4096) (hH : HoldsR w b off zs) :
    Calls Tryz.prog 131 #[.slice (some ⟨b, off, none⟩) zs.length cp, .int .i64 x, .int .i64 y] w fun e w' => ∃ vs : Nat → Value, e = .returned (.agg #[vs 0, vs 1, vs 2, vs 3]) ∧ (∀ i, i < 4 → w'.ownsRow (w.heap.size + 2) 50 2 (vs i) (part x y zs i).length (cL (part x y zs i))) ∧ Below w.heap.size w w' := by
  obtain ⟨i0, hi, hz0, hz1, hz2⟩ := info_parts Tryz.info50
  have Q0 : QS w ((w.alloc (.cells nil4 199)).alloc (.cells nil4 199)) x y (zs.take 0) (fun _ => .slice none 0 0) :=
    ⟨heap_alloc2_new w _ _, heap_alloc2_old w _ _, fun i _ => ⟨by simp [part, cL], Or.inl ⟨rfl, by simp [part]⟩⟩, fun i j b _ _ h1 _ => by simp [Value.ownBlock] at h1, ((Below.refl _ _).alloc (Nat.le_refl _) _).alloc (by simp) _⟩
  have HH : Hid (HoldsR w b off zs) := hH
  have HZ : Hid (∀ k, k < zs.length → zs.take (k + 1) = zs.take k ++ [zs[k]!]) := fun k hk => by
    rw [List.take_add_one, List.getElem?_eq_getElem hk]; simp [hk]
  have HTA : Hid (zs.take zs.length = zs) := List.take_length
  clear hH
  go_enter Tryz.func131, Tryz.ntmps131
  go_wp2_with fail
  go_loopg [13] zs.length (fun g s13 wr => ∃ (k : Nat) (vs : Nat → Value), k + g = zs.length ∧ s13 = .int .i64 k ∧ QS w wr x y (zs.take k) vs)
  case atStart => exact ⟨0, _, by omega, rfl, Q0⟩
  case round =>
    clear Q0
    obtain ⟨k, vs, hkg, rfl, Q⟩ := hrel
    have HI : Hid (k + gk = zs.length) := hkg
    have hqlt : w.heap.size + 1 < wr.heap.size := (Array.getElem?_eq_some_iff.1 Q.blk).1
    clear hkg
    by_cases hk : k < zs.length
    · obtain ⟨e0, e1⟩ := HH.out k hk
      have f0 : wr.cell? ⟨b, off + k * 2, none⟩ = some (.int .i64 (zs[k]!).1) := (Q.bel.cell (p := ⟨b, off + k * 2, none⟩) hb).trans e0
      have f1 : wr.cell? ⟨b, off + k * 2 + 1, none⟩ = some (.int .i64 (zs[k]!).2) := (Q.bel.cell (p := ⟨b, off + k * 2 + 1, none⟩) hb).trans e1
      have HT : Hid (zs.take (k + 1) = zs.take k ++ [zs[k]!]) := HZ.out k hk
      clear e0 e1
      generalize zs[k]! = c at *
      obtain ⟨p, q⟩ := c
      simp only at f0 f1
      by_cases hx : x ≤ p
      · by_cases hy : y ≤ q
        · have HQ : Hid (qi x y (p, q) = 3) := by show _ = _; simp [qi, hx, hy]
          have hrow := Q.row 3 (by omega)
          have hlen := part_le x y (zs.take k) 3
          have cq : wr.cell? ⟨w.heap.size + 1, 3, none⟩ = some (vs 3) := Lib.cell_of_heap Q.blk 3
          go_wp2_with fail
          have hsz1 : wr.heap.size + 1 ≤ (wr.alloc (.cells #[.int .i64 p, .int .i64 q] 50)).heap.size := by simp
          have bW : Below wr.heap.size wr (wr.alloc (.cells #[.int .i64 p, .int .i64 q] 50)) := (Below.refl _ _).alloc (Nat.le_refl _) _
          have hXc : (wr.alloc (.cells #[.int .i64 p, .int .i64 q] 50)).heap[wr.heap.size]? = some (.cells #[.int .i64 p, .int .i64 q] 50 (0, 0)) := heap_alloc_new wr _
          generalize wr.alloc (.cells #[.int .i64 p, .int .i64 q] 50) = W1 at *
          have cq1 : W1.cell? ⟨w.heap.size + 1, 3, none⟩ = some (vs 3) := (bW.cell (p := ⟨w.heap.size + 1, 3, none⟩) hqlt).trans cq
          have cq2 : (W1.alloc (.cells #[.int .i64 p, .int .i64 q] 50)).cell? ⟨w.heap.size + 1, 3, none⟩ = some (vs 3) := (World.cell?_of_block (a := ⟨w.heap.size + 1, 3, none⟩) (push_old (show w.heap.size + 1 < W1.heap.size by omega))).trans cq1
          have d0 := Lib.cell_of_heap hXc 0
          have d1 := Lib.cell_of_heap hXc 1
          have hrow1 := row_other (w' := W1) hrow (fun j hj => bW.block j ((World.ownsRow.lt hrow j hj).2))
          have OW : Hid (∀ o, (W1.alloc o).drew.ownsRow (w.heap.size + 2) 50 2 (vs 3) (part x y (zs.take k) 3).length (cL (part x y (zs.take k) 3))) := fun o => World.ownsRow.alloc hrow1 o
          have hob : (vs 3).ownBlock ≠ some (w.heap.size + 1) := fun e => by have := (World.ownsRow.lt hrow _ e).1; omega
          have HST : Hid (∀ o w5 g5 cap5, w5.ownsRow (w.heap.size + 2) 50 2 (.slice (some ⟨g5, 0, none⟩) ((part x y (zs.take k) 3).length + 1) cap5) ((part x y (zs.take k) 3).length + 1) (cL (part x y (zs.take k) 3) ++ [.int .i64 p, .int .i64 q]) → (W1.alloc o).drew.grownBy w5 (vs 3).ownBlock → ((vs 3).ownBlock = some g5 ∨ g5 = W1.heap.size + 1) → QS w (w5.setCell ⟨w.heap.size + 1, 3, none⟩ (.slice (some ⟨g5, 0, none⟩) ((part x y (zs.take k) 3).length + 1) cap5)) x y (zs.take (k + 1)) (updV vs 3 (.slice (some ⟨g5, 0, none⟩) ((part x y (zs.take k) 3).length + 1) cap5))) := fun o w5 g5 cap5 h1 h2 h3 => by
            rw [HT.out]
            exact Q.step (W := (W1.alloc o).drew) HQ.out (by omega) (bW.alloc (by omega) o).drew h1 h2 (by rcases h3 with h | h; exact Or.inl h; exact Or.inr (by omega))
          have HC : Hid (∀ o w5, (W1.alloc o).drew.grownBy w5 (vs 3).ownBlock → w5.heap[w.heap.size + 1]? = some (.cells #[vs 0, vs 1, vs 2, vs 3] 199 (0, 0))) := fun o w5 hg => (grown_blk hg (by omega) hob).trans ((bW.block _ hqlt).trans Q.blk)
          have hlq : (part x y (zs.take k) 3).length ≤ 4096 := by have := hlen; simp at this; omega
          generalize (part x y (zs.take k) 3) = pl at *
          generalize hvi : vs 3 = vi at *
          clear hrow hrow1 hXc hlen hx hy cq
          go_region_law (refine step_append_lies _ (by rfl) _ _ 22 (by rfl) (w.heap.size + 2) 50 i0 (.agg #[.int .i64 0, .int .i64 0]) 2 16 Tryz.underlying22 hi hz0 hz1 hz2 rfl (by decide) vi pl.length (cL pl) (by rfl) (OW.out _) ⟨W1.heap.size, 0, none⟩ 1 1 [.int .i64 p, .int .i64 q] (by rfl) rfl (hnw p q _) (hone p q) (by omega) (by unfold maxLen; omega) (by omega) (by simp; omega) (W1.heap.size + 1) (by simp) ?_; intro g5 cap5 w5 hown5 hgrow5 hat5 hlt5; have q3 := HC.out _ _ hgrow5; have q4 := Lib.cell_of_heap q3 3; have q5 := Lib.frozen_of_heap q3 3)
          all_goals
            go_wp2_with fail
            go_roundg (gk - 1)
            case measure => have := HI.out; omega
            case rel => exact ⟨k + 1, _, by have := HI.out; omega, by go_num, HST.out _ _ _ _ hown5 hgrow5 hat5⟩
        · have HQ : Hid (qi x y (p, q) = 1) := by show _ = _; simp [qi, hx, hy]
          have hrow := Q.row 1 (by omega)
          have hlen := part_le x y (zs.take k) 1
          have cq : wr.cell? ⟨w.heap.size + 1, 1, none⟩ = some (vs 1) := Lib.cell_of_heap Q.blk 1
          go_wp2_with fail
          have hsz1 : wr.heap.size + 1 ≤ (wr.alloc (.cells #[.int .i64 p, .int .i64 q] 50)).heap.size := by simp
          have bW : Below wr.heap.size wr (wr.alloc (.cells #[.int .i64 p, .int .i64 q] 50)) := (Below.refl _ _).alloc (Nat.le_refl _) _
          have hXc : (wr.alloc (.cells #[.int .i64 p, .int .i64 q] 50)).heap[wr.heap.size]? = some (.cells #[.int .i64 p, .int .i64 q] 50 (0, 0)) := heap_alloc_new wr _
          generalize wr.alloc (.cells #[.int .i64 p, .int .i64 q] 50) = W1 at *
          have cq1 : W1.cell? ⟨w.heap.size + 1, 1, none⟩ = some (vs 1) := (bW.cell (p := ⟨w.heap.size + 1, 1, none⟩) hqlt).trans cq
          have cq2 : (W1.alloc (.cells #[.int .i64 p, .int .i64 q] 50)).cell? ⟨w.heap.size + 1, 1, none⟩ = some (vs 1) := (World.cell?_of_block (a := ⟨w.heap.size + 1, 1, none⟩) (push_old (show w.heap.size + 1 < W1.heap.size by omega))).trans cq1
          have d0 := Lib.cell_of_heap hXc 0
          have d1 := Lib.cell_of_heap hXc 1
          have hrow1 := row_other (w' := W1) hrow (fun j hj => bW.block j ((World.ownsRow.lt hrow j hj).2))
          have OW : Hid (∀ o, (W1.alloc o).drew.ownsRow (w.heap.size + 2) 50 2 (vs 1) (part x y (zs.take k) 1).length (cL (part x y (zs.take k) 1))) := fun o => World.ownsRow.alloc hrow1 o
          have hob : (vs 1).ownBlock ≠ some (w.heap.size + 1) := fun e => by have := (World.ownsRow.lt hrow _ e).1; omega
          have HST : Hid (∀ o w5 g5 cap5, w5.ownsRow (w.heap.size + 2) 50 2 (.slice (some ⟨g5, 0, none⟩) ((part x y (zs.take k) 1).length + 1) cap5) ((part x y (zs.take k) 1).length + 1) (cL (part x y (zs.take k) 1) ++ [.int .i64 p, .int .i64 q]) → (W1.alloc o).drew.grownBy w5 (vs 1).ownBlock → ((vs 1).ownBlock = some g5 ∨ g5 = W1.heap.size + 1) → QS w (w5.setCell ⟨w.heap.size + 1, 1, none⟩ (.slice (some ⟨g5, 0, none⟩) ((part x y (zs.take k) 1).length + 1) cap5)) x y (zs.take (k + 1)) (updV vs 1 (.slice (some ⟨g5, 0, none⟩) ((part x y (zs.take k) 1).length + 1) cap5))) := fun o w5 g5 cap5 h1 h2 h3 => by
            rw [HT.out]
            exact Q.step (W := (W1.alloc o).drew) HQ.out (by omega) (bW.alloc (by omega) o).drew h1 h2 (by rcases h3 with h | h; exact Or.inl h; exact Or.inr (by omega))
          have HC : Hid (∀ o w5, (W1.alloc o).drew.grownBy w5 (vs 1).ownBlock → w5.heap[w.heap.size + 1]? = some (.cells #[vs 0, vs 1, vs 2, vs 3] 199 (0, 0))) := fun o w5 hg => (grown_blk hg (by omega) hob).trans ((bW.block _ hqlt).trans Q.blk)
          have hlq : (part x y (zs.take k) 1).length ≤ 4096 := by have := hlen; simp at this; omega
          generalize (part x y (zs.take k) 1) = pl at *
          generalize hvi : vs 1 = vi at *
          clear hrow hrow1 hXc hlen hx hy cq
          go_region_law (refine step_append_lies _ (by rfl) _ _ 22 (by rfl) (w.heap.size + 2) 50 i0 (.agg #[.int .i64 0, .int .i64 0]) 2 16 Tryz.underlying22 hi hz0 hz1 hz2 rfl (by decide) vi pl.length (cL pl) (by rfl) (OW.out _) ⟨W1.heap.size, 0, none⟩ 1 1 [.int .i64 p, .int .i64 q] (by rfl) rfl (hnw p q _) (hone p q) (by omega) (by unfold maxLen; omega) (by omega) (by simp; omega) (W1.heap.size + 1) (by simp) ?_; intro g5 cap5 w5 hown5 hgrow5 hat5 hlt5; have q3 := HC.out _ _ hgrow5; have q4 := Lib.cell_of_heap q3 1; have q5 := Lib.frozen_of_heap q3 1)
          all_goals
            go_wp2_with fail
            go_roundg (gk - 1)
            case measure => have := HI.out; omega
            case rel => exact ⟨k + 1, _, by have := HI.out; omega, by go_num, HST.out _ _ _ _ hown5 hgrow5 hat5⟩
      · by_cases hy : y ≤ q
        · have HQ : Hid (qi x y (p, q) = 2) := by show _ = _; simp [qi, hx, hy]
          have hrow := Q.row 2 (by omega)
          have hlen := part_le x y (zs.take k) 2
          have cq : wr.cell? ⟨w.heap.size + 1, 2, none⟩ = some (vs 2) := Lib.cell_of_heap Q.blk 2
          go_wp2_with fail
          have hsz1 : wr.heap.size + 1 ≤ (wr.alloc (.cells #[.int .i64 p, .int .i64 q] 50)).heap.size := by simp
          have bW : Below wr.heap.size wr (wr.alloc (.cells #[.int .i64 p, .int .i64 q] 50)) := (Below.refl _ _).alloc (Nat.le_refl _) _
          have hXc : (wr.alloc (.cells #[.int .i64 p, .int .i64 q] 50)).heap[wr.heap.size]? = some (.cells #[.int .i64 p, .int .i64 q] 50 (0, 0)) := heap_alloc_new wr _
          generalize wr.alloc (.cells #[.int .i64 p, .int .i64 q] 50) = W1 at *
          have cq1 : W1.cell? ⟨w.heap.size + 1, 2, none⟩ = some (vs 2) := (bW.cell (p := ⟨w.heap.size + 1, 2, none⟩) hqlt).trans cq
          have cq2 : (W1.alloc (.cells #[.int .i64 p, .int .i64 q] 50)).cell? ⟨w.heap.size + 1, 2, none⟩ = some (vs 2) := (World.cell?_of_block (a := ⟨w.heap.size + 1, 2, none⟩) (push_old (show w.heap.size + 1 < W1.heap.size by omega))).trans cq1
          have d0 := Lib.cell_of_heap hXc 0
          have d1 := Lib.cell_of_heap hXc 1
          have hrow1 := row_other (w' := W1) hrow (fun j hj => bW.block j ((World.ownsRow.lt hrow j hj).2))
          have OW : Hid (∀ o, (W1.alloc o).drew.ownsRow (w.heap.size + 2) 50 2 (vs 2) (part x y (zs.take k) 2).length (cL (part x y (zs.take k) 2))) := fun o => World.ownsRow.alloc hrow1 o
          have hob : (vs 2).ownBlock ≠ some (w.heap.size + 1) := fun e => by have := (World.ownsRow.lt hrow _ e).1; omega
          have HST : Hid (∀ o w5 g5 cap5, w5.ownsRow (w.heap.size + 2) 50 2 (.slice (some ⟨g5, 0, none⟩) ((part x y (zs.take k) 2).length + 1) cap5) ((part x y (zs.take k) 2).length + 1) (cL (part x y (zs.take k) 2) ++ [.int .i64 p, .int .i64 q]) → (W1.alloc o).drew.grownBy w5 (vs 2).ownBlock → ((vs 2).ownBlock = some g5 ∨ g5 = W1.heap.size + 1) → QS w (w5.setCell ⟨w.heap.size + 1, 2, none⟩ (.slice (some ⟨g5, 0, none⟩) ((part x y (zs.take k) 2).length + 1) cap5)) x y (zs.take (k + 1)) (updV vs 2 (.slice (some ⟨g5, 0, none⟩) ((part x y (zs.take k) 2).length + 1) cap5))) := fun o w5 g5 cap5 h1 h2 h3 => by
            rw [HT.out]
            exact Q.step (W := (W1.alloc o).drew) HQ.out (by omega) (bW.alloc (by omega) o).drew h1 h2 (by rcases h3 with h | h; exact Or.inl h; exact Or.inr (by omega))
          have HC : Hid (∀ o w5, (W1.alloc o).drew.grownBy w5 (vs 2).ownBlock → w5.heap[w.heap.size + 1]? = some (.cells #[vs 0, vs 1, vs 2, vs 3] 199 (0, 0))) := fun o w5 hg => (grown_blk hg (by omega) hob).trans ((bW.block _ hqlt).trans Q.blk)
          have hlq : (part x y (zs.take k) 2).length ≤ 4096 := by have := hlen; simp at this; omega
          generalize (part x y (zs.take k) 2) = pl at *
          generalize hvi : vs 2 = vi at *
          clear hrow hrow1 hXc hlen hx hy cq
          go_region_law (refine step_append_lies _ (by rfl) _ _ 22 (by rfl) (w.heap.size + 2) 50 i0 (.agg #[.int .i64 0, .int .i64 0]) 2 16 Tryz.underlying22 hi hz0 hz1 hz2 rfl (by decide) vi pl.length (cL pl) (by rfl) (OW.out _) ⟨W1.heap.size, 0, none⟩ 1 1 [.int .i64 p, .int .i64 q] (by rfl) rfl (hnw p q _) (hone p q) (by omega) (by unfold maxLen; omega) (by omega) (by simp; omega) (W1.heap.size + 1) (by simp) ?_; intro g5 cap5 w5 hown5 hgrow5 hat5 hlt5; have q3 := HC.out _ _ hgrow5; have q4 := Lib.cell_of_heap q3 2; have q5 := Lib.frozen_of_heap q3 2)
          all_goals
            go_wp2_with fail
            go_roundg (gk - 1)
            case measure => have := HI.out; omega
            case rel => exact ⟨k + 1, _, by have := HI.out; omega, by go_num, HST.out _ _ _ _ hown5 hgrow5 hat5⟩
        · have HQ : Hid (qi x y (p, q) = 0) := by show _ = _; simp [qi, hx, hy]
          have hrow := Q.row 0 (by omega)
          have hlen := part_le x y (zs.take k) 0
          have cq : wr.cell? ⟨w.heap.size + 1, 0, none⟩ = some (vs 0) := Lib.cell_of_heap Q.blk 0
          go_wp2_with fail
          have hsz1 : wr.heap.size + 1 ≤ (wr.alloc (.cells #[.int .i64 p, .int .i64 q] 50)).heap.size := by simp
          have bW : Below wr.heap.size wr (wr.alloc (.cells #[.int .i64 p, .int .i64 q] 50)) := (Below.refl _ _).alloc (Nat.le_refl _) _
          have hXc : (wr.alloc (.cells #[.int .i64 p, .int .i64 q] 50)).heap[wr.heap.size]? = some (.cells #[.int .i64 p, .int .i64 q] 50 (0, 0)) := heap_alloc_new wr _
          generalize wr.alloc (.cells #[.int .i64 p, .int .i64 q] 50) = W1 at *
          have cq1 : W1.cell? ⟨w.heap.size + 1, 0, none⟩ = some (vs 0) := (bW.cell (p := ⟨w.heap.size + 1, 0, none⟩) hqlt).trans cq
          have cq2 : (W1.alloc (.cells #[.int .i64 p, .int .i64 q] 50)).cell? ⟨w.heap.size + 1, 0, none⟩ = some (vs 0) := (World.cell?_of_block (a := ⟨w.heap.size + 1, 0, none⟩) (push_old (show w.heap.size + 1 < W1.heap.size by omega))).trans cq1
          have d0 := Lib.cell_of_heap hXc 0
          have d1 := Lib.cell_of_heap hXc 1
          have hrow1 := row_other (w' := W1) hrow (fun j hj => bW.block j ((World.ownsRow.lt hrow j hj).2))
          have OW : Hid (∀ o, (W1.alloc o).drew.ownsRow (w.heap.size + 2) 50 2 (vs 0) (part x y (zs.take k) 0).length (cL (part x y (zs.take k) 0))) := fun o => World.ownsRow.alloc hrow1 o
          have hob : (vs 0).ownBlock ≠ some (w.heap.size + 1) := fun e => by have := (World.ownsRow.lt hrow _ e).1; omega
          have HST : Hid (∀ o w5 g5 cap5, w5.ownsRow (w.heap.size + 2) 50 2 (.slice (some ⟨g5, 0, none⟩) ((part x y (zs.take k) 0).length + 1) cap5) ((part x y (zs.take k) 0).length + 1) (cL (part x y (zs.take k) 0) ++ [.int .i64 p, .int .i64 q]) → (W1.alloc o).drew.grownBy w5 (vs 0).ownBlock → ((vs 0).ownBlock = some g5 ∨ g5 = W1.heap.size + 1) → QS w (w5.setCell ⟨w.heap.size + 1, 0, none⟩ (.slice (some ⟨g5, 0, none⟩) ((part x y (zs.take k) 0).length + 1) cap5)) x y (zs.take (k + 1)) (updV vs 0 (.slice (some ⟨g5, 0, none⟩) ((part x y (zs.take k) 0).length + 1) cap5))) := fun o w5 g5 cap5 h1 h2 h3 => by
            rw [HT.out]
            exact Q.step (W := (W1.alloc o).drew) HQ.out (by omega) (bW.alloc (by omega) o).drew h1 h2 (by rcases h3 with h | h; exact Or.inl h; exact Or.inr (by omega))
          have HC : Hid (∀ o w5, (W1.alloc o).drew.grownBy w5 (vs 0).ownBlock → w5.heap[w.heap.size + 1]? = some (.cells #[vs 0, vs 1, vs 2, vs 3] 199 (0, 0))) := fun o w5 hg => (grown_blk hg (by omega) hob).trans ((bW.block _ hqlt).trans Q.blk)
          have hlq : (part x y (zs.take k) 0).length ≤ 4096 := by have := hlen; simp at this; omega
          generalize (part x y (zs.take k) 0) = pl at *
          generalize hvi : vs 0 = vi at *
          clear hrow hrow1 hXc hlen hx hy cq
          go_region_law (refine step_append_lies _ (by rfl) _ _ 22 (by rfl) (w.heap.size + 2) 50 i0 (.agg #[.int .i64 0, .int .i64 0]) 2 16 Tryz.underlying22 hi hz0 hz1 hz2 rfl (by decide) vi pl.length (cL pl) (by rfl) (OW.out _) ⟨W1.heap.size, 0, none⟩ 1 1 [.int .i64 p, .int .i64 q] (by rfl) rfl (hnw p q _) (hone p q) (by omega) (by unfold maxLen; omega) (by omega) (by simp; omega) (W1.heap.size + 1) (by simp) ?_; intro g5 cap5 w5 hown5 hgrow5 hat5 hlt5; have q3 := HC.out _ _ hgrow5; have q4 := Lib.cell_of_heap q3 0; have q5 := Lib.frozen_of_heap q3 0)
          all_goals
            go_wp2_with fail
            go_roundg (gk - 1)
            case measure => have := HI.out; omega
            case rel => exact ⟨k + 1, _, by have := HI.out; omega, by go_num, HST.out _ _ _ _ hown5 hgrow5 hat5⟩
    · have HK : Hid (k = zs.length) := by have := HI.out; show _ = _; omega
      obtain ⟨a0, c0, hv0⟩ := row_slice (Q.row 0 (by omega))
      have HV0 : Hid (vs 0 = .slice a0 (part x y (zs.take k) 0).length c0) := hv0
      obtain ⟨a1, c1, hv1⟩ := row_slice (Q.row 1 (by omega))
      have HV1 : Hid (vs 1 = .slice a1 (part x y (zs.take k) 1).length c1) := hv1
      obtain ⟨a2, c2, hv2⟩ := row_slice (Q.row 2 (by omega))
      have HV2 : Hid (vs 2 = .slice a2 (part x y (zs.take k) 2).length c2) := hv2
      obtain ⟨a3, c3, hv3⟩ := row_slice (Q.row 3 (by omega))
      have HV3 : Hid (vs 3 = .slice a3 (part x y (zs.take k) 3).length c3) := hv3
      generalize (part x y (zs.take k) 0).length = n0 at HV0 hv0
      generalize (part x y (zs.take k) 1).length = n1 at HV1 hv1
      generalize (part x y (zs.take k) 2).length = n2 at HV2 hv2
      generalize (part x y (zs.take k) 3).length = n3 at HV3 hv3
      have k0 : wr.cell? ⟨w.heap.size + 1, 0, none⟩ = some (.slice a0 n0 c0) := by rw [← hv0]; exact Lib.cell_of_heap Q.blk 0
      have k1 : wr.cell? ⟨w.heap.size + 1, 1, none⟩ = some (.slice a1 n1 c1) := by rw [← hv1]; exact Lib.cell_of_heap Q.blk 1
      have k2 : wr.cell? ⟨w.heap.size + 1, 2, none⟩ = some (.slice a2 n2 c2) := by rw [← hv2]; exact Lib.cell_of_heap Q.blk 2
      have k3 : wr.cell? ⟨w.heap.size + 1, 3, none⟩ = some (.slice a3 n3 c3) := by rw [← hv3]; exact Lib.cell_of_heap Q.blk 3
      have j0 : wr.cell? ⟨w.heap.size, 0, none⟩ = some (.slice none 0 0) := Lib.cell_of_heap Q.res 0
      have j1 : wr.cell? ⟨w.heap.size, 1, none⟩ = some (.slice none 0 0) := Lib.cell_of_heap Q.res 1
      have j2 : wr.cell? ⟨w.heap.size, 2, none⟩ = some (.slice none 0 0) := Lib.cell_of_heap Q.res 2
      have j3 : wr.cell? ⟨w.heap.size, 3, none⟩ = some (.slice none 0 0) := Lib.cell_of_heap Q.res 3
      have z0 := Lib.frozen_of_heap Q.res 0
      have z1 := Lib.frozen_of_heap Q.res 1
      have z2 := Lib.frozen_of_heap Q.res 2
      have z3 := Lib.frozen_of_heap Q.res 3
      have hk2 : ¬ ((k : Int) < (zs.length : Int)) := by omega
      clear hv0 hv1 hv2 hv3
      go_wp2_with fail
      have hR : ((((wr.setCell ⟨w.heap.size, 0, none⟩ (.slice a0 n0 c0)).setCell ⟨w.heap.size, 1, none⟩ (.slice a1 n1 c1)).setCell ⟨w.heap.size, 2, none⟩ (.slice a2 n2 c2)).setCell ⟨w.heap.size, 3, none⟩ (.slice a3 n3 c3)).heap[w.heap.size]? = some (.cells #[.slice a0 n0 c0, .slice a1 n1 c1, .slice a2 n2 c2, .slice a3 n3 c3] 199 (0, 0)) := Go.Joins.block_setCell (Go.Joins.block_setCell (Go.Joins.block_setCell (Go.Joins.block_setCell Q.res _) _) _) _
      have ho : ∀ j, j ≠ w.heap.size → ((((wr.setCell ⟨w.heap.size, 0, none⟩ (.slice a0 n0 c0)).setCell ⟨w.heap.size, 1, none⟩ (.slice a1 n1 c1)).setCell ⟨w.heap.size, 2, none⟩ (.slice a2 n2 c2)).setCell ⟨w.heap.size, 3, none⟩ (.slice a3 n3 c3)).heap[j]? = wr.heap[j]? := fun j hk => by
        rw [Below.heap_setCell _ _ _ _ hk, Below.heap_setCell _ _ _ _ hk, Below.heap_setCell _ _ _ _ hk, Below.heap_setCell _ _ _ _ hk]
      refine bodyPost_ret (v := .agg #[.slice a0 n0 c0, .slice a1 n1 c1, .slice a2 n2 c2, .slice a3 n3 c3]) ?_ rfl ⟨vs, by rw [HV0.out, HV1.out, HV2.out, HV3.out], fun i hi => ?_, ?_⟩
      · simp [results, Tryz.results131, go_sem, Lib.cell_of_heap hR]
      · have hq := Q.row i hi
        rw [HK.out, HTA.out] at hq
        exact row_other hq fun j hj => ho j (by have := (World.ownsRow.lt hq j hj).1; omega)
      · exact (((Q.bel.setCell (p := ⟨w.heap.size, 0, none⟩) (Nat.le_refl _) _).setCell (p := ⟨w.heap.size, 1, none⟩) (Nat.le_refl _) _).setCell (p := ⟨w.heap.size, 2, none⟩) (Nat.le_refl _) _).setCell (p := ⟨w.heap.size, 3, none⟩) (Nat.le_refl _) _
end Go.Proofs.YtgipjplifndniaaGreatDoor.A
