/- What lifelodgeref.far, ahead and put answer. -/
import Derived.Test.YtmpjlbafjmocbadGreatDoorPutPure
import Derived.BigQuiet
import Derived.Deep.QuietTactic
import Derived.Deep.AppendLies
namespace Go.Proofs.YtmpjlbafjmocbadGreatDoor
open Go.RowKit Go.Lib Go.Sort

attribute [local go_sem ↓] Go.wp_at_zero Go.wp_at_succ

/-- a cell comes ahead of another, as a Bool -/
def aheadB (p q : Int × Int) : Bool := decide (p.2 < q.2) || (decide (p.2 = q.2) && decide (p.1 < q.1))
theorem aheadB_iff (p q : Int × Int) : aheadB p q = true ↔ ahead p q := by simp [aheadB, ahead]
theorem aheadB_not (p q : Int × Int) : aheadB p q = false ↔ ¬ ahead p q := by rw [← aheadB_iff, Bool.not_eq_true]

/-- the search's place -/
structure Found (zs : List (Int × Int)) (c : Int × Int) (l h : Nat) : Prop where
  le : l ≤ h
  top : h ≤ zs.length
  lo : ∀ j, j < l → ahead zs[j]! c
  hi : ∀ j, h ≤ j → j < zs.length → ¬ ahead zs[j]! c
theorem Found.up {zs : List (Int × Int)} {c : Int × Int} {l h m : Nat} (hf : Found zs c l h) (hT : Tidy zs) (hm : m < h) (ha : ahead zs[m]! c) : Found zs c (m + 1) h := by
  have ht := hf.top
  refine ⟨by omega, hf.top, fun j hj => ?_, hf.hi⟩
  by_cases e : j = m
  · rw [e]; exact ha
  · exact ahead_trans (tidy_get hT (show j < m by omega) (by omega)) ha
theorem Found.down {zs : List (Int × Int)} {c : Int × Int} {l h m : Nat} (hf : Found zs c l h) (hT : Tidy zs) (hl : l ≤ m) (hm : m < h) (ha : ¬ ahead zs[m]! c) : Found zs c l m := by
  have ht := hf.top
  refine ⟨hl, by omega, hf.lo, fun j hj hjl => ?_⟩
  by_cases e : j = m
  · rw [e]; exact ha
  · intro hc
    exact ha (ahead_trans (tidy_get hT (show m < j by omega) hjl) hc)

theorem owns_of_block {w w' : World} {base : Nat} {v : Value} {n : Nat} {xs : List Value} (h : w.ownsRow base 45 2 v n xs) (hb : ∀ g, v.ownBlock = some g → w'.heap[g]? = w.heap[g]?) : w'.ownsRow base 45 2 v n xs := by
  refine ⟨h.1, ?_⟩
  rcases h.2 with h2 | ⟨g, cap, cur, hv, hg, hh, r⟩
  · exact Or.inl h2
  · exact Or.inr ⟨g, cap, cur, hv, hg, by rw [hb g (by rw [hv]; rfl)]; exact hh, r⟩

theorem owns_block {w : World} {base g n cap : Nat} {xs : List Value} (h : w.ownsRow base 45 2 (.slice (some ⟨g, 0, none⟩) n cap) n xs) : ∃ L : List Value, w.heap[g]? = some (.cells L.toArray 45 (0, 0)) ∧ L.length = cap * 2 ∧ L.take (n * 2) = xs := by
  rcases h.2 with ⟨e, _⟩ | ⟨g', cap', cur, e, _, hh, _, _, hs, ht⟩
  · cases e
  · injection e with e1 _ e3
    injection e1 with e1
    injection e1 with e1 _ _
    subst e1 e3
    exact ⟨cur.toList, by rw [Array.toArray_toList]; exact hh, by simpa using hs, ht⟩

theorem heap_setCell_same (w : World) (g o : Nat) (v : Value) (L : List Value) (h : w.heap[g]? = some (.cells L.toArray 45 (0, 0))) : (w.setCell ⟨g, o, none⟩ v).heap[g]? = some (.cells (L.set o v).toArray 45 (0, 0)) := by
  rw [setCell_eq]
  simp only [mapBlock, Array.getElem?_modify, if_pos, h, Option.map_some, onCells]
  simp
theorem cell_of_block (w : World) (g o : Nat) (L : List Value) (h : w.heap[g]? = some (.cells L.toArray 45 (0, 0))) : w.cell? ⟨g, o, none⟩ = L[o]? := by
  simp [World.cell?, h]
theorem free_of_block (w : World) (g o : Nat) (L : List Value) (h : w.heap[g]? = some (.cells L.toArray 45 (0, 0))) : w.frozen? ⟨g, o, none⟩ = false := by
  simp [World.frozen?, h]

/-- the row, when the cell is stored at its place -/
theorem put_final {w : World} {base g l n cap : Nat} {zs : List (Int × Int)} {c : Int × Int} {x y : Value} {R : List Value} (hb : base ≤ g) (hl : l ≤ n) (hn : zs.length = n) (hcap : n + 1 ≤ cap) (hcm : cap ≤ maxLen)
    (hblk : w.heap[g]? = some (.cells (cellsL (zs.take l) ++ x :: y :: (cellsL (zs.drop l) ++ R)).toArray 45 (0, 0))) (hlen : (cellsL (zs.take l) ++ x :: y :: (cellsL (zs.drop l) ++ R)).length = cap * 2) :
    ((w.setCell ⟨g, l * 2, none⟩ (.int .i64 c.1)).setCell ⟨g, l * 2 + 1, none⟩ (.int .i64 c.2)).ownsRow base 45 2 (.slice (some ⟨g, 0, none⟩) (n + 1) cap) (zs.take l ++ c :: zs.drop l).length (cellsL (zs.take l ++ c :: zs.drop l)) := by
  have hA : (cellsL (zs.take l)).length = l * 2 := by rw [cellsL_length, List.length_take]; congr 1; omega
  have hlen' : (zs.take l ++ c :: zs.drop l).length = n + 1 := by simp; omega
  have h1 := heap_setCell_same _ g (l * 2) (.int .i64 c.1) _ hblk
  have h2 := heap_setCell_same _ g (l * 2 + 1) (.int .i64 c.2) _ h1
  have hset : ((cellsL (zs.take l) ++ x :: y :: (cellsL (zs.drop l) ++ R)).set (l * 2) (.int .i64 c.1)).set (l * 2 + 1) (.int .i64 c.2) = cellsL (zs.take l ++ c :: zs.drop l) ++ R := by
    rw [List.set_append_right _ _ (by omega), List.set_append_right _ _ (by rw [hA]; omega), hA, Nat.sub_self, show l * 2 + 1 - l * 2 = 1 by omega, cellsL_append, cellsL_cons]
    simp
  rw [hset] at h2
  refine ⟨by rw [cellsL_length], Or.inr ⟨g, cap, _, by rw [hlen'], hb, h2, by rw [hlen']; exact hcap, hcm, ?_, ?_⟩⟩
  · rw [← hset]
    simpa using hlen
  · simp only
    rw [← cellsL_length, List.take_left']
    rfl

/-- the row behind the copy -/
def movedL (L : List Value) (zs : List (Int × Int)) (l : Nat) : List Value := L.take ((l + 1) * 2) ++ cellsL (zs.drop l) ++ L.drop ((l + 1) * 2 + (cellsL (zs.drop l)).length)

theorem take_of {L xs ys : List Value} {m k : Nat} (h : L.take m = xs ++ ys) (hk : k ≤ xs.length) (hm : k ≤ m) : L.take k = xs.take k := by
  have := congrArg (List.take k) h
  rwa [List.take_take, Nat.min_eq_left hm, List.take_append_of_le_length hk] at this
theorem moved_form {L : List Value} {zs : List (Int × Int)} {l : Nat} {ys : List Value} (hl : l < zs.length) (ht : L.take ((zs.length + 1) * 2) = cellsL zs ++ ys) :
    movedL L zs l = cellsL (zs.take l) ++ .int .i64 (zs[l]!).1 :: .int .i64 (zs[l]!).2 :: (cellsL (zs.drop l) ++ L.drop ((l + 1) * 2 + (cellsL (zs.drop l)).length)) := by
  have h1 : L.take ((l + 1) * 2) = cellsL (zs.take (l + 1)) := by
    rw [take_of ht (by rw [cellsL_length]; omega) (by omega), cellsL_take]
  have h2 : zs.take (l + 1) = zs.take l ++ [zs[l]!] := by
    rw [List.take_succ_eq_append_getElem hl, getElem!_pos zs l hl]
  unfold movedL
  rw [h1, h2, cellsL_append, cellsL_cons]
  simp [cellsL]
theorem copy_src {L : List Value} {zs : List (Int × Int)} {l : Nat} {ys : List Value} (ht : L.take ((zs.length + 1) * 2) = cellsL zs ++ ys) (j : Nat) (v : Value) (h : (cellsL (zs.drop l))[j]? = some v) : L[l * 2 + j]? = some v := by
  rw [cellsL_drop, List.getElem?_drop] at h
  have hlt : l * 2 + j < (cellsL zs).length := (List.getElem?_eq_some_iff.1 h).1
  have h1 : (L.take ((zs.length + 1) * 2))[l * 2 + j]? = some v := by rw [ht, List.getElem?_append_left hlt]; exact h
  rw [cellsL_length] at hlt
  rwa [List.getElem?_take, if_pos (by omega)] at h1

theorem copy_zero (w : World) (ty : TypeId) (da : Option Addr) (dc : Nat) (ad : Addr) (sl sc : Nat) : (Builtin.copy_ #[22, 22] ty #[.slice da 0 dc, .slice (some ad) sl sc]).run Tryz.prog w = .ok (goInt 0) w := by
  have hl := run_loadCells_list (P := Tryz.prog) w ad [] (by simp)
  simp only [List.length_nil] at hl
  cases da <;> simp [Builtin.copy_, run_underlying Tryz.underlying22, Builtin.lenOf, Builtin.firstCells, Tryz.sizeOf45, hl, storeCells]

/-- what put answers -/
def PutOut (base : Nat) (zs : List (Int × Int)) (c : Int × Int) (w : World) (e : Ending) (w' : World) : Prop :=
  ∃ u ys, e = .returned u ∧ Tidy ys ∧ (∀ p, p ∈ ys ↔ p = c ∨ p ∈ zs) ∧ ys ≠ [] ∧ ys.length ≤ zs.length + 1 ∧ w'.ownsRow base 45 2 u ys.length (cellsL ys) ∧ Below base w w'

end Go.Proofs.YtmpjlbafjmocbadGreatDoor
