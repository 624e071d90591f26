/- The document's EncodeCells, where it writes. -/
import Derived.Test.YtnklpjoeopcbbaaDoorRefEnc
import Derived.Test.YtnklpjoeopcbbaaDoorBody2
import Derived.Laws.OwnMore
import Derived.Deep.CutBlock
import Derived.Deep.CutRange
import Derived.Deep.LoopGhost
import Derived.BigQuiet
namespace Go.Proofs.YtnklpjoeopcbbaaDoor
open Go.Shelf Go.RowKit

theorem RunsAt.born (w : World) : RunsAt w.heap.size w.heap.size [] (w.alloc (.cells #[.slice none 0 0] 56)) :=
  ⟨Nat.le_refl _, .slice none 0 0, heap_alloc_new w _, World.ownsRow_nil _ _ _ _, by simp [Value.ownBlock]⟩
theorem addT_X (x px : Int) : addT (px - x) 98 = (aheadX x px).map pieceT := by
  unfold addT aheadX
  by_cases h : x < px
  · rw [if_pos (by omega), if_pos h]; rfl
  · rw [if_neg (by omega), if_neg h]; rfl
theorem addT_Y (y py : Int) (h : y < py) : addT (py - y) 36 = (aheadY y py).map pieceT := by
  unfold addT aheadY
  rw [if_pos (by omega), if_pos h]; rfl
theorem addT_O (m : Nat) (h : 0 < m) : addT m 111 = [pieceT ((m : Int), 111)] := by
  unfold addT
  rw [if_pos (by omega)]

/-- lines so far -/
def Lines (hd : List UInt8) (ts : List (List UInt8)) (j : Nat) (o ln : ByteArray) : Prop := o.data.toList ++ ln.data.toList = hd ++ lay 0 (ts.take j) ∧ ln.size = layK 0 (ts.take j)
theorem Lines.start (hd : ByteArray) (ts : List (List UInt8)) : Lines hd.data.toList ts 0 hd ⟨#[]⟩ := ⟨by simp [lay], by simp [layK]; rfl⟩
theorem Lines.step {hd : List UInt8} {ts : List (List UInt8)} {j : Nat} {o ln : ByteArray} (h : Lines hd ts j o ln) {t : List UInt8} (ht : ts[j]? = some t) :
    if 70 < ln.size + t.length then Lines hd ts (j + 1) (o ++ (ln ++ ⟨#[10]⟩)) (⟨#[]⟩ ++ ⟨t.toArray⟩) else Lines hd ts (j + 1) o (ln ++ ⟨t.toArray⟩) := by
  obtain ⟨h1, h2⟩ := h
  have hz : ∀ b : ByteArray, b.size = b.data.toList.length := fun b => by show b.data.size = _; rw [Array.length_toList]
  have e : ts.take (j + 1) = ts.take j ++ [t] := by rw [List.take_add_one, ht]; rfl
  have e1 : lay 0 (ts.take (j + 1)) = lay 0 (ts.take j) ++ lay ln.size [t] := by rw [e, lay_append, h2]
  have e2 : layK 0 (ts.take (j + 1)) = layK ln.size [t] := by rw [e, layK_append, h2]
  split
  · rename_i hc
    refine ⟨?_, ?_⟩
    · rw [e1, lay, if_pos hc, lay, ← List.append_assoc hd, ← h1]
      simp [ByteArray.data_append]
    · rw [e2, layK, if_pos hc, layK, hz]
      simp [ByteArray.data_append]
  · rename_i hc
    refine ⟨?_, ?_⟩
    · rw [e1, lay, if_neg hc, lay, ← List.append_assoc hd, ← h1]
      simp [ByteArray.data_append]
    · rw [e2, layK, if_neg hc, layK, hz, hz]
      simp [ByteArray.data_append]
theorem Lines.small {hd : List UInt8} {ts : List (List UInt8)} {j : Nat} {o ln : ByteArray} (h : Lines hd ts j o ln) (ht : ∀ t ∈ ts, t.length ≤ 22) (hj : j ≤ ts.length) : o.size + ln.size ≤ hd.length + 23 * j ∧ ln.size ≤ 70 := by
  obtain ⟨h1, h2⟩ := h
  have hz : ∀ b : ByteArray, b.size = b.data.toList.length := fun b => by show b.data.size = _; rw [Array.length_toList]
  have ht2 : ∀ t ∈ ts.take j, t.length ≤ 22 := fun t hm => ht t (List.mem_of_mem_take hm)
  have h3 := lay_le 0 _ ht2
  have h4 := layK_le 0 _ (by omega) ht2
  have h5 := congrArg List.length h1
  rw [List.length_append, List.length_append, ← hz, ← hz] at h5
  rw [List.length_take, Nat.min_eq_left hj] at h3
  omega
end Go.Proofs.YtnklpjoeopcbbaaDoor
