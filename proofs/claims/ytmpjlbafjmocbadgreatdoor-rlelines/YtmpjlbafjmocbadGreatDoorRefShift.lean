/- What lifelodgeref.Shift answers. -/
import Derived.Test.YtmpjlbafjmocbadGreatDoorShift
namespace Go.Proofs.YtmpjlbafjmocbadGreatDoor
open Go.RowKit Go.Lib Go.Sort

/-- what the document's Shift answers -/
def ShiftOutR (zs : List (Int × Int)) (dx dy : Int) (w : World) (e : Ending) (w' : World) : Prop :=
  ∃ u ys, Tidied zs ys ∧ e = .returned (.tuple #[u, .int .i64 (shiftF ys (tcode zs) dx dy).1]) ∧ Below w.heap.size w w' ∧ Row w' u (shiftF ys (tcode zs) dx dy).2

theorem far2_lo {n : Int} (h : far2 n = false) : decide (n ≤ -2199023255552) = false ∧ decide (2199023255552 ≤ n) = false := by
  simp only [far2, Bool.or_eq_false_iff] at h
  exact h
theorem far2_hi {n : Int} (h : far2 n = true) : decide (n ≤ -2199023255552) = true ∨ (decide (n ≤ -2199023255552) = false ∧ decide (2199023255552 ≤ n) = true) := by
  unfold far2 at h
  cases h1 : decide (n ≤ -2199023255552)
  · rw [h1, Bool.false_or] at h
    exact Or.inr ⟨rfl, h⟩
  · exact Or.inl rfl

theorem Kept.owns {w : World} {base : Nat} {v : Value} {ys : List (Int × Int)} (h : Kept w base v ys) : w.ownsRow base 45 2 v ys.length (cellsL ys) := by
  rcases h with ⟨rfl, rfl⟩ | ⟨_, h⟩
  · exact World.ownsRow_nil _ _ _ _
  · exact h
theorem two_second (w : World) (o : Obj) (a b : Value) (t : TypeId) : ∀ j u, [a, b][j]? = some u → ((w.alloc o).alloc (.cells #[a, b] t)).cell? ((⟨w.heap.size + 1, 0, none⟩ : Addr).add j) = some u := by
  intro j u hj
  rw [addP, World.cell?_alloc2_new, Nat.zero_add]
  simpa using hj
theorem any_map_of {ys : List (Int × Int)} {dx dy : Int} {k : Nat} (hk : k < ys.length) (h : farP (mv dx dy ys[k]!) = true) : (ys.map (mv dx dy)).any farP = true := by
  rw [List.any_eq_true]
  exact ⟨mv dx dy ys[k]!, List.mem_map.2 ⟨ys[k]!, by rw [getElem!_pos ys k hk]; exact List.getElem_mem hk, rfl⟩, h⟩

end Go.Proofs.YtmpjlbafjmocbadGreatDoor
