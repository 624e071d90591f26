/- A table's two cells. -/
import Derived.Test.YtekjcmejnhhpaaaDoorKyCopy
namespace Go.Proofs.YtekjcmejnhhpaaaDoor
open Go.RowKit

/-- a table's two cells, free, in a block -/
def T2 (R : Nat) (s : Int) (v : Value) (w : World) : Prop :=
  w.cell? ⟨R, 0, none⟩ = some (.int .i64 s) ∧ w.cell? ⟨R, 1, none⟩ = some v ∧ w.frozen? ⟨R, 0, none⟩ = false ∧ w.frozen? ⟨R, 1, none⟩ = false ∧ R < w.heap.size
theorem T2.born (w : World) (s : Int) (v : Value) (t : TypeId) : T2 w.heap.size s v (w.alloc (.cells #[.int .i64 s, v] t)) :=
  ⟨by rw [World.cell?_alloc_new]; rfl, by rw [World.cell?_alloc_new]; rfl, by simp [World.frozen?_alloc_new], by simp [World.frozen?_alloc_new], by simp⟩
theorem T2.keep {R : Nat} {s : Int} {v : Value} {w w' : World} (h : T2 R s v w) (hb : w'.heap[R]? = w.heap[R]?) (hs : w.heap.size ≤ w'.heap.size) : T2 R s v w' := by
  obtain ⟨h1, h2, h3, h4, h5⟩ := h
  exact ⟨(World.cell?_of_block (a := ⟨R, 0, none⟩) hb).trans h1, (World.cell?_of_block (a := ⟨R, 1, none⟩) hb).trans h2, (World.frozen?_of_block (a := ⟨R, 0, none⟩) hb).trans h3, (World.frozen?_of_block (a := ⟨R, 1, none⟩) hb).trans h4, by omega⟩
theorem T2.below {R : Nat} {s : Int} {v : Value} {w w' : World} (h : T2 R s v w) (hb : Below w.heap.size w w') : T2 R s v w' := h.keep (hb.block R h.2.2.2.2) hb.size
theorem T2.under {R B : Nat} {s : Int} {v : Value} {w w' : World} (h : T2 R s v w) (hb : Below B w w') (hB : R < B) : T2 R s v w' := h.keep (hb.block R hB) hb.size
end Go.Proofs.YtekjcmejnhhpaaaDoor
