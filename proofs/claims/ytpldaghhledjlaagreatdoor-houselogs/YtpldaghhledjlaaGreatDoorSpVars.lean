/- What the listed package-level variables hold. -/
import Derived.Test.YtpldaghhledjlaaGreatDoorSpKit
import Derived.Lib.ItoaNum
namespace Go.Proofs.YtpldaghhledjlaaGreatDoor
open Go.RowKit

/-- the first words, each at its verb's number -/
def verbL : List ByteArray := [⟨#[]⟩, ⟨#[110, 101, 119]⟩, ⟨#[115, 101, 116]⟩, ⟨#[103, 101, 116]⟩, ⟨#[115, 116, 101, 112]⟩, ⟨#[99, 111, 117, 110, 116]⟩, ⟨#[98, 111, 120]⟩, ⟨#[100, 114, 111, 112]⟩, ⟨#[99, 111, 112, 121]⟩, ⟨#[108, 101, 97, 115, 101]⟩, ⟨#[99, 108, 101, 97, 110]⟩]
structure Vars (w : World) : Prop where
  max : ∃ m, w.cell? ⟨1, 0, none⟩ = some (.int .i64 m)
  verbs : ∀ k, k < 11 → w.cell? ⟨2, k, none⟩ = some (.string (verbL.getD k ⟨#[]⟩))
  room : 9 ≤ w.heap.size
theorem Vars.keep {w w' : World} (h : Vars w) (hk : ∀ k, k < 9 → w'.heap[k]? = w.heap[k]?) (hs : w.heap.size ≤ w'.heap.size) : Vars w' := by
  have hc : ∀ g o, g < 9 → w'.cell? ⟨g, o, none⟩ = w.cell? ⟨g, o, none⟩ := fun g o hg => by
    unfold World.cell?
    rw [show (⟨g, o, none⟩ : Addr).block = g from rfl, hk g hg]
  obtain ⟨⟨m, hm⟩, hv, hr⟩ := h
  exact ⟨⟨m, (hc _ _ (by omega)).trans hm⟩, fun k h => (hc _ _ (by omega)).trans (hv k h), Nat.le_trans hr hs⟩
theorem Vars.go {w w' : World} {B : Nat} (h : Vars w) (hb : Below B w w') (hB : 9 ≤ B) : Vars w' := h.keep (fun k hk => hb.block k (by omega)) hb.size
theorem Vars.below {w w' : World} (h : Vars w) (hb : Below w.heap.size w w') : Vars w' := h.go hb h.room
theorem Vars.only {w w' : World} {b : Nat} (h : Vars w) (hb : Only b w w') (hB : 9 ≤ b) : Vars w' := h.keep (fun k hk => hb.block k (by have := h.room; omega) (by omega)) hb.size
theorem Vars.drew {w : World} (h : Vars w) : Vars w.drew := h.keep (fun _ _ => rfl) (Nat.le_refl _)
end Go.Proofs.YtpldaghhledjlaaGreatDoor
