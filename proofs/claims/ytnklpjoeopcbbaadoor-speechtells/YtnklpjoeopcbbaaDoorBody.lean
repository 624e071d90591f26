/- A writer's body: pieces in lines. -/
import Derived.Test.YtnklpjoeopcbbaaDoorHead
import Derived.Test.YtnklpjoeopcbbaaDoorRun
import Derived.Test.YtnklpjoeopcbbaaDoorRleFeed
import Derived.Test.YtnklpjoeopcbbaaDoorShift
namespace Go.Proofs.YtnklpjoeopcbbaaDoor
open Go.Shelf Go.RowKit

theorem pieceT_le (p : Int × UInt8) (h0 : -9223372036854775808 ≤ p.1) (h : p.1 ≤ 9223372036854775807) : (pieceT p).length ≤ 22 := by
  have := Lib.itoa_length_le p.1 h0 h
  unfold pieceT
  split <;> simp <;> omega
theorem lay_le : ∀ (k : Nat) (ts : List (List UInt8)), (∀ t ∈ ts, t.length ≤ 22) → (lay k ts).length ≤ 23 * ts.length
  | _, [], _ => by simp [lay]
  | k, t :: ts, h => by
    have ht := h t (by simp)
    have ih := fun q => lay_le q ts fun u hu => h u (by simp [hu])
    rw [lay]
    split
    · have := ih t.length
      simp only [List.length_cons, List.length_append]
      omega
    · have := ih (k + t.length)
      simp only [List.length_cons, List.length_append]
      omega
theorem layK_le : ∀ (k : Nat) (ts : List (List UInt8)), k ≤ 70 → (∀ t ∈ ts, t.length ≤ 22) → layK k ts ≤ 70
  | k, [], hk, _ => hk
  | k, t :: ts, hk, h => by
    have ht := h t (by simp)
    rw [layK]
    split
    · exact layK_le _ ts (by omega) fun u hu => h u (by simp [hu])
    · exact layK_le _ ts (by omega) fun u hu => h u (by simp [hu])

/-- what is written so far: some bytes, and pieces in lines -/
def soFar (l0 : List UInt8) (ps : List (Int × UInt8)) : List UInt8 := l0 ++ lay 0 (ps.map pieceT)
def lineOf (ps : List (Int × UInt8)) : Nat := layK 0 (ps.map pieceT)
theorem soFar_snoc (l0 : List UInt8) (ps : List (Int × UInt8)) (p : Int × UInt8) : soFar l0 ps ++ lay (lineOf ps) [pieceT p] = soFar l0 (ps ++ [p]) ∧ layK (lineOf ps) [pieceT p] = lineOf (ps ++ [p]) := by
  unfold soFar lineOf
  rw [List.map_append, lay_append, layK_append, List.append_assoc]
  exact ⟨rfl, rfl⟩
/-- pieces whose numbers are numbers -/
def Small (ps : List (Int × UInt8)) : Prop := ∀ p ∈ ps, 1 ≤ p.1 ∧ p.1 ≤ 10000000000000
theorem Small.len {ps : List (Int × UInt8)} (h : Small ps) (l0 : List UInt8) : (soFar l0 ps).length ≤ l0.length + 23 * ps.length ∧ lineOf ps ≤ 70 := by
  have ht : ∀ t ∈ ps.map pieceT, t.length ≤ 22 := by
    intro t ht
    rw [List.mem_map] at ht
    obtain ⟨p, hp, rfl⟩ := ht
    have := h p hp
    exact pieceT_le p (by omega) (by omega)
  refine ⟨?_, layK_le _ _ (by omega) ht⟩
  unfold soFar
  have := lay_le 0 _ ht
  rw [List.length_map] at this
  rw [List.length_append]
  omega

set_option maxRecDepth 20000 in
set_option maxHeartbeats 2000000 in
/-- a piece more -/
theorem piece_more (B b : Nat) (l0 : List UInt8) (ps : List (Int × UInt8)) (n : Int) (c : UInt8) (w : World) (h : IsW B b (soFar l0 ps) (lineOf ps) w) (hv : Vars w) (hB : B ≤ w.heap.size) (hl : l0.length ≤ 10000) (hs : Small ps) (hps : ps.length ≤ 20000) (hn : n ≤ 10000000000000) :
    Calls Tryd.prog 66 #[.pointer (some ⟨b, 0, none⟩), .int .i64 n, .string ⟨#[c]⟩] w fun e w' => e = .returned (.tuple #[]) ∧ IsW B b (soFar l0 (ps ++ [(n, c)])) (lineOf (ps ++ [(n, c)])) w' ∧ Left B b w w' := by
  obtain ⟨h1, h2⟩ := hs.len l0
  obtain ⟨e1, e2⟩ := soFar_snoc l0 ps (n, c)
  have := piece_any B b (soFar l0 ps) (lineOf ps) n c w h hv hB (by omega) (by omega) (by omega)
  rw [e1, e2] at this
  exact this
end Go.Proofs.YtnklpjoeopcbbaaDoor
