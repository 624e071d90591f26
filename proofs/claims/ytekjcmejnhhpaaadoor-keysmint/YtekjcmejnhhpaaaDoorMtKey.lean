/- The document's text of a key. -/
import Derived.Test.YtekjcmejnhhpaaaDoorMtMod2
import Derived.Test.YtekjcmejnhhpaaaDoorMtFold
import Derived.Test.YtekjcmejnhhpaaaDoorMtText2
import Derived.Deep.CutRange
import Derived.Deep.CutBlock
namespace Go.Proofs.YtekjcmejnhhpaaaDoor
open Go.RowKit

def hx1 : List UInt8 := [57, 69, 51, 55, 55, 57, 66, 57, 55, 70, 52, 65, 55, 67, 49, 53]
def hx2 : List UInt8 := [66, 70, 53, 56, 52, 55, 54, 68, 49, 67, 69, 52, 69, 53, 66, 57]
def hx3 : List UInt8 := [57, 52, 68, 48, 52, 57, 66, 66, 49, 51, 51, 49, 49, 49, 69, 66]
theorem hx1_is : hexV hx1 = 11400714819323198485 := by decide +kernel
theorem hx2_is : hexV hx2 = 13787848793156543929 := by decide +kernel
theorem hx3_is : hexV hx3 = 10723151780598845931 := by decide +kernel
theorem hx_ok (l : List UInt8) (h : (l.all fun c => decide ((48 ≤ c.toNat ∧ c.toNat ≤ 57) ∨ (65 ≤ c.toNat ∧ c.toNat ≤ 70))) = true) : ∀ c ∈ l, isHex c := fun c hc => by
  unfold isHex
  exact of_decide_eq_true (List.all_eq_true.1 h c hc)
theorem hexIn1 (w : World) : Calls Tryd.prog 18 #[.string ⟨#[57, 69, 51, 55, 55, 57, 66, 57, 55, 70, 52, 65, 55, 67, 49, 53]⟩] w fun e w' => e = .returned (.pointer (some ⟨w.heap.size, 0, none⟩)) ∧ Sg w.heap.size false 11400714819323198485 w' ∧ Below w.heap.size w w' := by
  have h := hexIn_any hx1 w (by decide) (by decide) (hx_ok _ (by decide +kernel))
  rw [hx1_is] at h
  exact h
theorem hexIn2 (w : World) : Calls Tryd.prog 18 #[.string ⟨#[66, 70, 53, 56, 52, 55, 54, 68, 49, 67, 69, 52, 69, 53, 66, 57]⟩] w fun e w' => e = .returned (.pointer (some ⟨w.heap.size, 0, none⟩)) ∧ Sg w.heap.size false 13787848793156543929 w' ∧ Below w.heap.size w w' := by
  have h := hexIn_any hx2 w (by decide) (by decide) (hx_ok _ (by decide +kernel))
  rw [hx2_is] at h
  exact h
theorem hexIn3 (w : World) : Calls Tryd.prog 18 #[.string ⟨#[57, 52, 68, 48, 52, 57, 66, 66, 49, 51, 51, 49, 49, 49, 69, 66]⟩] w fun e w' => e = .returned (.pointer (some ⟨w.heap.size, 0, none⟩)) ∧ Sg w.heap.size false 10723151780598845931 w' ∧ Below w.heap.size w w' := by
  have h := hexIn_any hx3 w (by decide) (by decide) (hx_ok _ (by decide +kernel))
  rw [hx3_is] at h
  exact h
/-- the variable z in memory, and what it says -/
structure KS (w : World) (zb n : Nat) (W : World) : Prop where
  ex : ∃ p, Zv zb p W ∧ Sg p false n W ∧ w.heap.size ≤ p
  bel : Below w.heap.size w W
  zl : w.heap.size ≤ zb
theorem KS.fold {w W W' : World} {zb n N : Nat} (h : KS w zb n W) (hf : FoldOut zb N W W') : KS w zb N W' := by
  obtain ⟨p, h1, h2, h3, h4⟩ := hf
  refine ⟨⟨p, h1, h2, Nat.le_trans h.bel.size h3⟩, ⟨h4.os.trans h.bel.os, h4.tape.trans h.bel.tape, h4.output.trans h.bel.output, Nat.le_trans h.bel.size h4.size, fun k hk => (h4.block k (Nat.lt_of_lt_of_le hk h.bel.size) (fun e => by have := h.zl; omega)).trans (h.bel.block k hk)⟩, h.zl⟩
theorem KS.put {w W W' : World} {zb p n N b0 : Nat} (h : KS w zb n W) (hz : Zv zb p W) (hs : Sg b0 false N W') (hb : Below W.heap.size W W') (hl : W.heap.size ≤ b0) : KS w zb N (W'.setCell ⟨zb, 0, none⟩ (.pointer (some ⟨b0, 0, none⟩))) := h.fold (fold_end ⟨hs, (hb.block zb hz.lt).trans hz, hb, hl⟩ hz.lt)
/-- what the document reckons -/
theorem key_pure (serial draw : Int) (h0 : 0 ≤ serial) (_h1 : serial ≤ 2147483647) (hd0 : -9223372036854775808 ≤ draw) (hd1 : draw ≤ 9223372036854775807) (z1 : Nat) (hz : z1 = serial.toNat * 11400714819323198485 % 18446744073709551616) :
    modF ((sumF false z1 (decide (draw < 0)) draw.natAbs).1 && decide ((sumF false z1 (decide (draw < 0)) draw.natAbs).2 ≠ 0)) (sumF false z1 (decide (draw < 0)) draw.natAbs).2 = ((serial * 11400714819323198485 + draw) % 18446744073709551616).toNat := by
  have hzl : z1 < 18446744073709551616 := by rw [hz]; exact Nat.mod_lt _ (by decide)
  have hz2 : (z1 : Int) = serial * 11400714819323198485 % 18446744073709551616 := by
    rw [hz, Int.natCast_emod, Int.natCast_mul, Int.toNat_of_nonneg h0]
    rfl
  have hz3 : (serial * 11400714819323198485 + draw) % 18446744073709551616 = ((z1 : Int) + draw) % 18446744073709551616 := by
    rw [hz2, Int.emod_add_emod]
  rw [hz3]
  clear hz hz2 hz3
  by_cases hn : draw < 0
  · by_cases hle : draw.natAbs ≤ z1
    · have e1 : sumF false z1 (decide (draw < 0)) draw.natAbs = (false, z1 - draw.natAbs) := by
        unfold sumF
        rw [decide_eq_true hn, if_neg (by decide), if_pos hle]
      rw [e1, Int.emod_eq_of_lt (by omega) (by omega)]
      unfold modF
      rw [if_neg (by simp)]
      simp only
      rw [Nat.mod_eq_of_lt (by omega)]
      omega
    · have e1 : sumF false z1 (decide (draw < 0)) draw.natAbs = (true, draw.natAbs - z1) := by
        unfold sumF
        rw [decide_eq_true hn, if_neg (by decide), if_neg hle]
      have e2 : ((z1 : Int) + draw) % 18446744073709551616 = (z1 : Int) + draw + 18446744073709551616 := by
        rw [← Int.add_emod_right]
        exact Int.emod_eq_of_lt (by omega) (by omega)
      have e3 : (draw.natAbs - z1) % 18446744073709551616 = draw.natAbs - z1 := Nat.mod_eq_of_lt (by omega)
      have e4 : decide (draw.natAbs - z1 ≠ 0) = true := decide_eq_true (by omega)
      rw [e1, e2]
      unfold modF
      simp only
      rw [e3, e4, if_pos (by rfl)]
      omega
  · have e1 : sumF false z1 (decide (draw < 0)) draw.natAbs = (false, z1 + draw.natAbs) := by
      unfold sumF
      rw [decide_eq_false hn, if_pos rfl]
    have e2 : (z1 : Int) + draw = ((z1 + draw.natAbs : Nat) : Int) := by omega
    rw [e1, e2]
    unfold modF
    rw [if_neg (by simp)]
    simp only
    rw [show ((18446744073709551616 : Int)) = ((18446744073709551616 : Nat) : Int) from rfl, ← Int.natCast_emod, Int.toNat_natCast]
end Go.Proofs.YtekjcmejnhhpaaaDoor
