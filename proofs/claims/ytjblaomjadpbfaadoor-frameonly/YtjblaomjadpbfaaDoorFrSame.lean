/- sameTexts: two rows of the same texts. -/
import Derived.Test.YtjblaomjadpbfaaDoorFrUnwrap
namespace Go.Proofs.YtjblaomjadpbfaaDoor
open Go.RowKit

/-- texts in a row, as they are read -/
def TRow (w : World) (v : Value) (ts : List (List UInt8)) : Prop :=
  ∃ a c, v = .slice a ts.length c ∧ (0 < ts.length → ∃ b off, a = some ⟨b, off, none⟩ ∧ ∀ i, i < ts.length → w.cell? ⟨b, off + i, none⟩ = some (.string ⟨(ts.getD i []).toArray⟩))
theorem Texts.row {w : World} {B : Nat} {v : Value} {ts : List (List UInt8)} (h : Texts w B v ts) : TRow w v ts := by
  rcases h.2 with ⟨rfl, h0⟩ | ⟨g, cap, cur, rfl, _, hg, hn, _, hsz, htk⟩
  · exact ⟨none, 0, by rw [h0], fun h => by omega⟩
  · refine ⟨_, cap, rfl, fun _ => ⟨g, 0, rfl, fun i hi => ?_⟩⟩
    rw [Lib.cell_of_heap hg]
    have h1 := congrArg (fun l => l[i]?) htk
    simp only [Nat.mul_one] at h1
    rw [List.getElem?_take_of_lt hi, List.getElem?_map, List.getElem?_eq_getElem hi] at h1
    rw [Nat.zero_add, ← Array.getElem?_toList, h1, List.getD_eq_getElem?_getD, List.getElem?_eq_getElem hi]
    rfl
theorem tRow_nil (w : World) : TRow w (.slice none 0 0) [] := ⟨none, 0, rfl, fun h => by simp at h⟩
theorem TRow.below {w w' : World} {v : Value} {ts : List (List UInt8)} (h : TRow w v ts) (hb : Below w.heap.size w w') : TRow w' v ts := by
  obtain ⟨a, c, hv, hr⟩ := h
  refine ⟨a, c, hv, fun h0 => ?_⟩
  obtain ⟨b, off, ha, hc⟩ := hr h0
  refine ⟨b, off, ha, fun i hi => ?_⟩
  have := hc i hi
  have hlt : b < w.heap.size := World.block_lt_of_cell? _ _ this
  rw [World.cell?_of_block (a := ⟨b, off + i, none⟩) (hb.block b hlt)]
  exact this

set_option maxRecDepth 20000 in
set_option maxHeartbeats 2000000 in
theorem sameTexts_any (v u : Value) (ts : List (List UInt8)) (w : World) (hl : ts.length ≤ 140737488351232) (hv : TRow w v ts) (hu : TRow w u ts) :
    Calls Tryd.prog 10 #[v, u] w (fun e w' => e = .returned (.bool true) ∧ Below w.heap.size w w') := by
  obtain ⟨a, c, rfl, hra⟩ := hv
  obtain ⟨b, d, rfl, hrb⟩ := hu
  obtain ⟨n, hn⟩ : ∃ n, n = ts.length := ⟨_, rfl⟩
  rw [← hn] at hra hrb hl ⊢
  have HA : Hid (0 < n → _) := hra
  have HB : Hid (0 < n → _) := hrb
  clear hra hrb hn
  go_enter Tryd.func10, Tryd.ntmps10
  go_wp2_with fail
  go_loopg [5] n (fun g s5 wr => ∃ i : Nat, i + g = n ∧ s5 = .int .i64 i ∧ Below w.heap.size w wr)
  case atStart => exact ⟨0, by omega, rfl, Below.refl _ _⟩
  case round =>
    obtain ⟨i, hi, rfl, hb⟩ := hrel
    have HI : Hid (i + gk = n) := hi
    have hin : i ≤ n := by omega
    clear hi
    by_cases hlt : i < n
    · have h0 : (0 : Int) ≤ (i : Int) := by omega
      have h1 : (i : Int) < (n : Int) := by omega
      obtain ⟨ab, ao, ha, hca⟩ := HA.out (by omega)
      obtain ⟨bb, bo, hb', hcb⟩ := HB.out (by omega)
      subst ha hb'
      have e1 := hca i hlt
      have e2 := hcb i hlt
      have l1 : ab < w.heap.size := World.block_lt_of_cell? _ _ e1
      have l2 : bb < w.heap.size := World.block_lt_of_cell? _ _ e2
      have g1 : wr.drew.cell? ⟨ab, ao + i, none⟩ = some (.string ⟨(ts.getD i []).toArray⟩) := (World.cell?_of_block (a := ⟨ab, ao + i, none⟩) (hb.drew.block ab l1)).trans e1
      have g2 : wr.drew.cell? ⟨bb, bo + i, none⟩ = some (.string ⟨(ts.getD i []).toArray⟩) := (World.cell?_of_block (a := ⟨bb, bo + i, none⟩) (hb.drew.block bb l2)).trans e2
      generalize (⟨(ts.getD i []).toArray⟩ : ByteArray) = X at *
      have HLT : Hid (i < n) := hlt
      clear hca hcb e1 e2 l1 l2 hlt
      go_wp2_with fail
      go_region
      go_wp2_with fail
      go_roundg (gk - 1)
      case measure => have := HI.out; have := HLT.out; omega
      case rel => exact ⟨i + 1, by have := HI.out; have := HLT.out; omega, by go_num, hb.drew⟩
    · have h1 : ¬ (i : Int) < (n : Int) := by omega
      go_wp2_with fail
      go_ret
      exact ⟨rfl, hb⟩
end Go.Proofs.YtjblaomjadpbfaaDoor
