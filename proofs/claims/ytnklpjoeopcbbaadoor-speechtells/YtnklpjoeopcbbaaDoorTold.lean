/- told: a word and numbers. -/
import Derived.Test.YtnklpjoeopcbbaaDoorPiece
import Derived.Test.YtnklpjoeopcbbaaDoorOpen
import Derived.Lib.ItoaLen
namespace Go.Proofs.YtnklpjoeopcbbaaDoor
open Go.RowKit

def numsT (ns : List Int) : List UInt8 := ns.flatMap fun n => 32 :: Lib.itoa n
/-- a word and the first numbers -/
def toldB (wd : ByteArray) (ns : List Int) : ByteArray := ⟨(wd.data.toList ++ numsT ns).toArray⟩

theorem toldB_nil (wd : ByteArray) : toldB wd [] = wd := by
  show (⟨(wd.data.toList ++ []).toArray⟩ : ByteArray) = wd
  rw [List.append_nil, Array.toArray_toList]
theorem toldB_step (wd : ByteArray) (ns : List Int) (j : Nat) (n : Int) (h : ns[j]? = some n) : toldB wd (ns.take j) ++ (⟨#[32]⟩ ++ ⟨(Lib.itoa n).toArray⟩) = toldB wd (ns.take (j + 1)) := by
  have e : ns.take (j + 1) = ns.take j ++ [n] := by rw [List.take_add_one, h]; rfl
  rw [e]
  unfold toldB numsT
  rw [List.flatMap_append]
  apply ByteArray.ext
  simp
theorem toldB_size (wd : ByteArray) (ns : List Int) (h : ∀ n ∈ ns, Fits n) : (toldB wd ns).size ≤ wd.size + 22 * ns.length := by
  have h0 : (toldB wd ns).size = wd.size + (numsT ns).length := by
    show (wd.data.toList ++ numsT ns).toArray.size = _
    rw [List.size_toArray, List.length_append, Array.length_toList]
    rfl
  rw [h0]
  suffices (numsT ns).length ≤ 22 * ns.length by omega
  induction ns with
  | nil => simp [numsT]
  | cons n r ih =>
    have h1 := ih (fun m hm => h m (List.mem_cons_of_mem _ hm)) (by
      show (wd.data.toList ++ numsT r).toArray.size = _
      rw [List.size_toArray, List.length_append, Array.length_toList]
      rfl)
    obtain ⟨f0, f1⟩ := h n List.mem_cons_self
    have h2 := Lib.itoa_length_le n f0 f1
    unfold numsT at h1 ⊢
    rw [List.flatMap_cons, List.length_append, List.length_cons, List.length_cons]
    omega

set_option maxRecDepth 20000 in
set_option maxHeartbeats 2000000 in
theorem told_any (wd : ByteArray) (ns : List Int) (b c : Nat) (w : World) (hw : wd.size ≤ 10) (hl : ns.length ≤ 4) (hin : ∀ n ∈ ns, Fits n) (hb : b < w.heap.size)
    (hc : ∀ (j : Nat) n, ns[j]? = some n → w.cell? ⟨b, j, none⟩ = some (.int .i64 n)) (hv : Vars w) :
    Calls Tryd.prog 16 #[.string wd, .slice (some ⟨b, 0, none⟩) ns.length c] w fun e w' => e = .returned (.string (toldB wd ns)) ∧ Below w.heap.size w w' := by
  obtain ⟨k, hk⟩ : ∃ k, k = ns.length := ⟨_, rfl⟩
  rw [← hk] at hl ⊢
  have HK : Hid (k = ns.length) := hk
  have HIN : Hid (∀ n ∈ ns, Fits n) := hin
  have HC : Hid (∀ (j : Nat) n, ns[j]? = some n → w.cell? ⟨b, j, none⟩ = some (.int .i64 n)) := hc
  have HV : Hid (Vars w) := hv
  clear hk hin hc hv
  go_enter Tryd.func16, Tryd.ntmps16
  go_wp2_with fail
  go_loopg [0, 9] k (fun gk s0 s9 wr => ∃ j : Nat, j + gk = k ∧ s9 = .int .i64 j ∧ s0 = .string (toldB wd (ns.take j)) ∧ Below w.heap.size w wr)
  case atStart => exact ⟨0, by omega, rfl, by rw [List.take_zero, toldB_nil], Below.refl _ _⟩
  case round =>
    obtain ⟨j, hj, rfl, rfl, hbr⟩ := hrel
    have HJ : Hid (j + gk = k) := hj
    have hjk : j ≤ k := by omega
    clear hj
    have hsz : (toldB wd (ns.take j)).size ≤ 100 := by
      have h1 := toldB_size wd (ns.take j) (fun n hn => HIN.out n (List.mem_of_mem_take hn))
      have h2 : (ns.take j).length ≤ 4 := by rw [List.length_take]; have := HK.out; omega
      omega
    by_cases hlt : j < k
    · obtain ⟨n, hn⟩ : ∃ n, ns[j]? = some n := ⟨ns[j]'(by have := HK.out; omega), List.getElem?_eq_getElem _⟩
      have HS : Hid (toldB wd (ns.take j) ++ (⟨#[32]⟩ ++ ⟨(Lib.itoa n).toArray⟩) = toldB wd (ns.take (j + 1))) := toldB_step wd ns j n hn
      have hcl := HC.out j n hn
      rw [← hbr.cell (p := ⟨b, j, none⟩) hb] at hcl
      obtain ⟨f0, f1⟩ := HIN.out n (List.mem_of_getElem? hn)
      have hit := fun W hW => itoa_any n W f0 f1 hW
      have ln : (⟨(Lib.itoa n).toArray⟩ : ByteArray).size ≤ 21 := by show (Lib.itoa n).toArray.size ≤ 21; rw [List.size_toArray]; exact Lib.itoa_length_le n f0 f1
      have HVR : Vars wr := HV.out.go hbr HV.out.room
      have HBR : Hid (Below w.heap.size w wr) := hbr
      clear hn f0 f1 hbr
      generalize (⟨(Lib.itoa n).toArray⟩ : ByteArray) = bx at *
      generalize toldB wd (ns.take j) = T at *
      have hi1 : (0 : Int) ≤ (j : Int) := by omega
      have hi2 : (j : Int) < (k : Int) := by omega
      go_wp2_with fail
      refine (hit _ (by first | assumption | exact Vars.drew ‹_›)).mono ?_
      rintro e w1 ⟨rfl, c1⟩
      all_goals
        go_wp2_with fail
        go_roundg (gk - 1)
        case measure => have := HJ.out; omega
        case rel =>
          have := HJ.out
          refine ⟨j + 1, by omega, by simp, by rw [← HS.out], ?_⟩
          first | exact HBR.out.trans (c1.mono HBR.out.size) | exact HBR.out.trans (((Below.refl _ _).drew.trans c1).mono HBR.out.size) | skip
    · have hjk2 : j = k := by omega
      have HE : Hid (toldB wd (ns.take k) = toldB wd ns) := by show _ = _; rw [List.take_of_length_le (by rw [← HK.out]; omega)]
      have hn2 : ¬ (j : Int) < (k : Int) := by omega
      go_wp2_with fail
      go_ret
      exact ⟨by rw [← HE.out]; rfl, hbr⟩
end Go.Proofs.YtnklpjoeopcbbaaDoor
