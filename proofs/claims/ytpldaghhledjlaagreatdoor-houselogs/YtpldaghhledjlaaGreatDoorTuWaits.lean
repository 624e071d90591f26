/- The document's Waits. -/
import Derived.Test.YtpldaghhledjlaaGreatDoorTuQu
namespace Go.Proofs.YtpldaghhledjlaaGreatDoor
open Go.RowKit

set_option maxRecDepth 20000 in
set_option maxHeartbeats 1000000 in
theorem RefWaits_any (B b : Nat) (v : Value) (Q : Qu) (t : Int) (w : World) (h : QuAt w B b v Q) (hlen : Q.wait.length ≤ 300) : Calls Tryz.prog 13 #[.pointer (some ⟨b, 0, none⟩), .int .i64 t] w fun e w' => e = .returned (.int .i64 (cntL t Q.wait)) ∧ Below w.heap.size w w' := by
  obtain ⟨c0, c1, c2, f1, f2⟩ := h.cells
  obtain ⟨n, p, c, hn, rfl, hnc, hcm, hrow⟩ := h.opened
  have HN : Hid (n = Q.wait.length) := hn
  have hn300 : n ≤ 300 := by omega
  have HROW : Hid (n = 0 ∨ ∃ g, p = some ⟨g, 0, none⟩ ∧ g < w.heap.size ∧ ∀ (k : Nat) (x : Nat × ByteArray), Q.wait[k]? = some x → w.cell? ⟨g, k * 2, none⟩ = some (.int .i64 x.1) ∧ w.cell? ⟨g, k * 2 + 1, none⟩ = some (.string x.2)) := hrow
  clear h hlen hn hrow
  go_enter Tryz.func13, Tryz.ntmps13
  go_wp2_with fail
  go_loopg [5, 13] n (fun gk s5 s13 wr => ∃ j m : Nat, j + gk = n ∧ m ≤ j ∧ s13 = .int .i64 j ∧ s5 = .int .i64 m ∧ m = cntL t (Q.wait.take j) ∧ Below w.heap.size w wr)
  case atStart => exact ⟨0, 0, by omega, by omega, rfl, rfl, by simp [cntL], Below.refl _ _⟩
  case round =>
    obtain ⟨j, m, hj, hmj, rfl, rfl, hm, hbr⟩ := hrel
    have HJ : Hid (j + gk = n) := hj
    have HM : Hid (m = cntL t (Q.wait.take j)) := hm
    have HBR : Hid (Below w.heap.size w wr) := hbr
    have hjn : j ≤ n := by omega
    clear hj hm
    by_cases hlt : j < n
    · obtain ⟨g, rfl, hgl, hc⟩ : ∃ g, p = some ⟨g, 0, none⟩ ∧ g < w.heap.size ∧ ∀ (k : Nat) (x : Nat × ByteArray), Q.wait[k]? = some x → w.cell? ⟨g, k * 2, none⟩ = some (.int .i64 x.1) ∧ w.cell? ⟨g, k * 2 + 1, none⟩ = some (.string x.2) := by
        rcases HROW.out with h | h
        · omega
        · exact h
      have hjk : j < Q.wait.length := by have := HN.out; omega
      obtain ⟨x, hx⟩ : ∃ x, x = Q.wait[j] := ⟨_, rfl⟩
      have hxg : Q.wait[j]? = some x := by rw [hx]; exact List.getElem?_eq_getElem hjk
      have d0 := (hbr.cell (p := ⟨g, j * 2, none⟩) hgl).trans (hc j x hxg).1
      have d1 := (hbr.cell (p := ⟨g, j * 2 + 1, none⟩) hgl).trans (hc j x hxg).2
      have HX : Hid (cntL t (Q.wait.take (j + 1)) = cntL t (Q.wait.take j) + if (x.1 : Int) = t then 1 else 0) := cntL_step hxg
      clear hc hxg hx hbr
      have hi1 : (0 : Int) ≤ (j : Int) := by omega
      have hi2 : (j : Int) < (n : Int) := by omega
      obtain ⟨y, z⟩ := x
      simp only at d0 d1
      have hm300 : (m : Int) ≤ 300 := by omega
      by_cases hy : (y : Int) = t
      · have HY : Hid ((y : Int) = t) := hy
        have hyb : ((y : Int) == t) = true := by simpa using hy
        clear hy
        go_wp2_with fail
        go_roundg (gk - 1)
        case measure => have := HJ.out; omega
        case rel =>
          have h1 := HJ.out
          refine ⟨j + 1, m + 1, by omega, by omega, by go_num, by go_num, ?_, HBR.out.alloc HBR.out.size _⟩
          rw [HX.out, if_pos HY.out, ← HM.out]
      · have HY : Hid (¬ (y : Int) = t) := hy
        have hyb : ((y : Int) == t) = false := by simpa using hy
        clear hy
        go_wp2_with fail
        go_roundg (gk - 1)
        case measure => have := HJ.out; omega
        case rel =>
          have h1 := HJ.out
          refine ⟨j + 1, m, by omega, by omega, by go_num, rfl, ?_, HBR.out.alloc HBR.out.size _⟩
          rw [HX.out, if_neg HY.out, ← HM.out]; rfl
    · have hq : ¬ (j : Int) < (n : Int) := by omega
      have HE : Hid (j = n) := by show j = n; omega
      go_wp2_with fail
      go_ret
      have hfin : m = cntL t Q.wait := by rw [HM.out, HE.out, HN.out, List.take_length]
      rw [← hfin]
      exact ⟨rfl, HBR.out⟩
end Go.Proofs.YtpldaghhledjlaaGreatDoor
