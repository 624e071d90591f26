/- rle.run: how many cells stand side by side at the beginning of a list. -/
import Derived.Test.YtnklpjoeopcbbaaDoorTidyLaw
import Derived.Test.YtnklpjoeopcbbaaDoorRlePure
import Derived.Deep.LoopGhost
import Derived.BigQuiet
namespace Go.Proofs.YtnklpjoeopcbbaaDoor
open Go.RowKit

theorem drop_get (zs : List (Int × Int)) (k : Nat) (h : k < zs.length) : zs.drop k = zs[k]! :: zs.drop (k + 1) := by
  rw [getElem!_pos zs k h]; exact List.drop_eq_getElem_cons h

theorem ret_int {k : IntKind} {a b : Int} (h : a = b) : Ending.returned (.int k a) = .returned (.int k b) := by rw [h]

set_option maxHeartbeats 2000000 in
theorem run_some (b off c : Nat) (p : Int × Int) (r : List (Int × Int)) (w : World) (hp : -1099511627776 < p.1 ∧ p.1 < 1099511627776) (hn : (p :: r).length ≤ 4096) (h : HoldsR w b off (p :: r)) :
    Calls Tryd.prog 65 #[.slice (some ⟨b, off, none⟩) (p :: r).length c] w fun e w' => e = .returned (.int .i64 ((1 + runN (p.1 + 1) p.2 r : Nat) : Int)) ∧ ∃ q, w' = w.drewN q := by
  obtain ⟨x0, y0⟩ := p
  obtain ⟨hx0, hx1⟩ := hp
  simp only at hx0 hx1
  obtain ⟨zs, hzs⟩ : ∃ zs, zs = (x0, y0) :: r := ⟨_, rfl⟩
  have h00 := h 0 (by simp)
  have HR : Hid (zs.drop 1 = r) := by show zs.drop 1 = r; rw [hzs]; rfl
  rw [← hzs] at hn h ⊢
  have a0 : w.cell? ⟨b, off, none⟩ = some (.int .i64 x0) := by simpa using h00.1
  have b0 : w.cell? ⟨b, off + 1, none⟩ = some (.int .i64 y0) := by simpa using h00.2
  have hn1 : 1 ≤ zs.length := by rw [hzs]; simp
  clear h00 hzs
  have HA : Hid (HoldsR w b off zs) := h
  clear h
  generalize hl : zs.length = n at *
  have HL : Hid (zs.length = n) := hl
  clear hl
  go_enter Tryd.func65, Tryd.ntmps65
  go_wp2
  go_loopg [3] n (fun g s wr => ∃ k q : Nat, 1 ≤ k ∧ k + g = n + 1 ∧ k ≤ n ∧ s = .int .i64 k ∧ wr = w.drewN q ∧ 1 + runN (x0 + 1) y0 r = k + runN (x0 + k) y0 (zs.drop k))
  case atStart => exact ⟨1, 0, by omega, by omega, by omega, rfl, rfl, by rw [HR.out]; rfl⟩
  case round =>
    obtain ⟨k, q, hk1, hk, hkn, rfl, rfl, hrun⟩ := hrel
    have HK : Hid (k + gk = n + 1) := hk
    have HU : Hid (1 + runN (x0 + 1) y0 r = k + runN (x0 + k) y0 (zs.drop k)) := hrun
    clear hk hrun
    have hi1 : (0 : Int) ≤ (k : Int) := by omega
    by_cases hlt : k < n
    · obtain ⟨c0, c1⟩ := HA.out k (by rw [HL.out]; exact hlt)
      have HD : Hid (zs.drop k = zs[k]! :: zs.drop (k + 1)) := drop_get zs k (by rw [HL.out]; exact hlt)
      generalize zs[k]! = z at c0 c1 HD
      obtain ⟨x, y⟩ := z
      simp only at c0 c1
      have hi2 : (k : Int) < (n : Int) := by omega
      have hn4 : (k : Int) < 4096 := by omega
      have hw : IntKind.i64.wrap (x0 + k) = x0 + k := by rw [IntKind.wrap_i64]; omega
      have hg : decide ((k : Int) < (n : Int)) = true := by simpa using hi2
      by_cases hy : y = y0
      · subst hy
        by_cases hx : x = x0 + k
        · have HX : Hid (x = x0 + k) := hx
          have hdx : (x == x0 + (k : Int)) = true := by simp [hx]
          clear hx
          go_wp2
          go_quiet (fail)
          go_wp2
          go_roundg (gk - 1)
          case measure => have := HK.out; omega
          case rel =>
            have h1 := HK.out
            refine ⟨k + 1, _, by omega, by omega, by omega, by go_num, rfl, ?_⟩
            have h2 := HU.out
            rw [HD.out, runN, if_pos ⟨rfl, HX.out⟩] at h2
            rw [show x0 + ((k + 1 : Nat) : Int) = x0 + k + 1 by omega]
            omega
        · have hdx : (x == x0 + (k : Int)) = false := by simp [hx]
          have HF : Hid (1 + runN (x0 + 1) y r = k) := by
            have h2 := HU.out
            rw [HD.out, runN, if_neg (by simp [hx])] at h2
            exact h2
          clear hx
          go_wp2
          go_quiet (fail)
          go_wp2
          go_ret
          exact ⟨ret_int (by rw [HF.out]), _, World.drewN_drewN _ _ _⟩
      · have hdy : (y == y0) = false := by simp [hy]
        have HF : Hid (1 + runN (x0 + 1) y0 r = k) := by
          have h2 := HU.out
          rw [HD.out, runN, if_neg (by simp [hy])] at h2
          exact h2
        clear hy
        go_wp2
        go_quiet (fail)
        go_wp2
        go_ret
        exact ⟨ret_int (by rw [HF.out]), _, World.drewN_drewN _ _ _⟩
    · have hkn2 : k = n := by omega
      have HF : Hid (1 + runN (x0 + 1) y0 r = k) := by
        have h2 := HU.out
        rw [List.drop_of_length_le (by rw [HL.out]; omega), runN] at h2
        exact h2
      subst hkn2
      have hg : decide ((k : Int) < (k : Int)) = false := by simp
      clear hlt hkn
      go_wp2
      go_quiet (fail)
      go_wp2
      go_ret
      exact ⟨ret_int (by rw [HF.out]), _, World.drewN_drewN _ _ _⟩
end Go.Proofs.YtnklpjoeopcbbaaDoor
