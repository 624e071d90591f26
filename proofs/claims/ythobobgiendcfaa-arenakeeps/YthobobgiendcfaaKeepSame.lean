/- The keepers' same says true of two rows of the same cells. -/
import Derived.Test.YthobobgiendcfaaSameRef
import Derived.Deep.LoopGhost
namespace Go.Proofs.Ythobobgiendcfaa
open Go.RowKit Go.Lib Go.Sort

set_option maxHeartbeats 1000000 in
theorem keepSame_nil (w : World) : Calls Try.prog 58 #[.slice none 0 0, .slice none 0 0] w fun e w' => e = .returned (.bool true) ∧ ∃ q, w' = w.drewN q := by
  go_enter Try.func58, Try.ntmps58
  go_wp2
  refine wp_loop_rounds 1 ?_
  rw [rounds_succ]
  go_wp2
  go_ret
  exact ⟨rfl, 0, rfl⟩

set_option maxHeartbeats 1000000 in
theorem keepSame_some (b off c b' off' c' : Nat) (zs : List (Int × Int)) (w : World) (hn : zs.length ≤ 9223372036854775807) (h : HoldsR w b off zs) (h' : HoldsR w b' off' zs) :
    Calls Try.prog 58 #[.slice (some ⟨b, off, none⟩) zs.length c, .slice (some ⟨b', off', none⟩) zs.length c'] w fun e w' => e = .returned (.bool true) ∧ ∃ q, w' = w.drewN q := by
  have HA : Hid (HoldsR w b off zs) := h
  have HB : Hid (HoldsR w b' off' zs) := h'
  clear h h'
  generalize hl : zs.length = n at *
  have HL : Hid (zs.length = n) := hl
  clear hl
  go_enter Try.func58, Try.ntmps58
  go_wp2
  go_loopg [5] n (fun g s wr => ∃ k q : Nat, k + g = n ∧ s = .int .i64 k ∧ wr = w.drewN q)
  case atStart => exact ⟨0, 0, by omega, rfl, rfl⟩
  case round =>
    obtain ⟨k, q, hk, rfl, rfl⟩ := hrel
    have HK : Hid (k + gk = n) := hk
    have hkn : k ≤ n := by omega
    clear hk
    by_cases hlt : k < n
    · obtain ⟨c0, c1⟩ := HA.out k (by rw [HL.out]; exact hlt)
      obtain ⟨d0, d1⟩ := HB.out k (by rw [HL.out]; exact hlt)
      generalize zs[k]! = x at c0 c1 d0 d1
      have hi1 : (0 : Int) ≤ (k : Int) := by omega
      have hi2 : (k : Int) < (n : Int) := by omega
      have hne : ∀ w, (binOp .neq 87 (.agg #[.int .i64 x.1, .int .i64 x.2]) (.agg #[.int .i64 x.1, .int .i64 x.2])).run Try.prog w = .ok (.bool false) w := fun w => by rw [neP_run]; simp
      go_wp2
      go_region
      go_wp2
      go_roundg (gk - 1)
      case measure => have := HK.out; omega
      case rel => have := HK.out; exact ⟨k + 1, q + 1, by omega, by go_num, rfl⟩
    · go_wp2
      go_ret
      exact ⟨rfl, q, rfl⟩

theorem keepSame_any (v u : Value) (zs : List (Int × Int)) (w : World) (h : Row w v zs) (h' : Row w u zs) : Calls Try.prog 58 #[v, u] w fun e w' => e = .returned (.bool true) ∧ Below w.heap.size w w' := by
  rcases h with ⟨rfl, rfl⟩ | ⟨hz, b, off, c, rfl, _, hl, hm, hh⟩
  · rcases h' with ⟨_, rfl⟩ | ⟨hz, _⟩
    · exact (keepSame_nil w).mono fun e w' ⟨he, q, hw⟩ => ⟨he, by rw [hw]; exact below_drewN w q⟩
    · exact absurd rfl hz
  · rcases h' with ⟨e, _⟩ | ⟨_, b', off', c', rfl, _, _, _, hh'⟩
    · exact absurd e hz
    · unfold maxLen at hm
      exact (keepSame_some b off c b' off' c' zs w (by omega) hh hh').mono fun e w' ⟨he, q, hw⟩ => ⟨he, by rw [hw]; exact below_drewN w q⟩
end Go.Proofs.Ythobobgiendcfaa
