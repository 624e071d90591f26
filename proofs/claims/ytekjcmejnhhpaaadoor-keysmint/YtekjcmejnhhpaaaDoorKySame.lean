/- Two tables of the same keys are alike. -/
import Derived.Test.YtekjcmejnhhpaaaDoorKyFind
import Derived.Laws.StructEq
namespace Go.Proofs.YtekjcmejnhhpaaaDoor
open Go.RowKit

theorem neqKy_run (tx nm : ByteArray) (rt : Int) (w : World) : (binOp .neq 33 (.agg #[.string tx, .string nm, .int .i64 rt]) (.agg #[.string tx, .string nm, .int .i64 rt])).run Tryd.prog w = .ok (.bool false) w := by
  have hS : Tryd.prog.underlying 33 = some (.struct (Tryd.prog.fieldsOf 33)) := by kernel_rfl
  have hp : Tryd.prog.stoodInHeld 33 = false := by kernel_rfl
  rw [run_neq_struct, show (10000 : Nat) = 9999 + 1 from rfl, run_equalIn_agg w 9999 33 _ _ hS hp]
  simp only [Program.fieldsOf, Tryd.underlying33]
  go_simp

set_option maxRecDepth 20000 in
set_option maxHeartbeats 2000000 in
theorem sameTable_any (serial : Int) (u v : Value) (ks : List Ky) (w : World) (hu : HK w u ks) (hv : HK w v ks) :
    Calls Tryd.prog 7 #[.agg #[.int .i64 serial, u], .agg #[.int .i64 serial, v]] w fun e w' => e = .returned (.bool true) ∧ Below w.heap.size w w' := by
  have t0 := T2.born w serial u 24
  have hb0 : Below w.heap.size w (w.alloc (.cells #[.int .i64 serial, u] 24)) := (Below.refl _ _).alloc (Nat.le_refl _) _
  generalize hwA : w.alloc (.cells #[.int .i64 serial, u] 24) = wA at *
  have hsA : wA.heap.size = w.heap.size + 1 := by rw [← hwA]; simp
  have hb1 : Below wA.heap.size wA (wA.alloc (.cells #[.int .i64 serial, v] 24)) := (Below.refl _ _).alloc (Nat.le_refl _) _
  have s0 := T2.born wA serial v 24
  rw [hsA] at s0
  have t1 := t0.below hb1
  have hb := hb0.trans (hb1.mono hb0.size)
  have hs : (wA.alloc (.cells #[.int .i64 serial, v] 24)).heap.size = w.heap.size + 2 := by simp; omega
  generalize hwB : wA.alloc (.cells #[.int .i64 serial, v] 24) = w0 at *
  clear t0 hb0 hb1
  obtain ⟨pu, cu, rfl, h1, h2, -, hru⟩ := hu.below hb
  obtain ⟨pv, cv, rfl, h3, h4, -, hrv⟩ := hv.below hb
  obtain ⟨n, hn⟩ : ∃ n, n = ks.length := ⟨_, rfl⟩
  have HN : Hid (n = ks.length) := hn
  have HB : Hid (Below w.heap.size w w0) := hb
  rw [← hn] at h1 h3 hru hrv t1 s0 hwA hwB ⊢
  have HRU : Hid (n = 0 ∨ ∃ b off, pu = some ⟨b, off, none⟩ ∧ b < w0.heap.size ∧ ∀ k x, ks[k]? = some x → KAt w0 b (off + k * 3) x) := hru
  have HRV : Hid (n = 0 ∨ ∃ b off, pv = some ⟨b, off, none⟩ ∧ b < w0.heap.size ∧ ∀ k x, ks[k]? = some x → KAt w0 b (off + k * 3) x) := hrv
  have HT : Hid (T2 w.heap.size serial (.slice pu n cu) w0 ∧ T2 (w.heap.size + 1) serial (.slice pv n cv) w0) := ⟨t1, s0⟩
  obtain ⟨a1, a2, -, -, -⟩ := t1
  obtain ⟨b1, b2, -, -, -⟩ := s0
  have hne1 : (serial != serial) = false := by simp
  have hne2 : ((n : Int) != (n : Int)) = false := by simp
  clear hu hv hb hru hrv hn
  go_enter Tryd.func7, Tryd.ntmps7
  go_wp2_with fail
  clear hwA hwB a1 a2 b1 b2 hne1 hne2
  go_loopg [5, 23] n (fun gk _ s23 wr => ∃ (j q : Nat), j + gk = n ∧ s23 = .int .i64 j ∧ wr = w0.drewN q)
  case atStart => exact ⟨0, 0, by omega, rfl, rfl⟩
  case round =>
    obtain ⟨j, q, hj, rfl, rfl⟩ := hrel
    have HJ : Hid (j + gk = n) := hj
    have hjn : j ≤ n := by omega
    clear hj
    by_cases hlt : j < n
    · obtain ⟨b, off, rfl, hbl, hc⟩ : ∃ b off, pu = some ⟨b, off, none⟩ ∧ b < w0.heap.size ∧ ∀ k x, ks[k]? = some x → KAt w0 b (off + k * 3) x := by
        rcases HRU.out with h | h
        · omega
        · exact h
      obtain ⟨b', off', rfl, hbl', hc'⟩ : ∃ b off, pv = some ⟨b, off, none⟩ ∧ b < w0.heap.size ∧ ∀ k x, ks[k]? = some x → KAt w0 b (off + k * 3) x := by
        rcases HRV.out with h | h
        · omega
        · exact h
      have hjk : j < ks.length := by have := HN.out; omega
      obtain ⟨c0, c1, c2⟩ := hc j ks[j] (List.getElem?_eq_getElem hjk)
      obtain ⟨d0, d1, d2⟩ := hc' j ks[j] (List.getElem?_eq_getElem hjk)
      obtain ⟨a1, a2, -, -, -⟩ := HT.out.1
      obtain ⟨b1, b2, -, -, -⟩ := HT.out.2
      generalize ks[j] = x at *
      obtain ⟨tx, nm, rt⟩ := x
      simp only at c0 c1 c2 d0 d1 d2
      have heq := fun W => neqKy_run tx nm rt W
      have hi1 : (0 : Int) ≤ (j : Int) := by omega
      have hi2 : (j : Int) < (n : Int) := by omega
      clear hc hc'
      go_wp2_with fail
      go_region
      go_wp2_with fail
      go_roundg (gk - 1)
      case measure => have := HJ.out; omega
      case rel =>
        have h1 := HJ.out
        exact ⟨j + 1, q + 1, by omega, by go_num, rfl⟩
    · have hq : ¬ (j : Int) < (n : Int) := by omega
      go_wp2_with fail
      go_ret
      exact ⟨rfl, ⟨HB.out.os, HB.out.tape, HB.out.output, HB.out.size, HB.out.block⟩⟩
end Go.Proofs.YtekjcmejnhhpaaaDoor
