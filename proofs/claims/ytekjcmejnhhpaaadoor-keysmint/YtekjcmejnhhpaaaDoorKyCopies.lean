/- copies: keys in a new row. -/
import Derived.Test.YtekjcmejnhhpaaaDoorKyCopy
namespace Go.Proofs.YtekjcmejnhhpaaaDoor
open Go.RowKit

theorem key_second (w : World) (tx nm : ByteArray) (rt : Int) (t : TypeId) : ∀ (j : Nat) u, [Value.string tx, .string nm, .int .i64 rt][j]? = some u → (w.alloc (.cells #[.string tx, .string nm, .int .i64 rt] t)).cell? ((⟨w.heap.size, 0, none⟩ : Addr).add j) = some u := by
  intro j u hu
  have k := K3.born w ⟨tx, nm, rt⟩ t
  match j, hu with
  | 0, hu => simp at hu; subst hu; exact k.1
  | 1, hu => simp at hu; subst hu; exact k.2.1
  | 2, hu => simp at hu; subst hu; exact k.2.2.1

set_option maxRecDepth 20000 in
set_option maxHeartbeats 2000000 in
theorem copies_any (v : Value) (ks : List Ky) (w : World) (h : HK w v ks) (hok : ∀ k ∈ ks, k.ok) (hlen : ks.length * 40 ≤ 140737488355328) :
    Calls Tryd.prog 10 #[v] w fun e w' => ∃ u, e = .returned u ∧ KRow w' w.heap.size u ks ∧ Below w.heap.size w w' ∧ u ≠ .slice none 0 0 := by
  obtain ⟨i0, hi, hz0, hz1, hz2⟩ := info_parts Tryd.infoKey
  obtain ⟨p, cap, rfl, hcap, hcm, -, hrow⟩ := h
  obtain ⟨n, hn⟩ : ∃ n, n = ks.length := ⟨_, rfl⟩
  rw [← hn] at hcap hrow hlen ⊢
  obtain ⟨w1, hmk, hown1, hgr1⟩ := run_make_own (P := Tryd.prog) w w.heap.size 22 33 i0 _ 3 Tryd.underlying22 hi hz0 hz1 .i64 .i64 n (by rw [hz2]; omega) (by unfold maxLen; omega) (Nat.le_refl _)
  have hb1 : Below w.heap.size w w1 := ⟨hgr1.os, hgr1.tape, hgr1.output, hgr1.size, fun j hj => hgr1.block j hj (by simp)⟩
  have HO1 : Hid (w1.ownsRow w.heap.size 33 3 (.slice (some ⟨w.heap.size, 0, none⟩) 0 n) 0 []) := hown1
  have HB1 : Hid (Below w.heap.size w w1) := hb1
  have HROW : Hid (n = 0 ∨ ∃ b off, p = some ⟨b, off, none⟩ ∧ b < w.heap.size ∧ ∀ k x, ks[k]? = some x → KAt w b (off + k * 3) x) := hrow
  have HOK : Hid (∀ k ∈ ks, k.ok) := hok
  have HN : Hid (n = ks.length) := hn
  clear hrow hok hn hown1 hgr1 hb1
  go_enter Tryd.func10, Tryd.ntmps10
  go_wp2_with fail
  clear hmk
  go_loopg [3, 11] n (fun gk s3 s11 wr => ∃ j : Nat, j + gk = n ∧ s11 = .int .i64 j ∧ KRow wr w.heap.size s3 (ks.take j) ∧ Below w.heap.size w wr ∧ s3 ≠ .slice none 0 0)
  case atStart => exact ⟨0, by omega, rfl, HO1.out, HB1.out, fun e => by cases e⟩
  case round =>
    obtain ⟨j, hj, rfl, hrow, hbr, hnn⟩ := hrel
    have HNN : Hid (u3 ≠ .slice none 0 0) := hnn
    have HJ : Hid (j + gk = n) := hj
    have hjn : j ≤ n := by omega
    have HR : Hid (KRow wr w.heap.size u3 (ks.take j)) := hrow
    have hsz := hbr.size
    have HBR : Hid (Below w.heap.size w wr) := hbr
    clear hj hrow hnn
    by_cases hlt : j < n
    · obtain ⟨b, off, rfl, hbl, hc⟩ : ∃ b off, p = some ⟨b, off, none⟩ ∧ b < w.heap.size ∧ ∀ k x, ks[k]? = some x → KAt w b (off + k * 3) x := by
        rcases HROW.out with h | h
        · omega
        · exact h
      have hjk : j < ks.length := by have := HN.out; omega
      obtain ⟨x, hx⟩ : ∃ x, x = ks[j] := ⟨_, rfl⟩
      have hxg : ks[j]? = some x := by rw [hx]; exact List.getElem?_eq_getElem hjk
      obtain ⟨c0, c1, c2⟩ := (hc j x hxg).keep (hbr.block b hbl)
      have cc := fun W => copied_any x W (HOK.out x (List.mem_of_getElem? hxg))
      have HX : Hid (ks.take (j + 1) = ks.take j ++ [x]) := by show _ = _; rw [List.take_succ_eq_append_getElem hjk, hx]
      clear hc hxg hx hbr
      obtain ⟨tx, nm, rt⟩ := x
      simp only at c0 c1 c2
      simp only [Ky.val] at cc
      have hi1 : (0 : Int) ≤ (j : Int) := by omega
      have hi2 : (j : Int) < (n : Int) := by omega
      go_wp2_with fail
      refine (cc _).mono ?_
      rintro e w2 ⟨rfl, hb2⟩
      have hbA : Below wr.heap.size wr w2 := ((Below.refl _ _).alloc (Nat.le_refl _) _).trans (hb2.mono (by simp))
      have HBA : Hid (Below wr.heap.size wr w2) := hbA
      have hsz2 := hbA.size
      have OWN : Hid (∀ o, (w2.alloc o).ownsRow w.heap.size 33 3 u3 j (keysL (ks.take j))) := fun o => by
        have h1 := HR.out.below hbA
        unfold KRow at h1
        rw [List.length_take, Nat.min_eq_left (by omega)] at h1
        exact World.ownsRow.alloc h1 o
      have hlow : Hid (∀ q, u3.ownBlock = some q → w.heap.size ≤ q ∧ q < wr.heap.size) := fun q hq => HR.out.lt q hq
      clear hb2 hbA cc c0 c1 c2 hbl
      go_wp2_with (at_builtin; refine wpList_append_own _ rfl _ _ 22 rfl w.heap.size 33 i0 _ 3 40 Tryd.underlying22 hi hz0 hz1 hz2 rfl (by decide) u3 j (keysL (ks.take j)) rfl (by exact OWN.out _) ⟨w2.heap.size, 0, none⟩ 1 1 [.string tx, .string nm, .int .i64 rt] rfl rfl (by exact key_second w2 tx nm rt _) (by intro u hu; simp at hu; rcases hu with rfl | rfl | rfl <;> rfl) (by unfold maxLen; omega) (by omega) (by simp; omega) ?_; intro v' w3 hown3 hgrow hnil3)
      go_roundg (gk - 1)
      case measure => have := HJ.out; omega
      case rel =>
        have h1 := HJ.out
        refine ⟨j + 1, by omega, by go_num, ?_, ?_, fun e => absurd (hnil3.1 e).2 (by omega)⟩
        · rw [HX.out]
          unfold KRow
          rw [List.length_append, List.length_take, Nat.min_eq_left (by have := HN.out; omega), keysL_append]
          exact hown3
        · have h2 := HBR.out.trans (HBA.out.mono HBR.out.size)
          exact (h2.alloc h2.size _).trans ⟨hgrow.os, hgrow.tape, hgrow.output, hgrow.size, fun q hq => hgrow.block q (by have := h2.size; simp; omega) (fun e => by have := (hlow.out _ e.symm).1; omega)⟩
    · have hq : ¬ (j : Int) < (n : Int) := by omega
      have HE : Hid (j = n) := by show j = n; omega
      go_wp2_with fail
      go_ret
      refine ⟨_, rfl, ?_, HBR.out, HNN.out⟩
      have h1 := HR.out
      rwa [HE.out, HN.out, List.take_length] at h1
end Go.Proofs.YtekjcmejnhhpaaaDoor
