/- Tick. -/
import Derived.Test.YtpldaghhledjlaaGreatDoorHoPut
import Derived.Deep.AppendLies
namespace Go.Proofs.YtpldaghhledjlaaGreatDoor.H
open Go.RowKit

set_option maxRecDepth 20000 in
set_option maxHeartbeats 1000000 in
theorem tick_any {w : World} {o : Nat → Nat} {hb : Nat} {c : Hm} {S : Hs} {M : Nat} (h : HoAt w o hb c S M) (hk : S.ticks + 1 < 100) (hlen : S.log.length ≤ 100000) :
    Calls Tryz.prog 11 #[.pointer (some ⟨hb, 0, none⟩)] w fun e w' => e = .returned (.tuple #[]) ∧ ∃ o', HoAt w' o' hb c ⟨S.T, S.ds, S.ticks + 1, S.log ++ numL (S.ticks + 1) ++ wL S.T S.T.n ++ [10]⟩ M ∧ Ch HL o w o' w' := by
  obtain ⟨i0, hi, hz0, hz1, hz2⟩ := info_parts Tryz.infoB
  obtain ⟨lv, l1, l2, l3⟩ := h.log
  have c3 : w.cell? ⟨hb, 3, none⟩ = some (.int .i64 S.ticks) := Lib.cell_of_heap l1 3
  have f3 := Lib.frozen_of_heap l1 3
  have hwr : IntKind.i64.wrap ((S.ticks : Int) + 1) = (S.ticks : Int) + 1 := by rw [IntKind.wrap_i64]; omega
  obtain ⟨hA, hcA⟩ := h.setK (S.ticks + 1)
  rw [show ((S.ticks + 1 : Nat) : Int) = (S.ticks : Int) + 1 by omega] at hA hcA
  have HA : Hid (HoAt (w.setCell ⟨hb, 3, none⟩ (.int .i64 ((S.ticks : Int) + 1))) o hb c ⟨S.T, S.ds, S.ticks + 1, S.log⟩ M ∧ Ch HL o w o (w.setCell ⟨hb, 3, none⟩ (.int .i64 ((S.ticks : Int) + 1)))) := ⟨hA, hcA.mono l14_HL⟩
  have h64 := h.n64
  clear h l1 l2 l3 hA hcA
  go_enter Tryz.func11, Tryz.ntmps11
  go_upto_region 2 with fail
  generalize hwA : w.setCell ⟨hb, 3, none⟩ (.int .i64 ((S.ticks : Int) + 1)) = wA at *
  clear hwA
  go_cut [] from 12 to 23 (fun wx => ∃ o1, HoAt wx o1 hb c ⟨S.T, S.ds, S.ticks + 1, S.log ++ numL (S.ticks + 1)⟩ M ∧ Ch HL o w o1 wx)
  case first =>
    obtain ⟨lv, l1, l2, l3⟩ := HA.out.1.log
    have ca := fun W hW => appendInt_any 0 S.log.length (S.ticks + 1) lv (Lib.byteCells S.log) W hk hW (Nat.zero_le _) (by omega)
    rw [show ((S.ticks + 1 : Nat) : Int) = (S.ticks : Int) + 1 by omega] at ca l1
    have d3 : wA.cell? ⟨hb, 3, none⟩ = some (.int .i64 ((S.ticks : Int) + 1)) := Lib.cell_of_heap l1 3
    have d4 : wA.cell? ⟨hb, 4, none⟩ = some lv := Lib.cell_of_heap l1 4
    have z4 := Lib.frozen_of_heap l1 4
    have HL1 : Hid _ := l1
    have HL2 : Hid _ := l2
    have HL3 : Hid (∀ k, lv.ownBlock = some k → o k = 4) := l3
    obtain ⟨la, ln, lc, rfl⟩ := own_sl l2
    clear l1 l2 l3 c3 f3 hwr
    go_region_with (go_at_call 26; refine (ca _ (by exact HL2.out)).mono ?_; rintro e w1 ⟨v', rfl, h1, h2, h3⟩; obtain ⟨q4, q5⟩ := log_cells HA.out.1.drew HL1.out HL3.out h2; obtain ⟨va, vn, vc, rfl⟩ := own_sl h1; have HE : Hid _ := (HA.out.1.drew).put (log' := S.log ++ numL (S.ticks + 1)) HL1.out HL3.out h2 (by rw [List.length_append, ← numL_size, ← bytes_add, ← str_bytes (numL _)]; exact h1) h3; clear h1 h2 h3)
    all_goals
      go_wp2_with fail
      go_meet
      case rel =>
        refine ⟨_, HE.out.1, ?_⟩
        exact (HA.out.2.drew).trans (HE.out.2.mono l14_HL)
  case rest =>
  obtain ⟨o1, hB, hcB⟩ := hcut
  have HB : Hid (HoAt wc o1 hb c ⟨S.T, S.ds, S.ticks + 1, S.log ++ numL (S.ticks + 1)⟩ M ∧ Ch HL o w o1 wc) := ⟨hB, hcB⟩
  obtain ⟨lv, l1, l2, l3⟩ := hB.log
  have d2 : wc.cell? ⟨hb, 2, none⟩ = some (.slice (some ⟨c.pr, 0, none⟩) S.T.n c.cp) := Lib.cell_of_heap l1 2
  clear hB hcB l1 l2 l3 HA c3 f3 hwr
  go_wp2_with fail
  go_loopg [29] S.T.n (fun gk s29 wr => ∃ (j : Nat) (o2 : Nat → Nat), j + gk = S.T.n ∧ s29 = .int .i64 j ∧ HoAt wr o2 hb c ⟨S.T, S.ds, S.ticks + 1, S.log ++ numL (S.ticks + 1) ++ wL S.T j⟩ M ∧ Ch HL o w o2 wr)
  case atStart => exact ⟨0, o1, by omega, rfl, by rw [wL, List.append_nil]; exact HB.out.1, HB.out.2⟩
  case round =>
    obtain ⟨j, o2, hj, rfl, hr, hcr⟩ := hrel
    have HJ : Hid (j + gk = S.T.n) := hj
    have hjn : j ≤ S.T.n := by omega
    obtain ⟨L, hL⟩ : ∃ L, L = S.log ++ numL (S.ticks + 1) ++ wL S.T j := ⟨_, rfl⟩
    rw [← hL] at hr
    have HLL : Hid (L = S.log ++ numL (S.ticks + 1) ++ wL S.T j) := hL
    have hwl := wL_len S.T S.T.n (fun t ht => waits_small hr t ht) j hjn
    have hnl := numL_len (S.ticks + 1) hk
    obtain ⟨n, hn⟩ : ∃ n, n = L.length := ⟨_, rfl⟩
    have hn2 : n ≤ 102000 := by rw [hn, hL, List.length_append, List.length_append]; omega
    have HN : Hid (n = L.length) := hn
    have HR : Hid (HoAt wr o2 hb c ⟨S.T, S.ds, S.ticks + 1, L⟩ M ∧ Ch HL o w o2 wr) := ⟨hr, hcr⟩
    obtain ⟨lv, l1, l2, l3⟩ := hr.log
    have d4 : wr.cell? ⟨hb, 4, none⟩ = some lv := Lib.cell_of_heap l1 4
    have z4 := Lib.frozen_of_heap l1 4
    have OWN : Hid (wr.ownsRow 0 5 1 lv n (Lib.byteCells L)) := by show World.ownsRow _ _ _ _ _ _ _; rw [hn]; exact l2
    have HL1 : Hid _ := l1
    have HL3 : Hid (∀ k, lv.ownBlock = some k → o2 k = 4) := l3
    have HEND : Hid (∀ w5 ob, (wr.alloc ob).grownBy w5 lv.ownBlock → w5.cell? ⟨hb, 4, none⟩ = some lv ∧ w5.frozen? ⟨hb, 4, none⟩ = false) := fun w5 ob hg => log_cells HR.out.1 HL1.out HL3.out (grown_alloc ob hg)
    obtain ⟨la, ln, lc, rfl⟩ := own_sl l2
    clear hj hL hwl hn hr hcr l1 l2 l3 hnl d2
    by_cases hlt : j < S.T.n
    · have hi1 : (j : Int) < (S.T.n : Int) := by omega
      have hws : S.T.waits j ≤ 8 := waits_small HR.out.1 j hlt
      go_upto_region 7 with (at_builtin; refine wpList_append_lies _ (by rfl) _ _ 50 (by rfl) 0 5 i0 (.int .u8 0) 1 1 Tryz.underlying50 hi hz0 hz1 hz2 rfl (by decide) (.slice la ln lc) n (Lib.byteCells L) (by rfl) (World.ownsRow.alloc OWN.out _) ⟨wr.heap.size, 0, none⟩ 1 1 [.int .u8 32] (by rfl) rfl (cell_one _ _ _) (by intro u hu; simp at hu; subst hu; rfl) (by omega) (by unfold maxLen; omega) (by omega) (Nat.zero_le _) (wr.heap.size + 1) (by simp) ?_; intro g5 cap5 w5 hown5 hgrow5 hat5 hlt5; obtain ⟨q4, q5⟩ := HEND.out w5 _ hgrow5)
      obtain ⟨hA, hcA⟩ := HR.out.1.byte (x := 32) HN.out HL1.out HL3.out hgrow5 hown5 hat5
      have HA : Hid (HoAt (w5.setCell ⟨hb, 4, none⟩ (.slice (some ⟨g5, 0, none⟩) (n + 1) cap5)) (ext o2 wr.heap.size 4) hb c ⟨S.T, S.ds, S.ticks + 1, L ++ [32]⟩ M ∧ Ch HL o w (ext o2 wr.heap.size 4) (w5.setCell ⟨hb, 4, none⟩ (.slice (some ⟨g5, 0, none⟩) (n + 1) cap5))) := ⟨hA, HR.out.2.trans (hcA.mono l14_HL)⟩
      generalize ext o2 wr.heap.size 4 = o3 at *
      generalize hwA : w5.setCell ⟨hb, 4, none⟩ (.slice (some ⟨g5, 0, none⟩) (n + 1) cap5) = wA at *
      clear hA hcA hwA hown5 hgrow5 hat5 hlt5 q4 q5 d4 z4 HEND OWN HL1 HL3
      obtain ⟨lv, l1, l2, l3⟩ := HA.out.1.log
      obtain ⟨vs, t1, t2⟩ := HA.out.1.turns
      have cw := Waits_any 0 c.tb c.R vs S.T j wA.drew (t1.keep fun _ _ => rfl)
      have ca := fun W hW => appendInt_any 0 (L ++ [32]).length (S.T.waits j) lv (Lib.byteCells (L ++ [32])) W (by omega) hW (Nat.zero_le _) (by have := HN.out; rw [List.length_append]; simp; omega)
      have d1 : wA.cell? ⟨hb, 1, none⟩ = some (.pointer (some ⟨c.tb, 0, none⟩)) := Lib.cell_of_heap l1 1
      have d4 : wA.cell? ⟨hb, 4, none⟩ = some lv := Lib.cell_of_heap l1 4
      have z4 := Lib.frozen_of_heap l1 4
      have HL1 : Hid _ := l1
      have HL2 : Hid _ := l2
      have HL3 : Hid (∀ k, lv.ownBlock = some k → o3 k = 4) := l3
      obtain ⟨la2, ln2, lc2, rfl⟩ := own_sl l2
      clear l1 l2 l3 t1 t2
      obtain ⟨m, hm⟩ : ∃ m, m = S.T.waits j := ⟨_, rfl⟩
      rw [← hm] at cw ca
      have HM : Hid (m = S.T.waits j) := hm
      clear hm
      go_region_with (first | (go_at_call 27; refine cw.mono ?_; rintro e wz ⟨rfl, rfl⟩) | (go_at_call 26; refine (ca _ (by exact HL2.out)).mono ?_; rintro e w1 ⟨v', rfl, h1, h2, h3⟩; obtain ⟨q4, q5⟩ := log_cells HA.out.1.drew HL1.out HL3.out h2; obtain ⟨va, vn, vc, rfl⟩ := own_sl h1; have HE : Hid _ := (HA.out.1.drew).put (log' := L ++ [32] ++ numL m) HL1.out HL3.out h2 (by rw [List.length_append, ← numL_size, ← bytes_add, ← str_bytes (numL _)]; exact h1) h3; clear h1 h2 h3))
      all_goals
        go_wp2_with fail
        go_roundg (gk - 1)
        case measure => have := HJ.out; omega
        case rel =>
          have h1 := HJ.out
          refine ⟨j + 1, _, by omega, by go_num, ?_, (HA.out.2.drew).trans (HE.out.2.mono l14_HL)⟩
          have h2 : S.log ++ numL (S.ticks + 1) ++ wL S.T (j + 1) = L ++ [32] ++ numL m := by
            rw [wL, HLL.out, HM.out]
            simp only [List.append_assoc, List.cons_append, List.nil_append]
          rw [h2]
          exact HE.out.1
    · have hi1 : ¬ (j : Int) < (S.T.n : Int) := by omega
      have HE : Hid (j = S.T.n) := by show j = S.T.n; omega
      go_wp2_with (at_builtin; refine wpList_append_lies _ (by rfl) _ _ 50 (by rfl) 0 5 i0 (.int .u8 0) 1 1 Tryz.underlying50 hi hz0 hz1 hz2 rfl (by decide) (.slice la ln lc) n (Lib.byteCells L) (by rfl) (World.ownsRow.alloc OWN.out _) ⟨wr.heap.size, 0, none⟩ 1 1 [.int .u8 10] (by rfl) rfl (cell_one _ _ _) (by intro u hu; simp at hu; subst hu; rfl) (by omega) (by unfold maxLen; omega) (by omega) (Nat.zero_le _) (wr.heap.size + 1) (by simp) ?_; intro g5 cap5 w5 hown5 hgrow5 hat5 hlt5; obtain ⟨q4, q5⟩ := HEND.out w5 _ hgrow5)
      go_end0
      obtain ⟨hA, hcA⟩ := HR.out.1.byte (x := 10) HN.out HL1.out HL3.out hgrow5 hown5 hat5
      have hA2 : HoAt (w5.setCell ⟨hb, 4, none⟩ (.slice (some ⟨g5, 0, none⟩) (n + 1) cap5)) (ext o2 wr.heap.size 4) hb c ⟨S.T, S.ds, S.ticks + 1, L ++ [10]⟩ M := hA
      have h3 : L ++ [10] = S.log ++ (numL (S.ticks + 1) ++ (wL S.T S.T.n ++ [10])) := by
        rw [HLL.out, HE.out]
        simp only [List.append_assoc]
      rw [h3] at hA2
      exact ⟨rfl, _, hA2, HR.out.2.trans (hcA.mono l14_HL)⟩
end Go.Proofs.YtpldaghhledjlaaGreatDoor.H
