/- FrameCuts: the law's walk. -/
import Derived.Test.YtjblaomjadpbfaaDoorFrRefCut
namespace Go.Proofs.YtjblaomjadpbfaaDoor
open Go.RowKit

/-- a block of texts, its first ones read as a row -/
theorem PBlock.row {w : World} {g : Nat} {ts rest : List (List UInt8)} (h : PBlock w g (ts ++ rest)) (c : Nat) : TRow w (.slice (some ⟨g, 0, none⟩) ts.length c) ts := by
  refine ⟨_, c, rfl, fun _ => ⟨g, 0, rfl, fun i hi => ?_⟩⟩
  have := h.cell (i := i) (l := ts.getD i []) (by rw [List.getElem?_append_left hi, List.getD_eq_getElem?_getD, List.getElem?_eq_getElem hi]; rfl)
  rwa [Nat.zero_add]
theorem cutA_count (s : List UInt8) : (cutA [] s).1.length ≤ s.length := by
  have := pieces_le s
  rw [piecesOf, List.length_append, List.length_map, List.length_singleton] at this
  rw [cutA, List.length_map]
  omega

set_option maxRecDepth 20000 in
set_option maxHeartbeats 2000000 in
theorem cuts_law (kept come : List UInt8) (m : Int) (w : World) (hs : kept.length + come.length ≤ 4294967000) (hm : w.cell? ⟨0, 0, none⟩ = some (.int .i64 m)) :
    Calls Tryd.prog 3 #[.string ⟨kept.toArray⟩, .string ⟨come.toArray⟩] w (fun e w' => e = .returned (.bool true) ∧ Below w.heap.size w w') := by
  have hlt0 : 0 < w.heap.size := World.block_lt_of_cell? _ _ hm
  have c1 : ∀ k c W, Below w.heap.size w W → (k ++ c).length < 4294967281 → Calls Tryd.prog 8 #[.string ⟨k.toArray⟩, .string ⟨c.toArray⟩] W (CutOut (k ++ c) W) := fun k c W hb hl => cut_any k c m W hl ((World.cell?_of_block (a := ⟨0, 0, none⟩) (hb.block 0 hlt0)).trans hm)
  obtain ⟨KB, hKB⟩ : ∃ B, B = (⟨kept.toArray⟩ : ByteArray) := ⟨_, rfl⟩
  obtain ⟨CB, hCB⟩ : ∃ B, B = (⟨come.toArray⟩ : ByteArray) := ⟨_, rfl⟩
  have HC : Hid (CB = ⟨come.toArray⟩ ∧ kept.length + come.length ≤ 4294967000) := ⟨hCB, hs⟩
  have HK : Hid (KB = ⟨kept.toArray⟩) := hKB
  rw [← hKB, ← hCB]
  clear hKB hCB hs hm hlt0
  go_enter Tryd.func3, Tryd.ntmps3
  go_wp2_with fail
  go_loopg [0, 5] (kept.length + 1) (fun g s0 s5 wr => ∃ (i : Nat) (k : List UInt8), s5 = .int .i64 i ∧ s0 = .string ⟨k.toArray⟩ ∧ i ≤ k.length + 1 ∧ k.length + 1 - i ≤ g ∧ k.length ≤ kept.length ∧ i ≤ 6002 ∧ (i = 6002 → k.length = 6001) ∧ 10 ∉ k.take i ∧ wr = w)
  case atStart => exact ⟨0, kept, rfl, by rw [HK.out], by simp, by simp, Nat.le_refl _, by omega, by omega, by simp, rfl⟩
  case round =>
    obtain ⟨i, k, rfl, rfl, hik, hg, hkl, hi6, hi7, hno, hw⟩ := hrel
    have hw' := hw.symm
    subst hw'
    obtain ⟨B, hB⟩ : ∃ B, B = (⟨k.toArray⟩ : ByteArray) := ⟨_, rfl⟩
    have hsz : B.size = k.length := by rw [hB]; exact ba_size k
    have g0 : ∀ h, (B[i]'h).toNat = (k.getD i 0).toNat := fun h => by
      subst hB
      have : i < k.length := by rw [← ba_size k]; exact h
      rw [List.getD_eq_getElem?_getD, List.getElem?_eq_getElem this]; rfl
    have HB : Hid (B = ⟨k.toArray⟩ ∧ k.length ≤ kept.length) := ⟨hB, hkl⟩
    rw [← hB]
    obtain ⟨n, hn⟩ : ∃ n, n = k.length := ⟨_, rfl⟩
    have hkl2 : n ≤ 4294967000 := by have := HC.out.2; omega
    have HN : Hid (n = k.length ∧ i ≤ n + 1 ∧ n + 1 - i ≤ gk ∧ i ≤ 6002 ∧ (i = 6002 → n = 6001)) := ⟨hn, by omega, by omega, hi6, by omega⟩
    have HNO : Hid (10 ∉ k.take i) := hno
    rw [← hn] at hsz hik
    clear hB hkl hno hg hi7
    obtain ⟨b, hb⟩ : ∃ b, b = k.getD i 0 := ⟨_, rfl⟩
    obtain ⟨c, hc⟩ : ∃ c, c = b.toNat := ⟨_, rfl⟩
    rw [← hb, ← hc] at g0
    have hc256 : c < 256 := by rw [hc]; exact UInt8.toNat_lt _
    by_cases hlt : i < n
    · have hlt2 : (i : Int) < (n : Int) := by omega
      have h0 : (0 : Int) ≤ (i : Int) := by omega
      have h1 : (i : Int) ≤ (n : Int) := by omega
      have HX : Hid (B.extract 0 i = ⟨(k.take i).toArray⟩) := by show _ = _; rw [HB.out.1, ba_take]
      have HLT : Hid (i < n) := hlt
      have HTS : Hid (k.take (i + 1) = k.take i ++ [b]) := by
        show _ = _
        have hlk : i < k.length := by omega
        rw [hb, List.take_succ_eq_append_getElem hlk, List.getD_eq_getElem?_getD, List.getElem?_eq_getElem hlk]
        rfl
      by_cases h10 : c = 10
      · have hq : ((c : Int) == 10) = true := by rw [beq_iff_eq]; omega
        clear hb hc h10 hlt hn hik
        go_wp2_with fail
        go_roundg (gk - 1)
        case measure => have := HN.out; have := HLT.out; omega
        case rel =>
          have h2 := HN.out
          have h3 := HLT.out
          have h4 := HB.out.2
          have hl : (k.take i).length = i := by rw [List.length_take]; omega
          exact ⟨i + 1, k.take i, by go_num, by rw [HX.out], by omega, by omega, by omega, by omega, by omega, by rw [List.take_of_length_le (by omega)]; exact HNO.out, rfl⟩
      · have hq : ((c : Int) == 10) = false := by rw [beq_eq_false_iff_ne]; omega
        have HB10 : Hid (10 ≠ b) := fun e => h10 (by rw [hc, ← e]; rfl)
        by_cases h6 : 6000 < i
        · have hq6 : (6000 : Int) < (i : Int) := by omega
          clear hb hc h10 hlt h6 hn hik
          go_wp2_with fail
          go_roundg (gk - 1)
          case measure => have := HN.out; have := HLT.out; omega
          case rel =>
            have h2 := HN.out
            have h3 := HLT.out
            have h4 := HB.out.2
            have hl : (k.take i).length = i := by rw [List.length_take]; omega
            exact ⟨i + 1, k.take i, by go_num, by rw [HX.out], by omega, by omega, by omega, by omega, by omega, by rw [List.take_of_length_le (by omega)]; exact HNO.out, rfl⟩
        · have hq6 : ¬ (6000 : Int) < (i : Int) := by omega
          have H6 : Hid (i ≤ 6000) := by show i ≤ 6000; omega
          clear hb hc h10 hlt h6 hn hik
          go_wp2_with fail
          go_roundg (gk - 1)
          case measure => have := HN.out; have := HLT.out; omega
          case rel =>
            have h2 := HN.out
            have h3 := HLT.out
            have h4 := HB.out.2
            have h6 := H6.out
            refine ⟨i + 1, k, by go_num, by rw [HB.out.1], by omega, by omega, by omega, by omega, by omega, ?_, rfl⟩
            rw [HTS.out, List.mem_append, List.mem_singleton]
            exact fun e => e.elim HNO.out HB10.out
    · have hlt2 : ¬ (i : Int) < (n : Int) := by omega
      have HF : Hid (10 ∉ k ∧ k.length ≤ 6001 ∧ k.length + come.length ≤ 4294967000) := by
        have h2 := HN.out
        have h4 := HB.out.2
        have h5 := HC.out.2
        refine ⟨fun e => HNO.out (by rw [List.take_of_length_le (by omega)]; exact e), ?_, by omega⟩
        by_cases h : i = 6002
        · have := h2.2.2.2.2 h; omega
        · omega
      have c2 := c1 k come w (Below.refl _ _) (by have := HF.out; rw [List.length_append]; omega)
      have c3 := fun W => refCut_any k come W HF.out.2.1 (by have := HF.out; omega)
      have hcf : cutA [] (k ++ come) = cutA k come := cutA_free HF.out.1 come
      have hcc : (cutA k come).1.length ≤ 4294967000 := by
        have := cutA_count (k ++ come)
        rw [hcf, List.length_append] at this
        have := HF.out
        omega
      have c4 : ∀ W, Below w.heap.size w W → Calls Tryd.prog 8 #[.string ⟨#[97]⟩, .string ⟨#[98, 10]⟩] W (CutOut ([97] ++ [98, 10]) W) := fun W hb => c1 [97] [98, 10] W hb (by decide)
      rw [← HB.out.1, ← HC.out.1] at c2 c3
      clear c1 hn hb hc hlt hik g0
      go_wp2_with fail
      refine c2.mono ?_
      rintro e w1 ⟨hb1, g, rest, hg, he, hp⟩
      rw [hcf] at he hp
      subst he
      clear c2 hcf
      have hR1 := hp.row (cutA k come).1.length
      go_wp2_with fail
      refine (c3 _).mono ?_
      rintro e w2 ⟨hb2, v2, he, ht2⟩
      subst he
      have hR2 := hR1.below hb2
      have b2 : Below w.heap.size w w2 := hb1.trans (hb2.mono hb1.size)
      clear c3 hR1 hp
      go_wp2_with fail
      refine (c4 _ b2).mono ?_
      rintro e w3 ⟨hb3, g3, rest3, hg3, he3, hp3⟩
      have hlen3 : (cutA [] ([97] ++ [98, 10])).1.length = 1 := rfl
      rw [hlen3] at he3
      subst he3
      have hR3 := hR2.below hb3
      have hR4 := (ht2.below hb3).row
      have b3 : Below w.heap.size w w3 := b2.trans (hb3.mono b2.size)
      have c5 := sameTexts_any _ v2 (cutA k come).1 w3 (by omega) hR3 hR4
      clear c4 hR2 ht2 hR3 hR4 hp3 hlen3
      generalize (cutA k come).1.length = L at *
      go_wp2_with fail
      refine c5.mono ?_
      rintro e w4 ⟨rfl, hb4⟩
      go_wp2_with fail
      go_ret
      exact ⟨rfl, b3.trans (hb4.mono b3.size)⟩
end Go.Proofs.YtjblaomjadpbfaaDoor
