/- The document's CutLines. -/
import Derived.Test.YtjblaomjadpbfaaDoorFrCut
import Derived.Test.YtjblaomjadpbfaaDoorFrSame
namespace Go.Proofs.YtjblaomjadpbfaaDoor
open Go.RowKit

theorem drop_byte (T : List UInt8) (k : Nat) (h : k < T.length) : T.drop k = T.getD k 0 :: T.drop (k + 1) := by
  rw [List.drop_eq_getElem_cons h, List.getD_eq_getElem?_getD, List.getElem?_eq_getElem h]; rfl

set_option maxRecDepth 20000 in
set_option maxHeartbeats 2000000 in
theorem refCut_any (kept come : List UInt8) (w : World) (hk : kept.length ≤ 6001) (hc : come.length ≤ 4294967296) :
    Calls Tryd.prog 9 #[.string ⟨kept.toArray⟩, .string ⟨come.toArray⟩] w (fun e w' => Below w.heap.size w w' ∧ ∃ v, e = .returned (.tuple #[v, .string ⟨(cutA kept come).2.toArray⟩]) ∧ Texts w' w.heap.size v (cutA kept come).1) := by
  obtain ⟨KB, hKB⟩ : ∃ B, B = (⟨kept.toArray⟩ : ByteArray) := ⟨_, rfl⟩
  obtain ⟨CB, hCB⟩ : ∃ B, B = (⟨come.toArray⟩ : ByteArray) := ⟨_, rfl⟩
  have hsz : CB.size = come.length := by rw [hCB]; exact ba_size come
  have HB : Hid (KB = ⟨kept.toArray⟩ ∧ CB = ⟨come.toArray⟩) := ⟨hKB, hCB⟩
  have HGET : Hid (∀ (j : Nat) h, (CB[j]'h).toNat = (come.getD j 0).toNat) := fun j h => by
    subst hCB
    have : j < come.length := by rw [← ba_size come]; exact h
    rw [List.getD_eq_getElem?_getD, List.getElem?_eq_getElem this]; rfl
  rw [← hKB, ← hCB]
  clear hKB hCB
  obtain ⟨n, hn⟩ : ∃ n, n = come.length := ⟨_, rfl⟩
  rw [← hn] at hsz hc
  have HN : Hid (n = come.length ∧ kept.length ≤ 6001) := ⟨hn, hk⟩
  clear hn hk
  obtain ⟨i0, hi, hz0, hz1, hz2⟩ := info_parts Tryd.infoStr
  go_enter Tryd.func9, Tryd.ntmps9
  go_wp2_with fail
  go_loopg [6, 7, 8] n (fun g s6 s7 s8 wr => ∃ (i : Nat) (cur : List UInt8) (out : List (List UInt8)), i + g = n ∧ s8 = .int .i64 i ∧ Texts wr w.heap.size s6 out ∧ s7 = .string ⟨(cur.take 6001).toArray⟩ ∧ out.length ≤ i ∧ cutA kept come = (out ++ (cutA cur (come.drop i)).1, (cutA cur (come.drop i)).2) ∧ Below w.heap.size w wr)
  case atStart => exact ⟨0, kept, [], by omega, rfl, texts_nil _ _, by rw [List.take_of_length_le HN.out.2, HB.out.1], by simp, by rw [List.drop_zero]; rfl, Below.refl _ _⟩
  case round =>
    obtain ⟨i, cur, out, hi', rfl, ht, rfl, hol, hcut, hb⟩ := hrel
    have HI : Hid (i + gk = n ∧ out.length ≤ i) := ⟨hi', hol⟩
    have HCUT : Hid (cutA kept come = (out ++ (cutA cur (come.drop i)).1, (cutA cur (come.drop i)).2)) := hcut
    have hin : i ≤ n := by omega
    obtain ⟨LB, hLB⟩ : ∃ B, B = (⟨(cur.take 6001).toArray⟩ : ByteArray) := ⟨_, rfl⟩
    have hlz : LB.size = min 6001 cur.length := by rw [hLB, ba_size, List.length_take]
    have hlz2 : LB.size ≤ 6001 := by omega
    have HLB : Hid (LB = ⟨(cur.take 6001).toArray⟩ ∧ LB.size = min 6001 cur.length) := ⟨hLB, hlz⟩
    rw [← hLB]
    clear hLB hcut hol
    by_cases hlt : i < n
    · have hlt2 : (i : Int) < (n : Int) := by omega
      have h0 : (0 : Int) ≤ (i : Int) := by omega
      have hw1 : IntKind.i64.wrap ((i : Int) + 1) = ((i + 1 : Nat) : Int) := by rw [IntKind.wrap_i64]; omega
      have hx1 : (i : Int) ≤ ((i + 1 : Nat) : Int) := by omega
      have hx2 : ((i + 1 : Nat) : Int) ≤ (n : Int) := by omega
      have g0 := HGET.out i
      have HDB : Hid (come.drop i = come.getD i 0 :: come.drop (i + 1)) := drop_byte come i (by rw [← HN.out.1]; exact hlt)
      have HLT : Hid (i < n) := hlt
      obtain ⟨b, hbb⟩ : ∃ b, b = come.getD i 0 := ⟨_, rfl⟩
      rw [← hbb] at g0 HDB
      have hxe : CB.extract i (i + 1) = ⟨[b].toArray⟩ := by
        have h2 := HDB.out
        rw [HB.out.2, ba_mid, h2]
        rfl
      obtain ⟨c, hcc⟩ : ∃ c, c = b.toNat := ⟨_, rfl⟩
      rw [← hcc] at g0
      have HC : Hid (c = b.toNat) := hcc
      have hc256 : c < 256 := by rw [hcc]; exact UInt8.toNat_lt _
      by_cases h10 : c = 10
      · have hq : ((c : Int) == 10) = true := by rw [beq_iff_eq]; omega
        have hb10 : b = 10 := by rw [← UInt8.toNat_inj, ← hcc, h10]; rfl
        have HC10 : Hid (cutA cur (come.drop i) = (toldL cur :: (cutA [] (come.drop (i + 1))).1, (cutA [] (come.drop (i + 1))).2)) := by
          show _ = _
          rw [HDB.out, hb10, cutA_end]
        clear hcc hbb h10 hb10 hxe hlt hi'
        by_cases hl : 6000 < cur.length
        · have hl2 : (6000 : Int) < (LB.size : Int) := by omega
          obtain ⟨TB, hTB⟩ : ∃ T, T = (⟨#[0]⟩ : ByteArray) := ⟨_, rfl⟩
          have HTB : Hid (TB = ⟨(toldL cur).toArray⟩) := by show TB = _; rw [toldL, if_pos hl, hTB]
          clear hl hlz
          subst hTB
          go_wp2_with (at_builtin; refine wpList_append_own _ rfl _ _ 22 rfl w.heap.size 9 i0 (.string ByteArray.empty) 1 16 Tryd.underlying22 hi hz0 hz1 hz2 rfl (by decide) _ _ _ rfl (World.ownsRow.alloc ht _) ⟨wr.heap.size, 0, none⟩ 1 1 [.string ⟨#[0]⟩] rfl rfl ?k1 ?k2 ?k3 ?k4 ?k5 ?_)
          case k1 =>
            intro j u hj
            match j, hj with
            | 0, hj => simp at hj; subst hj; simp [Addr.add]
          case k2 => intro u hu; simp at hu; subst hu; rfl
          case k3 => unfold maxLen; have := HI.out; omega
          case k4 => have := HI.out; omega
          case k5 => have := hb.size; simp; omega
          intro v' w4 hown' hgrow _
          have hb4 : Below w.heap.size w w4 := (hb.alloc hb.size _).trans (grownBy_below hgrow (World.ownsRow.alloc ht _) (by have := hb.size; simp; omega))
          clear hgrow
          go_wp2_with fail
          go_roundg (gk - 1)
          case measure => have := HI.out; have := HLT.out; omega
          case rel =>
            obtain ⟨h1, h2⟩ := HI.out
            have h5 := HLT.out
            refine ⟨i + 1, [], out ++ [toldL cur], by omega, by go_num, ?_, rfl, by rw [List.length_append, List.length_singleton]; omega, ?_, hb4⟩
            · rw [Texts, List.length_append, List.map_append, List.map_cons, ← HTB.out]
              exact hown'
            · rw [HCUT.out, HC10.out]
              simp
        · have hl2 : ¬ (6000 : Int) < (LB.size : Int) := by omega
          obtain ⟨TB, hTB⟩ : ∃ T, T = LB := ⟨_, rfl⟩
          have HTB : Hid (LB = ⟨(toldL cur).toArray⟩) := by show LB = _; rw [toldL, if_neg hl, HLB.out.1, List.take_of_length_le (by omega)]
          clear hl hlz hTB
          go_wp2_with (at_builtin; refine wpList_append_own _ rfl _ _ 22 rfl w.heap.size 9 i0 (.string ByteArray.empty) 1 16 Tryd.underlying22 hi hz0 hz1 hz2 rfl (by decide) _ _ _ rfl (World.ownsRow.alloc ht _) ⟨wr.heap.size, 0, none⟩ 1 1 [.string LB] rfl rfl ?k1 ?k2 ?k3 ?k4 ?k5 ?_)
          case k2 => rfl
          case k3 => unfold maxLen; have := HI.out; omega
          case k4 => have := HI.out; omega
          case k5 => have := hb.size; simp; omega
          intro v' w4 hown' hgrow _
          have hb4 : Below w.heap.size w w4 := (hb.alloc hb.size _).trans (grownBy_below hgrow (World.ownsRow.alloc ht _) (by have := hb.size; simp; omega))
          clear hgrow
          go_wp2_with fail
          go_roundg (gk - 1)
          case measure => have := HI.out; have := HLT.out; omega
          case rel =>
            obtain ⟨h1, h2⟩ := HI.out
            have h5 := HLT.out
            refine ⟨i + 1, [], out ++ [toldL cur], by omega, by go_num, ?_, rfl, by rw [List.length_append, List.length_singleton]; omega, ?_, hb4⟩
            · rw [Texts, List.length_append, List.map_append, List.map_cons, ← HTB.out]
              exact hown'
            · rw [HCUT.out, HC10.out]
              simp
      · have hq : ((c : Int) == 10) = false := by rw [beq_eq_false_iff_ne]; omega
        have hb10 : b ≠ 10 := fun e => h10 (by rw [hcc, e]; rfl)
        have HC10 : Hid (cutA cur (come.drop i) = cutA (cur ++ [b]) (come.drop (i + 1))) := by
          show _ = _
          rw [HDB.out, cutA_byte cur hb10]
        clear hcc hbb h10 hb10 hlt hi'
        by_cases hl : cur.length ≤ 6000
        · have hl2 : (LB.size : Int) ≤ 6000 := by omega
          have HNB : Hid (LB ++ CB.extract i (i + 1) = ⟨((cur ++ [b]).take 6001).toArray⟩) := by
            show _ = _
            rw [HLB.out.1, hxe, ba_app, List.take_of_length_le (by omega), List.take_of_length_le (by rw [List.length_append, List.length_singleton]; omega)]
          have hxz : (CB.extract i (i + 1)).size ≤ 1 := by rw [hxe, ba_size]; simp
          clear hl hlz hxe
          go_wp2_with fail
          go_roundg (gk - 1)
          case measure => have := HI.out; have := HLT.out; omega
          case rel =>
            obtain ⟨h1, h2⟩ := HI.out
            have h5 := HLT.out
            exact ⟨i + 1, cur ++ [b], out, by omega, by go_num, ht, by rw [HNB.out], by omega, by rw [HCUT.out, HC10.out], hb⟩
        · have hl2 : ¬ (LB.size : Int) ≤ 6000 := by omega
          have HNB : Hid (LB = ⟨((cur ++ [b]).take 6001).toArray⟩) := by
            show _ = _
            rw [HLB.out.1, List.take_append_of_le_length (by omega)]
          clear hl hlz hxe
          go_wp2_with fail
          go_roundg (gk - 1)
          case measure => have := HI.out; have := HLT.out; omega
          case rel =>
            obtain ⟨h1, h2⟩ := HI.out
            have h5 := HLT.out
            exact ⟨i + 1, cur ++ [b], out, by omega, by go_num, ht, by rw [← HNB.out], by omega, by rw [HCUT.out, HC10.out], hb⟩
    · have hlt2 : ¬ (i : Int) < (n : Int) := by omega
      have HE : Hid (cutA kept come = (out, cur.take 6001)) := by
        show _ = _
        rw [HCUT.out, List.drop_of_length_le (by rw [← HN.out.1]; omega), cutA_nil]
        simp
      go_wp2_with fail
      go_ret2
      refine ⟨hb, u6, ?_, ?_⟩
      · rw [HE.out, HLB.out.1]; rfl
      · rw [HE.out]; exact ht
end Go.Proofs.YtjblaomjadpbfaaDoor
