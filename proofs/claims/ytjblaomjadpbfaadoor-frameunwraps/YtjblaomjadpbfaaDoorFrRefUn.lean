/- The document's UnwrapTexts. -/
import Derived.Test.YtjblaomjadpbfaaDoorFrUnwrap
import Derived.Test.YtjblaomjadpbfaaDoorFrRefWrap
namespace Go.Proofs.YtjblaomjadpbfaaDoor
open Go.RowKit
theorem joinW_mod : ∀ a : List (List UInt8), (joinW a).length % 128 = 0
  | [] => rfl
  | t :: r => by
    obtain ⟨k, h, _⟩ := wrapL_len t.length t (Nat.le_refl _)
    have := joinW_mod r
    simp only [joinW, List.length_append, h]
    omega
/-- the block that the document reads next, where the whole is texts' frames -/
theorem stU_block {ts out : List (List UInt8)} {text s : List UInt8} {i : Nat} (h : StU ts out text (s.drop i)) (hi : i < s.length) :
    (s.getD (i + 1) 0).toNat ≤ 126 ∧ (s.getD i 0).toNat ≤ 1 ∧ ((s.getD i 0).toNat = 0 → StU ts (out ++ [text ++ (s.drop (i + 2)).take (s.getD (i + 1) 0).toNat]) [] (s.drop (i + 128))) ∧ ((s.getD i 0).toNat = 1 → StU ts out (text ++ (s.drop (i + 2)).take (s.getD (i + 1) 0).toNat) (s.drop (i + 128))) := by
  have hne : s.drop i ≠ [] := fun e => by
    have := congrArg List.length e
    rw [List.length_drop] at this
    simp at this
    omega
  obtain ⟨m, p, r, h1, h2, h3⟩ := stU_step h hne
  have e0 : s.getD i 0 = m := by
    have := congrArg (fun l => l[0]?) h1
    simp only [List.getElem?_drop, frame_byte0, Nat.add_zero] at this
    rw [List.getD_eq_getElem?_getD, this]; rfl
  have e1 : (s.getD (i + 1) 0).toNat = p.length := by
    have := congrArg (fun l => l[1]?) h1
    simp only [List.getElem?_drop, frame_byte1] at this
    rw [List.getD_eq_getElem?_getD, this]
    exact ofNat_len h2
  have e2 : (s.drop (i + 2)).take p.length = p := by
    rw [← List.drop_drop, h1, frame_part]
  have e3 : s.drop (i + 128) = r := by
    rw [← List.drop_drop, h1, frame_drop m p r h2]
  rw [e0, e1, e2, e3]
  refine ⟨h2, ?_, fun hm => ?_, fun hm => ?_⟩
  · rcases h3 with ⟨rfl, _⟩ | ⟨rfl, _⟩ <;> decide
  · rcases h3 with ⟨_, h⟩ | ⟨rfl, _⟩
    · exact h
    · exact absurd hm (by decide)
  · rcases h3 with ⟨rfl, _⟩ | ⟨_, h⟩
    · exact absurd hm (by decide)
    · exact h

set_option maxRecDepth 20000 in
set_option maxHeartbeats 2000000 in
theorem refUnwrap_any (s : List UInt8) (w : World) (hs : s.length ≤ 140737488351232) :
    Calls Tryd.prog 12 #[.string ⟨s.toArray⟩] w (UnwrapOut s w) := by
  obtain ⟨SB, hS⟩ : ∃ S, S = (⟨s.toArray⟩ : ByteArray) := ⟨_, rfl⟩
  rw [← hS]
  have hsz : SB.size = s.length := by rw [hS]; exact ba_size s
  have HSS : Hid (SB = ⟨s.toArray⟩ ∧ s.length ≤ 140737488351232) := ⟨hS, hs⟩
  have HGET : Hid (∀ (j : Nat) h, (SB[j]'h).toNat = (s.getD j 0).toNat) := fun j h => by
    subst hS
    have : j < s.length := by rw [← ba_size s]; exact h
    rw [List.getD_eq_getElem?_getD, List.getElem?_eq_getElem this]; rfl
  clear hS
  obtain ⟨n, hn⟩ : ∃ n, n = s.length := ⟨_, rfl⟩
  rw [← hn] at hsz hs
  have HN : Hid (n = s.length) := hn
  clear hn
  obtain ⟨i0, hi, hz0, hz1, hz2⟩ := info_parts Tryd.infoStr
  by_cases hm : n % 128 = 0
  rotate_left
  · have hmod : ((n : Int) % 128 != 0) = true := by simp only [bne_iff_ne]; omega
    have HNO : Hid (∀ ts, s ≠ joinW ts) := fun ts e => hm (by rw [HN.out, e]; exact joinW_mod ts)
    clear hm
    go_enter Tryd.func12, Tryd.ntmps12
    go_wp2_with fail
    go_ret2
    exact ⟨Below.refl _ _, Or.inr ⟨HNO.out, rfl⟩⟩
  have HMOD : Hid (n % 128 = 0) := hm
  have hmod : ((n : Int) % 128 != 0) = false := by rw [bne_eq_false_iff_eq]; omega
  clear hm
  have hrw := fun t W h => refWrap_any t W h
  go_enter Tryd.func12, Tryd.ntmps12
  go_wp2_with fail
  go_loopg [4, 5, 6, 7] (n / 128) (fun g s4 s5 s6 s7 wr => ∃ (i : Nat) (out : List (List UInt8)) (text again : List UInt8), i + 128 * g = n ∧ s7 = .int .i64 i ∧ Texts wr w.heap.size s4 out ∧ s5 = .string ⟨text.toArray⟩ ∧ s6 = .string ⟨again.toArray⟩ ∧ again = joinW out ∧ text.length ≤ i ∧ 128 * out.length ≤ i ∧ again.length + 2 * text.length ≤ 3 * i ∧ (∀ ts, s = joinW ts → StU ts out text (s.drop i)) ∧ Below w.heap.size w wr)
  case atStart => exact ⟨0, [], [], [], by have := HMOD.out; omega, rfl, texts_nil _ _, rfl, rfl, rfl, by simp, by simp, by simp, fun ts e => by rw [List.drop_zero, e]; exact stU_start ts, Below.refl _ _⟩
  case round =>
    obtain ⟨i, out, text, again, hi', rfl, ht, rfl, rfl, hag, htl, hol, hal, hst, hb⟩ := hrel
    have HI : Hid (i + 128 * gk = n ∧ 128 * out.length ≤ i ∧ text.length ≤ i ∧ again.length + 2 * text.length ≤ 3 * i) := ⟨hi', hol, htl, hal⟩
    have HST : Hid (again = joinW out ∧ ∀ ts, s = joinW ts → StU ts out text (s.drop i)) := ⟨hag, hst⟩
    have hin : i ≤ n := by omega
    obtain ⟨TB, hTB⟩ : ∃ T, T = (⟨text.toArray⟩ : ByteArray) := ⟨_, rfl⟩
    obtain ⟨AB, hAB⟩ : ∃ A, A = (⟨again.toArray⟩ : ByteArray) := ⟨_, rfl⟩
    rw [← hTB, ← hAB]
    have HTB : Hid (TB = ⟨text.toArray⟩ ∧ AB = ⟨again.toArray⟩) := ⟨hTB, hAB⟩
    have htbs : TB.size ≤ 140737488351232 := by rw [hTB, ba_size]; omega
    have habs : AB.size ≤ 562949953404928 := by rw [hAB, ba_size]; omega
    clear hTB hAB hag hst htl hol hal
    by_cases hlt : i < n
    · have hlt2 : (i : Int) < (n : Int) := by omega
      have hle : i + 128 ≤ n := by omega
      have hw1 : IntKind.i64.wrap ((i : Int) + 1) = ((i + 1 : Nat) : Int) := by rw [IntKind.wrap_i64]; omega
      have hw2 : IntKind.i64.wrap ((i : Int) + 2) = ((i + 2 : Nat) : Int) := by rw [IntKind.wrap_i64]; omega
      have hx1 : ((i + 1 : Nat) : Int) < (n : Int) := by omega
      have g1 := HGET.out (i + 1)
      have g0 := HGET.out i
      have HBL : Hid (∀ ts, s = joinW ts → _) := fun ts e => stU_block (HST.out.2 ts e) (by rw [← HN.out]; exact hlt)
      obtain ⟨c1, hc1⟩ : ∃ c, c = (s.getD (i + 1) 0).toNat := ⟨_, rfl⟩
      obtain ⟨c0, hc0⟩ : ∃ c, c = (s.getD i 0).toNat := ⟨_, rfl⟩
      have hb1 : c1 < 256 := by rw [hc1]; exact UInt8.toNat_lt _
      have hb0 : c0 < 256 := by rw [hc0]; exact UInt8.toNat_lt _
      have HC : Hid (c1 = (s.getD (i + 1) 0).toNat ∧ c0 = (s.getD i 0).toNat) := ⟨hc1, hc0⟩
      rw [← hc1] at g1
      rw [← hc0] at g0
      clear hc1 hc0 hi' hlt
      by_cases hbad : 126 < c1 ∨ 1 < c0
      · have HNO : Hid (∀ ts, s ≠ joinW ts) := fun ts e => by
          have h := HBL.out ts e
          rw [← HC.out.1, ← HC.out.2] at h
          omega
        by_cases hb126 : 126 < c1
        · have hq : (126 : Int) < (c1 : Int) := by omega
          clear hbad
          go_wp2_with fail
          go_ret2
          exact ⟨hb, Or.inr ⟨HNO.out, rfl⟩⟩
        · have hq : ¬ (126 : Int) < (c1 : Int) := by omega
          have hq2 : (1 : Int) < (c0 : Int) := by omega
          clear hbad
          go_wp2_with fail
          go_ret2
          exact ⟨hb, Or.inr ⟨HNO.out, rfl⟩⟩
      · have hq : ¬ (126 : Int) < (c1 : Int) := by omega
        have hq2 : ¬ (1 : Int) < (c0 : Int) := by omega
        have hw3 : IntKind.i64.wrap (((i + 2 : Nat) : Int) + (c1 : Int)) = ((i + 2 + c1 : Nat) : Int) := by rw [IntKind.wrap_i64]; omega
        have hw4 : IntKind.i64.wrap ((i : Int) + 128) = ((i + 128 : Nat) : Int) := by rw [IntKind.wrap_i64]; omega
        have hx2 : ((i + 2 : Nat) : Int) ≤ ((i + 2 + c1 : Nat) : Int) := by omega
        have hx3 : ((i + 2 + c1 : Nat) : Int) ≤ (n : Int) := by omega
        obtain ⟨nt, hnt⟩ : ∃ nt, nt = text ++ (s.drop (i + 2)).take c1 := ⟨_, rfl⟩
        have hntl : nt.length = text.length + c1 := by
          rw [hnt, List.length_append, List.length_take, List.length_drop, ← HN.out]
          omega
        obtain ⟨NB, hNB⟩ : ∃ N, N = (⟨nt.toArray⟩ : ByteArray) := ⟨_, rfl⟩
        have hcat : TB ++ SB.extract (i + 2) (i + 2 + c1) = NB := by
          rw [HTB.out.1, HSS.out.1, ba_mid, ba_app, hNB, hnt]
        have hxs : (SB.extract (i + 2) (i + 2 + c1)).size ≤ 126 := by
          rw [HSS.out.1, ba_mid, ba_size, List.length_take]
          omega
        have HNB : Hid (NB = ⟨nt.toArray⟩ ∧ nt = text ++ (s.drop (i + 2)).take c1 ∧ nt.length = text.length + c1) := ⟨hNB, hnt, hntl⟩
        have HK : Hid (c1 ≤ 126 ∧ c0 ≤ 1 ∧ i + 128 ≤ n) := ⟨by omega, by omega, hle⟩
        have hi4 : i ≤ 140737488351232 := by omega
        have hc4 : c1 ≤ 126 := by omega
        have hrn := fun W => hrw nt W (by have := HI.out; omega)
        rw [← hNB] at hrn
        clear hbad hntl hnt hNB hle hin
        by_cases hc00 : c0 = 0
        · have HC0 : Hid (c0 = 0) := hc00
          have hq3 : ((c0 : Int) == 0) = true := by rw [beq_iff_eq]; omega
          clear hc00
          go_wp2_with (at_builtin; refine wpList_append_own _ rfl _ _ 22 rfl w.heap.size 9 i0 (.string ByteArray.empty) 1 16 Tryd.underlying22 hi hz0 hz1 hz2 rfl (by decide) _ _ _ rfl (World.ownsRow.alloc ht _) ⟨wr.heap.size, 0, none⟩ 1 1 [.string NB] rfl rfl ?k1 ?k2 ?k3 ?k4 ?k5 ?_)
          case k2 => rfl
          case k3 => unfold maxLen; have := HI.out; omega
          case k4 => have := HI.out; omega
          case k5 => have := hb.size; simp; omega
          intro v' w4 hown' hgrow _
          have hb4 : Below w.heap.size w w4 := (hb.alloc hb.size _).trans (grownBy_below hgrow (World.ownsRow.alloc ht _) (by have := hb.size; simp; omega))
          clear hgrow
          go_wp2_with fail
          refine (hrn _).mono ?_
          rintro e w5 ⟨rfl, hz5⟩
          obtain ⟨WB, hWB⟩ : ∃ W, W = (⟨(wrapL nt).toArray⟩ : ByteArray) := ⟨_, rfl⟩
          have HWB : Hid (AB ++ WB = ⟨(again ++ wrapL nt).toArray⟩) := by show _ = _; rw [HTB.out.2, hWB, ba_app]
          have hwbs : WB.size ≤ 281474976710656 := by
            rw [hWB, ba_size]
            have := wrapL_bound nt
            have := HI.out
            have := HNB.out
            omega
          rw [← hWB]
          clear hrn hWB
          have hb5 : Below w.heap.size w w5 := hb4.trans (hz5.mono hb4.size)
          have HOWN : Hid (Texts w5 w.heap.size v' (out ++ [nt])) := by
            have h : Texts w4 w.heap.size v' (out ++ [nt]) := by
              rw [Texts, List.length_append, List.map_append, List.map_cons, ← HNB.out.1]
              exact hown'
            exact h.below hz5
          clear hown' hz5
          go_wp2_with fail
          go_roundg (gk - 1)
          case measure => have := HI.out; have := HK.out; omega
          case rel =>
            obtain ⟨h1, h2, h3, h4⟩ := HI.out
            obtain ⟨h5, h6, h7⟩ := HNB.out
            obtain ⟨k1, k2, k3⟩ := HK.out
            have hwb := wrapL_bound nt
            refine ⟨i + 128, out ++ [nt], [], again ++ wrapL nt, by omega, by go_num, HOWN.out, rfl, by rw [HWB.out], ?_, by simp, ?_, ?_, fun ts e => ?_, hb5⟩
            · rw [joinW_append, joinW_one, HST.out.1]
            · rw [List.length_append, List.length_singleton]; omega
            · rw [List.length_append, List.length_nil]; omega
            · have h := (HBL.out ts e).2.2.1 (by rw [← HC.out.2]; exact HC0.out)
              rw [← HC.out.1, ← h6] at h
              exact h
        · have HC0 : Hid (c0 = 1) := by have := HK.out; show c0 = 1; omega
          have hq3 : ((c0 : Int) == 0) = false := by rw [beq_eq_false_iff_ne]; omega
          clear hc00 hrn
          go_wp2_with fail
          go_roundg (gk - 1)
          case measure => have := HI.out; have := HK.out; omega
          case rel =>
            obtain ⟨h1, h2, h3, h4⟩ := HI.out
            obtain ⟨h5, h6, h7⟩ := HNB.out
            obtain ⟨k1, k2, k3⟩ := HK.out
            refine ⟨i + 128, out, nt, again, by omega, by go_num, ht, by rw [h5], by rw [HTB.out.2], HST.out.1, by omega, by omega, by omega, fun ts e => ?_, hb⟩
            have h := (HBL.out ts e).2.2.2 (by rw [← HC.out.2]; exact HC0.out)
            rw [← HC.out.1, ← h6] at h
            exact h
    · have hlt2 : ¬ (i : Int) < (n : Int) := by omega
      have HD : Hid (s.drop i = []) := List.drop_of_length_le (by rw [← HN.out]; omega)
      by_cases he : again = s
      · have HE : Hid (s = joinW out) := by show s = joinW out; rw [← he]; exact HST.out.1
        have hab : AB = SB := by rw [HTB.out.2, HSS.out.1, he]
        subst hab
        clear he hlt hi'
        go_wp2_with fail
        go_ret2
        exact ⟨hb, Or.inl ⟨_, out, HE.out, ht, rfl⟩⟩
      · have HNO : Hid (∀ ts, s ≠ joinW ts) := fun ts e => by
          have h := HST.out.2 ts e
          rw [HD.out] at h
          rw [stU_end h] at e
          exact he (by rw [HST.out.1, ← e])
        have hne : (AB.toList == SB.toList) = false := by
          rw [beq_eq_false_iff_ne, Lib.toList_data, Lib.toList_data, HTB.out.2, HSS.out.1]
          exact he
        clear he hlt hi'
        go_wp2_with fail
        go_ret2
        exact ⟨hb, Or.inr ⟨HNO.out, rfl⟩⟩
end Go.Proofs.YtjblaomjadpbfaaDoor
