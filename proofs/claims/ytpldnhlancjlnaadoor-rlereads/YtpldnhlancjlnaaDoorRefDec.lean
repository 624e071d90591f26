/- The document's DecodeCells. -/
import Derived.Test.YtpldnhlancjlnaaDoorHeadOf
import Derived.Test.YtpldnhlancjlnaaDoorNlPure
import Derived.Test.YtpldnhlancjlnaaDoorReadsLaw
import Derived.Deep.CutBlock
import Derived.Test.YtpldnhlancjlnaaDoorDecState
import Derived.Test.YtpldnhlancjlnaaDoorDecTurn
namespace Go.Proofs.YtpldnhlancjlnaaDoor
open Go.Shelf Go.RowKit

theorem ne_byte {c d : UInt8} (h : c ≠ d) : c.toNat ≠ d.toNat := fun e => h (UInt8.toNat_inj.1 e)
theorem not_blank {c : UInt8} (h : blks.contains c = false) : c.toNat ≠ 32 ∧ c.toNat ≠ 9 ∧ c.toNat ≠ 10 ∧ c.toNat ≠ 13 := by
  simp [blks] at h
  exact ⟨ne_byte h.1, ne_byte h.2.1, ne_byte h.2.2.1, ne_byte h.2.2.2⟩

set_option maxRecDepth 100000 in
set_option maxHeartbeats 20000000 in
theorem refDecode_short (T : List UInt8) (w : World) (hT : T.length ≤ 20000) : Calls Tryd.prog 11 #[.string ⟨T.toArray⟩] w (DecOut T w) := by
  have hz : (⟨T.toArray⟩ : ByteArray).size = T.length := by show T.toArray.size = _; rw [List.size_toArray]
  have HGET : Hid (∀ (j : Nat) (hj : j < T.length), ∀ h, ((⟨T.toArray⟩ : ByteArray)[j]'h).toNat = (T[j]!).toNat) := fun j hj h => by
    rw [getElem!_pos T j hj]; rfl
  obtain ⟨n, hn⟩ : ∃ n, n = T.length := ⟨_, rfl⟩
  have HN : Hid (n = T.length) := hn
  have HSL : Hid (∀ p k, (⟨T.toArray⟩ : ByteArray).extract p (p + k) = ⟨((T.drop p).take k).toArray⟩) := fun p k => slice_list T p k
  have HPL : Hid (∀ p W, p ≤ n → Calls Tryd.prog 31 #[.string ⟨T.toArray⟩, .int .i64 p] W fun e w' => e = .returned (.tuple #[.int .i64 (plainF (T.drop p) p).1, .int .i64 (plainF (T.drop p) p).2]) ∧ Below W.heap.size W w') := fun p W hp => plain_any T p W hT (by omega)
  rw [← hn] at hT hz HGET
  have hnb : ¬ (20000 : Int) < (n : Int) := by omega
  clear hn
  generalize hS : (⟨T.toArray⟩ : ByteArray) = S at *
  clear hS
  go_enter Tryd.func11, Tryd.ntmps11
  go_upto_block 0 with fail
  go_cut [5] from 21 to 48 (fun s5 wc => (∃ k : Nat, k ≤ n ∧ s5 = .int .i64 k ∧ skipF T.length T = T.drop k) ∧ wc = w.alloc (.cells #[.int .i64 0, .int .i64 0] 24))
  case first =>
    go_wp2_with fail
    go_loopg [5] n (fun g s5 wr => ∃ k f : Nat, k ≤ n ∧ n - k ≤ g ∧ s5 = .int .i64 k ∧ skipF T.length T = skipF f (T.drop k) ∧ (T.drop k).length ≤ f ∧ wr = w.alloc (.cells #[.int .i64 0, .int .i64 0] 24))
    case atStart => exact ⟨0, T.length, by omega, by omega, rfl, by simp, by simp, rfl⟩
    case round =>
      obtain ⟨k, f, hk, hg, rfl, hsk, hf, rfl⟩ := hrel
      obtain ⟨gK, hgK⟩ : ∃ x, x = gk := ⟨_, rfl⟩
      subst hgK
      have HG : Hid (n - k ≤ gK) := hg
      have HSK : Hid (skipF T.length T = skipF f (T.drop k)) := hsk
      have HF : Hid ((T.drop k).length ≤ f) := hf
      clear hg hsk hf
      by_cases hlt : k < n
      · have gk0 := HGET.out k hlt
        have hi1 : (0 : Int) ≤ (k : Int) := by omega
        have hi2 : (k : Int) < (n : Int) := by omega
        have h35 : (T[k]! = 35) ↔ (T[k]!).toNat = 35 := ⟨fun h => by rw [h]; rfl, fun h => UInt8.toNat_inj.1 (by rw [h]; rfl)⟩
        by_cases hc : T[k]! = 35
        · have HON := skip_one T k f (by rw [← HN.out]; exact hlt) hc HF.out
          have hnl := nl_le (T.drop k)
          rw [List.length_drop, ← HN.out] at hnl
          rw [← HN.out] at HON
          obtain ⟨j, hj⟩ : ∃ j, j = k + nl (T.drop k) := ⟨_, rfl⟩
          rw [← hj] at HON
          have HJ : Hid (j = k + nl (T.drop k)) := hj
          have hjn : j ≤ n := by omega
          rw [h35.1 hc] at gk0
          have hkj : k < j ∨ True := Or.inr trivial
          have HO : Hid (∃ g, skipF f (T.drop k) = skipF g (T.drop (if j < n then j + 1 else n)) ∧ (T.drop (if j < n then j + 1 else n)).length ≤ g) := HON
          clear h35 hc HON hj hnl
          go_upto_block 2 with fail
          go_cut [5] from 21 to 48 (fun s5 wc => s5 = .int .i64 j ∧ wc = w.alloc (.cells #[.int .i64 0, .int .i64 0] 24))
          case first =>
            go_wp2_with fail
            go_loopg [5] (n - k) (fun g s5 wr => ∃ i : Nat, i + g = n - k ∧ s5 = .int .i64 ((k + i : Nat) : Int) ∧ j = k + i + nl (T.drop (k + i)) ∧ wr = w.alloc (.cells #[.int .i64 0, .int .i64 0] 24))
            case atStart => exact ⟨0, by omega, rfl, by simpa using HJ.out, rfl⟩
            case round =>
              obtain ⟨i, hi, rfl, hji, rfl⟩ := hrel
              obtain ⟨m, hm⟩ : ∃ m, m = k + i := ⟨_, rfl⟩
              rw [← hm] at hji ⊢
              have HI : Hid (i + gk = n - k ∧ m = k + i) := ⟨hi, hm⟩
              have HJI : Hid (j = m + nl (T.drop m)) := hji
              have hmn : m ≤ n := by omega
              clear hi hm hji
              by_cases hl2 : m < n
              · have gm := HGET.out m hl2
                have hj1 : (0 : Int) ≤ (m : Int) := by omega
                have hj2 : (m : Int) < (n : Int) := by omega
                have HD : Hid (T.drop m = T[m]! :: T.drop (m + 1)) := drop_cons T m (by rw [← HN.out]; exact hl2)
                have h10 : (T[m]! = 10) ↔ (T[m]!).toNat = 10 := ⟨fun h => by rw [h]; rfl, fun h => UInt8.toNat_inj.1 (by rw [h]; rfl)⟩
                by_cases hc : T[m]! = 10
                · have HX : Hid (j = m) := by
                    have h1 := HJI.out
                    rw [HD.out, nl, if_pos hc] at h1
                    exact h1
                  rw [h10.1 hc] at gm
                  clear h10 hc
                  go_wp2_with fail
                  go_meet
                  case rel => exact ⟨by rw [HX.out], rfl⟩
                · have HX : Hid (j = m + 1 + nl (T.drop (m + 1))) := by
                    have h1 := HJI.out
                    rw [HD.out, nl, if_neg hc] at h1
                    show _ = _
                    omega
                  have hcn : ¬ (T[m]!).toNat = 10 := fun h => hc (h10.2 h)
                  generalize (T[m]!).toNat = c at gm hcn
                  have hcb : ((c : Int) != 10) = true := by simp; omega
                  clear h10 hc hcn
                  go_wp2_with fail
                  go_roundg (gk - 1)
                  case measure => have := HI.out; omega
                  case rel =>
                    have h1 := HI.out
                    refine ⟨i + 1, by omega, ?_, ?_, rfl⟩
                    · rw [show k + (i + 1) = m + 1 by omega]; rfl
                    · rw [show k + (i + 1) = m + 1 by omega]; exact HX.out
              · have HX : Hid (j = m) := by
                  have h1 := HJI.out
                  rw [List.drop_of_length_le (by rw [← HN.out]; omega), nl] at h1
                  exact h1
                have hj2 : ¬ (m : Int) < (n : Int) := by omega
                clear hl2
                go_wp2_with fail
                go_meet
                case rel => exact ⟨by rw [HX.out], rfl⟩
          case rest =>
          obtain ⟨rfl, rfl⟩ := hcut
          by_cases hl3 : j < n
          · have hj2 : (j : Int) < (n : Int) := by omega
            have HKJ : Hid (k ≤ j) := by have := HJ.out; show _ ≤ _; omega
            go_wp2_with fail
            go_roundg (gK - 1)
            case measure => have := HG.out; omega
            case rel =>
              obtain ⟨g, h1, h2⟩ := HO.out
              rw [if_pos hl3] at h1 h2
              exact ⟨j + 1, g, by omega, by have := HG.out; have := HKJ.out; omega, by go_num, HSK.out.trans h1, h2, rfl⟩
          · have hj2 : ¬ (j : Int) < (n : Int) := by omega
            have hjn2 : j = n := by omega
            have HJN : Hid (j = n) := hjn2
            clear hjn2
            go_wp2_with fail
            go_roundg (gK - 1)
            case measure => have := HG.out; omega
            case rel =>
              obtain ⟨g, h1, h2⟩ := HO.out
              rw [if_neg hl3] at h1 h2
              exact ⟨n, g, by omega, by have := HG.out; omega, by rw [HJN.out], HSK.out.trans h1, h2, rfl⟩
        · have hcn : ¬ (T[k]!).toNat = 35 := fun h => hc (h35.2 h)
          have HX : Hid (skipF T.length T = T.drop k) := HSK.out.trans (skip_end T k f fun _ => hc)
          generalize (T[k]!).toNat = c at gk0 hcn
          have hcb : ((c : Int) == 35) = false := by simp; omega
          clear h35 hc hcn
          go_wp2_with fail
          go_meet
          case rel => exact ⟨⟨k, hk, rfl, HX.out⟩, rfl⟩
      · have HX : Hid (skipF T.length T = T.drop k) := HSK.out.trans (skip_end T k f fun h => absurd h (by rw [← HN.out]; exact hlt))
        have hi2 : ¬ (k : Int) < (n : Int) := by omega
        clear hlt
        go_wp2_with fail
        go_meet
        case rel => exact ⟨⟨k, hk, rfl, HX.out⟩, rfl⟩
  case rest =>
  obtain ⟨⟨k, hk, rfl, hsk⟩, rfl⟩ := hcut
  have hb0 : Below w.heap.size w (w.alloc (.cells #[.int .i64 0, .int .i64 0] 24)) := (Below.refl _ _).alloc (Nat.le_refl _) _
  have hA0 : (w.alloc (.cells #[.int .i64 0, .int .i64 0] 24)).heap[w.heap.size]? = some (.cells #[.int .i64 0, .int .i64 0] 24 (0, 0)) := heap_alloc_new w _
  have hnl := nl_le (T.drop k)
  rw [List.length_drop, ← HN.out] at hnl
  have HDEC : Hid (decF readF T = if (Lib.cut (T.drop k) [10]).2.2 = false ∨ (headF readF (Lib.cut (T.drop k) [10]).1).2.2 = false then ([], (0, 0), 2) else
      (let d := drawF (headF readF (Lib.cut (T.drop k) [10]).1).1.1 (headF readF (Lib.cut (T.drop k) [10]).1).1.2 ((Lib.cut (T.drop k) [10]).2.1.length + 1) 0 0 [] (Lib.cut (T.drop k) [10]).2.1
       if d.1 ≠ 0 then ([], (0, 0), d.1) else (d.2, (headF readF (Lib.cut (T.drop k) [10]).1).2.1, 0))) := by
    show _ = _
    unfold decF
    rw [if_neg (by rw [← HN.out]; omega), hsk]
  obtain ⟨j, hj⟩ : ∃ j, j = k + nl (T.drop k) := ⟨_, rfl⟩
  have HJ : Hid (j = k + nl (T.drop k)) := hj
  have hjn : j ≤ n := by omega
  have hkj : k ≤ j := by omega
  have HEX := HSL.out k (nl (T.drop k))
  rw [← hj] at HEX
  clear hsk hj hnl
  go_upto_block 4 with fail
  go_cut [6] from 50 to 61 (fun s6 wc => s6 = .int .i64 j ∧ wc = w.alloc (.cells #[.int .i64 0, .int .i64 0] 24))
  case first =>
    go_wp2_with fail
    go_loopg [6] (n - k) (fun g s6 wr => ∃ i : Nat, i + g = n - k ∧ s6 = .int .i64 ((k + i : Nat) : Int) ∧ j = k + i + nl (T.drop (k + i)) ∧ wr = w.alloc (.cells #[.int .i64 0, .int .i64 0] 24))
    case atStart => exact ⟨0, by omega, rfl, by simpa using HJ.out, rfl⟩
    case round =>
      obtain ⟨i, hi, rfl, hji, rfl⟩ := hrel
      obtain ⟨m, hm⟩ : ∃ m, m = k + i := ⟨_, rfl⟩
      rw [← hm] at hji ⊢
      have HI : Hid (i + gk = n - k ∧ m = k + i) := ⟨hi, hm⟩
      have HJI : Hid (j = m + nl (T.drop m)) := hji
      have hmn : m ≤ n := by omega
      clear hi hm hji
      by_cases hl2 : m < n
      · have gm := HGET.out m hl2
        have hj1 : (0 : Int) ≤ (m : Int) := by omega
        have hj2 : (m : Int) < (n : Int) := by omega
        have HD : Hid (T.drop m = T[m]! :: T.drop (m + 1)) := drop_cons T m (by rw [← HN.out]; exact hl2)
        have h10 : (T[m]! = 10) ↔ (T[m]!).toNat = 10 := ⟨fun h => by rw [h]; rfl, fun h => UInt8.toNat_inj.1 (by rw [h]; rfl)⟩
        by_cases hc : T[m]! = 10
        · have HX : Hid (j = m) := by
            have h1 := HJI.out
            rw [HD.out, nl, if_pos hc] at h1
            exact h1
          rw [h10.1 hc] at gm
          clear h10 hc
          go_wp2_with fail
          go_meet
          case rel => exact ⟨by rw [HX.out], rfl⟩
        · have HX : Hid (j = m + 1 + nl (T.drop (m + 1))) := by
            have h1 := HJI.out
            rw [HD.out, nl, if_neg hc] at h1
            show _ = _
            omega
          have hcn : ¬ (T[m]!).toNat = 10 := fun h => hc (h10.2 h)
          generalize (T[m]!).toNat = c at gm hcn
          have hcb : ((c : Int) != 10) = true := by simp; omega
          clear h10 hc hcn
          go_wp2_with fail
          go_roundg (gk - 1)
          case measure => have := HI.out; omega
          case rel =>
            have h1 := HI.out
            refine ⟨i + 1, by omega, ?_, ?_, rfl⟩
            · rw [show k + (i + 1) = m + 1 by omega]; rfl
            · rw [show k + (i + 1) = m + 1 by omega]; exact HX.out
      · have HX : Hid (j = m) := by
          have h1 := HJI.out
          rw [List.drop_of_length_le (by rw [← HN.out]; omega), nl] at h1
          exact h1
        have hj2 : ¬ (m : Int) < (n : Int) := by omega
        clear hl2
        go_wp2_with fail
        go_meet
        case rel => exact ⟨by rw [HX.out], rfl⟩
  case rest =>
  obtain ⟨rfl, rfl⟩ := hcut
  have hld : (T.drop k).length = n - k := by rw [List.length_drop, ← HN.out]
  by_cases hend : j < n
  · have hcut2 := nl_cut (T.drop k)
    rw [if_pos (by rw [hld]; have := HJ.out; omega)] at hcut2
    have HD1 := HDEC.out
    rw [hcut2] at HD1
    simp only at HD1
    rw [List.drop_drop, show k + (nl (T.drop k) + 1) = j + 1 by have := HJ.out; omega] at HD1
    obtain ⟨L, hL⟩ : ∃ L, L = (T.drop k).take (nl (T.drop k)) := ⟨_, rfl⟩
    have hLl : L.length ≤ 20000 := by rw [hL, List.length_take, hld]; omega
    rw [← hL] at HD1 HEX
    have hho := fun W => headOf_any L W hLl
    have HD2 : Hid (decF readF T = _) := HD1
    have hj2 : ¬ (n : Int) ≤ (j : Int) := by omega
    have hk0 : (0 : Int) ≤ (k : Int) := by omega
    have hkj2 : (k : Int) ≤ (j : Int) := by omega
    have hjn2 : (j : Int) ≤ (n : Int) := by omega
    clear hcut2 HDEC hL hld HD1
    go_wp2_with fail
    refine (hho _).mono ?_
    rintro e w2 ⟨W, H, b, l, rfl, hok, c2⟩
    have F2 : Below w.heap.size w w2 := hb0.trans (c2.mono hb0.size)
    have hA2 := (c2.block w.heap.size (by simp)).trans hA0
    have HHD : Hid ((headF readF L).2.2 = true → headF readF L = ((W, H), (b, l), true) ∧ 0 ≤ W ∧ W < 1000000000000 ∧ 0 ≤ H ∧ H < 1000000000000) := hok
    cases hokc : (headF readF L).2.2 with
    | false =>
      have HX : Hid (decF readF T = ([], (0, 0), 2)) := by
        have h1 := HD2.out
        rw [hokc] at h1
        show _ = _
        simpa using h1
      have hlt2 := (Array.getElem?_eq_some_iff.1 hA2).1
      have c0 : w2.cell? ⟨w.heap.size, 0, none⟩ = some (.int .i64 0) := by rw [Lib.cell_of_heap hA2]; rfl
      have c1 : w2.cell? ⟨w.heap.size, 1, none⟩ = some (.int .i64 0) := by rw [Lib.cell_of_heap hA2]; rfl
      have f0 := Lib.frozen_of_heap hA2 0
      have f1 := Lib.frozen_of_heap hA2 1
      clear hok hA0
      go_wp2_with fail
      refine bodyPost_ret (v := .tuple #[.slice none 0 0, .agg #[.int .i64 0, .int .i64 0], .int .i64 2]) ?_ rfl ⟨.slice none 0 0, ?_, ?_, ?_⟩
      · simp [results, Tryd.results11, go_sem, set0 hA2, set1 hA2, hlt2]
      · rw [HX.out]
      · rw [HX.out]; exact Or.inl ⟨rfl, rfl⟩
      · exact ((F2.setCell (p := ⟨w.heap.size, 0, none⟩) (Nat.le_refl _) _).setCell (p := ⟨w.heap.size, 1, none⟩) (Nat.le_refl _) _).alloc (by simpa [World.setCell] using F2.size) _
    | true =>
      obtain ⟨hhd, hW0, hW1, hH0, hH1⟩ := HHD.out hokc
      obtain ⟨Wn, rfl⟩ := Int.eq_ofNat_of_zero_le hW0
      obtain ⟨Hn, rfl⟩ := Int.eq_ofNat_of_zero_le hH0
      obtain ⟨dd, hdd⟩ : ∃ dd, dd = drawF (Wn : Int) (Hn : Int) ((T.drop (j + 1)).length + 1) 0 0 [] (T.drop (j + 1)) := ⟨_, rfl⟩
      have HX : Hid (decF readF T = if dd.1 ≠ 0 then ([], (0, 0), dd.1) else (dd.2, (b, l), 0)) := by
        have h1 := HD2.out
        rw [hhd] at h1
        show _ = _
        rw [hdd]
        simpa using h1
      have HDD : Hid (dd = drawF (Wn : Int) (Hn : Int) ((T.drop (j + 1)).length + 1) 0 0 [] (T.drop (j + 1))) := hdd
      have n1 : ∀ W, Calls Tryd.prog 29 #[.int .i64 0] W fun e w' => e = .returned (.pointer (some ⟨W.heap.size, 0, none⟩)) ∧ IsInt W.heap.size 0 w' ∧ Below W.heap.size W w' := fun W => newInt_any 0 W (by omega)
      have hWl : Wn < 1000000000000 := by omega
      have hHl : Hn < 1000000000000 := by omega
      clear hhd hdd HHD HD2 hok hokc hho HEX hW0 hW1 hH0 hH1
      go_wp2_with fail
      refine (n1 _).mono ?_
      rintro e w3 ⟨rfl, i3, c3⟩
      go_wp2_with fail
      refine (n1 _).mono ?_
      rintro e w4 ⟨rfl, i4, c4⟩
      have hs2 : (w2.alloc (.cells #[.int .i64 b, .int .i64 l] 24)).heap.size = w2.heap.size + 1 := by simp
      rw [hs2] at i3 c3
      have D4 := dec_start hA2 F2 i3 c3 i4 c4
      clear hs2
      have D4s := D4.ord
      go_wp2_with fail
      go_loopg [5, 11] n (fun g s5 s11 wr => ∃ (k f x y : Nat) (v : Value) (cs : List (Int × Int)), k ≤ n ∧ n - k ≤ g ∧ s5 = .int .i64 k ∧ s11 = v ∧ DS w w2.heap.size (w2.heap.size + 1) w3.heap.size w4.heap.size b l x y v cs wr ∧ dd = drawF (Wn : Int) (Hn : Int) f x y cs (T.drop k) ∧ (T.drop k).length + 1 ≤ f ∧ x ≤ k * 1000000000000 ∧ y ≤ k * 1000000000000 ∧ cs.length ≤ 4096 ∧ (cs = [] → v = .slice none 0 0))
      case atStart => exact ⟨j + 1, _, 0, 0, .slice none 0 0, [], by omega, by omega, by go_num, rfl, D4, HDD.out, Nat.le_refl _, by omega, by omega, by simp, fun _ => rfl⟩
      case round =>
        obtain ⟨k, f, x, y, v, cs, hk, hg, rfl, rfl, hDS, hdd, hf, hx, hy, hcs, hnil⟩ := hrel
        have HNIL : Hid (cs = [] → _) := hnil
        clear hnil
        have HG : Hid (n - k ≤ gk) := hg
        clear hg
        have hord := hDS.ord
        by_cases hlt : k < n
        · have hltT : k < T.length := by rw [← HN.out]; exact hlt
          have gk0 := HGET.out k hlt
          have hi1 : (0 : Int) ≤ (k : Int) := by omega
          have hi2 : (k : Int) < (n : Int) := by omega
          have hdig := digit_any (T[k]!).toNat wr
          cases hd : isDig T[k]! with
          | true =>
            have hdd2 : decide (48 ≤ (T[k]!).toNat ∧ (T[k]!).toNat ≤ 57) = true := hd
            rw [hdd2] at hdig
            have hpl := HPL.out k wr (by omega)
            rw [plain_is] at hpl
            by_cases hb : badN (T.drop k)
            · have HE : Hid (dd = (2, [])) := piece_bad hltT hf hdd hd (Or.inl hb)
              rw [if_pos hb] at hpl
              clear hdd hf hdd2 hb hd
              generalize (T[k]!).toNat = c at *
              go_wp2_with fail
              refine hdig.mono ?_
              rintro e w5 ⟨rfl, rfl⟩
              go_wp2_with fail
              refine hpl.mono ?_
              rintro e w6 ⟨rfl, c6⟩
              have q := hDS.go c6
              obtain ⟨⟨a0, a1, f0, f1⟩, r0, r1⟩ := q.cells
              go_wp2_with fail
              refine bodyPost_ret (v := .tuple #[.slice none 0 0, .agg #[.int .i64 0, .int .i64 0], .int .i64 2]) ?_ rfl ⟨.slice none 0 0, ?_, ?_, ?_⟩
              · simp [results, Tryd.results11, go_sem, set0 q.ha, set1 q.ha]
              · rw [HX.out, HE.out]; simp
              · rw [HX.out, HE.out]; exact Or.inl ⟨by simp, rfl⟩
              · exact (q.bel.setCell (p := ⟨w.heap.size, 0, none⟩) (Nat.le_refl _) _).setCell (p := ⟨w.heap.size, 1, none⟩) (Nat.le_refl _) _
            · rw [if_neg hb] at hpl
              have hmb := decV_small _ hb
              have hdp := dig_pos hltT hd
              have hdl := dgs_le (T.drop k)
              rw [List.length_drop, ← HN.out] at hdl
              obtain ⟨p, hp⟩ : ∃ p, p = k + dgs (T.drop k) := ⟨_, rfl⟩
              obtain ⟨m, hm⟩ : ∃ m, m = decV ((T.drop k).take (dgs (T.drop k))) := ⟨_, rfl⟩
              rw [← hp, ← hm] at hpl
              rw [← hm] at hmb
              have hp0 : ¬ (p : Int) < 0 := by omega
              have HB : Hid (k ≤ p ∧ x ≤ k * 1000000000000 ∧ y ≤ k * 1000000000000 ∧ m < 1000000000000) := ⟨by omega, hx, hy, hmb⟩
              by_cases hm0 : m = 0
              · have HE : Hid (dd = (2, [])) := piece_bad hltT hf hdd hd (Or.inr (Or.inl (by rw [← hm]; exact hm0)))
                have hmi : ((m : Int) == 0) = true := by simp; omega
                clear hdd hf hdd2 hb hd hp hm hm0 hdp hdl
                generalize (T[k]!).toNat = c at *
                go_wp2_with fail
                refine hdig.mono ?_
                rintro e w5 ⟨rfl, rfl⟩
                go_wp2_with fail
                refine hpl.mono ?_
                rintro e w6 ⟨rfl, c6⟩
                have q := hDS.go c6
                obtain ⟨⟨a0, a1, f0, f1⟩, r0, r1⟩ := q.cells
                go_wp2_with fail
                refine bodyPost_ret (v := .tuple #[.slice none 0 0, .agg #[.int .i64 0, .int .i64 0], .int .i64 2]) ?_ rfl ⟨.slice none 0 0, ?_, ?_, ?_⟩
                · simp [results, Tryd.results11, go_sem, set0 q.ha, set1 q.ha]
                · rw [HX.out, HE.out]; simp
                · rw [HX.out, HE.out]; exact Or.inl ⟨by simp, rfl⟩
                · exact (q.bel.setCell (p := ⟨w.heap.size, 0, none⟩) (Nat.le_refl _) _).setCell (p := ⟨w.heap.size, 1, none⟩) (Nat.le_refl _) _
              · have hmi : ((m : Int) == 0) = false := by simp; omega
                by_cases hpn : n ≤ p
                · have HE : Hid (dd = (2, [])) := piece_bad hltT hf hdd hd (Or.inr (Or.inr (by rw [← hp, ← HN.out]; exact hpn)))
                  have hpi : (n : Int) ≤ (p : Int) := by omega
                  clear hdd hf hdd2 hb hd hp hm hm0 hdp hdl
                  generalize (T[k]!).toNat = c at *
                  go_wp2_with fail
                  refine hdig.mono ?_
                  rintro e w5 ⟨rfl, rfl⟩
                  go_wp2_with fail
                  refine hpl.mono ?_
                  rintro e w6 ⟨rfl, c6⟩
                  have q := hDS.go c6
                  obtain ⟨⟨a0, a1, f0, f1⟩, r0, r1⟩ := q.cells
                  go_wp2_with fail
                  refine bodyPost_ret (v := .tuple #[.slice none 0 0, .agg #[.int .i64 0, .int .i64 0], .int .i64 2]) ?_ rfl ⟨.slice none 0 0, ?_, ?_, ?_⟩
                  · simp [results, Tryd.results11, go_sem, set0 q.ha, set1 q.ha]
                  · rw [HX.out, HE.out]; simp
                  · rw [HX.out, HE.out]; exact Or.inl ⟨by simp, rfl⟩
                  · exact (q.bel.setCell (p := ⟨w.heap.size, 0, none⟩) (Nat.le_refl _) _).setCell (p := ⟨w.heap.size, 1, none⟩) (Nat.le_refl _) _
                · have hpi : ¬ (n : Int) ≤ (p : Int) := by omega
                  have hpn' : p < n := by omega
                  have HT := piece_many hltT hf hdd hd hb (by rw [← hm]; exact hm0) hp (by rw [← HN.out]; exact hpn')
                  rw [← hm] at HT
                  have gp := HGET.out p hpn'
                  clear hdd hf hdd2 hb hd hp hm hdp hdl
                  generalize (T[k]!).toNat = c0 at *
                  by_cases hlet : T[p]! = 36 ∨ T[p]! = 98 ∨ T[p]! = 111
                  · have HLET : Hid (T[p]! = 36 ∨ T[p]! = 98 ∨ T[p]! = 111) := hlet
                    clear hlet
                    obtain ⟨f', hf', hdd'⟩ := HT
                    have hxm : x + m ≤ (p + 1) * 1000000000000 := by have := HB.out; omega
                    have hym : y + m ≤ (p + 1) * 1000000000000 := by have := HB.out; omega
                    have hy1 : y ≤ (p + 1) * 1000000000000 := Nat.le_trans HB.out.2.2.1 (Nat.mul_le_mul_right _ (Nat.le_succ_of_le HB.out.1))
                    have HF' : Hid ((T.drop (p + 1)).length + 1 ≤ f') := hf'
                    have hpi : (0 : Int) ≤ (p : Int) := by omega
                    have hpi2 : (p : Int) < (n : Int) := by omega
                    have hwp : IntKind.i64.wrap ((p : Int) + 1) = (p : Int) + 1 := by rw [IntKind.wrap_i64]; omega
                    clear hf'
                    by_cases h36 : T[p]! = 36
                    · rw [h36] at gp hdd'
                      rw [pieceF_d, ← Int.natCast_add] at hdd'
                      have HE : Hid (dd = drawF (Wn : Int) (Hn : Int) f' ((0 : Nat) : Int) ((y + m : Nat) : Int) cs (T.drop (p + 1))) := hdd'
                      clear hdd' h36
                      go_wp2_with fail
                      refine hdig.mono ?_
                      rintro e w5 ⟨rfl, rfl⟩
                      go_wp2_with fail
                      refine hpl.mono ?_
                      rintro e wa ⟨rfl, c6⟩
                      have hDS := hDS.go c6
                      go_wp2_with fail
                      refine (ds_zeroX hDS).mono ?_
                      rintro e w6 ⟨rfl, hD6⟩
                      go_wp2_with fail
                      refine (ds_new hD6 m (by omega)).mono ?_
                      rintro e w7 ⟨rfl, i7, c7, hD7⟩
                      go_wp2_with fail
                      refine (ds_addY hD7 i7 (by omega)).mono ?_
                      rintro e w8 ⟨rfl, hD8⟩
                      go_wp2_with fail
                      go_roundg (gk - 1)
                      case measure => have := HG.out; omega
                      case rel => exact ⟨p + 1, f', 0, y + m, _, cs, by omega, by have := HG.out; have := HB.out; omega, by go_num, rfl, hD8, HE.out, HF'.out, by omega, hym, hcs, HNIL.out⟩
                    by_cases h98 : T[p]! = 98
                    · rw [h98] at gp hdd'
                      rw [pieceF_b, ← Int.natCast_add] at hdd'
                      have HE : Hid (dd = drawF (Wn : Int) (Hn : Int) f' ((x + m : Nat) : Int) y cs (T.drop (p + 1))) := hdd'
                      clear hdd' h98 h36
                      go_wp2_with fail
                      refine hdig.mono ?_
                      rintro e w5 ⟨rfl, rfl⟩
                      go_wp2_with fail
                      refine hpl.mono ?_
                      rintro e wa ⟨rfl, c6⟩
                      have hDS := hDS.go c6
                      go_wp2_with fail
                      refine (ds_new hDS m (by omega)).mono ?_
                      rintro e w7 ⟨rfl, i7, c7, hD7⟩
                      go_wp2_with fail
                      refine (ds_addX hD7 i7 (by omega)).mono ?_
                      rintro e w8 ⟨rfl, hD8⟩
                      go_wp2_with fail
                      go_roundg (gk - 1)
                      case measure => have := HG.out; omega
                      case rel => exact ⟨p + 1, f', x + m, y, _, cs, by omega, by have := HG.out; have := HB.out; omega, by go_num, rfl, hD8, HE.out, HF'.out, hxm, hy1, hcs, HNIL.out⟩
                    by_cases h111 : T[p]! = 111
                    · rw [h111] at gp hdd'
                      clear h111 h98 h36
                      obtain ⟨gK, hgK⟩ : ∃ a, a = gk := ⟨_, rfl⟩
                      subst hgK
                      obtain ⟨wR, hwR⟩ : ∃ a, a = wr := ⟨_, rfl⟩
                      subst hwR
                      obtain ⟨va, vc, hv⟩ := own_shape hDS.own
                      subst hv
                      go_wp2_with fail
                      refine hdig.mono ?_
                      rintro e w5 ⟨rfl, rfl⟩
                      go_wp2_with fail
                      refine hpl.mono ?_
                      rintro e wa ⟨rfl, c6⟩
                      have hDS := hDS.go c6
                      go_wp2_with fail
                      refine (ds_new (hDS.go (alloc_below _ _)) m (by omega)).mono ?_
                      rintro e w7 ⟨rfl, i7, c7, hD7⟩
                      have hsz7 : (wa.alloc (.cells #[.bool false, .slice none 0 0] 75)).heap.size = wa.heap.size + 1 := by simp
                      rw [hsz7] at i7 c7
                      obtain ⟨c7b, c7z⟩ := past_block c7
                      clear hsz7 c7 hD7
                      go_wp2_with fail
                      refine (ds_past hDS c7b c7z i7 (by omega)).mono ?_
                      rintro e w8 ⟨rfl, ip, hD8⟩
                      go_wp2_with fail
                      refine (ds_new hD8 Hn (by omega)).mono ?_
                      rintro e w9 ⟨rfl, i9, c9, hD9⟩
                      go_wp2_with fail
                      refine (intCmp_any _ _ y Hn _ hD9.hy.int i9).mono ?_
                      rintro e w10 ⟨rfl, c10⟩
                      have hD10 := hD9.go c10
                      have ip10 := (ip.go c9).go c10
                      by_cases hy3 : Hn ≤ y
                      · have hc : 0 ≤ cmpW y Hn := cmp_ge.2 hy3
                        have HE : Hid (dd = (3, [])) := hdd'.trans (pieceF_o3 (Or.inr (by omega)))
                        clear hdd'
                        have q := hD10
                        obtain ⟨⟨a0, a1, f0, f1⟩, r0, r1⟩ := q.cells
                        go_wp2_with fail
                        refine bodyPost_ret (v := .tuple #[.slice none 0 0, .agg #[.int .i64 0, .int .i64 0], .int .i64 3]) ?_ rfl ⟨.slice none 0 0, ?_, ?_, ?_⟩
                        · simp [results, Tryd.results11, go_sem, set0 q.ha, set1 q.ha]
                        · rw [HX.out, HE.out]; simp
                        · rw [HX.out, HE.out]; exact Or.inl ⟨by simp, rfl⟩
                        · exact (q.bel.setCell (p := ⟨w.heap.size, 0, none⟩) (Nat.le_refl _) _).setCell (p := ⟨w.heap.size, 1, none⟩) (Nat.le_refl _) _
                      · have hc : ¬ 0 ≤ cmpW y Hn := fun e => hy3 (cmp_ge.1 e)
                        go_wp2_with fail
                        refine (ds_new hD10 Wn (by omega)).mono ?_
                        rintro e w11 ⟨rfl, i11, c11, hD11⟩
                        go_wp2_with fail
                        refine (intCmp_any _ _ (x + m) Wn _ (ip10.go c11) i11).mono ?_
                        rintro e w12 ⟨rfl, c12⟩
                        have hD12 := hD11.go c12
                        by_cases hx3 : Wn < x + m
                        · have hc2 : 0 < cmpW (x + m) Wn := cmp_gt.2 hx3
                          have HE : Hid (dd = (3, [])) := hdd'.trans (pieceF_o3 (Or.inl (by omega)))
                          clear hdd'
                          have q := hD12
                          obtain ⟨⟨a0, a1, f0, f1⟩, r0, r1⟩ := q.cells
                          go_wp2_with fail
                          refine bodyPost_ret (v := .tuple #[.slice none 0 0, .agg #[.int .i64 0, .int .i64 0], .int .i64 3]) ?_ rfl ⟨.slice none 0 0, ?_, ?_, ?_⟩
                          · simp [results, Tryd.results11, go_sem, set0 q.ha, set1 q.ha]
                          · rw [HX.out, HE.out]; simp
                          · rw [HX.out, HE.out]; exact Or.inl ⟨by simp, rfl⟩
                          · exact (q.bel.setCell (p := ⟨w.heap.size, 0, none⟩) (Nat.le_refl _) _).setCell (p := ⟨w.heap.size, 1, none⟩) (Nat.le_refl _) _
                        · have hc2 : ¬ 0 < cmpW (x + m) Wn := fun e => hx3 (cmp_gt.1 e)
                          by_cases h5 : 4096 < cs.length + m
                          · have h5i : (4096 : Int) < (cs.length : Int) + (m : Int) := by omega
                            have HE : Hid (dd = (5, [])) := hdd'.trans (pieceF_o5 (by omega) (by omega))
                            clear hdd'
                            have q := hD12
                            obtain ⟨⟨a0, a1, f0, f1⟩, r0, r1⟩ := q.cells
                            go_wp2_with fail
                            refine bodyPost_ret (v := .tuple #[.slice none 0 0, .agg #[.int .i64 0, .int .i64 0], .int .i64 5]) ?_ rfl ⟨.slice none 0 0, ?_, ?_, ?_⟩
                            · simp [results, Tryd.results11, go_sem, set0 q.ha, set1 q.ha]
                            · rw [HX.out, HE.out]; simp
                            · rw [HX.out, HE.out]; exact Or.inl ⟨by simp, rfl⟩
                            · exact (q.bel.setCell (p := ⟨w.heap.size, 0, none⟩) (Nat.le_refl _) _).setCell (p := ⟨w.heap.size, 1, none⟩) (Nat.le_refl _) _
                          · have h5i : ¬ (4096 : Int) < (cs.length : Int) + (m : Int) := by omega
                            have HE : Hid (dd = drawF (Wn : Int) (Hn : Int) f' ((x + m : Nat) : Int) y (cs ++ cellsAt x y m) (T.drop (p + 1))) := by
                              show _ = _
                              rw [hdd', pieceF_o (by omega) (by omega), Int.toNat_natCast, Int.natCast_add]
                            clear hdd' hDS hD8 hD9 hD10 hD11 i7 c7b c7z ip i9 c9 c10 ip10 i11 c11 c12
                            go_wp2_with fail
                            go_loopg [11, 14] m (fun g s11 s14 wr => ∃ (i : Nat) (v : Value), i + g = m ∧ s14 = .int .i64 g ∧ s11 = v ∧ DS w w2.heap.size (w2.heap.size + 1) w3.heap.size w4.heap.size b l (x + i) y v (cs ++ cellsAt x y i) wr ∧ (cs ++ cellsAt x y i = [] → v = .slice none 0 0))
                            case atStart => exact ⟨0, _, by omega, rfl, rfl, by simpa [cellsAt] using hD12, by simpa [cellsAt] using HNIL.out⟩
                            case round =>
                              obtain ⟨i, v, hig, rfl, hv, hDi, hni⟩ := hrel
                              have HIG : Hid (i + gk = m) := hig
                              have hgm : gk ≤ m := by omega
                              have hil : i ≤ m := by omega
                              clear hig
                              obtain ⟨va, vc, hva⟩ := own_shape hDi.own
                              subst hv
                              subst hva
                              have HNI : Hid (cs ++ cellsAt x y i = [] → Value.slice va (cs.length + (cellsAt x y i).length) vc = .slice none 0 0) := fun h => by
                                rw [← List.length_append]; exact hni h
                              clear hni
                              have hcl : (cs ++ cellsAt x y i).length = cs.length + i := by rw [List.length_append, cellsAt_length]
                              by_cases hg0 : 0 < gk
                              · have hgi : (0 : Int) < (gk : Int) := by omega
                                have hwg : IntKind.i64.wrap ((gk : Int) - 1) = ((gk - 1 : Nat) : Int) := by rw [IntKind.wrap_i64]; omega
                                have k1 := int64_any (w2.heap.size + 1) (x + i) wr hDi.hx.int (by omega)
                                have k2 := int64_any w3.heap.size y wr hDi.hy.int (by omega)
                                have hDo := hDi.ord
                                obtain ⟨i0, hi, hz0, hz1, hz2⟩ := info_parts Tryd.info56
                                have OW : Hid (∀ o, (wr.alloc o).ownsRow w4.heap.size 56 2 (.slice va (cs.length + i) vc) (cs.length + i) (cellsL (cs ++ cellsAt x y i))) := fun o => by
                                  have := hDi.own.alloc o
                                  rw [hcl] at this
                                  exact this
                                have HDI : Hid (DS w w2.heap.size (w2.heap.size + 1) w3.heap.size w4.heap.size b l (x + i) y (.slice va (cs.length + i) vc) (cs ++ cellsAt x y i) wr) := by
                                  show DS _ _ _ _ _ _ _ _ _ _ _ _
                                  rw [← hcl]
                                  exact hDi
                                have HCL : Hid ((cs ++ cellsAt x y i).length = cs.length + i) := hcl
                                have hsm : cs.length + i < 5000 := by omega
                                clear hi1 hi2
                                go_wp2_with fail
                                refine k1.mono ?_
                                rintro e wa ⟨rfl, hwa⟩
                                rw [hwa]
                                clear hwa
                                go_wp2_with fail
                                refine k2.mono ?_
                                rintro e wb ⟨rfl, hwb⟩
                                rw [hwb]
                                clear hwb
                                go_wp2_with (at_builtin; refine wpList_append_lies _ rfl _ _ 22 rfl w4.heap.size 56 i0 (.agg #[.int .i64 0, .int .i64 0]) 2 16 Tryd.underlying22 hi hz0 hz1 hz2 rfl (by decide) _ (cs.length + i) _ rfl (OW.out _) ⟨wr.heap.size, 0, none⟩ 1 1 [.int .i64 ((x : Int) + (i : Int)), .int .i64 (y : Int)] rfl rfl ?c1 ?c2 ?c2b ?c3 ?c4 ?c5 (wr.heap.size + 1) ?c6 ?_)
                                case c1 => exact cell_two_new _ _ _ _
                                case c2 => intro u hu; simp at hu; rcases hu with rfl | rfl <;> rfl
                                case c2b => omega
                                case c3 => unfold maxLen; omega
                                case c4 => omega
                                case c5 => simp; omega
                                case c6 => simp
                                intro g5 cap5 w5 hown5 hgrow5 hat5 hlt5
                                have hD5 := ds_more HDI.out HCL.out hown5 hgrow5 hat5
                                clear hown5 hgrow5 hat5 hlt5 OW hDi k1 k2 hcl
                                go_wp2_with fail
                                refine (ds_new hD5 1 (by omega)).mono ?_
                                rintro e w6 ⟨rfl, i6, c6', hD6⟩
                                go_wp2_with fail
                                refine (ds_addX hD6 i6 (by omega)).mono ?_
                                rintro e w13 ⟨rfl, hD13⟩
                                go_wp2_with fail
                                go_roundg (gk - 1)
                                case measure => omega
                                case rel => exact ⟨i + 1, _, by have := HIG.out; omega, rfl, rfl, by rw [cellsAt_snoc, ← List.append_assoc]; exact hD13, by rw [cellsAt_snoc]; simp⟩
                              · have hgi : ¬ (0 : Int) < (gk : Int) := by omega
                                have him : i = m := by have := HIG.out; omega
                                have HIM : Hid (i = m) := him
                                have HDX : Hid (DS w w2.heap.size (w2.heap.size + 1) w3.heap.size w4.heap.size b l (x + i) y (.slice va (cs.length + (cellsAt x y i).length) vc) (cs ++ cellsAt x y i) wr) := by
                                  show DS _ _ _ _ _ _ _ _ _ _ _ _
                                  rw [← List.length_append]
                                  exact hDi
                                have hfin : (cs ++ cellsAt x y m).length ≤ 4096 := by rw [List.length_append, cellsAt_length]; omega
                                clear him hcl
                                go_wp2_with fail
                                go_roundg (gK - 1)
                                case measure => have := HG.out; omega
                                case rel => exact ⟨p + 1, f', x + m, y, _, cs ++ cellsAt x y m, by omega, by have := HG.out; have := HB.out; omega, by go_num, rfl, by rw [← HIM.out]; exact HDX.out, HE.out, HF'.out, hxm, hy1, hfin, by rw [← HIM.out]; exact HNI.out⟩
                    · exact absurd HLET.out (by rintro (h | h | h) <;> contradiction)
                  · obtain ⟨f', hf', hdd'⟩ := HT
                    have h36 : T[p]! ≠ 36 := fun h => hlet (Or.inl h)
                    have h98 : T[p]! ≠ 98 := fun h => hlet (Or.inr (Or.inl h))
                    have h111 : T[p]! ≠ 111 := fun h => hlet (Or.inr (Or.inr h))
                    have HE : Hid (dd = (2, [])) := by show _ = _; rw [hdd']; exact pieceF_other h98 h36 h111
                    have n1 : (T[p]!).toNat ≠ 36 := ne_byte h36
                    have n2 : (T[p]!).toNat ≠ 98 := ne_byte h98
                    have n3 : (T[p]!).toNat ≠ 111 := ne_byte h111
                    have hpi0 : (0 : Int) ≤ (p : Int) := by omega
                    have hpi2 : (p : Int) < (n : Int) := by omega
                    generalize (T[p]!).toNat = c at *
                    have t1 : ((c : Int) != 36) = true := by simp; omega
                    have t2 : ((c : Int) != 98) = true := by simp; omega
                    have t3 : ((c : Int) != 111) = true := by simp; omega
                    clear hdd' hlet h36 h98 h111 n1 n2 n3 hm0
                    go_wp2_with fail
                    refine hdig.mono ?_
                    rintro e w5 ⟨rfl, rfl⟩
                    go_wp2_with fail
                    refine hpl.mono ?_
                    rintro e w6 ⟨rfl, c6⟩
                    have q := hDS.go c6
                    obtain ⟨⟨a0, a1, f0, f1⟩, r0, r1⟩ := q.cells
                    go_wp2_with fail
                    refine bodyPost_ret (v := .tuple #[.slice none 0 0, .agg #[.int .i64 0, .int .i64 0], .int .i64 2]) ?_ rfl ⟨.slice none 0 0, ?_, ?_, ?_⟩
                    · simp [results, Tryd.results11, go_sem, set0 q.ha, set1 q.ha]
                    · rw [HX.out, HE.out]; simp
                    · rw [HX.out, HE.out]; exact Or.inl ⟨by simp, rfl⟩
                    · exact (q.bel.setCell (p := ⟨w.heap.size, 0, none⟩) (Nat.le_refl _) _).setCell (p := ⟨w.heap.size, 1, none⟩) (Nat.le_refl _) _
          | false =>
            have hdd2 : decide (48 ≤ (T[k]!).toNat ∧ (T[k]!).toNat ≤ 57) = false := hd
            rw [hdd2] at hdig
            cases hbl : blks.contains T[k]! with
            | true =>
              obtain ⟨hdb, hfb⟩ := piece_blank hltT hf hdd hbl
              have HE : Hid (dd = drawF (Wn : Int) (Hn : Int) f x y cs (T.drop (k + 1))) := hdb
              have HF' : Hid ((T.drop (k + 1)).length + 1 ≤ f) := hfb
              have hx1 : x ≤ (k + 1) * 1000000000000 := Nat.le_trans hx (Nat.mul_le_mul_right _ (Nat.le_succ _))
              have hy1 : y ≤ (k + 1) * 1000000000000 := Nat.le_trans hy (Nat.mul_le_mul_right _ (Nat.le_succ _))
              have hwp : IntKind.i64.wrap ((k : Int) + 1) = (k : Int) + 1 := by rw [IntKind.wrap_i64]; omega
              have hbs : T[k]! = 32 ∨ T[k]! = 9 ∨ T[k]! = 10 ∨ T[k]! = 13 := by simpa [blks] using hbl
              clear hdd hf hdd2 hd hbl hdb hfb
              rcases hbs with h | h | h | h
              all_goals
                rw [h] at gk0 hdig
                clear h
                go_wp2_with fail
                refine hdig.mono ?_
                rintro e w5 ⟨rfl, rfl⟩
                go_wp2_with fail
                go_roundg (gk - 1)
                case measure => have := HG.out; omega
                case rel => exact ⟨k + 1, f, x, y, _, cs, by omega, by have := HG.out; omega, by go_num, rfl, hDS, HE.out, HF'.out, hx1, hy1, hcs, HNIL.out⟩
            | false =>
              by_cases h33 : T[k]! = 33
              · have HE : Hid (dd = (0, cs)) := piece_end hltT hf hdd h33
                rw [h33] at gk0 hdig
                clear hdd hf hdd2 hd hbl h33
                have hwp : IntKind.i64.wrap ((k : Int) + 1) = (k : Int) + 1 := by rw [IntKind.wrap_i64]; omega
                obtain ⟨va, vc, hv⟩ := own_shape hDS.own
                subst hv
                have q := hDS
                obtain ⟨⟨a0, a1, f0, f1⟩, r0, r1⟩ := q.cells
                have hrow := dec_row q HNIL.out
                go_wp2_with fail
                refine hdig.mono ?_
                rintro e w5 ⟨rfl, rfl⟩
                go_wp2_with fail
                go_region
                all_goals
                  go_wp2_with fail
                  refine bodyPost_ret (v := .tuple #[.slice va cs.length vc, .agg #[.int .i64 b, .int .i64 l], .int .i64 0]) ?_ rfl ⟨.slice va cs.length vc, ?_, ?_, ?_⟩
                  · simp [results, Tryd.results11, go_sem, set0 q.ha, set1 q.ha]
                  · rw [HX.out, HE.out]; simp
                  · rw [HX.out, HE.out]; simp only [ne_eq, not_true, if_false]; exact hrow _ _
                  · exact ((q.bel.setCell (p := ⟨w.heap.size, 0, none⟩) (Nat.le_refl _) _).setCell (p := ⟨w.heap.size, 1, none⟩) (Nat.le_refl _) _).drew
              · obtain ⟨m, hm⟩ : ∃ m : Nat, (m : Int) = 1 := ⟨1, rfl⟩
                have HT : ∃ f', (T.drop (k + 1)).length + 1 ≤ f' ∧ dd = pieceF (Wn : Int) (Hn : Int) f' x y cs (m : Int) T[k]! (T.drop (k + 1)) := by rw [hm]; exact piece_one hltT hf hdd hbl h33 hd
                have gp := gk0
                have HB : Hid (k ≤ k ∧ x ≤ k * 1000000000000 ∧ y ≤ k * 1000000000000 ∧ m < 1000000000000) := ⟨Nat.le_refl _, hx, hy, by omega⟩
                have hmb : m < 1000000000000 := by omega
                have hpn' : k < n := hlt
                have HM1 : Hid (Value.int IntKind.i64 1 = Value.int IntKind.i64 (m : Int)) := by show _ = _; rw [hm]
                clear gk0 hdd hf hdd2 hd hm
                obtain ⟨f', hf', hdd'⟩ := HT
                have hxm : x + m ≤ (k + 1) * 1000000000000 := by have := HB.out; omega
                have hym : y + m ≤ (k + 1) * 1000000000000 := by have := HB.out; omega
                have hy1 : y ≤ (k + 1) * 1000000000000 := Nat.le_trans HB.out.2.2.1 (Nat.mul_le_mul_right _ (Nat.le_succ_of_le HB.out.1))
                have HF' : Hid ((T.drop (k + 1)).length + 1 ≤ f') := hf'
                have hpi : (0 : Int) ≤ (k : Int) := by omega
                have hpi2 : (k : Int) < (n : Int) := by omega
                have hwp : IntKind.i64.wrap ((k : Int) + 1) = (k : Int) + 1 := by rw [IntKind.wrap_i64]; omega
                clear hf'
                by_cases h36 : T[k]! = 36
                · rw [h36] at gp hdd' hdig
                  rw [pieceF_d, ← Int.natCast_add] at hdd'
                  have HE : Hid (dd = drawF (Wn : Int) (Hn : Int) f' ((0 : Nat) : Int) ((y + m : Nat) : Int) cs (T.drop (k + 1))) := hdd'
                  clear hdd' h36
                  go_wp2_with fail
                  rw [HM1.out]
                  refine hdig.mono ?_
                  rintro e w5 ⟨rfl, hw5⟩
                  rw [hw5]
                  clear hw5
                  go_wp2_with fail
                  refine (ds_zeroX hDS).mono ?_
                  rintro e w6 ⟨rfl, hD6⟩
                  go_wp2_with fail
                  refine (ds_new hD6 m (by omega)).mono ?_
                  rintro e w7 ⟨rfl, i7, c7, hD7⟩
                  go_wp2_with fail
                  refine (ds_addY hD7 i7 (by omega)).mono ?_
                  rintro e w8 ⟨rfl, hD8⟩
                  go_wp2_with fail
                  go_roundg (gk - 1)
                  case measure => have := HG.out; omega
                  case rel => exact ⟨k + 1, f', 0, y + m, _, cs, by omega, by have := HG.out; have := HB.out; omega, by go_num, rfl, hD8, HE.out, HF'.out, by omega, hym, hcs, HNIL.out⟩
                by_cases h98 : T[k]! = 98
                · rw [h98] at gp hdd' hdig
                  rw [pieceF_b, ← Int.natCast_add] at hdd'
                  have HE : Hid (dd = drawF (Wn : Int) (Hn : Int) f' ((x + m : Nat) : Int) y cs (T.drop (k + 1))) := hdd'
                  clear hdd' h98 h36
                  go_wp2_with fail
                  rw [HM1.out]
                  refine hdig.mono ?_
                  rintro e w5 ⟨rfl, hw5⟩
                  rw [hw5]
                  clear hw5
                  go_wp2_with fail
                  refine (ds_new hDS m (by omega)).mono ?_
                  rintro e w7 ⟨rfl, i7, c7, hD7⟩
                  go_wp2_with fail
                  refine (ds_addX hD7 i7 (by omega)).mono ?_
                  rintro e w8 ⟨rfl, hD8⟩
                  go_wp2_with fail
                  go_roundg (gk - 1)
                  case measure => have := HG.out; omega
                  case rel => exact ⟨k + 1, f', x + m, y, _, cs, by omega, by have := HG.out; have := HB.out; omega, by go_num, rfl, hD8, HE.out, HF'.out, hxm, hy1, hcs, HNIL.out⟩
                by_cases h111 : T[k]! = 111
                · rw [h111] at gp hdd' hdig
                  clear h111 h98 h36
                  obtain ⟨gK, hgK⟩ : ∃ a, a = gk := ⟨_, rfl⟩
                  subst hgK
                  obtain ⟨wR, hwR⟩ : ∃ a, a = wr := ⟨_, rfl⟩
                  subst hwR
                  obtain ⟨va, vc, hv⟩ := own_shape hDS.own
                  subst hv
                  go_wp2_with fail
                  rw [HM1.out]
                  refine hdig.mono ?_
                  rintro e w5 ⟨rfl, hw5⟩
                  rw [hw5]
                  clear hw5
                  go_wp2_with fail
                  refine (ds_new (hDS.go (alloc_below _ _)) m (by omega)).mono ?_
                  rintro e w7 ⟨rfl, i7, c7, hD7⟩
                  have hsz7 : (wR.alloc (.cells #[.bool false, .slice none 0 0] 75)).heap.size = wR.heap.size + 1 := by simp
                  rw [hsz7] at i7 c7
                  obtain ⟨c7b, c7z⟩ := past_block c7
                  clear hsz7 c7 hD7
                  go_wp2_with fail
                  refine (ds_past hDS c7b c7z i7 (by omega)).mono ?_
                  rintro e w8 ⟨rfl, ip, hD8⟩
                  go_wp2_with fail
                  refine (ds_new hD8 Hn (by omega)).mono ?_
                  rintro e w9 ⟨rfl, i9, c9, hD9⟩
                  go_wp2_with fail
                  refine (intCmp_any _ _ y Hn _ hD9.hy.int i9).mono ?_
                  rintro e w10 ⟨rfl, c10⟩
                  have hD10 := hD9.go c10
                  have ip10 := (ip.go c9).go c10
                  by_cases hy3 : Hn ≤ y
                  · have hc : 0 ≤ cmpW y Hn := cmp_ge.2 hy3
                    have HE : Hid (dd = (3, [])) := hdd'.trans (pieceF_o3 (Or.inr (by omega)))
                    clear hdd'
                    have q := hD10
                    obtain ⟨⟨a0, a1, f0, f1⟩, r0, r1⟩ := q.cells
                    go_wp2_with fail
                    refine bodyPost_ret (v := .tuple #[.slice none 0 0, .agg #[.int .i64 0, .int .i64 0], .int .i64 3]) ?_ rfl ⟨.slice none 0 0, ?_, ?_, ?_⟩
                    · simp [results, Tryd.results11, go_sem, set0 q.ha, set1 q.ha]
                    · rw [HX.out, HE.out]; simp
                    · rw [HX.out, HE.out]; exact Or.inl ⟨by simp, rfl⟩
                    · exact (q.bel.setCell (p := ⟨w.heap.size, 0, none⟩) (Nat.le_refl _) _).setCell (p := ⟨w.heap.size, 1, none⟩) (Nat.le_refl _) _
                  · have hc : ¬ 0 ≤ cmpW y Hn := fun e => hy3 (cmp_ge.1 e)
                    go_wp2_with fail
                    refine (ds_new hD10 Wn (by omega)).mono ?_
                    rintro e w11 ⟨rfl, i11, c11, hD11⟩
                    go_wp2_with fail
                    refine (intCmp_any _ _ (x + m) Wn _ (ip10.go c11) i11).mono ?_
                    rintro e w12 ⟨rfl, c12⟩
                    have hD12 := hD11.go c12
                    by_cases hx3 : Wn < x + m
                    · have hc2 : 0 < cmpW (x + m) Wn := cmp_gt.2 hx3
                      have HE : Hid (dd = (3, [])) := hdd'.trans (pieceF_o3 (Or.inl (by omega)))
                      clear hdd'
                      have q := hD12
                      obtain ⟨⟨a0, a1, f0, f1⟩, r0, r1⟩ := q.cells
                      go_wp2_with fail
                      refine bodyPost_ret (v := .tuple #[.slice none 0 0, .agg #[.int .i64 0, .int .i64 0], .int .i64 3]) ?_ rfl ⟨.slice none 0 0, ?_, ?_, ?_⟩
                      · simp [results, Tryd.results11, go_sem, set0 q.ha, set1 q.ha]
                      · rw [HX.out, HE.out]; simp
                      · rw [HX.out, HE.out]; exact Or.inl ⟨by simp, rfl⟩
                      · exact (q.bel.setCell (p := ⟨w.heap.size, 0, none⟩) (Nat.le_refl _) _).setCell (p := ⟨w.heap.size, 1, none⟩) (Nat.le_refl _) _
                    · have hc2 : ¬ 0 < cmpW (x + m) Wn := fun e => hx3 (cmp_gt.1 e)
                      by_cases h5 : 4096 < cs.length + m
                      · have h5i : (4096 : Int) < (cs.length : Int) + (m : Int) := by omega
                        have HE : Hid (dd = (5, [])) := hdd'.trans (pieceF_o5 (by omega) (by omega))
                        clear hdd'
                        have q := hD12
                        obtain ⟨⟨a0, a1, f0, f1⟩, r0, r1⟩ := q.cells
                        go_wp2_with fail
                        refine bodyPost_ret (v := .tuple #[.slice none 0 0, .agg #[.int .i64 0, .int .i64 0], .int .i64 5]) ?_ rfl ⟨.slice none 0 0, ?_, ?_, ?_⟩
                        · simp [results, Tryd.results11, go_sem, set0 q.ha, set1 q.ha]
                        · rw [HX.out, HE.out]; simp
                        · rw [HX.out, HE.out]; exact Or.inl ⟨by simp, rfl⟩
                        · exact (q.bel.setCell (p := ⟨w.heap.size, 0, none⟩) (Nat.le_refl _) _).setCell (p := ⟨w.heap.size, 1, none⟩) (Nat.le_refl _) _
                      · have h5i : ¬ (4096 : Int) < (cs.length : Int) + (m : Int) := by omega
                        have HE : Hid (dd = drawF (Wn : Int) (Hn : Int) f' ((x + m : Nat) : Int) y (cs ++ cellsAt x y m) (T.drop (k + 1))) := by
                          show _ = _
                          rw [hdd', pieceF_o (by omega) (by omega), Int.toNat_natCast, Int.natCast_add]
                        clear hdd' hDS hD8 hD9 hD10 hD11 i7 c7b c7z ip i9 c9 c10 ip10 i11 c11 c12
                        go_wp2_with fail
                        go_loopg [11, 14] m (fun g s11 s14 wr => ∃ (i : Nat) (v : Value), i + g = m ∧ s14 = .int .i64 g ∧ s11 = v ∧ DS w w2.heap.size (w2.heap.size + 1) w3.heap.size w4.heap.size b l (x + i) y v (cs ++ cellsAt x y i) wr ∧ (cs ++ cellsAt x y i = [] → v = .slice none 0 0))
                        case atStart => exact ⟨0, _, by omega, rfl, rfl, by simpa [cellsAt] using hD12, by simpa [cellsAt] using HNIL.out⟩
                        case round =>
                          obtain ⟨i, v, hig, rfl, hv, hDi, hni⟩ := hrel
                          have HIG : Hid (i + gk = m) := hig
                          have hgm : gk ≤ m := by omega
                          have hil : i ≤ m := by omega
                          clear hig
                          obtain ⟨va, vc, hva⟩ := own_shape hDi.own
                          subst hv
                          subst hva
                          have HNI : Hid (cs ++ cellsAt x y i = [] → Value.slice va (cs.length + (cellsAt x y i).length) vc = .slice none 0 0) := fun h => by
                            rw [← List.length_append]; exact hni h
                          clear hni
                          have hcl : (cs ++ cellsAt x y i).length = cs.length + i := by rw [List.length_append, cellsAt_length]
                          by_cases hg0 : 0 < gk
                          · have hgi : (0 : Int) < (gk : Int) := by omega
                            have hwg : IntKind.i64.wrap ((gk : Int) - 1) = ((gk - 1 : Nat) : Int) := by rw [IntKind.wrap_i64]; omega
                            have k1 := int64_any (w2.heap.size + 1) (x + i) wr hDi.hx.int (by omega)
                            have k2 := int64_any w3.heap.size y wr hDi.hy.int (by omega)
                            have hDo := hDi.ord
                            obtain ⟨i0, hi, hz0, hz1, hz2⟩ := info_parts Tryd.info56
                            have OW : Hid (∀ o, (wr.alloc o).ownsRow w4.heap.size 56 2 (.slice va (cs.length + i) vc) (cs.length + i) (cellsL (cs ++ cellsAt x y i))) := fun o => by
                              have := hDi.own.alloc o
                              rw [hcl] at this
                              exact this
                            have HDI : Hid (DS w w2.heap.size (w2.heap.size + 1) w3.heap.size w4.heap.size b l (x + i) y (.slice va (cs.length + i) vc) (cs ++ cellsAt x y i) wr) := by
                              show DS _ _ _ _ _ _ _ _ _ _ _ _
                              rw [← hcl]
                              exact hDi
                            have HCL : Hid ((cs ++ cellsAt x y i).length = cs.length + i) := hcl
                            have hsm : cs.length + i < 5000 := by omega
                            clear hi1 hi2
                            go_wp2_with fail
                            refine k1.mono ?_
                            rintro e wa ⟨rfl, hwa⟩
                            rw [hwa]
                            clear hwa
                            go_wp2_with fail
                            refine k2.mono ?_
                            rintro e wb ⟨rfl, hwb⟩
                            rw [hwb]
                            clear hwb
                            go_wp2_with (at_builtin; refine wpList_append_lies _ rfl _ _ 22 rfl w4.heap.size 56 i0 (.agg #[.int .i64 0, .int .i64 0]) 2 16 Tryd.underlying22 hi hz0 hz1 hz2 rfl (by decide) _ (cs.length + i) _ rfl (OW.out _) ⟨wr.heap.size, 0, none⟩ 1 1 [.int .i64 ((x : Int) + (i : Int)), .int .i64 (y : Int)] rfl rfl ?c1 ?c2 ?c2b ?c3 ?c4 ?c5 (wr.heap.size + 1) ?c6 ?_)
                            case c1 => exact cell_two_new _ _ _ _
                            case c2 => intro u hu; simp at hu; rcases hu with rfl | rfl <;> rfl
                            case c2b => omega
                            case c3 => unfold maxLen; omega
                            case c4 => omega
                            case c5 => simp; omega
                            case c6 => simp
                            intro g5 cap5 w5 hown5 hgrow5 hat5 hlt5
                            have hD5 := ds_more HDI.out HCL.out hown5 hgrow5 hat5
                            clear hown5 hgrow5 hat5 hlt5 OW hDi k1 k2 hcl
                            go_wp2_with fail
                            refine (ds_new hD5 1 (by omega)).mono ?_
                            rintro e w6 ⟨rfl, i6, c6', hD6⟩
                            go_wp2_with fail
                            refine (ds_addX hD6 i6 (by omega)).mono ?_
                            rintro e w13 ⟨rfl, hD13⟩
                            go_wp2_with fail
                            go_roundg (gk - 1)
                            case measure => omega
                            case rel => exact ⟨i + 1, _, by have := HIG.out; omega, rfl, rfl, by rw [cellsAt_snoc, ← List.append_assoc]; exact hD13, by rw [cellsAt_snoc]; simp⟩
                          · have hgi : ¬ (0 : Int) < (gk : Int) := by omega
                            have him : i = m := by have := HIG.out; omega
                            have HIM : Hid (i = m) := him
                            have HDX : Hid (DS w w2.heap.size (w2.heap.size + 1) w3.heap.size w4.heap.size b l (x + i) y (.slice va (cs.length + (cellsAt x y i).length) vc) (cs ++ cellsAt x y i) wr) := by
                              show DS _ _ _ _ _ _ _ _ _ _ _ _
                              rw [← List.length_append]
                              exact hDi
                            have hfin : (cs ++ cellsAt x y m).length ≤ 4096 := by rw [List.length_append, cellsAt_length]; omega
                            clear him hcl
                            go_wp2_with fail
                            go_roundg (gK - 1)
                            case measure => have := HG.out; omega
                            case rel => exact ⟨k + 1, f', x + m, y, _, cs ++ cellsAt x y m, by omega, by have := HG.out; have := HB.out; omega, by go_num, rfl, by rw [← HIM.out]; exact HDX.out, HE.out, HF'.out, hxm, hy1, hfin, by rw [← HIM.out]; exact HNI.out⟩
                · have HE : Hid (dd = (2, [])) := by show _ = _; rw [hdd']; exact pieceF_other h98 h36 h111
                  have n1 : (T[k]!).toNat ≠ 36 := ne_byte h36
                  have n2 : (T[k]!).toNat ≠ 98 := ne_byte h98
                  have n3 : (T[k]!).toNat ≠ 111 := ne_byte h111
                  have n4 : (T[k]!).toNat ≠ 33 := ne_byte h33
                  obtain ⟨n5, n6, n7, n8⟩ := not_blank hbl
                  generalize (T[k]!).toNat = c at *
                  have t1 : ((c : Int) == 36) = false := by simp; omega
                  have t2 : ((c : Int) == 98) = false := by simp; omega
                  have t3 : ((c : Int) == 111) = false := by simp; omega
                  have t4 : ((c : Int) == 33) = false := by simp; omega
                  have t5 : ((c : Int) == 32) = false := by simp; omega
                  have t6 : ((c : Int) == 9) = false := by simp; omega
                  have t7 : ((c : Int) == 10) = false := by simp; omega
                  have t8 : ((c : Int) == 13) = false := by simp; omega
                  clear hbl h33 h36 h98 h111 n1 n2 n3 n4 n5 n6 n7 n8
                  clear hdd'
                  go_wp2_with fail
                  rw [HM1.out]
                  refine hdig.mono ?_
                  rintro e w5 ⟨rfl, hw5⟩
                  rw [hw5]
                  clear hw5
                  have q := hDS
                  obtain ⟨⟨a0, a1, f0, f1⟩, r0, r1⟩ := q.cells
                  go_wp2_with fail
                  refine bodyPost_ret (v := .tuple #[.slice none 0 0, .agg #[.int .i64 0, .int .i64 0], .int .i64 2]) ?_ rfl ⟨.slice none 0 0, ?_, ?_, ?_⟩
                  · simp [results, Tryd.results11, go_sem, set0 q.ha, set1 q.ha]
                  · rw [HX.out, HE.out]; simp
                  · rw [HX.out, HE.out]; exact Or.inl ⟨by simp, rfl⟩
                  · exact (q.bel.setCell (p := ⟨w.heap.size, 0, none⟩) (Nat.le_refl _) _).setCell (p := ⟨w.heap.size, 1, none⟩) (Nat.le_refl _) _
        · have hi2 : ¬ (k : Int) < (n : Int) := by omega
          have HE : Hid (dd = (2, [])) := by
            show _ = _
            rw [hdd, List.drop_of_length_le (by rw [← HN.out]; omega), draw_none]
          clear hdd hf hlt
          have q := hDS
          obtain ⟨⟨a0, a1, f0, f1⟩, r0, r1⟩ := q.cells
          go_wp2_with fail
          refine bodyPost_ret (v := .tuple #[.slice none 0 0, .agg #[.int .i64 0, .int .i64 0], .int .i64 2]) ?_ rfl ⟨.slice none 0 0, ?_, ?_, ?_⟩
          · simp [results, Tryd.results11, go_sem, set0 q.ha, set1 q.ha]
          · rw [HX.out, HE.out]; simp
          · rw [HX.out, HE.out]; exact Or.inl ⟨by simp, rfl⟩
          · exact (q.bel.setCell (p := ⟨w.heap.size, 0, none⟩) (Nat.le_refl _) _).setCell (p := ⟨w.heap.size, 1, none⟩) (Nat.le_refl _) _
  · have HX : Hid (decF readF T = ([], (0, 0), 2)) := by
      have hcut2 := nl_cut (T.drop k)
      rw [if_neg (by rw [hld]; have := HJ.out; omega)] at hcut2
      have h1 := HDEC.out
      rw [hcut2] at h1
      show _ = _
      simpa using h1
    have hj2 : (n : Int) ≤ (j : Int) := by omega
    clear HDEC hld hend
    go_wp2_with fail
    refine bodyPost_ret (v := .tuple #[.slice none 0 0, .agg #[.int .i64 0, .int .i64 0], .int .i64 2]) ?_ rfl ⟨.slice none 0 0, ?_, ?_, ?_⟩
    · simp [results, Tryd.results11, go_sem]
    · rw [HX.out]
    · rw [HX.out]; exact Or.inl ⟨rfl, rfl⟩
    · exact hb0
end Go.Proofs.YtpldnhlancjlnaaDoor
