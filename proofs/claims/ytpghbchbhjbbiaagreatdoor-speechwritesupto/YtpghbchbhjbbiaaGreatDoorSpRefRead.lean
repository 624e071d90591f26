/- The document's own reading of a rule's text. -/
import Derived.Test.YtpghbchbhjbbiaaGreatDoorSpScan
import Derived.Deep.LoopGhost
namespace Go.Proofs.YtpghbchbhjbbiaaGreatDoor
open Go.RowKit

/-- midway -/
def Midway (L : List UInt8) (k : Nat) (part la m0 m1 : Int) : Prop :=
  (k = 0 ∧ part = -1 ∧ la = -1 ∧ m0 = 0 ∧ m1 = 0) ∨
  (1 ≤ k ∧ part = 0 ∧ Inv la m0 ∧ m1 = 0 ∧ refF L = scan (L.drop k) false la m0 0) ∨
  (1 ≤ k ∧ part = 1 ∧ Inv la m1 ∧ 0 ≤ m0 ∧ m0 < 512 ∧ refF L = scan (L.drop k) true la m0 m1)

theorem rr_list (s : ByteArray) (i : Nat) (hi : i < s.size) : s[i] = s.data.toList.getD i 0 := by
  have h2 : i < s.data.size := hi
  rw [List.getD_eq_getElem?_getD, Array.getElem?_toList, Array.getElem?_eq_getElem h2]
  rfl
theorem inv_range {la m : Int} (h : Inv la m) : 0 ≤ m ∧ m < 512 := by
  rcases h with ⟨_, rfl⟩ | ⟨k, hk, _, h2, h3⟩
  · omega
  · have := pow_pos' k
    have := pow_le_iff (show k + 1 ≤ 9 by omega)
    omega
theorem scan_p (c : UInt8) (r : List UInt8) (la m0 m1 : Int) : scan (c :: r) true la m0 m1 = if 48 ≤ c.toNat ∧ c.toNat ≤ 56 ∧ la < (c.toNat : Int) then scan r true c.toNat m0 (m1 + 2 ^ (c.toNat - 48)) else (0, 0, 2) := by
  rw [scan]
  · simp
  · intros; simp_all
theorem scan_q (c : UInt8) (hc : c ≠ 47) (r : List UInt8) (la m0 m1 : Int) : scan (c :: r) false la m0 m1 = if 48 ≤ c.toNat ∧ c.toNat ≤ 56 ∧ la < (c.toNat : Int) then scan r false c.toNat (m0 + 2 ^ (c.toNat - 48)) m1 else (0, 0, 2) := by
  rw [scan]
  · simp
  · intros; simp_all
theorem scan_no (r : List UInt8) (hr : ∀ r', r ≠ 83 :: r') (la m0 m1 : Int) : scan (47 :: r) false la m0 m1 = (0, 0, 2) := by
  rw [scan]
  · rw [if_neg (fun h => absurd h.1 (by decide))]
  · intro r' _ _ h
    exact hr r' h

set_option maxRecDepth 4000 in
set_option maxHeartbeats 4000000 in
theorem refRead_any (s : ByteArray) (w : World) (hs : s.size < 4294967281) :
    Calls Tryz.prog 22 #[.string s] w fun e w' => e = .returned (.tuple #[.agg #[.int .i64 (refF s.data.toList).1, .int .i64 (refF s.data.toList).2.1], .int .i64 (refF s.data.toList).2.2]) ∧ Below w.heap.size w w' := by
  obtain ⟨L, hL⟩ : ∃ L, L = s.data.toList := ⟨_, rfl⟩
  rw [← hL]
  obtain ⟨n, hn⟩ : ∃ n, n = s.size := ⟨_, rfl⟩
  have hLn : L.length = n := by rw [hL, hn, Lib.size_eq]
  have HL : Hid (L = s.data.toList ∧ L.length = n ∧ n = s.size) := ⟨hL, hLn, hn⟩
  clear hL hLn
  go_enter Tryz.func22, Tryz.ntmps22
  go_wp2_with fail
  go_loopg [5, 6, 7] n (fun gk s5 s6 s7 wr => ∃ (k : Nat) (part la m0 m1 : Int), k ≤ n ∧ n - k ≤ gk ∧ s7 = .int .i64 k ∧ s5 = .int .i64 part ∧ s6 = .int .i64 la ∧ wr = (w.alloc (.cells #[.int .i64 0, .int .i64 0] 23)).alloc (.cells #[.int .i64 m0, .int .i64 m1] 64) ∧ Midway L k part la m0 m1)
  case atStart => exact ⟨0, -1, -1, 0, 0, by omega, by omega, rfl, rfl, rfl, rfl, Or.inl ⟨rfl, rfl, rfl, rfl, rfl⟩⟩
  case round =>
    obtain ⟨k, part, la, m0, m1, hk, hgk, rfl, rfl, rfl, hwr, hmid⟩ := hrel
    subst hwr
    have HG : Hid (n - k ≤ gk) := hgk
    clear hgk
    have HB2 : Hid (∀ t1 t2 (o1 o2 : Array Value), Below w.heap.size w ((w.alloc (.cells o1 t1)).alloc (.cells o2 t2))) := fun t1 t2 o1 o2 => ((Below.refl _ _).alloc (Nat.le_refl _) _).alloc (by simp) _
    have HX : Hid (∀ i (h : i < s.size), (s[i]'h).toNat = (L.getD i 0).toNat) := fun i h => by rw [rr_list, HL.out.1]
    have HDR : Hid (∀ i, i < n → L.drop i = L.getD i 0 :: L.drop (i + 1)) := fun i h => by
      have h2 : i < L.length := by rw [HL.out.2.1]; exact h
      rw [List.drop_eq_getElem_cons h2]
      simp [List.getD, h2]
    rcases hmid with ⟨rfl, rfl, rfl, rfl, rfl⟩ | ⟨hk1, rfl, hinv, rfl, hrefl⟩ | ⟨hk1, rfl, hinv, hm0, hm1, hrefl⟩
    · by_cases hlt : 0 < n
      · have hi1 : (0 : Int) ≤ ((0 : Nat) : Int) := by omega
        have hi2 : ((0 : Nat) : Int) < (s.size : Int) := by omega
        have hi3 : 0 < s.size := by omega
        have hx0 := HX.out 0 hi3
        have HD := HDR.out 0 hlt
        have HD : Hid (L = L.getD 0 0 :: L.drop 1) := HD
        obtain ⟨c, hc0⟩ : ∃ c, c = L.getD 0 0 := ⟨_, rfl⟩
        rw [← hc0] at hx0 HD
        clear hc0
        by_cases hc : c = 66
        · have HR : Hid (refF L = scan (L.drop 1) false (-1) 0 0) := by
            show _ = _
            have h := HD.out
            generalize L.drop 1 = r at *
            rw [h, hc]; simp [refF]
          subst hc
          have hx1 : (s[0]'hi3).toNat = 66 := hx0
          clear hx0
          go_wp2_with fail
          go_roundg (gk - 1)
          case measure => have := HG.out; omega
          case rel =>
            have := HG.out
            exact ⟨1, 0, -1, 0, 0, by omega, by omega, rfl, rfl, rfl, rfl, Or.inr (Or.inl ⟨by omega, rfl, Or.inl ⟨rfl, rfl⟩, rfl, HR.out⟩)⟩
        · have HNO : Hid (refF L = (0, 0, 2)) := by
            show _ = _
            have h := HD.out
            generalize L.drop 1 = r at *
            rw [h]; simp [refF, hc]
          obtain ⟨d, hd⟩ : ∃ d, d = c.toNat := ⟨_, rfl⟩
          have hc2 : ¬ (d : Int) = 66 := by
            rw [hd]; intro h; exact hc (UInt8.toNat_inj.1 (by simpa using (by omega : c.toNat = 66)))
          rw [← hd] at hx0
          clear hd hc
          go_wp2_with fail
          all_goals
            refine bodyPost_ret (v := .tuple #[.agg #[.int .i64 0, .int .i64 0], .int .i64 2]) ?_ rfl ⟨by rw [HNO.out], HB2.out _ _ _ _⟩
            simp [results, Tryz.results22, go_sem]
      · have hn0 : ¬ ((0 : Nat) : Int) < (s.size : Int) := by omega
        have HNO : Hid (refF L = (0, 0, 2)) := by
          show _ = _
          have : L = [] := List.length_eq_zero_iff.1 (by have := HL.out.2.1; omega)
          rw [this]; rfl
        go_wp2_with fail
        all_goals
          refine bodyPost_ret (v := .tuple #[.agg #[.int .i64 0, .int .i64 0], .int .i64 2]) ?_ rfl ⟨by rw [HNO.out], HB2.out _ _ _ _⟩
          simp [results, Tryz.results22, go_sem]
    · have hrng := inv_range hinv
      have HI : Hid (Inv la m0) := hinv
      have HR : Hid (refF L = scan (L.drop k) false la m0 0) := hrefl
      clear hinv hrefl
      by_cases hlt : k < n
      · have hi1 : (0 : Int) ≤ (k : Int) := by omega
        have hi2 : (k : Int) < (s.size : Int) := by omega
        have hi3 : k < s.size := by omega
        have hk0 : ¬ (k : Int) = 0 := by omega
        have hx0 := HX.out k hi3
        have HD : Hid (L.drop k = L.getD k 0 :: L.drop (k + 1)) := HDR.out k hlt
        obtain ⟨c, hc0⟩ : ∃ c, c = L.getD k 0 := ⟨_, rfl⟩
        rw [← hc0] at hx0 HD
        clear hc0
        by_cases h47 : c = 47
        · subst h47
          have hx1 : (s[k]'hi3).toNat = 47 := hx0
          clear hx0
          by_cases hlt2 : k + 1 < n
          · have hj2 : (k : Int) + 1 < (s.size : Int) := by omega
            have hj3 : k + 1 < s.size := by omega
            have hy0 := HX.out (k + 1) hj3
            have HE : Hid (L.drop (k + 1) = L.getD (k + 1) 0 :: L.drop (k + 2)) := HDR.out (k + 1) hlt2
            obtain ⟨c2, hc0⟩ : ∃ c, c = L.getD (k + 1) 0 := ⟨_, rfl⟩
            rw [← hc0] at hy0 HE
            clear hc0
            by_cases h83 : c2 = 83
            · subst h83
              have hy1 : (s[k + 1]'hj3).toNat = 83 := hy0
              clear hy0
              have HR2 : Hid (refF L = scan (L.drop (k + 2)) true (-1) m0 0) := by
                show _ = _
                rw [HR.out, HD.out, HE.out, scan]
              go_wp2_with fail
              go_roundg (gk - 1)
              case measure => have := HG.out; omega
              case rel =>
                have := HG.out
                exact ⟨k + 2, 1, -1, m0, 0, by omega, by omega, by go_num, rfl, rfl, rfl, Or.inr (Or.inr ⟨by omega, rfl, Or.inl ⟨rfl, rfl⟩, hrng.1, hrng.2, HR2.out⟩)⟩
            · have HNO : Hid (refF L = (0, 0, 2)) := by
                show _ = _
                rw [HR.out, HD.out, HE.out, scan_no]
                intro r' h
                simp at h
                exact h83 h.1
              obtain ⟨d, hd⟩ : ∃ d, d = c2.toNat := ⟨_, rfl⟩
              have hc2 : ¬ (d : Int) = 83 := by
                rw [hd]; intro h; exact h83 (UInt8.toNat_inj.1 (by simpa using (by omega : c2.toNat = 83)))
              rw [← hd] at hy0
              clear hd h83
              go_wp2_with fail
              all_goals
                refine bodyPost_ret (v := .tuple #[.agg #[.int .i64 0, .int .i64 0], .int .i64 2]) ?_ rfl ⟨by rw [HNO.out], HB2.out _ _ _ _⟩
                simp [results, Tryz.results22, go_sem]
          · have HNO : Hid (refF L = (0, 0, 2)) := by
              show _ = _
              rw [HR.out, HD.out, List.drop_eq_nil_of_le (by have := HL.out.2.1; omega), scan_no]
              intro r' h
              simp at h
            have hj2 : ¬ (k : Int) + 1 < (s.size : Int) := by omega
            go_wp2_with fail
            all_goals
              refine bodyPost_ret (v := .tuple #[.agg #[.int .i64 0, .int .i64 0], .int .i64 2]) ?_ rfl ⟨by rw [HNO.out], HB2.out _ _ _ _⟩
              simp [results, Tryz.results22, go_sem]
        · have HST : Hid (refF L = if 48 ≤ c.toNat ∧ c.toNat ≤ 56 ∧ la < (c.toNat : Int) then scan (L.drop (k + 1)) false c.toNat (m0 + 2 ^ (c.toNat - 48)) 0 else (0, 0, 2)) := by
            show _ = _
            rw [HR.out, HD.out, scan_q c h47]
          obtain ⟨d, hd⟩ : ∃ d, d = c.toNat := ⟨_, rfl⟩
          rw [← hd] at hx0 HST
          have hc2 : ¬ (d : Int) = 47 := by
            rw [hd]; intro h; exact h47 (UInt8.toNat_inj.1 (by simpa using (by omega : c.toNat = 47)))
          clear h47
          clear hd
          by_cases hd0 : 48 ≤ d
          · by_cases hd1 : d ≤ 56
            · by_cases hl : la < (d : Int)
              · have HGO : Hid (Inv (d : Int) (m0 + 2 ^ (d - 48)) ∧ refF L = scan (L.drop (k + 1)) false d (m0 + 2 ^ (d - 48)) 0) := ⟨inv_step HI.out hd0 hd1 hl, by rw [HST.out, if_pos ⟨hd0, hd1, hl⟩]⟩
                clear HST
                have hmc : d = 48 ∨ d = 49 ∨ d = 50 ∨ d = 51 ∨ d = 52 ∨ d = 53 ∨ d = 54 ∨ d = 55 ∨ d = 56 := by omega
                clear hd0 hd1 hc2
                rcases hmc with rfl | rfl | rfl | rfl | rfl | rfl | rfl | rfl | rfl
                all_goals
                  simp only [Nat.reduceSub, Int.reducePow] at HGO
                  go_wp2_with fail
                  go_roundg (gk - 1)
                  case measure => have := HG.out; omega
                  case rel =>
                    have := HG.out
                    exact ⟨k + 1, _, _, _, _, by omega, by omega, by go_num, rfl, rfl, rfl, Or.inr (Or.inl ⟨by omega, rfl, HGO.out.1, rfl, HGO.out.2⟩)⟩
              · have HNO : Hid (refF L = (0, 0, 2)) := by
                  show _ = _
                  rw [HST.out, if_neg (fun h => hl h.2.2)]
                have hq1 : (48 : Int) ≤ (d : Int) := by omega
                have hq2 : (d : Int) ≤ 56 := by omega
                go_wp2_with fail
                all_goals
                  refine bodyPost_ret (v := .tuple #[.agg #[.int .i64 0, .int .i64 0], .int .i64 2]) ?_ rfl ⟨by rw [HNO.out], HB2.out _ _ _ _⟩
                  simp [results, Tryz.results22, go_sem]
            · have HNO : Hid (refF L = (0, 0, 2)) := by
                show _ = _
                rw [HST.out, if_neg (fun h => hd1 h.2.1)]
              have hq1 : (48 : Int) ≤ (d : Int) := by omega
              have hq2 : ¬ (d : Int) ≤ 56 := by omega
              go_wp2_with fail
              all_goals
                refine bodyPost_ret (v := .tuple #[.agg #[.int .i64 0, .int .i64 0], .int .i64 2]) ?_ rfl ⟨by rw [HNO.out], HB2.out _ _ _ _⟩
                simp [results, Tryz.results22, go_sem]
          · have HNO : Hid (refF L = (0, 0, 2)) := by
              show _ = _
              rw [HST.out, if_neg (fun h => hd0 h.1)]
            have hq1 : ¬ (48 : Int) ≤ (d : Int) := by omega
            go_wp2_with fail
            all_goals
              refine bodyPost_ret (v := .tuple #[.agg #[.int .i64 0, .int .i64 0], .int .i64 2]) ?_ rfl ⟨by rw [HNO.out], HB2.out _ _ _ _⟩
              simp [results, Tryz.results22, go_sem]
      · have HNO : Hid (refF L = (0, 0, 2)) := by
          show _ = _
          rw [HR.out, List.drop_eq_nil_of_le (by have := HL.out.2.1; omega)]
          simp [scan, finF]
        have hj2 : ¬ (k : Int) < (s.size : Int) := by omega
        go_wp2_with fail
        all_goals
          refine bodyPost_ret (v := .tuple #[.agg #[.int .i64 0, .int .i64 0], .int .i64 2]) ?_ rfl ⟨by rw [HNO.out], HB2.out _ _ _ _⟩
          simp [results, Tryz.results22, go_sem]
    · have hrng := inv_range hinv
      have HI : Hid (Inv la m1) := hinv
      have HR : Hid (refF L = scan (L.drop k) true la m0 m1) := hrefl
      clear hinv hrefl
      by_cases hlt : k < n
      · have hi1 : (0 : Int) ≤ (k : Int) := by omega
        have hi2 : (k : Int) < (s.size : Int) := by omega
        have hi3 : k < s.size := by omega
        have hk0 : ¬ (k : Int) = 0 := by omega
        have hx0 := HX.out k hi3
        have HD : Hid (L.drop k = L.getD k 0 :: L.drop (k + 1)) := HDR.out k hlt
        obtain ⟨c, hc0⟩ : ∃ c, c = L.getD k 0 := ⟨_, rfl⟩
        rw [← hc0] at hx0 HD
        clear hc0
        have HST : Hid (refF L = if 48 ≤ c.toNat ∧ c.toNat ≤ 56 ∧ la < (c.toNat : Int) then scan (L.drop (k + 1)) true c.toNat m0 (m1 + 2 ^ (c.toNat - 48)) else (0, 0, 2)) := by
          show _ = _
          rw [HR.out, HD.out, scan_p c]
        obtain ⟨d, hd⟩ : ∃ d, d = c.toNat := ⟨_, rfl⟩
        rw [← hd] at hx0 HST
        have hpart : ¬ (1 : Int) = 0 := by omega
        clear hd
        by_cases hd0 : 48 ≤ d
        · by_cases hd1 : d ≤ 56
          · by_cases hl : la < (d : Int)
            · have HGO : Hid (Inv (d : Int) (m1 + 2 ^ (d - 48)) ∧ refF L = scan (L.drop (k + 1)) true d m0 (m1 + 2 ^ (d - 48))) := ⟨inv_step HI.out hd0 hd1 hl, by rw [HST.out, if_pos ⟨hd0, hd1, hl⟩]⟩
              clear HST
              have hmc : d = 48 ∨ d = 49 ∨ d = 50 ∨ d = 51 ∨ d = 52 ∨ d = 53 ∨ d = 54 ∨ d = 55 ∨ d = 56 := by omega
              clear hd0 hd1
              rcases hmc with rfl | rfl | rfl | rfl | rfl | rfl | rfl | rfl | rfl
              all_goals
                simp only [Nat.reduceSub, Int.reducePow] at HGO
                go_wp2_with fail
                go_roundg (gk - 1)
                case measure => have := HG.out; omega
                case rel =>
                  have := HG.out
                  exact ⟨k + 1, _, _, _, _, by omega, by omega, by go_num, rfl, rfl, rfl, Or.inr (Or.inr ⟨by omega, rfl, HGO.out.1, hm0, hm1, HGO.out.2⟩)⟩
            · have HNO : Hid (refF L = (0, 0, 2)) := by
                show _ = _
                rw [HST.out, if_neg (fun h => hl h.2.2)]
              have hq1 : (48 : Int) ≤ (d : Int) := by omega
              have hq2 : (d : Int) ≤ 56 := by omega
              go_wp2_with fail
              all_goals
                refine bodyPost_ret (v := .tuple #[.agg #[.int .i64 0, .int .i64 0], .int .i64 2]) ?_ rfl ⟨by rw [HNO.out], HB2.out _ _ _ _⟩
                simp [results, Tryz.results22, go_sem]
          · have HNO : Hid (refF L = (0, 0, 2)) := by
              show _ = _
              rw [HST.out, if_neg (fun h => hd1 h.2.1)]
            have hq1 : (48 : Int) ≤ (d : Int) := by omega
            have hq2 : ¬ (d : Int) ≤ 56 := by omega
            go_wp2_with fail
            all_goals
              refine bodyPost_ret (v := .tuple #[.agg #[.int .i64 0, .int .i64 0], .int .i64 2]) ?_ rfl ⟨by rw [HNO.out], HB2.out _ _ _ _⟩
              simp [results, Tryz.results22, go_sem]
        · have HNO : Hid (refF L = (0, 0, 2)) := by
            show _ = _
            rw [HST.out, if_neg (fun h => hd0 h.1)]
          have hq1 : ¬ (48 : Int) ≤ (d : Int) := by omega
          go_wp2_with fail
          all_goals
            refine bodyPost_ret (v := .tuple #[.agg #[.int .i64 0, .int .i64 0], .int .i64 2]) ?_ rfl ⟨by rw [HNO.out], HB2.out _ _ _ _⟩
            simp [results, Tryz.results22, go_sem]
      · have HE : Hid (refF L = if m0 % 2 = 1 then (0, 0, 4) else (m0, m1, 0)) := by
          show _ = _
          rw [HR.out, List.drop_eq_nil_of_le (by have := HL.out.2.1; omega)]
          simp [scan, finF]
        have hj2 : ¬ (k : Int) < (s.size : Int) := by omega
        have hnn : 0 ≤ m0 := hm0
        by_cases hodd : m0 % 2 = 1
        · have htm : Int.tmod m0 2 = 1 := by rw [Int.tmod_eq_emod_of_nonneg hm0]; exact hodd
          go_wp2_with fail
          all_goals
            refine bodyPost_ret (v := .tuple #[.agg #[.int .i64 0, .int .i64 0], .int .i64 4]) ?_ rfl ⟨by rw [HE.out, if_pos hodd], HB2.out _ _ _ _⟩
            simp [results, Tryz.results22, go_sem]
        · have htm : ¬ Int.tmod m0 2 = 1 := by rw [Int.tmod_eq_emod_of_nonneg hm0]; exact hodd
          go_wp2_with fail
          all_goals
            refine bodyPost_ret (v := .tuple #[.agg #[.int .i64 m0, .int .i64 m1], .int .i64 0]) ?_ rfl ⟨by rw [HE.out, if_neg hodd], HB2.out _ _ _ _⟩
            simp [results, Tryz.results22, go_sem]
end Go.Proofs.YtpghbchbhjbbiaaGreatDoor
