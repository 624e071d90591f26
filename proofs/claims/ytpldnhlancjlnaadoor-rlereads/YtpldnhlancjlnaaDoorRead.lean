/- rule.numbers and rule.Read: what they answer. -/
import Derived.Test.YtpldnhlancjlnaaDoorText
import Derived.Lib.ConvBytes
import Derived.Deep.LoopGhost
namespace Go.Proofs.YtpldnhlancjlnaaDoor
open Go.RowKit

/-- the set whose digits a text is -/
def numF : Int → List UInt8 → Option Int
  | set, [] => some set
  | set, d :: r => if d.toNat < 48 ∨ 56 < d.toNat then none else if 2 ^ (d.toNat - 48) ≤ set then none else numF (set + 2 ^ (d.toNat - 48)) r

set_option maxRecDepth 20000 in
theorem or_table : ∀ m : Fin 9, ∀ s : Fin 512, s.val < 2 ^ m.val → bits .or .i64 (s.val : Int) ((2 ^ m.val : Nat) : Int) = ((s.val + 2 ^ m.val : Nat) : Int) := by decide +kernel

set_option maxRecDepth 4000 in
set_option maxHeartbeats 2000000 in
theorem numbers_any (s : ByteArray) (w : World) (hs : s.size ≤ 4294967296) :
    Calls Tryd.prog 85 #[.string s] w fun e w' => e = .returned (.tuple #[.int .i64 ((numF 0 s.data.toList).getD 0), .bool (numF 0 s.data.toList).isSome]) ∧ Below w.heap.size w w' := by
  obtain ⟨L, hL⟩ : ∃ L, L = s.data.toList := ⟨_, rfl⟩
  rw [← hL]
  have hconv := fun W => Lib.run_convert_string_bytes (P := Tryd.prog) W 9 40 5 s Tryd.underlying9 Tryd.underlying40 Tryd.underlying5
  go_enter Tryd.func85, Tryd.ntmps85
  go_wp2_with fail
  clear hconv
  obtain ⟨n, hn⟩ : ∃ n, n = s.size := ⟨_, rfl⟩
  have hLn : L.length = n := by rw [hL, hn, Lib.size_eq]
  have hbw : Below w.heap.size w (Lib.bytesWorld w 5 s) := ⟨rfl, rfl, rfl, by rw [Lib.bytesWorld_size]; omega, fun j hj => Lib.bytesWorld_at_old w 5 s j hj⟩
  have hcell : ∀ k, k < n → (Lib.bytesWorld w 5 s).cell? ⟨w.heap.size, k, none⟩ = some (.int .u8 (L.getD k 0).toNat) := fun k hk => by rw [hL]; exact Lib.bytesWorld_cell w 5 s k (by omega)
  have hcap : n ≤ grownCap w n 0 5 := grownCap_ge w n 0 5
  rw [← hn]
  rw [← hn] at hs
  have HLn : Hid (L.length = n) := hLn
  have HC : Hid (∀ k, k < n → (Lib.bytesWorld w 5 s).cell? ⟨w.heap.size, k, none⟩ = some (.int .u8 (L.getD k 0).toNat)) := hcell
  have HB : Hid (Below w.heap.size w (Lib.bytesWorld w 5 s)) := hbw
  clear hL hn hLn hcell hbw
  generalize grownCap w n 0 5 = cp at *
  generalize Lib.bytesWorld w 5 s = wb at *
  go_loopg [4, 11] n (fun gk s4 s11 wr => ∃ (k : Nat) (set : Int), k + gk = n ∧ s11 = .int .i64 k ∧ s4 = .int .i64 set ∧ 0 ≤ set ∧ set < 512 ∧ numF 0 L = numF set (L.drop k) ∧ wr = wb)
  case atStart => exact ⟨0, 0, by omega, rfl, rfl, by omega, by omega, by simp, rfl⟩
  case round =>
    obtain ⟨k, set, hk, rfl, rfl, h0, h1, hnum, hwr⟩ := hrel
    subst hwr
    have HK : Hid (k + gk = n) := hk
    have hkle : k ≤ n := by omega
    have HN : Hid (numF 0 L = numF set (L.drop k)) := hnum
    clear hk hnum
    by_cases hlt : k < n
    · have c0 := HC.out k hlt
      have hdrop : L.drop k = L.getD k 0 :: L.drop (k + 1) := by
        rw [List.drop_eq_getElem_cons (by rw [HLn.out]; exact hlt)]
        simp [List.getD, HLn.out, hlt]
      have HD : Hid (L.drop k = L.getD k 0 :: L.drop (k + 1)) := hdrop
      have hdlt : (L.getD k 0).toNat < 256 := (L.getD k 0).toNat_lt
      obtain ⟨d, hd⟩ : ∃ d, d = (L.getD k 0).toNat := ⟨_, rfl⟩
      rw [← hd] at c0 hdlt
      have HDD : Hid (d = (L.getD k 0).toNat) := hd
      clear hdrop hd
      have hi1 : (0 : Int) ≤ (k : Int) := by omega
      have hi2 : (k : Int) < (n : Int) := by omega
      by_cases hd0 : d < 48
      · have hq : (d : Int) < 48 := by omega
        have HNO : Hid (numF 0 L = none) := by show numF 0 L = none; exact by rw [HN.out, HD.out, numF, if_pos (by have := HDD.out; omega)]
        go_wp2_with fail
        go_ret2
        exact ⟨by rw [HNO.out]; rfl, HB.out⟩
      · by_cases hd1 : 56 < d
        · have hq : ¬ (d : Int) < 48 := by omega
          have hq2 : (56 : Int) < (d : Int) := by omega
          have HNO : Hid (numF 0 L = none) := by show numF 0 L = none; exact by rw [HN.out, HD.out, numF, if_pos (by have := HDD.out; omega)]
          go_wp2_with fail
          go_ret2
          exact ⟨by rw [HNO.out]; rfl, HB.out⟩
        · obtain ⟨m, hm8, hdm⟩ : ∃ m, m ≤ 8 ∧ d = 48 + m := ⟨d - 48, by omega, by omega⟩
          obtain ⟨sn, rfl⟩ := Int.eq_ofNat_of_zero_le h0
          have hstep : numF 0 L = if ((2 : Int) ^ m) ≤ (sn : Int) then none else numF ((sn : Int) + 2 ^ m) (L.drop (k + 1)) := by
            have h3 := HDD.out
            rw [HN.out, HD.out, numF, if_neg (by omega), ← h3, hdm]
            simp
          have HST : Hid (numF 0 L = if ((2 : Int) ^ m) ≤ (sn : Int) then none else numF ((sn : Int) + 2 ^ m) (L.drop (k + 1))) := hstep
          have hor : sn < 2 ^ m → bits .or .i64 (sn : Int) ((2 ^ m : Nat) : Int) = ((sn + 2 ^ m : Nat) : Int) := or_table ⟨m, by omega⟩ ⟨sn, by omega⟩
          subst hdm
          clear hstep
          have hmc : m = 0 ∨ m = 1 ∨ m = 2 ∨ m = 3 ∨ m = 4 ∨ m = 5 ∨ m = 6 ∨ m = 7 ∨ m = 8 := by omega
          clear hd0 hd1 hdlt hm8
          rcases hmc with rfl | rfl | rfl | rfl | rfl | rfl | rfl | rfl | rfl
          all_goals
            simp only [Nat.reducePow, Int.reducePow] at hor HST
            simp only [Nat.reduceAdd] at c0
            have H9 : Hid (0 ≤ (sn : Int) ∧ (sn : Int) < 512) := ⟨h0, h1⟩
          · by_cases hge : 1 ≤ sn
            · have hq : (1 : Int) ≤ (sn : Int) := by omega
              have HNO : Hid (numF 0 L = none) := by show numF 0 L = none; rw [HST.out, if_pos hq]
              clear hor
              go_wp2_with fail
              go_ret2
              exact ⟨by rw [HNO.out]; rfl, HB.out⟩
            · have hq : ¬ (1 : Int) ≤ (sn : Int) := by omega
              have ho : bits .or .i64 (sn : Int) 1 = (sn : Int) + 1 := by have := hor (by omega); simpa using this
              have HNX : Hid (numF 0 L = numF ((sn : Int) + 1) (L.drop (k + 1))) := by show _ = _; rw [HST.out, if_neg hq]
              have HHO : Hid (bits .or .i64 (sn : Int) 1 = (sn : Int) + 1) := ho
              clear hor ho
              go_wp2_with fail
              go_roundg (gk - 1)
              case measure => have := HK.out; omega
              case rel =>
                have := HK.out
                exact ⟨k + 1, (sn : Int) + 1, by omega, by go_num, by rw [HHO.out], by omega, by omega, HNX.out, rfl⟩
          · by_cases hge : 2 ≤ sn
            · have hq : (2 : Int) ≤ (sn : Int) := by omega
              have HNO : Hid (numF 0 L = none) := by show numF 0 L = none; rw [HST.out, if_pos hq]
              clear hor
              go_wp2_with fail
              go_ret2
              exact ⟨by rw [HNO.out]; rfl, HB.out⟩
            · have hq : ¬ (2 : Int) ≤ (sn : Int) := by omega
              have ho : bits .or .i64 (sn : Int) 2 = (sn : Int) + 2 := by have := hor (by omega); simpa using this
              have HNX : Hid (numF 0 L = numF ((sn : Int) + 2) (L.drop (k + 1))) := by show _ = _; rw [HST.out, if_neg hq]
              have HHO : Hid (bits .or .i64 (sn : Int) 2 = (sn : Int) + 2) := ho
              clear hor ho
              go_wp2_with fail
              go_roundg (gk - 1)
              case measure => have := HK.out; omega
              case rel =>
                have := HK.out
                exact ⟨k + 1, (sn : Int) + 2, by omega, by go_num, by rw [HHO.out], by omega, by omega, HNX.out, rfl⟩
          · by_cases hge : 4 ≤ sn
            · have hq : (4 : Int) ≤ (sn : Int) := by omega
              have HNO : Hid (numF 0 L = none) := by show numF 0 L = none; rw [HST.out, if_pos hq]
              clear hor
              go_wp2_with fail
              go_ret2
              exact ⟨by rw [HNO.out]; rfl, HB.out⟩
            · have hq : ¬ (4 : Int) ≤ (sn : Int) := by omega
              have ho : bits .or .i64 (sn : Int) 4 = (sn : Int) + 4 := by have := hor (by omega); simpa using this
              have HNX : Hid (numF 0 L = numF ((sn : Int) + 4) (L.drop (k + 1))) := by show _ = _; rw [HST.out, if_neg hq]
              have HHO : Hid (bits .or .i64 (sn : Int) 4 = (sn : Int) + 4) := ho
              clear hor ho
              go_wp2_with fail
              go_roundg (gk - 1)
              case measure => have := HK.out; omega
              case rel =>
                have := HK.out
                exact ⟨k + 1, (sn : Int) + 4, by omega, by go_num, by rw [HHO.out], by omega, by omega, HNX.out, rfl⟩
          · by_cases hge : 8 ≤ sn
            · have hq : (8 : Int) ≤ (sn : Int) := by omega
              have HNO : Hid (numF 0 L = none) := by show numF 0 L = none; rw [HST.out, if_pos hq]
              clear hor
              go_wp2_with fail
              go_ret2
              exact ⟨by rw [HNO.out]; rfl, HB.out⟩
            · have hq : ¬ (8 : Int) ≤ (sn : Int) := by omega
              have ho : bits .or .i64 (sn : Int) 8 = (sn : Int) + 8 := by have := hor (by omega); simpa using this
              have HNX : Hid (numF 0 L = numF ((sn : Int) + 8) (L.drop (k + 1))) := by show _ = _; rw [HST.out, if_neg hq]
              have HHO : Hid (bits .or .i64 (sn : Int) 8 = (sn : Int) + 8) := ho
              clear hor ho
              go_wp2_with fail
              go_roundg (gk - 1)
              case measure => have := HK.out; omega
              case rel =>
                have := HK.out
                exact ⟨k + 1, (sn : Int) + 8, by omega, by go_num, by rw [HHO.out], by omega, by omega, HNX.out, rfl⟩
          · by_cases hge : 16 ≤ sn
            · have hq : (16 : Int) ≤ (sn : Int) := by omega
              have HNO : Hid (numF 0 L = none) := by show numF 0 L = none; rw [HST.out, if_pos hq]
              clear hor
              go_wp2_with fail
              go_ret2
              exact ⟨by rw [HNO.out]; rfl, HB.out⟩
            · have hq : ¬ (16 : Int) ≤ (sn : Int) := by omega
              have ho : bits .or .i64 (sn : Int) 16 = (sn : Int) + 16 := by have := hor (by omega); simpa using this
              have HNX : Hid (numF 0 L = numF ((sn : Int) + 16) (L.drop (k + 1))) := by show _ = _; rw [HST.out, if_neg hq]
              have HHO : Hid (bits .or .i64 (sn : Int) 16 = (sn : Int) + 16) := ho
              clear hor ho
              go_wp2_with fail
              go_roundg (gk - 1)
              case measure => have := HK.out; omega
              case rel =>
                have := HK.out
                exact ⟨k + 1, (sn : Int) + 16, by omega, by go_num, by rw [HHO.out], by omega, by omega, HNX.out, rfl⟩
          · by_cases hge : 32 ≤ sn
            · have hq : (32 : Int) ≤ (sn : Int) := by omega
              have HNO : Hid (numF 0 L = none) := by show numF 0 L = none; rw [HST.out, if_pos hq]
              clear hor
              go_wp2_with fail
              go_ret2
              exact ⟨by rw [HNO.out]; rfl, HB.out⟩
            · have hq : ¬ (32 : Int) ≤ (sn : Int) := by omega
              have ho : bits .or .i64 (sn : Int) 32 = (sn : Int) + 32 := by have := hor (by omega); simpa using this
              have HNX : Hid (numF 0 L = numF ((sn : Int) + 32) (L.drop (k + 1))) := by show _ = _; rw [HST.out, if_neg hq]
              have HHO : Hid (bits .or .i64 (sn : Int) 32 = (sn : Int) + 32) := ho
              clear hor ho
              go_wp2_with fail
              go_roundg (gk - 1)
              case measure => have := HK.out; omega
              case rel =>
                have := HK.out
                exact ⟨k + 1, (sn : Int) + 32, by omega, by go_num, by rw [HHO.out], by omega, by omega, HNX.out, rfl⟩
          · by_cases hge : 64 ≤ sn
            · have hq : (64 : Int) ≤ (sn : Int) := by omega
              have HNO : Hid (numF 0 L = none) := by show numF 0 L = none; rw [HST.out, if_pos hq]
              clear hor
              go_wp2_with fail
              go_ret2
              exact ⟨by rw [HNO.out]; rfl, HB.out⟩
            · have hq : ¬ (64 : Int) ≤ (sn : Int) := by omega
              have ho : bits .or .i64 (sn : Int) 64 = (sn : Int) + 64 := by have := hor (by omega); simpa using this
              have HNX : Hid (numF 0 L = numF ((sn : Int) + 64) (L.drop (k + 1))) := by show _ = _; rw [HST.out, if_neg hq]
              have HHO : Hid (bits .or .i64 (sn : Int) 64 = (sn : Int) + 64) := ho
              clear hor ho
              go_wp2_with fail
              go_roundg (gk - 1)
              case measure => have := HK.out; omega
              case rel =>
                have := HK.out
                exact ⟨k + 1, (sn : Int) + 64, by omega, by go_num, by rw [HHO.out], by omega, by omega, HNX.out, rfl⟩
          · by_cases hge : 128 ≤ sn
            · have hq : (128 : Int) ≤ (sn : Int) := by omega
              have HNO : Hid (numF 0 L = none) := by show numF 0 L = none; rw [HST.out, if_pos hq]
              clear hor
              go_wp2_with fail
              go_ret2
              exact ⟨by rw [HNO.out]; rfl, HB.out⟩
            · have hq : ¬ (128 : Int) ≤ (sn : Int) := by omega
              have ho : bits .or .i64 (sn : Int) 128 = (sn : Int) + 128 := by have := hor (by omega); simpa using this
              have HNX : Hid (numF 0 L = numF ((sn : Int) + 128) (L.drop (k + 1))) := by show _ = _; rw [HST.out, if_neg hq]
              have HHO : Hid (bits .or .i64 (sn : Int) 128 = (sn : Int) + 128) := ho
              clear hor ho
              go_wp2_with fail
              go_roundg (gk - 1)
              case measure => have := HK.out; omega
              case rel =>
                have := HK.out
                exact ⟨k + 1, (sn : Int) + 128, by omega, by go_num, by rw [HHO.out], by omega, by omega, HNX.out, rfl⟩
          · by_cases hge : 256 ≤ sn
            · have hq : (256 : Int) ≤ (sn : Int) := by omega
              have HNO : Hid (numF 0 L = none) := by show numF 0 L = none; rw [HST.out, if_pos hq]
              clear hor
              go_wp2_with fail
              go_ret2
              exact ⟨by rw [HNO.out]; rfl, HB.out⟩
            · have hq : ¬ (256 : Int) ≤ (sn : Int) := by omega
              have ho : bits .or .i64 (sn : Int) 256 = (sn : Int) + 256 := by have := hor (by omega); simpa using this
              have HNX : Hid (numF 0 L = numF ((sn : Int) + 256) (L.drop (k + 1))) := by show _ = _; rw [HST.out, if_neg hq]
              have HHO : Hid (bits .or .i64 (sn : Int) 256 = (sn : Int) + 256) := ho
              clear hor ho
              go_wp2_with fail
              go_roundg (gk - 1)
              case measure => have := HK.out; omega
              case rel =>
                have := HK.out
                exact ⟨k + 1, (sn : Int) + 256, by omega, by go_num, by rw [HHO.out], by omega, by omega, HNX.out, rfl⟩
    · have hkn : k = n := by omega
      subst hkn
      have HSO : Hid (numF 0 L = some set) := by show numF 0 L = some set; exact by rw [HN.out, List.drop_of_length_le (by rw [HLn.out]; omega), numF]
      go_wp2_with fail
      go_ret2
      exact ⟨by rw [HSO.out]; rfl, HB.out⟩
end Go.Proofs.YtpldnhlancjlnaaDoor
