/- rule.numbers and rule.Read. -/
import Derived.Test.YtpghbchbhjbbiaaGreatDoorSpKit
import Derived.Test.YtpghbchbhjbbiaaGreatDoorSpShelf
import Derived.Deep.LoopGhost
import Derived.Deep.RegionHeld3
import Derived.Test.YtpghbchbhjbbiaaGreatDoorSpRuText
namespace Go.Proofs.YtpghbchbhjbbiaaGreatDoor
open Go.RowKit

/-- the set whose digits a text is -/
def numF : Int → List UInt8 → Option Int
  | set, [] => some set
  | set, d :: r => if d.toNat < 48 ∨ 56 < d.toNat then none else if 2 ^ (d.toNat - 48) ≤ set then none else numF (set + 2 ^ (d.toNat - 48)) r

set_option maxRecDepth 20000 in
theorem or_table : ∀ m : Fin 9, ∀ s : Fin 512, s.val < 2 ^ m.val → bits .or .i64 (s.val : Int) ((2 ^ m.val : Nat) : Int) = ((s.val + 2 ^ m.val : Nat) : Int) := by decide +kernel

set_option maxRecDepth 4000 in
set_option maxHeartbeats 2000000 in
theorem numbers_any (s : ByteArray) (w : World) (hs : s.size ≤ 4294967296) :
    Calls Tryz.prog 82 #[.string s] w fun e w' => e = .returned (.tuple #[.int .i64 ((numF 0 s.data.toList).getD 0), .bool (numF 0 s.data.toList).isSome]) ∧ Below w.heap.size w w' := by
  obtain ⟨L, hL⟩ : ∃ L, L = s.data.toList := ⟨_, rfl⟩
  rw [← hL]
  have hconv := fun W => Lib.run_convert_string_bytes (P := Tryz.prog) W 9 45 5 s Tryz.underlying9 Tryz.underlying45 Tryz.underlying5
  go_enter Tryz.func82, Tryz.ntmps82
  go_wp2_with fail
  clear hconv
  obtain ⟨n, hn⟩ : ∃ n, n = s.size := ⟨_, rfl⟩
  have hLn : L.length = n := by rw [hL, hn, Lib.size_eq]
  have hbw : Below w.heap.size w (Lib.bytesWorld w 5 s) := ⟨rfl, rfl, rfl, by rw [Lib.bytesWorld_size]; omega, fun j hj => Lib.bytesWorld_at_old w 5 s j hj⟩
  have hcell : ∀ k, k < n → (Lib.bytesWorld w 5 s).cell? ⟨w.heap.size, k, none⟩ = some (.int .u8 (L.getD k 0).toNat) := fun k hk => by rw [hL]; exact Lib.bytesWorld_cell w 5 s k (by omega)
  have hcap : n ≤ grownCap w n 0 5 := grownCap_ge w n 0 5
  rw [← hn]
  rw [← hn] at hs
  have HLn : Hid (L.length = n) := hLn
  have HC : Hid (∀ k, k < n → (Lib.bytesWorld w 5 s).cell? ⟨w.heap.size, k, none⟩ = some (.int .u8 (L.getD k 0).toNat)) := hcell
  have HB : Hid (Below w.heap.size w (Lib.bytesWorld w 5 s)) := hbw
  clear hL hn hLn hcell hbw
  generalize grownCap w n 0 5 = cp at *
  generalize Lib.bytesWorld w 5 s = wb at *
  go_loopg [4, 11] n (fun gk s4 s11 wr => ∃ (k : Nat) (set : Int), k + gk = n ∧ s11 = .int .i64 k ∧ s4 = .int .i64 set ∧ 0 ≤ set ∧ set < 512 ∧ numF 0 L = numF set (L.drop k) ∧ wr = wb)
  case atStart => exact ⟨0, 0, by omega, rfl, rfl, by omega, by omega, by simp, rfl⟩
  case round =>
    obtain ⟨k, set, hk, rfl, rfl, h0, h1, hnum, hwr⟩ := hrel
    subst hwr
    have HK : Hid (k + gk = n) := hk
    have hkle : k ≤ n := by omega
    have HN : Hid (numF 0 L = numF set (L.drop k)) := hnum
    clear hk hnum
    by_cases hlt : k < n
    · have c0 := HC.out k hlt
      have hdrop : L.drop k = L.getD k 0 :: L.drop (k + 1) := by
        rw [List.drop_eq_getElem_cons (by rw [HLn.out]; exact hlt)]
        simp [List.getD, HLn.out, hlt]
      have HD : Hid (L.drop k = L.getD k 0 :: L.drop (k + 1)) := hdrop
      have hdlt : (L.getD k 0).toNat < 256 := (L.getD k 0).toNat_lt
      obtain ⟨d, hd⟩ : ∃ d, d = (L.getD k 0).toNat := ⟨_, rfl⟩
      rw [← hd] at c0 hdlt
      have HDD : Hid (d = (L.getD k 0).toNat) := hd
      clear hdrop hd
      have hi1 : (0 : Int) ≤ (k : Int) := by omega
      have hi2 : (k : Int) < (n : Int) := by omega
      by_cases hd0 : d < 48
      · have hq : (d : Int) < 48 := by omega
        have HNO : Hid (numF 0 L = none) := by show numF 0 L = none; exact by rw [HN.out, HD.out, numF, if_pos (by have := HDD.out; omega)]
        go_wp2_with fail
        go_ret2
        exact ⟨by rw [HNO.out]; rfl, HB.out⟩
      · by_cases hd1 : 56 < d
        · have hq : ¬ (d : Int) < 48 := by omega
          have hq2 : (56 : Int) < (d : Int) := by omega
          have HNO : Hid (numF 0 L = none) := by show numF 0 L = none; exact by rw [HN.out, HD.out, numF, if_pos (by have := HDD.out; omega)]
          go_wp2_with fail
          go_ret2
          exact ⟨by rw [HNO.out]; rfl, HB.out⟩
        · obtain ⟨m, hm8, hdm⟩ : ∃ m, m ≤ 8 ∧ d = 48 + m := ⟨d - 48, by omega, by omega⟩
          obtain ⟨sn, rfl⟩ := Int.eq_ofNat_of_zero_le h0
          have hstep : numF 0 L = if ((2 : Int) ^ m) ≤ (sn : Int) then none else numF ((sn : Int) + 2 ^ m) (L.drop (k + 1)) := by
            have h3 := HDD.out
            rw [HN.out, HD.out, numF, if_neg (by omega), ← h3, hdm]
            simp
          have HST : Hid (numF 0 L = if ((2 : Int) ^ m) ≤ (sn : Int) then none else numF ((sn : Int) + 2 ^ m) (L.drop (k + 1))) := hstep
          have hor : sn < 2 ^ m → bits .or .i64 (sn : Int) ((2 ^ m : Nat) : Int) = ((sn + 2 ^ m : Nat) : Int) := or_table ⟨m, by omega⟩ ⟨sn, by omega⟩
          subst hdm
          clear hstep
          have hmc : m = 0 ∨ m = 1 ∨ m = 2 ∨ m = 3 ∨ m = 4 ∨ m = 5 ∨ m = 6 ∨ m = 7 ∨ m = 8 := by omega
          clear hd0 hd1 hdlt hm8
          rcases hmc with rfl | rfl | rfl | rfl | rfl | rfl | rfl | rfl | rfl
          all_goals
            simp only [Nat.reducePow, Int.reducePow] at hor HST
            simp only [Nat.reduceAdd] at c0
            have H9 : Hid (0 ≤ (sn : Int) ∧ (sn : Int) < 512) := ⟨h0, h1⟩
          · by_cases hge : 1 ≤ sn
            · have hq : (1 : Int) ≤ (sn : Int) := by omega
              have HNO : Hid (numF 0 L = none) := by show numF 0 L = none; rw [HST.out, if_pos hq]
              clear hor
              go_wp2_with fail
              go_ret2
              exact ⟨by rw [HNO.out]; rfl, HB.out⟩
            · have hq : ¬ (1 : Int) ≤ (sn : Int) := by omega
              have ho : bits .or .i64 (sn : Int) 1 = (sn : Int) + 1 := by have := hor (by omega); simpa using this
              have HNX : Hid (numF 0 L = numF ((sn : Int) + 1) (L.drop (k + 1))) := by show _ = _; rw [HST.out, if_neg hq]
              have HHO : Hid (bits .or .i64 (sn : Int) 1 = (sn : Int) + 1) := ho
              clear hor ho
              go_wp2_with fail
              go_roundg (gk - 1)
              case measure => have := HK.out; omega
              case rel =>
                have := HK.out
                exact ⟨k + 1, (sn : Int) + 1, by omega, by go_num, by rw [HHO.out], by omega, by omega, HNX.out, rfl⟩
          · by_cases hge : 2 ≤ sn
            · have hq : (2 : Int) ≤ (sn : Int) := by omega
              have HNO : Hid (numF 0 L = none) := by show numF 0 L = none; rw [HST.out, if_pos hq]
              clear hor
              go_wp2_with fail
              go_ret2
              exact ⟨by rw [HNO.out]; rfl, HB.out⟩
            · have hq : ¬ (2 : Int) ≤ (sn : Int) := by omega
              have ho : bits .or .i64 (sn : Int) 2 = (sn : Int) + 2 := by have := hor (by omega); simpa using this
              have HNX : Hid (numF 0 L = numF ((sn : Int) + 2) (L.drop (k + 1))) := by show _ = _; rw [HST.out, if_neg hq]
              have HHO : Hid (bits .or .i64 (sn : Int) 2 = (sn : Int) + 2) := ho
              clear hor ho
              go_wp2_with fail
              go_roundg (gk - 1)
              case measure => have := HK.out; omega
              case rel =>
                have := HK.out
                exact ⟨k + 1, (sn : Int) + 2, by omega, by go_num, by rw [HHO.out], by omega, by omega, HNX.out, rfl⟩
          · by_cases hge : 4 ≤ sn
            · have hq : (4 : Int) ≤ (sn : Int) := by omega
              have HNO : Hid (numF 0 L = none) := by show numF 0 L = none; rw [HST.out, if_pos hq]
              clear hor
              go_wp2_with fail
              go_ret2
              exact ⟨by rw [HNO.out]; rfl, HB.out⟩
            · have hq : ¬ (4 : Int) ≤ (sn : Int) := by omega
              have ho : bits .or .i64 (sn : Int) 4 = (sn : Int) + 4 := by have := hor (by omega); simpa using this
              have HNX : Hid (numF 0 L = numF ((sn : Int) + 4) (L.drop (k + 1))) := by show _ = _; rw [HST.out, if_neg hq]
              have HHO : Hid (bits .or .i64 (sn : Int) 4 = (sn : Int) + 4) := ho
              clear hor ho
              go_wp2_with fail
              go_roundg (gk - 1)
              case measure => have := HK.out; omega
              case rel =>
                have := HK.out
                exact ⟨k + 1, (sn : Int) + 4, by omega, by go_num, by rw [HHO.out], by omega, by omega, HNX.out, rfl⟩
          · by_cases hge : 8 ≤ sn
            · have hq : (8 : Int) ≤ (sn : Int) := by omega
              have HNO : Hid (numF 0 L = none) := by show numF 0 L = none; rw [HST.out, if_pos hq]
              clear hor
              go_wp2_with fail
              go_ret2
              exact ⟨by rw [HNO.out]; rfl, HB.out⟩
            · have hq : ¬ (8 : Int) ≤ (sn : Int) := by omega
              have ho : bits .or .i64 (sn : Int) 8 = (sn : Int) + 8 := by have := hor (by omega); simpa using this
              have HNX : Hid (numF 0 L = numF ((sn : Int) + 8) (L.drop (k + 1))) := by show _ = _; rw [HST.out, if_neg hq]
              have HHO : Hid (bits .or .i64 (sn : Int) 8 = (sn : Int) + 8) := ho
              clear hor ho
              go_wp2_with fail
              go_roundg (gk - 1)
              case measure => have := HK.out; omega
              case rel =>
                have := HK.out
                exact ⟨k + 1, (sn : Int) + 8, by omega, by go_num, by rw [HHO.out], by omega, by omega, HNX.out, rfl⟩
          · by_cases hge : 16 ≤ sn
            · have hq : (16 : Int) ≤ (sn : Int) := by omega
              have HNO : Hid (numF 0 L = none) := by show numF 0 L = none; rw [HST.out, if_pos hq]
              clear hor
              go_wp2_with fail
              go_ret2
              exact ⟨by rw [HNO.out]; rfl, HB.out⟩
            · have hq : ¬ (16 : Int) ≤ (sn : Int) := by omega
              have ho : bits .or .i64 (sn : Int) 16 = (sn : Int) + 16 := by have := hor (by omega); simpa using this
              have HNX : Hid (numF 0 L = numF ((sn : Int) + 16) (L.drop (k + 1))) := by show _ = _; rw [HST.out, if_neg hq]
              have HHO : Hid (bits .or .i64 (sn : Int) 16 = (sn : Int) + 16) := ho
              clear hor ho
              go_wp2_with fail
              go_roundg (gk - 1)
              case measure => have := HK.out; omega
              case rel =>
                have := HK.out
                exact ⟨k + 1, (sn : Int) + 16, by omega, by go_num, by rw [HHO.out], by omega, by omega, HNX.out, rfl⟩
          · by_cases hge : 32 ≤ sn
            · have hq : (32 : Int) ≤ (sn : Int) := by omega
              have HNO : Hid (numF 0 L = none) := by show numF 0 L = none; rw [HST.out, if_pos hq]
              clear hor
              go_wp2_with fail
              go_ret2
              exact ⟨by rw [HNO.out]; rfl, HB.out⟩
            · have hq : ¬ (32 : Int) ≤ (sn : Int) := by omega
              have ho : bits .or .i64 (sn : Int) 32 = (sn : Int) + 32 := by have := hor (by omega); simpa using this
              have HNX : Hid (numF 0 L = numF ((sn : Int) + 32) (L.drop (k + 1))) := by show _ = _; rw [HST.out, if_neg hq]
              have HHO : Hid (bits .or .i64 (sn : Int) 32 = (sn : Int) + 32) := ho
              clear hor ho
              go_wp2_with fail
              go_roundg (gk - 1)
              case measure => have := HK.out; omega
              case rel =>
                have := HK.out
                exact ⟨k + 1, (sn : Int) + 32, by omega, by go_num, by rw [HHO.out], by omega, by omega, HNX.out, rfl⟩
          · by_cases hge : 64 ≤ sn
            · have hq : (64 : Int) ≤ (sn : Int) := by omega
              have HNO : Hid (numF 0 L = none) := by show numF 0 L = none; rw [HST.out, if_pos hq]
              clear hor
              go_wp2_with fail
              go_ret2
              exact ⟨by rw [HNO.out]; rfl, HB.out⟩
            · have hq : ¬ (64 : Int) ≤ (sn : Int) := by omega
              have ho : bits .or .i64 (sn : Int) 64 = (sn : Int) + 64 := by have := hor (by omega); simpa using this
              have HNX : Hid (numF 0 L = numF ((sn : Int) + 64) (L.drop (k + 1))) := by show _ = _; rw [HST.out, if_neg hq]
              have HHO : Hid (bits .or .i64 (sn : Int) 64 = (sn : Int) + 64) := ho
              clear hor ho
              go_wp2_with fail
              go_roundg (gk - 1)
              case measure => have := HK.out; omega
              case rel =>
                have := HK.out
                exact ⟨k + 1, (sn : Int) + 64, by omega, by go_num, by rw [HHO.out], by omega, by omega, HNX.out, rfl⟩
          · by_cases hge : 128 ≤ sn
            · have hq : (128 : Int) ≤ (sn : Int) := by omega
              have HNO : Hid (numF 0 L = none) := by show numF 0 L = none; rw [HST.out, if_pos hq]
              clear hor
              go_wp2_with fail
              go_ret2
              exact ⟨by rw [HNO.out]; rfl, HB.out⟩
            · have hq : ¬ (128 : Int) ≤ (sn : Int) := by omega
              have ho : bits .or .i64 (sn : Int) 128 = (sn : Int) + 128 := by have := hor (by omega); simpa using this
              have HNX : Hid (numF 0 L = numF ((sn : Int) + 128) (L.drop (k + 1))) := by show _ = _; rw [HST.out, if_neg hq]
              have HHO : Hid (bits .or .i64 (sn : Int) 128 = (sn : Int) + 128) := ho
              clear hor ho
              go_wp2_with fail
              go_roundg (gk - 1)
              case measure => have := HK.out; omega
              case rel =>
                have := HK.out
                exact ⟨k + 1, (sn : Int) + 128, by omega, by go_num, by rw [HHO.out], by omega, by omega, HNX.out, rfl⟩
          · by_cases hge : 256 ≤ sn
            · have hq : (256 : Int) ≤ (sn : Int) := by omega
              have HNO : Hid (numF 0 L = none) := by show numF 0 L = none; rw [HST.out, if_pos hq]
              clear hor
              go_wp2_with fail
              go_ret2
              exact ⟨by rw [HNO.out]; rfl, HB.out⟩
            · have hq : ¬ (256 : Int) ≤ (sn : Int) := by omega
              have ho : bits .or .i64 (sn : Int) 256 = (sn : Int) + 256 := by have := hor (by omega); simpa using this
              have HNX : Hid (numF 0 L = numF ((sn : Int) + 256) (L.drop (k + 1))) := by show _ = _; rw [HST.out, if_neg hq]
              have HHO : Hid (bits .or .i64 (sn : Int) 256 = (sn : Int) + 256) := ho
              clear hor ho
              go_wp2_with fail
              go_roundg (gk - 1)
              case measure => have := HK.out; omega
              case rel =>
                have := HK.out
                exact ⟨k + 1, (sn : Int) + 256, by omega, by go_num, by rw [HHO.out], by omega, by omega, HNX.out, rfl⟩
    · have hkn : k = n := by omega
      subst hkn
      have HSO : Hid (numF 0 L = some set) := by show numF 0 L = some set; exact by rw [HN.out, List.drop_of_length_le (by rw [HLn.out]; omega), numF]
      go_wp2_with fail
      go_ret2
      exact ⟨by rw [HSO.out]; rfl, HB.out⟩
/-- a rule in its block, free to be written -/
def RuleIn (w : World) (x y : Int) (wr : World) : Prop :=
  wr.cell? ⟨w.heap.size, 0, none⟩ = some (.int .i64 x) ∧ wr.cell? ⟨w.heap.size, 1, none⟩ = some (.int .i64 y) ∧ wr.frozen? ⟨w.heap.size, 0, none⟩ = false ∧ wr.frozen? ⟨w.heap.size, 1, none⟩ = false ∧ w.heap.size < wr.heap.size ∧ Below w.heap.size w wr
theorem RuleIn.born (w : World) (x y : Int) (t : TypeId) : RuleIn w x y (w.alloc (.cells #[.int .i64 x, .int .i64 y] t)) :=
  ⟨by rw [World.cell?_alloc_new]; rfl, by rw [World.cell?_alloc_new]; rfl, by simp [World.frozen?_alloc_new], by simp [World.frozen?_alloc_new], by simp, (Below.refl _ _).alloc (Nat.le_refl _) _⟩
theorem RuleIn.go {w w1 w2 : World} {x y : Int} (h : RuleIn w x y w1) (hb : Below w1.heap.size w1 w2) : RuleIn w x y w2 := by
  obtain ⟨h1, h2, h3, h4, h5, h6⟩ := h
  refine ⟨(hb.cell (p := ⟨w.heap.size, 0, none⟩) h5).trans h1, (hb.cell (p := ⟨w.heap.size, 1, none⟩) h5).trans h2, ?_, ?_, Nat.lt_of_lt_of_le h5 hb.size, h6.trans (hb.mono (Nat.le_of_lt h5))⟩
  · rw [hb.frozen (p := ⟨w.heap.size, 0, none⟩) h5]; exact h3
  · rw [hb.frozen (p := ⟨w.heap.size, 1, none⟩) h5]; exact h4
theorem RuleIn.set {w w1 : World} {x y : Int} (h : RuleIn w x y w1) (x' y' : Int) : RuleIn w x' y' ((w1.setCell ⟨w.heap.size, 0, none⟩ (.int .i64 x')).setCell ⟨w.heap.size, 1, none⟩ (.int .i64 y')) := by
  obtain ⟨h1, h2, h3, h4, h5, h6⟩ := h
  have s1 : (w1.setCell ⟨w.heap.size, 0, none⟩ (.int .i64 x')).cell? ⟨w.heap.size, 1, none⟩ = some (.int .i64 y) := by rw [World.cell?_setCell_other _ _ _ _ (by simp)]; exact h2
  refine ⟨?_, World.cell?_setCell_same _ _ _ s1, ?_, ?_, by simpa [World.setCell] using h5, (h6.setCell (Nat.le_refl _) _).setCell (Nat.le_refl _) _⟩
  · rw [World.cell?_setCell_other _ _ _ _ (by simp)]; exact World.cell?_setCell_same _ _ _ h1
  · rw [World.frozen?_setCell, World.frozen?_setCell]; exact h3
  · rw [World.frozen?_setCell, World.frozen?_setCell]; exact h4
theorem below_drewN' (w : World) (q : Nat) : Below w.heap.size w (w.drewN q) := ⟨rfl, rfl, rfl, Nat.le_refl _, fun _ _ => rfl⟩
/-- what Read answers: both sets, and the error -/
def readF (L : List UInt8) : Int × Int × Int :=
  let c := Lib.cut (Lib.trimPrefix L [66]) [47, 83]
  if Lib.hasPrefix L [66] && c.2.2 && (numF 0 c.1).isSome && (numF 0 c.2.1).isSome then
    (if hasB ((numF 0 c.1).getD 0) 0 then (0, 0, 4) else ((numF 0 c.1).getD 0, (numF 0 c.2.1).getD 0, 0))
  else (0, 0, 2)

theorem trim_length (L : List UInt8) : (Lib.trimPrefix L [66]).length ≤ L.length := by
  unfold Lib.trimPrefix
  split
  · rw [List.length_drop]; omega
  · omega
theorem cut_length (L sep : List UInt8) : (Lib.cut L sep).1.length ≤ L.length ∧ (Lib.cut L sep).2.1.length ≤ L.length := by
  unfold Lib.cut
  split
  · simp only [List.length_take, List.length_drop]; omega
  · simp

theorem cell_lt {w : World} {a : Addr} {v : Value} (h : w.cell? a = some v) : a.block < w.heap.size := by
  rcases Nat.lt_or_ge a.block w.heap.size with h' | h'
  · exact h'
  · simp [World.cell?, Array.getElem?_eq_none h'] at h

set_option linter.unusedSimpArgs false in
set_option maxRecDepth 4000 in
set_option maxHeartbeats 2000000 in
theorem read_any (s : ByteArray) (m : Int) (w : World) (hs : s.size < 4294967281) (hm : w.cell? ⟨3, 0, none⟩ = some (.int .i64 m)) :
    Calls Tryz.prog 57 #[.string s] w fun e w' => e = .returned (.tuple #[.agg #[.int .i64 (readF s.data.toList).1, .int .i64 (readF s.data.toList).2.1], .int .i64 (readF s.data.toList).2.2]) ∧ Below w.heap.size w w' := by
  obtain ⟨L, hL⟩ : ∃ L, L = s.data.toList := ⟨_, rfl⟩
  have hsl : L.length < 4294967281 := by rw [hL, ← Lib.size_eq]; exact hs
  have hcp := fun W => Tryz.strings_CutPrefix s ⟨#[66]⟩ W
  have hct := fun W (h : W.cell? ⟨3, 0, none⟩ = some (.int .i64 m)) => Tryz.strings_Cut ⟨(Lib.trimPrefix L [66]).toArray⟩ ⟨#[47, 83]⟩ m W (by have := trim_length L; show (Lib.trimPrefix L [66]).toArray.size < _; rw [List.size_toArray]; omega) h
  have hrf : readF L = readF L := rfl
  rw [← hL] at hcp ⊢
  have e1 : (⟨#[66]⟩ : ByteArray).data.toList = [66] := rfl
  have e2 : (⟨#[47, 83]⟩ : ByteArray).data.toList = [47, 83] := rfl
  have e3 : (⟨(Lib.trimPrefix L [66]).toArray⟩ : ByteArray).data.toList = Lib.trimPrefix L [66] := rfl
  rw [e1] at hcp
  simp only [e2, e3] at hct
  have hl1 := trim_length L
  obtain ⟨hl2, hl3⟩ := cut_length (Lib.trimPrefix L [66]) [47, 83]
  have hrd : readF L = (if Lib.hasPrefix L [66] && (Lib.cut (Lib.trimPrefix L [66]) [47, 83]).2.2 && (numF 0 (Lib.cut (Lib.trimPrefix L [66]) [47, 83]).1).isSome && (numF 0 (Lib.cut (Lib.trimPrefix L [66]) [47, 83]).2.1).isSome then
    (if hasB ((numF 0 (Lib.cut (Lib.trimPrefix L [66]) [47, 83]).1).getD 0) 0 then (0, 0, 4) else ((numF 0 (Lib.cut (Lib.trimPrefix L [66]) [47, 83]).1).getD 0, (numF 0 (Lib.cut (Lib.trimPrefix L [66]) [47, 83]).2.1).getD 0, 0)) else (0, 0, 2)) := rfl
  generalize Lib.hasPrefix L [66] = begun at *
  generalize Lib.trimPrefix L [66] = S1 at *
  generalize Lib.cut S1 [47, 83] = C at *
  obtain ⟨c1, c2, c3⟩ := C
  simp only at hct hl2 hl3 hrd
  have hn1 := fun W => numbers_any ⟨c1.toArray⟩ W (by show c1.toArray.size ≤ _; rw [List.size_toArray]; omega)
  have hn2 := fun W => numbers_any ⟨c2.toArray⟩ W (by show c2.toArray.size ≤ _; rw [List.size_toArray]; omega)
  have e4 : (⟨c1.toArray⟩ : ByteArray).data.toList = c1 := rfl
  have e5 : (⟨c2.toArray⟩ : ByteArray).data.toList = c2 := rfl
  simp only [e4] at hn1
  simp only [e5] at hn2
  have hhas := fun W => has_any ((numF 0 c1).getD 0) 0 W (by omega)
  generalize (numF 0 c1).getD 0 = x1 at *
  generalize (numF 0 c1).isSome = o1 at *
  generalize (numF 0 c2).getD 0 = x2 at *
  generalize (numF 0 c2).isSome = o2 at *
  generalize readF L = R at *
  clear e1 e2 e3 e4 e5 hrf hl1 hl2 hl3 hsl hs
  go_enter Tryz.func57, Tryz.ntmps57
  go_wp2_with fail
  refine (hcp _).mono ?_
  rintro e w1 ⟨rfl, hw⟩
  have hw2 := hw.symm
  subst hw2
  clear hw
  have h0 : 3 < w.heap.size := cell_lt hm
  have q0 := RuleIn.born w 0 0 23
  have hm1 : (w.alloc (.cells #[.int .i64 0, .int .i64 0] 23)).cell? ⟨3, 0, none⟩ = some (.int .i64 m) := by rw [World.cell?_alloc_past _ _ _ h0]; exact hm
  go_wp2_with fail
  refine (hct _ hm1).mono ?_
  rintro e w2 ⟨rfl, dn, hw⟩
  have c2 : Below (w.alloc (.cells #[.int .i64 0, .int .i64 0] 23)).heap.size (w.alloc (.cells #[.int .i64 0, .int .i64 0] 23)) w2 := by rw [hw]; exact below_drewN' _ _
  have q2 := q0.go c2
  clear hw c2 q0 hcp hct hm1
  go_wp2_with fail
  refine (hn1 _).mono ?_
  rintro e w3 ⟨rfl, c3⟩
  have q3 := q2.go c3
  clear q2
  go_wp2_with fail
  refine (hn2 _).mono ?_
  rintro e w4 ⟨rfl, c4⟩
  have q4 := q3.go c4
  clear q3 c3 c4
  obtain ⟨f0, f1, g0, g1, gl, b4⟩ := id q4
  cases begun
  · simp only [Bool.false_and, Bool.false_eq_true, if_false] at hrd
    go_wp2_with fail
    obtain ⟨SA, SB, _⟩ := q4.set 0 0
    refine bodyPost_ret (v := .tuple #[.agg #[.int .i64 0, .int .i64 0], .int .i64 2]) ?_ rfl ⟨by rw [hrd], ?_⟩
    · simp [results, Tryz.results57, go_sem, SA, SB]
    · exact (q4.set 0 0).2.2.2.2.2
  cases c3
  · simp only [Bool.and_false, Bool.false_and, Bool.false_eq_true, if_false] at hrd
    go_wp2_with fail
    obtain ⟨SA, SB, _⟩ := q4.set 0 0
    refine bodyPost_ret (v := .tuple #[.agg #[.int .i64 0, .int .i64 0], .int .i64 2]) ?_ rfl ⟨by rw [hrd], ?_⟩
    · simp [results, Tryz.results57, go_sem, SA, SB]
    · exact (q4.set 0 0).2.2.2.2.2
  cases o1
  · simp only [Bool.and_false, Bool.false_and, Bool.false_eq_true, if_false] at hrd
    go_wp2_with fail
    obtain ⟨SA, SB, _⟩ := q4.set 0 0
    refine bodyPost_ret (v := .tuple #[.agg #[.int .i64 0, .int .i64 0], .int .i64 2]) ?_ rfl ⟨by rw [hrd], ?_⟩
    · simp [results, Tryz.results57, go_sem, SA, SB]
    · exact (q4.set 0 0).2.2.2.2.2
  cases o2
  · simp only [Bool.and_false, Bool.false_eq_true, if_false] at hrd
    go_wp2_with fail
    obtain ⟨SA, SB, _⟩ := q4.set 0 0
    refine bodyPost_ret (v := .tuple #[.agg #[.int .i64 0, .int .i64 0], .int .i64 2]) ?_ rfl ⟨by rw [hrd], ?_⟩
    · simp [results, Tryz.results57, go_sem, SA, SB]
    · exact (q4.set 0 0).2.2.2.2.2
  simp only [Bool.and_self, if_true] at hrd
  cases hh : hasB x1 0
  · rw [hh, if_neg (by simp)] at hrd
    rw [hh] at hhas
    go_wp2_with fail
    refine (hhas _).mono ?_
    rintro e w5 ⟨rfl, hw⟩
    have hw2 := hw.symm
    subst hw2
    clear hw
    go_wp2_with fail
    obtain ⟨SA, SB, _⟩ := q4.set x1 x2
    refine bodyPost_ret (v := .tuple #[.agg #[.int .i64 x1, .int .i64 x2], .int .i64 0]) ?_ rfl ⟨by rw [hrd], ?_⟩
    · simp [results, Tryz.results57, go_sem, SA, SB]
    · exact (q4.set x1 x2).2.2.2.2.2
  · rw [hh, if_pos rfl] at hrd
    rw [hh] at hhas
    go_wp2_with fail
    refine (hhas _).mono ?_
    rintro e w5 ⟨rfl, hw⟩
    have hw2 := hw.symm
    subst hw2
    clear hw
    go_wp2_with fail
    obtain ⟨SA, SB, _⟩ := q4.set 0 0
    refine bodyPost_ret (v := .tuple #[.agg #[.int .i64 0, .int .i64 0], .int .i64 4]) ?_ rfl ⟨by rw [hrd], ?_⟩
    · simp [results, Tryz.results57, go_sem, SA, SB]
    · exact (q4.set 0 0).2.2.2.2.2
end Go.Proofs.YtpghbchbhjbbiaaGreatDoor
