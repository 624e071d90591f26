/- The document's Named and Keyed. -/
import Derived.Test.YtpghbchbhjbbiaaGreatDoorSpNames
namespace Go.Proofs.YtpghbchbhjbbiaaGreatDoor
open Go.RowKit

theorem dropWhile_nil {p : UInt8 → Bool} : ∀ l : List UInt8, (l.dropWhile p = []) ↔ l.all p = true
  | [] => by simp
  | b :: l => by
    rw [List.dropWhile_cons, List.all_cons]
    by_cases h : p b = true
    · rw [if_pos h, dropWhile_nil l, h]; simp
    · rw [if_neg h]; simp [h]
theorem mem_dropWhile {p : UInt8 → Bool} {b : UInt8} (hb : p b = false) : ∀ l : List UInt8, b ∈ l → b ∈ l.dropWhile p
  | [], h => by cases h
  | a :: l, h => by
    rw [List.dropWhile_cons]
    by_cases ha : p a = true
    · rw [if_pos ha]
      rcases List.mem_cons.1 h with rfl | h
      · rw [hb] at ha; cases ha
      · exact mem_dropWhile hb l h
    · rw [if_neg ha]; exact h
theorem trim_all (l cs : List UInt8) : (Lib.trimS l cs).isEmpty = l.all (cs.contains ·) := by
  unfold Lib.trimS Lib.trimLeftS Lib.trimRightS
  by_cases h : l.all (cs.contains ·) = true
  · have h2 : l.reverse.dropWhile (cs.contains ·) = [] := by rw [dropWhile_nil, List.all_reverse]; exact h
    rw [h2, h]
    rfl
  · have h1 : l.all (cs.contains ·) = false := by simpa using h
    rw [h1]
    obtain ⟨b, hb, hp⟩ := List.all_eq_false.1 h1
    have hp2 : cs.contains b = false := by simpa using hp
    have h3 : b ∈ (l.reverse.dropWhile (cs.contains ·)).reverse.dropWhile (cs.contains ·) := mem_dropWhile (p := (cs.contains ·)) hp2 _ (by rw [List.mem_reverse]; exact mem_dropWhile (p := (cs.contains ·)) hp2 _ (by rw [List.mem_reverse]; exact hb))
    cases hq : (l.reverse.dropWhile (cs.contains ·)).reverse.dropWhile (cs.contains ·) with
    | nil => rw [hq] at h3; cases h3
    | cons _ _ => rfl
/-- a letter, a digit -/
def lettB (b : UInt8) : Bool := decide (97 ≤ b.toNat) && decide (b.toNat ≤ 122)
def digB (b : UInt8) : Bool := decide (48 ≤ b.toNat) && decide (b.toNat ≤ 57)
theorem lett_tab : ∀ n : Fin 256, lettersL.contains (UInt8.ofNat n.val) = (decide (97 ≤ n.val) && decide (n.val ≤ 122)) := by decide +kernel
theorem lettDig_tab : ∀ n : Fin 256, lettDigL.contains (UInt8.ofNat n.val) = ((decide (97 ≤ n.val) && decide (n.val ≤ 122)) || (decide (48 ≤ n.val) && decide (n.val ≤ 57))) := by decide +kernel
theorem lett_is (b : UInt8) : lettersL.contains b = lettB b := by
  have := lett_tab ⟨b.toNat, b.toNat_lt⟩
  rwa [show UInt8.ofNat b.toNat = b by simp] at this
theorem lettDig_is (b : UInt8) : lettDigL.contains b = (lettB b || digB b) := by
  have := lettDig_tab ⟨b.toNat, b.toNat_lt⟩
  rwa [show UInt8.ofNat b.toNat = b by simp] at this
theorem namedB_eq (s : ByteArray) : namedB s = (decide (0 < s.size) && decide (s.size ≤ 12) && s.data.toList.all lettB) := by
  unfold namedB madeB
  rw [trim_all, ba_len]
  congr 1
  · congr 1
    cases h : s.data.toList with
    | nil => have := ba_len s; rw [h] at this; simp at this; simp [← this]
    | cons b l => have := ba_len s; rw [h] at this; simp at this; simp; omega
  · congr 1
    funext b
    exact lett_is b

set_option maxRecDepth 4000 in
set_option maxHeartbeats 2000000 in
theorem refNamed_any (s : ByteArray) (w : World) (hs : s.size ≤ 9223372036854775807) :
    Calls Tryz.prog 20 #[.string s] w fun e w' => e = .returned (.bool (namedB s)) ∧ Below w.heap.size w w' := by
  have hnb := namedB_eq s
  have HNB : Hid (namedB s = (decide (0 < s.size) && decide (s.size ≤ 12) && s.data.toList.all lettB)) := hnb
  clear hnb
  generalize namedB s = R at *
  obtain ⟨L, hL⟩ : ∃ L, L = s.data.toList := ⟨_, rfl⟩
  rw [← hL] at HNB
  have hconv := fun W => Lib.run_convert_string_bytes (P := Tryz.prog) W 9 45 5 s Tryz.underlying9 Tryz.underlying45 Tryz.underlying5
  go_enter Tryz.func20, Tryz.ntmps20
  go_wp2_with fail
  clear hconv
  obtain ⟨n, hn⟩ : ∃ n, n = s.size := ⟨_, rfl⟩
  have hLn : L.length = n := by rw [hL, hn, Lib.size_eq]
  have hbw : Below w.heap.size w (Lib.bytesWorld w 5 s) := ⟨rfl, rfl, rfl, by rw [Lib.bytesWorld_size]; omega, fun j hj => Lib.bytesWorld_at_old w 5 s j hj⟩
  have hcell : ∀ k, k < n → (Lib.bytesWorld w 5 s).cell? ⟨w.heap.size, k, none⟩ = some (.int .u8 (L.getD k 0).toNat) := fun k hk => by rw [hL]; exact Lib.bytesWorld_cell w 5 s k (by omega)
  rw [← hn] at HNB hs ⊢
  have HLn : Hid (L.length = n ∧ n = s.size) := ⟨hLn, hn⟩
  have HC : Hid (∀ k, k < n → (Lib.bytesWorld w 5 s).cell? ⟨w.heap.size, k, none⟩ = some (.int .u8 (L.getD k 0).toNat)) := hcell
  have HB : Hid (Below w.heap.size w (Lib.bytesWorld w 5 s)) := hbw
  clear hL hLn hcell hbw
  have hszn : s.size = n := hn.symm
  clear hn
  generalize grownCap w n 0 5 = cp at *
  generalize Lib.bytesWorld w 5 s = wb at *
  go_loopg [8] n (fun gk s8 wr => ∃ k : Nat, k + gk = n ∧ s8 = .int .i64 k ∧ (∀ j, j < k → lettB (L.getD j 0) = true) ∧ wr = wb)
  case atStart => exact ⟨0, by omega, rfl, fun j hj => absurd hj (by omega), rfl⟩
  case round =>
    obtain ⟨k, hk, rfl, hall, hwr⟩ := hrel
    subst hwr
    have HK : Hid (k + gk = n ∧ ∀ j, j < k → lettB (L.getD j 0) = true) := ⟨hk, hall⟩
    have hkle : k ≤ n := by omega
    clear hk hall
    by_cases hlt : k < n
    · have c0 := HC.out k hlt
      have hdlt : (L.getD k 0).toNat < 256 := (L.getD k 0).toNat_lt
      have HD : Hid (∀ d, d = (L.getD k 0).toNat → lettB (L.getD k 0) = (decide (97 ≤ d) && decide (d ≤ 122))) := fun d hd => by rw [hd]; rfl
      obtain ⟨d, hd⟩ : ∃ d, d = (L.getD k 0).toNat := ⟨_, rfl⟩
      have HDD : Hid (d = (L.getD k 0).toNat) := hd
      rw [← hd] at c0 hdlt
      clear hd
      have hi1 : (0 : Int) ≤ (k : Int) := by omega
      have hi2 : (k : Int) < (n : Int) := by omega
      by_cases hd0 : d < 97
      · have hq : (d : Int) < 97 := by omega
        have HF : Hid (R = false) := by
          show _ = _
          have h1 := HD.out d HDD.out
          rw [HNB.out, show L.all lettB = false from ?_, Bool.and_false]
          rw [List.all_eq_false]
          refine ⟨L.getD k 0, ?_, by rw [h1]; simp; omega⟩
          have := HLn.out
          rw [List.getD_eq_getElem?_getD, List.getElem?_eq_getElem (by omega)]
          exact List.getElem_mem _
        go_wp2_with fail
        go_ret
        rw [HF.out]
        exact ⟨rfl, HB.out⟩
      · by_cases hd1 : 122 < d
        · have hq : ¬ (d : Int) < 97 := by omega
          have hq2 : (122 : Int) < (d : Int) := by omega
          have HF : Hid (R = false) := by
            show _ = _
            have h1 := HD.out d HDD.out
            rw [HNB.out, show L.all lettB = false from ?_, Bool.and_false]
            rw [List.all_eq_false]
            refine ⟨L.getD k 0, ?_, by rw [h1]; simp; omega⟩
            have := HLn.out
            rw [List.getD_eq_getElem?_getD, List.getElem?_eq_getElem (by omega)]
            exact List.getElem_mem _
          go_wp2_with fail
          go_ret
          rw [HF.out]
          exact ⟨rfl, HB.out⟩
        · have hq : ¬ (d : Int) < 97 := by omega
          have hq2 : ¬ (122 : Int) < (d : Int) := by omega
          go_wp2_with fail
          go_roundg (gk - 1)
          case measure => have := HK.out; omega
          case rel =>
            have h1 := HK.out
            refine ⟨k + 1, by omega, by go_num, fun j hj => ?_, rfl⟩
            rcases Nat.lt_succ_iff_lt_or_eq.1 hj with h | h
            · exact h1.2 j h
            · rw [h, HD.out d HDD.out]; simp; omega
    · have HT : Hid (R = (decide (0 < n) && decide (n ≤ 12))) := by
        show _ = _
        rw [HNB.out, show L.all lettB = true from ?_, Bool.and_true]
        rw [List.all_eq_true]
        intro b hb
        obtain ⟨j, hj, rfl⟩ := List.mem_iff_getElem.1 hb
        have h1 := HK.out
        have h2 := HLn.out
        have := h1.2 j (by omega)
        rwa [List.getD_eq_getElem?_getD, List.getElem?_eq_getElem hj] at this
      by_cases h0 : 0 < n
      · have hp : (0 : Int) < (n : Int) := by omega
        by_cases h12 : n ≤ 12
        · have hp2 : (n : Int) ≤ 12 := by omega
          go_wp2_with fail
          go_ret
          rw [HT.out, decide_eq_true h0, decide_eq_true h12]
          exact ⟨rfl, HB.out⟩
        · have hp2 : ¬ (n : Int) ≤ 12 := by omega
          go_wp2_with fail
          go_ret
          rw [HT.out, decide_eq_false h12, Bool.and_false]
          exact ⟨rfl, HB.out⟩
      · have hp : ¬ (0 : Int) < (n : Int) := by omega
        go_wp2_with fail
        go_ret
        rw [HT.out, decide_eq_false h0, Bool.false_and]
        exact ⟨rfl, HB.out⟩

theorem keyedB_eq (s : ByteArray) : keyedB s = (decide (2 ≤ s.size) && decide (s.size ≤ 41) && decide (s.data.toList.getD 0 0 = 33) && (s.data.toList.drop 1).all (fun b => lettB b || digB b)) := by
  unfold keyedB madeB
  have hl := ba_len s
  rw [← hl]
  cases h : s.data.toList with
  | nil => rfl
  | cons b l =>
    have hp : Lib.hasPrefix (b :: l) [33] = decide (b = 33) := by
      simp only [Lib.hasPrefix, List.isPrefixOf, Bool.and_true]
      by_cases hb : b = 33
      · subst hb; rfl
      · have : (33 == b) = false := by simpa using fun e => hb e.symm
        rw [this]; simp [hb]
    by_cases hb : b = 33
    · subst hb
      have ht : Lib.trimPrefix (33 :: l) [33] = l := by simp [Lib.trimPrefix, Lib.hasPrefix, List.isPrefixOf]
      rw [ht, hp, trim_all]
      have hf : (fun x : UInt8 => lettDigL.contains x) = fun b => lettB b || digB b := funext lettDig_is
      rw [hf]
      simp only [List.length_cons, List.drop_succ_cons, List.drop_zero]
      cases l with
      | nil => rfl
      | cons c r =>
        simp only [List.length_cons, List.isEmpty_cons]
        by_cases h40 : r.length + 1 ≤ 40
        · rw [decide_eq_true h40, decide_eq_true (show r.length + 1 + 1 ≤ 41 by omega), decide_eq_true (show 2 ≤ r.length + 1 + 1 by omega)]; rfl
        · rw [decide_eq_false h40, decide_eq_false (show ¬ r.length + 1 + 1 ≤ 41 by omega)]; simp
    · rw [hp, decide_eq_false hb]
      have : decide ((b :: l).getD 0 0 = 33) = false := decide_eq_false hb
      rw [this]
      simp
theorem digit_any (d : Nat) (w : World) : Calls Tryz.prog 40 #[.int .u8 d] w fun e w' => e = .returned (.bool (decide (48 ≤ d) && decide (d ≤ 57))) ∧ w' = w := by
  by_cases h0 : 48 ≤ d
  · have i0 : (48 : Int) ≤ (d : Int) := by omega
    by_cases h1 : d ≤ 57
    · have i1 : (d : Int) ≤ 57 := by omega
      go_enter Tryz.func40, Tryz.ntmps40
      go_wp2
      go_ret
      exact ⟨by simp [h0, h1], rfl⟩
    · have i1 : ¬ (d : Int) ≤ 57 := by omega
      go_enter Tryz.func40, Tryz.ntmps40
      go_wp2
      go_ret
      exact ⟨by simp, rfl⟩
  · have i0 : ¬ (48 : Int) ≤ (d : Int) := by omega
    go_enter Tryz.func40, Tryz.ntmps40
    go_wp2
    go_ret
    exact ⟨by simp, rfl⟩

/-- a byte of a key, at its place -/
def keyAt (k : Nat) (b : UInt8) : Bool := if k = 0 then decide (b.toNat = 33) else (lettB b || digB b)
theorem key_all (L : List UInt8) (n : Nat) (hn : L.length = n) (h0 : 0 < n) : (decide (L.getD 0 0 = 33) && (L.drop 1).all (fun b => lettB b || digB b)) = true ↔ ∀ j, j < n → keyAt j (L.getD j 0) = true := by
  cases L with
  | nil => simp at hn; omega
  | cons b l =>
    simp only [Bool.and_eq_true, decide_eq_true_eq, List.drop_succ_cons, List.drop_zero, List.all_eq_true]
    constructor
    · rintro ⟨h1, h2⟩ j hj
      cases j with
      | zero => simp [keyAt] at h1 ⊢; rw [h1]; rfl
      | succ j =>
        have : (b :: l).getD (j + 1) 0 = l.getD j 0 := by simp
        rw [this, keyAt, if_neg (by omega)]
        refine h2 _ ?_
        rw [List.getD_eq_getElem?_getD, List.getElem?_eq_getElem (by simp at hn; omega)]
        exact List.getElem_mem _
    · intro h
      refine ⟨?_, fun x hx => ?_⟩
      · have := h 0 h0
        simp [keyAt] at this ⊢
        exact UInt8.toNat_inj.1 this
      · obtain ⟨j, hj, rfl⟩ := List.mem_iff_getElem.1 hx
        have := h (j + 1) (by simp at hn; omega)
        rw [keyAt, if_neg (by omega)] at this
        simpa [hj] using this

set_option maxRecDepth 4000 in
set_option maxHeartbeats 2000000 in
theorem refKeyed_any (s : ByteArray) (w : World) (hs : s.size ≤ 9223372036854775807) :
    Calls Tryz.prog 21 #[.string s] w fun e w' => e = .returned (.bool (keyedB s)) ∧ Below w.heap.size w w' := by
  have HKB : Hid (keyedB s = (decide (2 ≤ s.size) && decide (s.size ≤ 41) && decide (s.data.toList.getD 0 0 = 33) && (s.data.toList.drop 1).all (fun b => lettB b || digB b))) := keyedB_eq s
  generalize keyedB s = R at *
  by_cases h2 : 2 ≤ s.size
  · by_cases h41 : s.size ≤ 41
    · have i2 : ¬ (s.size : Int) < 2 := by omega
      have i41 : ¬ (41 : Int) < (s.size : Int) := by omega
      obtain ⟨L, hL⟩ : ∃ L, L = s.data.toList := ⟨_, rfl⟩
      rw [← hL] at HKB
      have HR : Hid (R = true ↔ ∀ j, j < s.size → keyAt j (L.getD j 0) = true) := by
        show _ ↔ _
        rw [HKB.out, decide_eq_true h2, decide_eq_true h41, Bool.true_and, Bool.true_and]
        exact key_all L s.size (by rw [hL, ba_len]) (by omega)
      have hconv := fun W => Lib.run_convert_string_bytes (P := Tryz.prog) W 9 45 5 s Tryz.underlying9 Tryz.underlying45 Tryz.underlying5
      go_enter Tryz.func21, Tryz.ntmps21
      go_wp2_with fail
      clear hconv
      obtain ⟨n, hn⟩ : ∃ n, n = s.size := ⟨_, rfl⟩
      have hbw : Below w.heap.size w (Lib.bytesWorld w 5 s) := ⟨rfl, rfl, rfl, by rw [Lib.bytesWorld_size]; omega, fun j hj => Lib.bytesWorld_at_old w 5 s j hj⟩
      have hcell : ∀ k, k < n → (Lib.bytesWorld w 5 s).cell? ⟨w.heap.size, k, none⟩ = some (.int .u8 (L.getD k 0).toNat) := fun k hk => by rw [hL]; exact Lib.bytesWorld_cell w 5 s k (by omega)
      rw [← hn] at HR hs ⊢
      have HC : Hid (∀ k, k < n → (Lib.bytesWorld w 5 s).cell? ⟨w.heap.size, k, none⟩ = some (.int .u8 (L.getD k 0).toNat)) := hcell
      have HB : Hid (Below w.heap.size w (Lib.bytesWorld w 5 s)) := hbw
      clear hL hcell hbw h2 h41 i2 i41 hn HKB
      generalize grownCap w n 0 5 = cp at *
      generalize Lib.bytesWorld w 5 s = wb at *
      go_loopg [16] n (fun gk s16 wr => ∃ k : Nat, k + gk = n ∧ s16 = .int .i64 k ∧ (∀ j, j < k → keyAt j (L.getD j 0) = true) ∧ wr = wb)
      case atStart => exact ⟨0, by omega, rfl, fun j hj => absurd hj (by omega), rfl⟩
      case round =>
        obtain ⟨k, hk, rfl, hall, hwr⟩ := hrel
        subst hwr
        have HK : Hid (k + gk = n ∧ ∀ j, j < k → keyAt j (L.getD j 0) = true) := ⟨hk, hall⟩
        have hkle : k ≤ n := by omega
        clear hk hall
        by_cases hlt : k < n
        · have c0 := HC.out k hlt
          have hdlt : (L.getD k 0).toNat < 256 := (L.getD k 0).toNat_lt
          have HD : Hid (∀ d, d = (L.getD k 0).toNat → keyAt k (L.getD k 0) = if k = 0 then decide (d = 33) else ((decide (97 ≤ d) && decide (d ≤ 122)) || (decide (48 ≤ d) && decide (d ≤ 57)))) := fun d hd => by rw [hd]; rfl
          obtain ⟨d, hd⟩ : ∃ d, d = (L.getD k 0).toNat := ⟨_, rfl⟩
          have HDD : Hid (d = (L.getD k 0).toNat) := hd
          rw [← hd] at c0 hdlt
          clear hd
          have hi1 : (0 : Int) ≤ (k : Int) := by omega
          have hi2 : (k : Int) < (n : Int) := by omega
          have HNEXT : Hid (keyAt k (L.getD k 0) = true → ∀ j, j < k + 1 → keyAt j (L.getD j 0) = true) := fun h j hj => by
            rcases Nat.lt_succ_iff_lt_or_eq.1 hj with h1 | h1
            · exact HK.out.2 j h1
            · rw [h1]; exact h
          have HSTOP : Hid (keyAt k (L.getD k 0) = false → R = false) := fun h => by
            cases hR : R with
            | false => rfl
            | true => have := HR.out.1 hR k hlt; rw [h] at this; cases this
          by_cases hk0 : k = 0
          · subst hk0
            have hz : ((0 : Nat) : Int) = 0 := rfl
            have h00 : ((0 : Int) == 0) = true := rfl
            by_cases hd33 : d = 33
            · have hq : ((d : Int) != 33) = false := by simp; omega
              have hq1 : ((d : Int) == 33) = true := by simp; omega
              have HGO : Hid (keyAt 0 (L.getD 0 0) = true) := by show _ = _; rw [HD.out d HDD.out, if_pos rfl]; exact decide_eq_true hd33
              go_wp2_with fail
              go_roundg (gk - 1)
              case measure => have := HK.out; omega
              case rel => have h1 := HK.out; exact ⟨1, by omega, by go_num, HNEXT.out HGO.out, rfl⟩
            · have hq : ((d : Int) != 33) = true := by simp; omega
              have hq1 : ((d : Int) == 33) = false := by simp; omega
              have HF : Hid (R = false) := HSTOP.out (by rw [HD.out d HDD.out, if_pos rfl]; exact decide_eq_false hd33)
              go_wp2_with fail
              go_ret
              rw [HF.out]
              exact ⟨rfl, HB.out⟩
          · have hkz : ((k : Int) == 0) = false := by simp; omega
            have hkp : (0 : Int) < (k : Int) := by omega
            have cd := fun W => digit_any d W
            by_cases hdg : 48 ≤ d ∧ d ≤ 57
            · have hdd : (decide (48 ≤ d) && decide (d ≤ 57)) = true := by simp; omega
              rw [hdd] at cd
              have HGO : Hid (keyAt k (L.getD k 0) = true) := by show _ = _; rw [HD.out d HDD.out, if_neg hk0, hdd, Bool.or_true]
              go_wp2_with (go_at_call 40; refine (cd _).mono ?_; rintro e w9 ⟨rfl, hw⟩; have hw2 := hw.symm; subst hw2; clear hw)
              go_roundg (gk - 1)
              case measure => have := HK.out; omega
              case rel => have h1 := HK.out; exact ⟨k + 1, by omega, by go_num, HNEXT.out HGO.out, rfl⟩
            · have hdd : (decide (48 ≤ d) && decide (d ≤ 57)) = false := by simp; omega
              rw [hdd] at cd
              by_cases h97 : d < 97
              · have hq : (d : Int) < 97 := by omega
                have HF : Hid (R = false) := HSTOP.out (by rw [HD.out d HDD.out, if_neg hk0, hdd]; simp; omega)
                go_wp2_with (go_at_call 40; refine (cd _).mono ?_; rintro e w9 ⟨rfl, hw⟩; have hw2 := hw.symm; subst hw2; clear hw)
                go_ret
                rw [HF.out]
                exact ⟨rfl, HB.out⟩
              · have hq : ¬ (d : Int) < 97 := by omega
                by_cases h122 : 122 < d
                · have hq2 : (122 : Int) < (d : Int) := by omega
                  have HF : Hid (R = false) := HSTOP.out (by rw [HD.out d HDD.out, if_neg hk0, hdd]; simp; omega)
                  go_wp2_with (go_at_call 40; refine (cd _).mono ?_; rintro e w9 ⟨rfl, hw⟩; have hw2 := hw.symm; subst hw2; clear hw)
                  go_ret
                  rw [HF.out]
                  exact ⟨rfl, HB.out⟩
                · have hq2 : ¬ (122 : Int) < (d : Int) := by omega
                  have HGO : Hid (keyAt k (L.getD k 0) = true) := by show _ = _; rw [HD.out d HDD.out, if_neg hk0, hdd]; simp; omega
                  go_wp2_with (go_at_call 40; refine (cd _).mono ?_; rintro e w9 ⟨rfl, hw⟩; have hw2 := hw.symm; subst hw2; clear hw)
                  go_roundg (gk - 1)
                  case measure => have := HK.out; omega
                  case rel => have h1 := HK.out; exact ⟨k + 1, by omega, by go_num, HNEXT.out HGO.out, rfl⟩
        · have HT : Hid (R = true) := HR.out.2 fun j hj => HK.out.2 j (by omega)
          go_wp2_with fail
          go_ret
          rw [HT.out]
          exact ⟨rfl, HB.out⟩
    · have i2 : ¬ (s.size : Int) < 2 := by omega
      have i41 : (41 : Int) < (s.size : Int) := by omega
      have HF : Hid (R = false) := by show _ = _; rw [HKB.out, decide_eq_false h41]; simp
      go_enter Tryz.func21, Tryz.ntmps21
      go_wp2_with fail
      go_ret
      rw [HF.out]
      exact ⟨rfl, Below.refl _ _⟩
  · have i2 : (s.size : Int) < 2 := by omega
    have HF : Hid (R = false) := by show _ = _; rw [HKB.out, decide_eq_false h2]; simp
    go_enter Tryz.func21, Tryz.ntmps21
    go_wp2_with fail
    go_ret
    rw [HF.out]
    exact ⟨rfl, Below.refl _ _⟩
end Go.Proofs.YtpghbchbhjbbiaaGreatDoor
