/- The law KeysOpen. -/
import Derived.Test.YtpeffpgpiookpaaDoorKyGone
import Derived.Test.YtpeffpgpiookpaaDoorKyNames
namespace Go.Proofs.YtpeffpgpiookpaaDoor
open Go.RowKit

theorem dig_ld : ∀ n : Fin 16, lettDigL.contains (dig n.val) = true := by decide +kernel
theorem hexT_ld (u : Nat) : ∀ c ∈ hexT u, lettDigL.contains c = true := by
  induction u using Nat.strongRecOn with
  | ind u ih =>
    rcases Nat.lt_or_ge u 16 with h | h
    · rw [hexT_low h]
      intro c hc
      simp only [List.mem_cons, List.not_mem_nil, or_false] at hc
      subst hc
      exact dig_ld ⟨u, h⟩
    · rw [hexT_high h]
      intro c hc
      rcases List.mem_append.1 hc with h1 | h1
      · exact ih (u / 16) (by omega) c h1
      · simp only [List.mem_cons, List.not_mem_nil, or_false] at h1
        subst h1
        exact dig_ld ⟨u % 16, Nat.mod_lt _ (by decide)⟩
theorem itoa_ld : ∀ i : Fin 32, (Lib.itoa (i.val : Int)).all (fun c => lettDigL.contains c) = true := by decide +kernel
theorem itoa_short : ∀ i : Fin 32, (Lib.itoa (i.val : Int)).length ≤ 2 := by decide +kernel
theorem dropWhile_all {p : UInt8 → Bool} : ∀ l : List UInt8, (∀ c ∈ l, p c = true) → l.dropWhile p = []
  | [], _ => rfl
  | b :: l, h => by rw [List.dropWhile_cons, if_pos (h b List.mem_cons_self)]; exact dropWhile_all l fun c hc => h c (List.mem_cons_of_mem _ hc)
theorem keyT_keyed (i : Nat) (d : Int) (hi : i < 32) : keyedB ⟨(keyT i d).toArray⟩ = true := by
  have hl1 := itoa_short ⟨i, hi⟩
  have hl2 := hexT_short (keyNum i d) (keyNum_lt i d)
  have ha := List.all_eq_true.1 (itoa_ld ⟨i, hi⟩)
  have hb := hexT_ld (keyNum i d)
  unfold keyedB madeB keyT
  generalize keyNum i d = q at *
  generalize Lib.itoa (i : Int) = A at *
  generalize hexT q = B at *
  have hp : Lib.hasPrefix (33 :: (A ++ 107 :: B)) [33] = true := by simp [Lib.hasPrefix, List.isPrefixOf]
  have ht : Lib.trimPrefix (33 :: (A ++ 107 :: B)) [33] = A ++ 107 :: B := by simp [Lib.trimPrefix, Lib.hasPrefix, List.isPrefixOf]
  have hall : ∀ c ∈ A ++ 107 :: B, lettDigL.contains c = true := fun c hc => by
    rcases List.mem_append.1 hc with h | h
    · exact ha c h
    · rcases List.mem_cons.1 h with h | h
      · subst h; decide +kernel
      · exact hb c h
  have htr : Lib.trimS (A ++ 107 :: B) lettDigL = [] := by
    unfold Lib.trimS Lib.trimLeftS Lib.trimRightS
    rw [dropWhile_all (p := (lettDigL.contains ·)) (A ++ 107 :: B).reverse (fun c hc => hall c (List.mem_reverse.1 hc))]
    rfl
  have hne : (A ++ 107 :: B).isEmpty = false := by cases A <;> rfl
  have hln : (A ++ 107 :: B).length ≤ 40 := by rw [List.length_append, List.length_cons]; omega
  simp only [hp, ht, htr, hne, hln, decide_true, List.isEmpty_nil, Bool.not_false, Bool.and_true]
/-- what Find tells of the i-th key -/
theorem find_own {L : List Wt} (hL : L.length ≤ 32) {i : Nat} {x : Wt} (hx : L[i]? = some x) (r : Int) : findF (keysOf L) (mkKy i x).text r = if lacks (1 + sp3 x.rights) r = true then (⟨#[]⟩, 10) else (x.name, 0) := by
  have hm : mkKy i x ∈ keysOf L := List.mem_of_getElem? (keysOf_at L i x hx)
  unfold findF
  cases hf : (keysOf L).find? (fun k => decide (k.text = (mkKy i x).text)) with
  | none =>
    rw [List.find?_eq_none] at hf
    exact absurd (by simp) (hf _ hm)
  | some k =>
    have h1 := List.find?_some hf
    have h2 := List.mem_of_find?_eq_some hf
    have := text_own hL hx h2 (by simpa using h1)
    subst this
    rfl
theorem texts_at (L : List Wt) (j : Nat) (x : Wt) (h : L[j]? = some x) : (textsOf L)[j]? = some (mkKy j x).text := by
  unfold textsOf
  rw [List.getElem?_map, keysOf_at L j x h]
  rfl
theorem texts_ne {L : List Wt} (hL : L.length ≤ 32) {j k : Nat} {x y : Wt} (hx : L[j]? = some x) (hy : L[k]? = some y) (hne : k ≠ j) : (mkKy k y).text ≠ (mkKy j x).text := fun e => by
  have h1 : keyT k y.draw = keyT j x.draw := by
    have h2 : (⟨(keyT k y.draw).toArray⟩ : ByteArray) = ⟨(keyT j x.draw).toArray⟩ := e
    have h3 := congrArg (fun b => b.data.toList) h2
    simpa using h3
  have hj := (List.getElem?_eq_some_iff.1 hx).1
  have hk := (List.getElem?_eq_some_iff.1 hy).1
  exact hne (keyT_inj k j _ _ (by omega) (by omega) h1)

set_option maxRecDepth 20000 in
set_option maxHeartbeats 4000000 in
theorem open_law (v : Value) (ls : List Wt) (rights : Int) (w : World) (hv : Vars w) (h : HWt w v ls) (hok : ∀ x ∈ ls, x.name.size ≤ 140737488355328) :
    Calls Tryd.prog 4 #[v, .int .i64 rights] w fun e w' => e = .returned (.bool true) ∧ Below w.heap.size w w' := by
  have cm := minted_any v ls w hv h hok
  obtain ⟨p, cap, rfl, hcap, hcm, hrow⟩ := h
  obtain ⟨n, hn⟩ : ∃ n, n = ls.length := ⟨_, rfl⟩
  rw [← hn] at cm hrow hcap ⊢
  obtain ⟨L, hL⟩ : ∃ L, L = ls.take 32 := ⟨_, rfl⟩
  have hLl : L.length ≤ 32 := by rw [hL, List.length_take]; omega
  have HLs : Hid (∀ (i : Nat) x, L[i]? = some x → ls[i]? = some x ∧ i < 32 ∧ i < n) := fun i x hx => by
    rw [hL, List.getElem?_take] at hx
    by_cases hi : i < 32
    · rw [if_pos hi] at hx; exact ⟨hx, hi, by have := (List.getElem?_eq_some_iff.1 hx).1; omega⟩
    · rw [if_neg hi] at hx; cases hx
  have hokL : ∀ x ∈ L, x.name.size ≤ 140737488355328 := fun x hx => hok x (by rw [hL] at hx; exact List.mem_of_mem_take hx)
  rw [← hL] at cm
  have hkok := keysOf_ok hLl hokL
  have HROW : Hid (n = 0 ∨ ∃ b off, p = some ⟨b, off, none⟩ ∧ b < w.heap.size ∧ ∀ k x, ls[k]? = some x → WAt w b (off + k * 3) x) := hrow
  have HV : Hid (Vars w) := hv
  have HLL : Hid (L.length ≤ 32) := hLl
  have co := fun W hW => opens_any W hW
  have sr := fun W => spot_any rights W
  have hr1 := sp3_lo rights
  have hr2 := sp3_hi rights
  generalize sp3 rights = r0 at *
  have cf := fun m u t W hW => find_any m u (keysOf L) t (1 + r0) W hW hkok
  clear hrow hv hL hok hokL hkok hn
  go_enter Tryd.func4, Tryd.ntmps4
  go_wp2_with fail
  refine cm.mono ?_
  rintro e w1 ⟨u, t, rfl, hk1, hs1, hb1⟩
  clear cm
  obtain ⟨m, hm⟩ : ∃ m, m = L.length := ⟨_, rfl⟩
  rw [← hm]
  have HM : Hid (m = L.length) := hm
  clear hm hLl
  obtain ⟨pu, nu, qu, rfl⟩ := hk1.form
  have hbA : Below w1.heap.size w1 (w1.alloc (.cells #[.int .i64 m, .slice pu nu qu] 24)) := (Below.refl _ _).alloc (Nat.le_refl _) _
  have tA := T2.born w1 m (.slice pu nu qu) 24
  have kA := hk1.hk.below hbA
  have sA := hs1.below hbA
  have h0A := hb1.trans (hbA.mono hb1.size)
  clear hk1 hs1 hb1 hbA
  generalize hwA : w1.alloc (.cells #[.int .i64 m, .slice pu nu qu] 24) = wA at *
  have co1 := co wA (HV.out.go h0A HV.out.room)
  have HD0 : Hid (∀ W, Below wA.heap.size wA W → T2 w1.heap.size m (.slice pu nu qu) W ∧ HK W (.slice pu nu qu) (keysOf L) ∧ HS W t (textsOf L) ∧ Below w.heap.size w W) := fun W hb => ⟨tA.below hb, kA.below hb, (sA.below hb).hs, h0A.trans (hb.mono h0A.size)⟩
  have htl : (textsOf L).length = m := by unfold textsOf; rw [List.length_map, keysOf_len, HM.out]
  obtain ⟨pt, ct, ht, htc, hcm2, -⟩ := sA.hs
  rw [htl] at ht htc
  subst ht
  clear tA kA sA h0A co htl
  go_wp2_with (first | (go_at_call 11; refine co1.mono ?_; rintro e wB ⟨rfl, hb2⟩; have HD : Hid (T2 w1.heap.size m (.slice pu nu qu) wB ∧ HK wB (.slice pu nu qu) (keysOf L) ∧ HS wB (.slice pt m ct) (textsOf L) ∧ Below w.heap.size w wB) := HD0.out wB hb2; clear hb2 hwA HD0) | (go_at_call 12; refine (sr _).mono ?_; rintro e w9 ⟨rfl, hw9⟩; subst hw9))
  clear sr co1 hr1 hr2
  have HB : Hid (T2 w1.heap.size m (.slice pu nu qu) w9 ∧ HK w9 (.slice pu nu qu) (keysOf L) ∧ Below w.heap.size w w9) := ⟨HD.out.1, HD.out.2.1, HD.out.2.2.2⟩
  obtain ⟨pt', ct', ht', -, -, htr⟩ := HD.out.2.2.1
  have htl : (textsOf L).length = m := by unfold textsOf; rw [List.length_map, keysOf_len, HM.out]
  rw [htl] at ht' htr
  cases ht'
  have HTR : Hid (m = 0 ∨ ∃ g, pt = some ⟨g, 0, none⟩ ∧ g < w9.heap.size ∧ ∀ (k : Nat) x, (textsOf L)[k]? = some x → w9.cell? ⟨g, k, none⟩ = some (.string x)) := htr
  have hm32 : m ≤ 32 := by have := HLL.out; have := HM.out; omega
  clear htr htl HD
  generalize hR : 1 + r0 = R at *
  clear hR
  go_loopg [8, 9, 10, 11, 12] (m + 1) (fun gk s8 _ _ _ _ wr => ∃ j : Nat, j ≤ m ∧ m + 1 ≤ j + gk ∧ s8 = .int .i64 j ∧ Below w9.heap.size w9 wr)
  case atStart => exact ⟨0, by omega, by omega, rfl, Below.refl _ _⟩
  case round =>
    obtain ⟨j, hj, hgk, rfl, hbr⟩ := hrel
    have HGK : Hid (m + 1 ≤ j + gk) := hgk
    have HBR : Hid (Below w9.heap.size w9 wr) := hbr
    clear hgk
    by_cases hlt : j < m
    · obtain ⟨g, rfl, hgl, hgc⟩ : ∃ g, pt = some ⟨g, 0, none⟩ ∧ g < w9.heap.size ∧ ∀ (k : Nat) x, (textsOf L)[k]? = some x → w9.cell? ⟨g, k, none⟩ = some (.string x) := by
        rcases HTR.out with h | h
        · omega
        · exact h
      have hjL : j < L.length := by have := HM.out; omega
      obtain ⟨x, hx⟩ : ∃ x, L[j]? = some x := ⟨L[j], List.getElem?_eq_getElem hjL⟩
      obtain ⟨hxl, hj32, hjn⟩ := HLs.out j x hx
      obtain ⟨b, off, rfl, hbl, hc⟩ : ∃ b off, p = some ⟨b, off, none⟩ ∧ b < w.heap.size ∧ ∀ k x, ls[k]? = some x → WAt w b (off + k * 3) x := by
        rcases HROW.out with h | h
        · omega
        · exact h
      have hwB := HB.out.2.2
      have hbB : b < w9.heap.size := Nat.lt_of_lt_of_le hbl hwB.size
      have hwat := (hc j x hxl).keep (hwB.block b hbl)
      have HTX : Hid (∀ k, k < m → ∃ T, (∀ W, Below w9.heap.size w9 W → W.cell? ⟨g, k, none⟩ = some (.string T)) ∧ (k ≠ j → (T.toList == (mkKy j x).text.toList) = false)) := fun k hk => by
        have hkL : k < L.length := by have := HM.out; omega
        have hy : L[k]? = some L[k] := List.getElem?_eq_getElem hkL
        refine ⟨(mkKy k L[k]).text, fun W hW => (hW.cell (p := ⟨g, k, none⟩) hgl).trans (hgc k _ (texts_at L k _ hy)), fun hne => ?_⟩
        rw [beq_ba]
        exact decide_eq_false (texts_ne HLL.out hx hy hne)
      have HCT : Hid (∀ W, Below w9.heap.size w9 W → W.cell? ⟨g, j, none⟩ = some (.string (mkKy j x).text)) := fun W hW => (hW.cell (p := ⟨g, j, none⟩) hgl).trans (hgc j _ (texts_at L j x hx))
      have cf1 := cf m (.slice pu nu qu) (mkKy j x).text wr.drew (HB.out.2.1.below hbr.drew)
      have hfo := find_own HLL.out hx R
      have ckd := fun W => keyed_any (mkKy j x).text W (by have := keyT_size j x.draw (by omega) (by omega); show (⟨(keyT j x.draw).toArray⟩ : ByteArray).size ≤ _; omega)
      have hkd : keyedB (mkKy j x).text = true := keyT_keyed j x.draw hj32
      rw [hkd] at ckd
      have sp := fun W => spot_any x.rights W
      have hq1 := sp3_lo x.rights
      have hq2 := sp3_hi x.rights
      obtain ⟨b1, b2, -, -, -⟩ := HB.out.1.below hbr
      have ctx := HCT.out wr hbr
      have hg1 : w1.heap.size < wr.drew.heap.size := (HB.out.1.below hbr).2.2.2.2
      have hg2 : g < wr.drew.heap.size := Nat.lt_of_lt_of_le hgl hbr.size
      have HEND : Hid (∀ W, Below wr.drew.heap.size wr.drew W → Below w9.heap.size w9 W ∧ W.cell? ⟨b, off + j * 3, none⟩ = some (.string x.name) ∧ W.cell? ⟨b, off + j * 3 + 1, none⟩ = some (.int .i64 x.rights)) := fun W hW => by
        have h1 : Below w9.heap.size w9 W := HBR.out.drew.trans (hW.mono HBR.out.size)
        exact ⟨h1, (h1.cell (p := ⟨b, off + j * 3, none⟩) hbB).trans hwat.1, (h1.cell (p := ⟨b, off + j * 3 + 1, none⟩) hbB).trans hwat.2.1⟩
      generalize (mkKy j x).text = TX at *
      have S0 : (wr.drew.cell? ⟨w1.heap.size, 0, none⟩ = some (.int .i64 m) ∧ wr.drew.cell? ⟨w1.heap.size, 1, none⟩ = some (.slice pu nu qu)) ∧ wr.drew.cell? ⟨g, j, none⟩ = some (.string TX) := ⟨⟨b1, b2⟩, ctx⟩
      have kp : ∀ W', Below wr.drew.heap.size wr.drew W' → (W'.cell? ⟨w1.heap.size, 0, none⟩ = some (.int .i64 m) ∧ W'.cell? ⟨w1.heap.size, 1, none⟩ = some (.slice pu nu qu)) ∧ W'.cell? ⟨g, j, none⟩ = some (.string TX) := fun W' hb => ⟨⟨(hb.cell (p := ⟨w1.heap.size, 0, none⟩) hg1).trans S0.1.1, (hb.cell (p := ⟨w1.heap.size, 1, none⟩) hg1).trans S0.1.2⟩, (hb.cell (p := ⟨g, j, none⟩) hg2).trans S0.2⟩
      have hi1 : (0 : Int) ≤ (j : Int) := by omega
      have hi2 : (j : Int) < (m : Int) := by omega
      have hi3 : (j : Int) < (n : Int) := by omega
      obtain ⟨nm, rt, dr⟩ := x
      simp only at hfo sp hq1 hq2 HEND
      generalize sp3 rt = q at *
      have hsame : (nm.toList != nm.toList) = false := by simp
      clear hc hgc ctx b1 b2 hbr hxl hx hwat hwB hjL hkd cf
      by_cases hlk : lacks (1 + q) R = true
      · rw [if_pos hlk] at hfo
        rw [hfo] at cf1
        simp only at cf1
        have l1 : (bits BinOp.and IntKind.i64 (1 + q) R != R) = true := hlk
        have l2 : (bits BinOp.and IntKind.i64 (1 + q) R == R) = false := by simpa [lacks] using hlk
        clear hlk hfo
        go_wp2_with fail
        go_region_held3 (fun W => (W.cell? ⟨w1.heap.size, 0, none⟩ = some (.int .i64 m) ∧ W.cell? ⟨w1.heap.size, 1, none⟩ = some (.slice pu nu qu)) ∧ W.cell? ⟨g, j, none⟩ = some (.string TX)) (first | exact S0 | exact kp _ hb4)
          (first | (go_at_call 13; refine cf1.mono ?_; rintro e w4 ⟨rfl, hb4⟩))
        have he := HEND.out w4 hb4
        have HE : Hid (Below w9.heap.size w9 w4) := he.1
        obtain ⟨c4, c5⟩ := he.2
        clear he kp S0 cf1
        obtain ⟨gK, hgK⟩ : ∃ a, a = gk := ⟨_, rfl⟩
        subst hgK
        obtain ⟨wR, hwR⟩ : ∃ a, a = wr := ⟨_, rfl⟩
        subst hwR
        go_wp2_with (first | (go_at_call 12; refine (sp _).mono ?_; rintro e w8 ⟨rfl, hw8⟩; have hw8' := hw8.symm; subst hw8'; clear hw8))
        clear c4 c5
        go_loopg [12] (j + 1) (fun gk s12 wr => ∃ k : Nat, k ≤ j ∧ j + 1 ≤ k + gk ∧ s12 = .int .i64 k ∧ Below w9.heap.size w9 wr)
        case atStart => exact ⟨0, by omega, by omega, rfl, HE.out⟩
        case round =>
          obtain ⟨k, hkj, hkg, rfl, hb5⟩ := hrel
          have HKG : Hid (j + 1 ≤ k + gk) := hkg
          have HB5 : Hid (Below w9.heap.size w9 wr) := hb5
          clear hkg
          have ctj := HCT.out wr hb5
          by_cases hk2 : k < j
          · obtain ⟨T, hT1, hT2⟩ := HTX.out k (by omega)
            have ctk := hT1 wr hb5
            have hbeq := hT2 (by omega)
            have hk3 : (k : Int) < (j : Int) := by omega
            have hk4 : (0 : Int) ≤ (k : Int) := by omega
            have hk5 : (k : Int) < (m : Int) := by omega
            clear hT1 hT2 hb5
            go_wp2_with fail
            go_region
            go_wp2_with fail
            go_roundg (gk - 1)
            case measure => have := HKG.out; omega
            case rel =>
              have h1 := HKG.out
              exact ⟨k + 1, by omega, by omega, by go_num, HB5.out.drew⟩
          · have hk3 : ¬ (k : Int) < (j : Int) := by omega
            have ck1 := ckd wr
            clear hb5
            go_wp2_with (first | (go_at_call 14; refine ck1.mono ?_; rintro e w6 ⟨rfl, hb6⟩))
            go_roundg (gK - 1)
            case measure => have := HGK.out; omega
            case rel =>
              have h1 := HGK.out
              exact ⟨j + 1, by omega, by omega, by go_num, HB5.out.trans (hb6.mono HB5.out.size)⟩
      · rw [if_neg hlk] at hfo
        rw [hfo] at cf1
        simp only at cf1
        have l1 : (bits BinOp.and IntKind.i64 (1 + q) R != R) = false := by simpa [lacks] using hlk
        have l2 : (bits BinOp.and IntKind.i64 (1 + q) R == R) = true := by simpa [lacks] using hlk
        clear hlk hfo
        go_wp2_with fail
        go_region_held3 (fun W => (W.cell? ⟨w1.heap.size, 0, none⟩ = some (.int .i64 m) ∧ W.cell? ⟨w1.heap.size, 1, none⟩ = some (.slice pu nu qu)) ∧ W.cell? ⟨g, j, none⟩ = some (.string TX)) (first | exact S0 | exact kp _ hb4)
          (first | (go_at_call 13; refine cf1.mono ?_; rintro e w4 ⟨rfl, hb4⟩))
        have he := HEND.out w4 hb4
        have HE : Hid (Below w9.heap.size w9 w4) := he.1
        obtain ⟨c4, c5⟩ := he.2
        clear he kp S0 cf1
        obtain ⟨gK, hgK⟩ : ∃ a, a = gk := ⟨_, rfl⟩
        subst hgK
        obtain ⟨wR, hwR⟩ : ∃ a, a = wr := ⟨_, rfl⟩
        subst hwR
        go_wp2_with (first | (go_at_call 12; refine (sp _).mono ?_; rintro e w8 ⟨rfl, hw8⟩; have hw8' := hw8.symm; subst hw8'; clear hw8))
        clear c4 c5
        go_loopg [12] (j + 1) (fun gk s12 wr => ∃ k : Nat, k ≤ j ∧ j + 1 ≤ k + gk ∧ s12 = .int .i64 k ∧ Below w9.heap.size w9 wr)
        case atStart => exact ⟨0, by omega, by omega, rfl, HE.out⟩
        case round =>
          obtain ⟨k, hkj, hkg, rfl, hb5⟩ := hrel
          have HKG : Hid (j + 1 ≤ k + gk) := hkg
          have HB5 : Hid (Below w9.heap.size w9 wr) := hb5
          clear hkg
          have ctj := HCT.out wr hb5
          by_cases hk2 : k < j
          · obtain ⟨T, hT1, hT2⟩ := HTX.out k (by omega)
            have ctk := hT1 wr hb5
            have hbeq := hT2 (by omega)
            have hk3 : (k : Int) < (j : Int) := by omega
            have hk4 : (0 : Int) ≤ (k : Int) := by omega
            have hk5 : (k : Int) < (m : Int) := by omega
            clear hT1 hT2 hb5
            go_wp2_with fail
            go_region
            go_wp2_with fail
            go_roundg (gk - 1)
            case measure => have := HKG.out; omega
            case rel =>
              have h1 := HKG.out
              exact ⟨k + 1, by omega, by omega, by go_num, HB5.out.drew⟩
          · have hk3 : ¬ (k : Int) < (j : Int) := by omega
            have ck1 := ckd wr
            clear hb5
            go_wp2_with (first | (go_at_call 14; refine ck1.mono ?_; rintro e w6 ⟨rfl, hb6⟩))
            go_roundg (gK - 1)
            case measure => have := HGK.out; omega
            case rel =>
              have h1 := HGK.out
              exact ⟨j + 1, by omega, by omega, by go_num, HB5.out.trans (hb6.mono HB5.out.size)⟩
    · have hq : ¬ (j : Int) < (m : Int) := by omega
      go_wp2_with fail
      go_ret
      exact ⟨rfl, HB.out.2.2.trans (HBR.out.mono HB.out.2.2.size)⟩
end Go.Proofs.YtpeffpgpiookpaaDoor
