/- The document's ReadRequest: the walk. -/
import Derived.Test.YtpghbchbhjbbiaaGreatDoorRqHead
namespace Go.Proofs.YtpghbchbhjbbiaaGreatDoor
open Go.RowKit

/-- midway in the form -/
structure FSt (w1 wr wl : World) (F : List UInt8) (ws : List ByteArray) (v i : Nat) (q : Rq) : Prop where
  at_ : QAt w1 wl q (.slice none 0 0)
  none_ : q.cells = []
  verb : q.verb = v
  bytes : ∀ k, k < F.length → wl.cell? ⟨wr.heap.size, k, none⟩ = some (.int .u8 (F.getD k 0).toNat)
  size : wr.heap.size < wl.heap.size
  form : formF ws F 0 { noRq with verb := v } = formF ws (F.drop i) i q
  past : ∀ k, k < i → F.getD k 0 ≠ 99
theorem FSt.only {w1 wr wl wl' : World} {F : List UInt8} {ws : List ByteArray} {v i : Nat} {q q' : Rq} (h : FSt w1 wr wl F ws v i q) (hlt : w1.heap.size < wr.heap.size) (ho : Only w1.heap.size wl wl') (hq : QAt w1 wl' q' (.slice none 0 0)) (hi : i < F.length) (hn : F.getD i 0 ≠ 99) (hw : i < ws.length) (hs : stepF (F.getD i 0) i (ws.getD i ⟨#[]⟩) q = (q', true)) (hc : q'.cells = []) (hv : q'.verb = v) : FSt w1 wr wl' F ws v (i + 1) q' := by
  refine ⟨hq, hc, hv, fun k hk => ?_, by have := h.size; have := ho.size; omega, ?_, fun k hk => ?_⟩
  · have hb := h.bytes k hk
    unfold World.cell? at hb ⊢
    rw [ho.block _ h.size (by show wr.heap.size ≠ _; omega)]
    exact hb
  · have hd : F.drop i = F.getD i 0 :: F.drop (i + 1) := by
      rw [List.drop_eq_getElem_cons hi]
      simp [List.getD, hi]
    rw [h.form, hd, formF, if_neg hn, if_pos hw, hs]
    rfl
  · by_cases e : k = i
    · rw [e]; exact hn
    · exact h.past k (by omega)
theorem FSt.bad {w1 wr wl : World} {F : List UInt8} {ws : List ByteArray} {v i : Nat} {q : Rq} (h : FSt w1 wr wl F ws v i q) (hi : i < F.length) (hn : F.getD i 0 ≠ 99) (hs : i < ws.length → (stepF (F.getD i 0) i (ws.getD i ⟨#[]⟩) q).2 = false) : formF ws F 0 { noRq with verb := v } = none := by
  have hd : F.drop i = F.getD i 0 :: F.drop (i + 1) := by
    rw [List.drop_eq_getElem_cons hi]
    simp [List.getD, hi]
  rw [h.form, hd, formF, if_neg hn]
  by_cases hw : i < ws.length
  · rw [if_pos hw, hs hw]
    rfl
  · rw [if_neg hw]
set_option maxRecDepth 20000 in
set_option maxHeartbeats 8000000 in
set_option linter.unusedSimpArgs false in
set_option linter.unusedVariables false in
theorem rr_rest (s : ByteArray) (w : World) (gv ov cv gf of cf : Nat) (hV : RVars w gv ov cv gf of cf) (hs : s.size ≤ 6000) (x0 : ByteArray) (ws : List ByteArray) (hws : pieceL 32 s.data.toList = x0 :: ws) (hset : verbF x0 ≠ 2) :
    Calls Tryz.prog 8 #[.string s] w (RefOut w (bodyF x0 ws)) := by
  have h1 : ¬ ((s.size : Nat) : Int) > 6000 := by omega
  have hsp := fun W => splitAt_any s 32 W (by omega)
  have HB : Hid (∀ o, Below w.heap.size w (w.alloc o)) := fun o => (Below.refl _ _).alloc (Nat.le_refl _) _
  go_enter Tryz.func8, Tryz.ntmps8
  go_wp2_with fail
  refine (hsp _).mono ?_
  rintro e w1 ⟨u, rfl, hr1, hb1⟩
  have HV1 : Hid (RVars w1 gv ov cv gf of cf) := (hV.go (HB.out _) (Nat.le_refl _)).go hb1 (Nat.le_refl _)
  have HB1 : Hid (Below w.heap.size w w1) := (HB.out _).trans (hb1.mono (HB.out _).size)
  have HR0 : Hid (SevIn w.heap.size (.int .i64 0) (.string ⟨#[]⟩) (.string ⟨#[]⟩) (.int .i64 0) (.int .i64 0) (.int .i64 0) (.slice none 0 0) w1) := (SevIn.born w (.int .i64 0) (.string ⟨#[]⟩) (.string ⟨#[]⟩) (.int .i64 0) (.int .i64 0) (.int .i64 0) (.slice none 0 0)).go hb1
  rw [hws] at hr1
  obtain ⟨g, cap, rfl, hgw, hgl⟩ := World.ownsRow.form hr1 (by simp)
  have hx0 : w1.cell? ⟨g, 0, none⟩ = some (.string x0) := by
    have := SRow.at_ hr1 0 (.string x0) rfl
    simpa [Addr.add] using this
  have HR1 : Hid (SRow w1 (w.alloc (.cells #[.int .i64 0, .string ⟨#[]⟩, .string ⟨#[]⟩, .int .i64 0, .int .i64 0, .int .i64 0, .slice none 0 0] 26)).heap.size (.slice (some ⟨g, 0, none⟩) (x0 :: ws).length cap) (x0 :: ws)) := hr1
  have HWS : Hid (pieceL 32 s.data.toList = x0 :: ws) := hws
  clear hsp hb1 hV hr1 hws HB
  go_wp2_with fail
  go_loopg [6] 10 (fun gk s6 wr => ∃ k : Nat, 1 ≤ k ∧ k + gk = 11 ∧ s6 = .int .i64 k ∧ QAt w1 wr ⟨seenV x0 k, ⟨#[]⟩, ⟨#[]⟩, 0, 0, 0, []⟩ (.slice none 0 0))
  case atStart => exact ⟨1, by omega, by omega, rfl, by
    have : seenV x0 1 = 0 := by unfold seenV; split <;> omega
    rw [this]
    exact QAt.born w1⟩
  case round =>
    obtain ⟨k, hk1, hk, rfl, hq⟩ := hrel
    have HV : Hid (RVars wr gv ov cv gf of cf) := HV1.out.go hq.2 (Nat.le_refl _)
    have a1 := HV.out.verbs
    have a3 : wr.cell? ⟨g, 0, none⟩ = some (.string x0) := by
      rw [← hx0]
      unfold World.cell?
      rw [hq.2.block _ hgl]
    have HK : Hid (k + gk = 11) := hk
    have HQ : Hid (QAt w1 wr ⟨seenV x0 k, ⟨#[]⟩, ⟨#[]⟩, 0, 0, 0, []⟩ (.slice none 0 0)) := hq
    clear hq
    by_cases hlt : k < 11
    · have hk2 : (k : Int) < 11 := by omega
      have a2 := HV.out.verbsAt k hlt
      obtain ⟨x, hx⟩ : ∃ x, x = verbL.getD k ⟨#[]⟩ := ⟨_, rfl⟩
      rw [← hx] at a2
      by_cases he : x0 = x
      · have HH : Hid (seenV x0 (k + 1) = k) := seen_hit hlt (he.trans hx)
        have c0 := HQ.out.cells 0
        have z0 := HQ.out.frozen 0
        have HS := HQ.out.drew.verbSet (k : Int)
        have HS : Hid (QAt w1 (wr.drew.setCell ⟨w1.heap.size, 0, none⟩ (.int .i64 k)) ⟨k, ⟨#[]⟩, ⟨#[]⟩, 0, 0, 0, []⟩ (.slice none 0 0)) := HS
        clear hx
        subst he
        clear hk
        go_wp2_with fail
        go_region_held3 (fun W => W.cell? ⟨0, 0, none⟩ = some (.slice (some ⟨gv, ov, none⟩) 11 cv) ∧ W.cell? ⟨gv, ov + k, none⟩ = some (.string x0) ∧ W.cell? ⟨g, 0, none⟩ = some (.string x0) ∧ W.cell? ⟨w1.heap.size, 0, none⟩ = some (.int .i64 (seenV x0 k)) ∧ W.frozen? ⟨w1.heap.size, 0, none⟩ = false) (exact ⟨a1, a2, a3, c0, z0⟩) (fail)
        go_wp2_with fail
        go_roundg (gk - 1)
        case measure => have := HK.out; omega
        case rel =>
          have := HK.out
          exact ⟨k + 1, by omega, by omega, by go_num, by rw [HH.out]; exact HS.out⟩
      · have HH : Hid (seenV x0 (k + 1) = seenV x0 k) := seen_miss hk1 (fun h => he (h.trans hx.symm))
        have hd : (x0.toList == x.toList) = false := by rw [beq_ba]; simpa using he
        clear hx he hk
        go_wp2_with fail
        go_region_held3 (fun W => W.cell? ⟨0, 0, none⟩ = some (.slice (some ⟨gv, ov, none⟩) 11 cv) ∧ W.cell? ⟨gv, ov + k, none⟩ = some (.string x) ∧ W.cell? ⟨g, 0, none⟩ = some (.string x0)) (exact ⟨a1, a2, a3⟩) (fail)
        go_wp2_with fail
        go_roundg (gk - 1)
        case measure => have := HK.out; omega
        case rel =>
          have := HK.out
          exact ⟨k + 1, by omega, by omega, by go_num, by rw [HH.out]; exact HQ.out.drew⟩
    · have hk2 : ¬ (k : Int) < 11 := by omega
      have hk3 : k = 11 := by omega
      subst hk3
      rw [seen_all] at HQ
      have c0 := HQ.out.cells 0
      have HBR : Hid (Below w.heap.size w wr) := HB1.out.trans (HQ.out.2.mono HB1.out.size)
      have HRR : Hid (SevIn w.heap.size (.int .i64 0) (.string ⟨#[]⟩) (.string ⟨#[]⟩) (.int .i64 0) (.int .i64 0) (.int .i64 0) (.slice none 0 0) wr) := (HQ.out.2.block _ HR0.out.lt).trans HR0.out
      by_cases hv0 : verbF x0 = 0
      · have HA : Hid (bodyF x0 ws = (noRq, 4)) := by show _ = _; unfold bodyF; rw [if_pos hv0]
        rw [hv0] at c0
        have c0 : wr.cell? ⟨w1.heap.size, 0, none⟩ = some (.int .i64 0) := c0
        clear hv0
        obtain ⟨s0, s1, s2, s3, s4, s5, s6⟩ := (HRR.out).cells
        have zr0 := (HRR.out).frozen 0
        have zr1 := (HRR.out).frozen 1
        have zr2 := (HRR.out).frozen 2
        have zr3 := (HRR.out).frozen 3
        have zr4 := (HRR.out).frozen 4
        have zr5 := (HRR.out).frozen 5
        have zr6 := (HRR.out).frozen 6
        go_wp2_with fail
        refine bodyPost_ret (v := .tuple #[noRq.val (.slice none 0 0), .int .i64 4]) ?_ rfl ?_
        · simp [results, Tryz.results8, go_sem, s0, s1, s2, s3, s4, s5, s6, noRq, Rq.val]
        · rw [HA.out]
          refine ref_no w 4 _ (below_mid (R := w.heap.size) (Q := w.heap.size) (HBR.out) ?_ (Nat.le_refl _) (Nat.le_refl _))
          repeat (first | refine Mid.set ?_ (Or.inl rfl) | refine Mid.drew ?_ | exact Mid.refl _ _ _)
      · obtain ⟨v, hv⟩ : ∃ v, v = verbF x0 := ⟨_, rfl⟩
        have hv1 : v < 11 := by rw [hv]; exact verb_lt x0
        have a4 := HV.out.form
        have a5 := HV.out.formAt v hv1
        have HA : Hid (bodyF x0 ws = match formF ws (formL.getD v []) 0 { noRq with verb := v } with | none => (noRq, 2) | some q => if v ≠ 2 then (if ws.length ≠ (formL.getD v []).length then (noRq, 2) else (q, 0)) else match pairsF [] (ws.drop 1) with | none => (noRq, 2) | some cs => ({ q with cells := cs }, 0)) := by
          show _ = _
          rw [hv]
          show bodyF x0 ws = _
          unfold bodyF
          rw [if_neg hv0]
          rfl
        rw [← hv] at c0 hv0 HQ
        have c0 : wr.cell? ⟨w1.heap.size, 0, none⟩ = some (.int .i64 v) := c0
        have HF : Hid ((formL.map fun l => (⟨l.toArray⟩ : ByteArray)).getD v ⟨#[]⟩ = ⟨(formL.getD v []).toArray⟩) := by
          show _ = _
          rw [List.getD_eq_getElem?_getD, List.getElem?_map, List.getD_eq_getElem?_getD]
          cases formL[v]? <;> rfl
        rw [HF.out] at a5
        have HFL : Hid ((formL.getD v []).length ≤ 2 ∧ (∀ c ∈ formL.getD v [], c = 110 ∨ c = 112 ∨ c = 114 ∨ c = 100 ∨ c = 99) ∧ (v = 2 → formL.getD v [] = [112, 99]) ∧ (v ≠ 2 → ∀ c ∈ formL.getD v [], c ≠ 99)) := by
          have : v = 0 ∨ v = 1 ∨ v = 2 ∨ v = 3 ∨ v = 4 ∨ v = 5 ∨ v = 6 ∨ v = 7 ∨ v = 8 ∨ v = 9 ∨ v = 10 := by omega
          show _ ∧ _
          rcases this with rfl | rfl | rfl | rfl | rfl | rfl | rfl | rfl | rfl | rfl | rfl <;> exact ⟨by decide, by decide, by decide, by decide⟩
        have HA5 : Hid (∀ W, Below w1.heap.size w1 W → W.cell? ⟨gf, of + v, none⟩ = some (.string ⟨(formL.getD v []).toArray⟩)) := fun W hW => by
          have h := (HV1.out.go hW (Nat.le_refl _)).formAt v hv1
          rw [HF.out] at h
          exact h
        generalize formL.getD v [] = F at *
        have HV2 : Hid (v ≠ 2) := by rw [hv]; exact hset
        clear HF hv hk hk2
        have hv2 : (v : Int) < 11 := by omega
        have hv3 : ¬ (v : Int) = 0 := by omega
        have hconv := fun W => Lib.run_convert_string_bytes (P := Tryz.prog) W 9 45 5 ⟨F.toArray⟩ Tryz.underlying9 Tryz.underlying45 Tryz.underlying5
        by_cases hcap : cap = 1
        · have HNIL : Hid (ws = []) := by
            show _ = _
            rcases HR1.out.2 with ⟨h0, _⟩ | ⟨g', cap', cur, hv', _, _, hle, _⟩
            · cases h0
            · cases hv'
              have h1 : ws.length + 1 ≤ cap := by simpa using hle
              exact List.eq_nil_of_length_eq_zero (by omega)
          subst hcap
          go_wp2_with fail
          clear hconv
          have hbw : Below wr.heap.size wr (Lib.bytesWorld wr 5 ⟨F.toArray⟩) := ⟨rfl, rfl, rfl, by rw [Lib.bytesWorld_size]; omega, fun j hj => Lib.bytesWorld_at_old wr 5 _ j hj⟩
          have hcell : ∀ k, k < F.length → (Lib.bytesWorld wr 5 ⟨F.toArray⟩).cell? ⟨wr.heap.size, k, none⟩ = some (.int .u8 (F.getD k 0).toNat) := fun k hk => Lib.bytesWorld_cell wr 5 ⟨F.toArray⟩ k (by simpa [ByteArray.size] using hk)
          have hszb : wr.heap.size < (Lib.bytesWorld wr 5 ⟨F.toArray⟩).heap.size := by rw [Lib.bytesWorld_size]; omega
          have HQB := HQ.out.go hbw
          have HQB : Hid (QAt w1 (Lib.bytesWorld wr 5 ⟨F.toArray⟩) ⟨v, ⟨#[]⟩, ⟨#[]⟩, 0, 0, 0, []⟩ (.slice none 0 0)) := HQB
          have HC : Hid (∀ k, k < F.length → (Lib.bytesWorld wr 5 ⟨F.toArray⟩).cell? ⟨wr.heap.size, k, none⟩ = some (.int .u8 (F.getD k 0).toNat)) := hcell
          have HSZ : Hid (wr.heap.size < (Lib.bytesWorld wr 5 ⟨F.toArray⟩).heap.size ∧ w1.heap.size < wr.heap.size) := ⟨hszb, (Array.getElem?_eq_some_iff.1 HQ.out.1).1⟩
          have hFs : (⟨F.toArray⟩ : ByteArray).size = F.length := by simp [ByteArray.size]
          clear hbw hcell hszb c0 a1 a3 a4 a5
          generalize grownCap wr (⟨F.toArray⟩ : ByteArray).size 0 5 = cp at *
          generalize Lib.bytesWorld wr 5 ⟨F.toArray⟩ = wb at *
          have HSM : Hid (∀ x ∈ ws, x.size ≤ 6000) := fun x hx => by
            have h1 := words_small s x (by rw [← pieceL_words, HWS.out]; simp [hx])
            omega
          have HW : Hid (∀ W, Below w1.heap.size w1 W → ∀ i, i < ws.length → W.cell? ⟨g, 1 + i, none⟩ = some (.string (ws.getD i ⟨#[]⟩))) := fun W hW i hi => by
            have h1 := SRow.at_ HR1.out (i + 1) (.string (ws.getD i ⟨#[]⟩)) (by simp [List.getD, hi])
            have h2 : w1.cell? ⟨g, 1 + i, none⟩ = some (.string (ws.getD i ⟨#[]⟩)) := by
              simpa [Addr.add, Nat.add_comm] using h1
            rw [← h2]
            unfold World.cell?
            rw [hW.block _ hgl]
          have HF0 : Hid (FSt w1 wr wb F ws v 0 ⟨v, ⟨#[]⟩, ⟨#[]⟩, 0, 0, 0, []⟩) := ⟨HQB.out, rfl, rfl, HC.out, HSZ.out.1, by rw [List.drop_zero]; rfl, fun k hk => absurd hk (by omega)⟩
          clear HQB HC
          clear hFs
          obtain ⟨wR, hwR⟩ : ∃ a, a = wr := ⟨_, rfl⟩
          subst hwR
          obtain ⟨gK, hgK⟩ : ∃ a, a = gk := ⟨_, rfl⟩
          subst hgK
          go_loopg [53] F.length (fun gl s53 wl => ∃ (i : Nat) (q : Rq), i + gl = F.length ∧ i ≤ ws.length ∧ s53 = .int .i64 i ∧ FSt w1 wR wl F ws v i q)
          case atStart => exact ⟨0, _, by omega, by omega, rfl, HF0.out⟩
          case round =>
            obtain ⟨i, q, hi, hiw, rfl, hst⟩ := hrel
            have HG : Hid (i + gk = F.length) := hi
            have HSEV : Hid (∀ {W : World}, Below w1.heap.size w1 W → SevIn w.heap.size (.int .i64 0) (.string ⟨#[]⟩) (.string ⟨#[]⟩) (.int .i64 0) (.int .i64 0) (.int .i64 0) (.slice none 0 0) W) := fun hW => (hW.block _ HR0.out.lt).trans HR0.out
            have hne : w.heap.size ≠ w1.heap.size := by have := HR0.out.lt; omega
            have HST : Hid (FSt w1 wR wr F ws v i q) := hst
            have HBW : Hid (∀ {W : World}, Below w1.heap.size w1 W → Below w.heap.size w W) := fun hW => HB1.out.trans (hW.mono HB1.out.size)
            clear hst hi
            by_cases hlt : i < F.length
            · have hq1 : (i : Int) < (F.length : Int) := by omega
              have hby := HST.out.bytes i hlt
              have hi5 : (i : Int) < 3 := by have := HFL.out.1; omega
              have HLET := HFL.out.2.1 (F.getD i 0) (by rw [List.getD_eq_getElem?_getD, List.getElem?_eq_getElem hlt]; exact List.getElem_mem hlt)
              by_cases h99 : F.getD i 0 = 99
              · have hi00 : i = 0 := by have := HNIL.out; rw [this] at hiw; simpa using hiw
                by_cases h2 : v = 2
                · have h3 := HFL.out.2.2.1 h2
                  rw [h3, hi00] at h99
                  exact absurd h99 (by decide)
                · have h3 := HFL.out.2.2.2 h2 (F.getD i 0) (by rw [List.getD_eq_getElem?_getD, List.getElem?_eq_getElem hlt]; exact List.getElem_mem hlt)
                  exact absurd h99 h3
              · have HN : Hid (F.getD i 0 ≠ 99) := h99
                by_cases hiw2 : i < ws.length
                · exact absurd hiw2 (by rw [HNIL.out]; exact Nat.not_lt_zero _)
                · have HA2 : Hid (bodyF x0 ws = (noRq, 2)) := by show _ = _; rw [HA.out, HST.out.bad hlt HN.out (fun h => absurd h hiw2)]
                  have hiw3 : ¬ (i : Int) < (ws.length : Int) := by omega
                  obtain ⟨d, hd⟩ : ∃ d, d = (F.getD i 0).toNat := ⟨_, rfl⟩
                  rw [← hd] at hby
                  have hd2 : ¬ (d : Int) = 99 := by
                    rw [hd]; intro h; exact h99 (UInt8.toNat_inj.1 (by show _ = 99; omega))
                  clear hd
                  obtain ⟨s0, s1, s2, s3, s4, s5, s6⟩ := (HSEV.out HST.out.at_.2).cells
                  have zr0 := (HSEV.out HST.out.at_.2).frozen 0
                  have zr1 := (HSEV.out HST.out.at_.2).frozen 1
                  have zr2 := (HSEV.out HST.out.at_.2).frozen 2
                  have zr3 := (HSEV.out HST.out.at_.2).frozen 3
                  have zr4 := (HSEV.out HST.out.at_.2).frozen 4
                  have zr5 := (HSEV.out HST.out.at_.2).frozen 5
                  have zr6 := (HSEV.out HST.out.at_.2).frozen 6
                  go_wp2_with fail
                  refine bodyPost_ret (v := .tuple #[noRq.val (.slice none 0 0), .int .i64 2]) ?_ rfl ?_
                  · simp [results, Tryz.results8, go_sem, s0, s1, s2, s3, s4, s5, s6, noRq, Rq.val]
                  · rw [HA2.out]
                    refine ref_no w 2 _ (below_mid (R := w.heap.size) (Q := w1.heap.size) (HBW.out HST.out.at_.2) ?_ (Nat.le_refl _) HB1.out.size)
                    repeat (first | refine Mid.set ?_ (Or.inl rfl) | refine Mid.set ?_ (Or.inr rfl) | refine Mid.drew ?_ | exact Mid.refl _ _ _)
            · have hq1 : ¬ (i : Int) < (F.length : Int) := by omega
              have hiF : i = F.length := by have := HG.out; omega
              have hv22 : v ≠ 2 := by
                intro h
                have h2 := HFL.out.2.2.1 h
                have h3 := HST.out.past 1 (by rw [hiF, h2]; decide)
                rw [h2] at h3
                exact h3 rfl
              have hv23 : ¬ (v : Int) = 2 := by omega
              have HFM : Hid (formF ws F 0 { noRq with verb := v } = some q) := by
                show _ = _
                rw [HST.out.form, hiF, List.drop_length, formF]
              have hcv : wr.cell? ⟨w1.heap.size, 0, none⟩ = some (.int .i64 v) := by
                have := HST.out.at_.cells 0
                rw [HST.out.verb] at this
                exact this
              have a4 := (HV1.out.go HST.out.at_.2 (Nat.le_refl _)).form
              have a5 := HA5.out wr HST.out.at_.2
              have hFs : (⟨F.toArray⟩ : ByteArray).size = F.length := by simp [ByteArray.size]
              generalize hFT : (⟨F.toArray⟩ : ByteArray) = FT at *
              clear hFT
              by_cases hlen : ws.length = F.length
              · have HA2 : Hid (bodyF x0 ws = (q, 0)) := by
                  show _ = _
                  rw [HA.out, HFM.out]
                  simp only
                  rw [if_pos hv22, if_neg (fun h => h hlen)]
                have hlen2 : (ws.length : Int) = (F.length : Int) := by omega
                have q1 : wr.cell? ⟨w1.heap.size, 1, none⟩ = some (.string q.name) := HST.out.at_.cells 1
                have q2 : wr.cell? ⟨w1.heap.size, 2, none⟩ = some (.string q.other) := HST.out.at_.cells 2
                have q3 : wr.cell? ⟨w1.heap.size, 3, none⟩ = some (.int .i64 q.born) := HST.out.at_.cells 3
                have q4 : wr.cell? ⟨w1.heap.size, 4, none⟩ = some (.int .i64 q.live) := HST.out.at_.cells 4
                have q5 : wr.cell? ⟨w1.heap.size, 5, none⟩ = some (.int .i64 q.n) := HST.out.at_.cells 5
                have q6 : wr.cell? ⟨w1.heap.size, 6, none⟩ = some (.slice none 0 0) := HST.out.at_.cells 6
                obtain ⟨s0, s1, s2, s3, s4, s5, s6⟩ := (HSEV.out HST.out.at_.2).cells
                have zr0 := (HSEV.out HST.out.at_.2).frozen 0
                have zr1 := (HSEV.out HST.out.at_.2).frozen 1
                have zr2 := (HSEV.out HST.out.at_.2).frozen 2
                have zr3 := (HSEV.out HST.out.at_.2).frozen 3
                have zr4 := (HSEV.out HST.out.at_.2).frozen 4
                have zr5 := (HSEV.out HST.out.at_.2).frozen 5
                have zr6 := (HSEV.out HST.out.at_.2).frozen 6
                go_wp2_with fail
                refine bodyPost_ret (v := .tuple #[.agg #[.int .i64 v, .string q.name, .string q.other, .int .i64 q.born, .int .i64 q.live, .int .i64 q.n, .slice none 0 0], .int .i64 0]) ?_ rfl ?_
                · simp [results, Tryz.results8, go_sem, s0, s1, s2, s3, s4, s5, s6, hne, hne.symm]
                · refine ⟨below_mid (R := w.heap.size) (Q := w1.heap.size) (HBW.out HST.out.at_.2) ?_ (Nat.le_refl _) HB1.out.size, .slice none 0 0, ?_, ?_⟩
                  · repeat (first | refine Mid.set ?_ (Or.inl rfl) | refine Mid.set ?_ (Or.inr rfl) | refine Mid.drew ?_ | exact Mid.refl _ _ _)
                  · rw [HA2.out]
                    unfold Rq.val
                    simp only [HST.out.verb]
                  · rw [HA2.out]
                    simp only [HST.out.none_]
                    exact crow_nil _ _
              · have HA2 : Hid (bodyF x0 ws = (noRq, 2)) := by
                  show _ = _
                  rw [HA.out, HFM.out]
                  simp only
                  rw [if_pos hv22, if_pos hlen]
                have hlen2 : ¬ (ws.length : Int) = (F.length : Int) := by omega
                obtain ⟨s0, s1, s2, s3, s4, s5, s6⟩ := (HSEV.out HST.out.at_.2).cells
                have zr0 := (HSEV.out HST.out.at_.2).frozen 0
                have zr1 := (HSEV.out HST.out.at_.2).frozen 1
                have zr2 := (HSEV.out HST.out.at_.2).frozen 2
                have zr3 := (HSEV.out HST.out.at_.2).frozen 3
                have zr4 := (HSEV.out HST.out.at_.2).frozen 4
                have zr5 := (HSEV.out HST.out.at_.2).frozen 5
                have zr6 := (HSEV.out HST.out.at_.2).frozen 6
                go_wp2_with fail
                refine bodyPost_ret (v := .tuple #[noRq.val (.slice none 0 0), .int .i64 2]) ?_ rfl ?_
                · simp [results, Tryz.results8, go_sem, s0, s1, s2, s3, s4, s5, s6, noRq, Rq.val, hne, hne.symm]
                · rw [HA2.out]
                  refine ref_no w 2 _ (below_mid (R := w.heap.size) (Q := w1.heap.size) (HBW.out HST.out.at_.2) ?_ (Nat.le_refl _) HB1.out.size)
                  repeat (first | refine Mid.set ?_ (Or.inl rfl) | refine Mid.set ?_ (Or.inr rfl) | refine Mid.drew ?_ | exact Mid.refl _ _ _)
        · have HCAP : Hid (cap ≠ 1) := hcap
          go_wp2_with fail
          clear hconv
          have hbw : Below wr.heap.size wr (Lib.bytesWorld wr 5 ⟨F.toArray⟩) := ⟨rfl, rfl, rfl, by rw [Lib.bytesWorld_size]; omega, fun j hj => Lib.bytesWorld_at_old wr 5 _ j hj⟩
          have hcell : ∀ k, k < F.length → (Lib.bytesWorld wr 5 ⟨F.toArray⟩).cell? ⟨wr.heap.size, k, none⟩ = some (.int .u8 (F.getD k 0).toNat) := fun k hk => Lib.bytesWorld_cell wr 5 ⟨F.toArray⟩ k (by simpa [ByteArray.size] using hk)
          have hszb : wr.heap.size < (Lib.bytesWorld wr 5 ⟨F.toArray⟩).heap.size := by rw [Lib.bytesWorld_size]; omega
          have HQB := HQ.out.go hbw
          have HQB : Hid (QAt w1 (Lib.bytesWorld wr 5 ⟨F.toArray⟩) ⟨v, ⟨#[]⟩, ⟨#[]⟩, 0, 0, 0, []⟩ (.slice none 0 0)) := HQB
          have HC : Hid (∀ k, k < F.length → (Lib.bytesWorld wr 5 ⟨F.toArray⟩).cell? ⟨wr.heap.size, k, none⟩ = some (.int .u8 (F.getD k 0).toNat)) := hcell
          have HSZ : Hid (wr.heap.size < (Lib.bytesWorld wr 5 ⟨F.toArray⟩).heap.size ∧ w1.heap.size < wr.heap.size) := ⟨hszb, (Array.getElem?_eq_some_iff.1 HQ.out.1).1⟩
          have hFs : (⟨F.toArray⟩ : ByteArray).size = F.length := by simp [ByteArray.size]
          clear hbw hcell hszb c0 a1 a3 a4 a5
          generalize grownCap wr (⟨F.toArray⟩ : ByteArray).size 0 5 = cp at *
          generalize Lib.bytesWorld wr 5 ⟨F.toArray⟩ = wb at *
          have HSM : Hid (∀ x ∈ ws, x.size ≤ 6000) := fun x hx => by
            have h1 := words_small s x (by rw [← pieceL_words, HWS.out]; simp [hx])
            omega
          have HW : Hid (∀ W, Below w1.heap.size w1 W → ∀ i, i < ws.length → W.cell? ⟨g, 1 + i, none⟩ = some (.string (ws.getD i ⟨#[]⟩))) := fun W hW i hi => by
            have h1 := SRow.at_ HR1.out (i + 1) (.string (ws.getD i ⟨#[]⟩)) (by simp [List.getD, hi])
            have h2 : w1.cell? ⟨g, 1 + i, none⟩ = some (.string (ws.getD i ⟨#[]⟩)) := by
              simpa [Addr.add, Nat.add_comm] using h1
            rw [← h2]
            unfold World.cell?
            rw [hW.block _ hgl]
          have HF0 : Hid (FSt w1 wr wb F ws v 0 ⟨v, ⟨#[]⟩, ⟨#[]⟩, 0, 0, 0, []⟩) := ⟨HQB.out, rfl, rfl, HC.out, HSZ.out.1, by rw [List.drop_zero]; rfl, fun k hk => absurd hk (by omega)⟩
          clear HQB HC
          clear hFs
          obtain ⟨wR, hwR⟩ : ∃ a, a = wr := ⟨_, rfl⟩
          subst hwR
          obtain ⟨gK, hgK⟩ : ∃ a, a = gk := ⟨_, rfl⟩
          subst hgK
          go_loopg [53] F.length (fun gl s53 wl => ∃ (i : Nat) (q : Rq), i + gl = F.length ∧ i ≤ ws.length ∧ s53 = .int .i64 i ∧ FSt w1 wR wl F ws v i q)
          case atStart => exact ⟨0, _, by omega, by omega, rfl, HF0.out⟩
          case round =>
            obtain ⟨i, q, hi, hiw, rfl, hst⟩ := hrel
            have HG : Hid (i + gk = F.length) := hi
            have HSEV : Hid (∀ {W : World}, Below w1.heap.size w1 W → SevIn w.heap.size (.int .i64 0) (.string ⟨#[]⟩) (.string ⟨#[]⟩) (.int .i64 0) (.int .i64 0) (.int .i64 0) (.slice none 0 0) W) := fun hW => (hW.block _ HR0.out.lt).trans HR0.out
            have hne : w.heap.size ≠ w1.heap.size := by have := HR0.out.lt; omega
            have HST : Hid (FSt w1 wR wr F ws v i q) := hst
            have HBW : Hid (∀ {W : World}, Below w1.heap.size w1 W → Below w.heap.size w W) := fun hW => HB1.out.trans (hW.mono HB1.out.size)
            clear hst hi
            by_cases hlt : i < F.length
            · have hq1 : (i : Int) < (F.length : Int) := by omega
              have hby := HST.out.bytes i hlt
              have hi5 : (i : Int) < 3 := by have := HFL.out.1; omega
              have HLET := HFL.out.2.1 (F.getD i 0) (by rw [List.getD_eq_getElem?_getD, List.getElem?_eq_getElem hlt]; exact List.getElem_mem hlt)
              by_cases h99 : F.getD i 0 = 99
              · have h3 := HFL.out.2.2.2 HV2.out (F.getD i 0) (by rw [List.getD_eq_getElem?_getD, List.getElem?_eq_getElem hlt]; exact List.getElem_mem hlt)
                exact absurd h99 h3
              · have HN : Hid (F.getD i 0 ≠ 99) := h99
                by_cases hiw2 : i < ws.length
                · have hiw3 : (i : Int) < (ws.length : Int) := by omega
                  have HX : Hid ((ws.getD i ⟨#[]⟩).size ≤ 6000) := HSM.out _ (by rw [List.getD_eq_getElem?_getD, List.getElem?_eq_getElem hiw2]; exact List.getElem_mem hiw2)
                  have hcw := HW.out wr HST.out.at_.2 i hiw2
                  have HSF : Hid (∀ q', stepF (F.getD i 0) i (ws.getD i ⟨#[]⟩) q = q' → stepF (F.getD i 0) i (ws.getD i ⟨#[]⟩) q = q') := fun _ h => h
                  rcases HLET with hL | hL | hL | hL | hL
                  · rw [hL] at hby
                    by_cases hi0 : i = 0
                    · subst hi0
                      have hw0 : ¬ ws.length = 0 := by omega
                      by_cases hnm : namedB (ws.getD 0 ⟨#[]⟩) = true
                      · have hdum : True := trivial
                        have HSTEP : Hid (stepF (F.getD 0 0) 0 (ws.getD 0 ⟨#[]⟩) q = ({ q with name := ws.getD 0 ⟨#[]⟩ }, true)) := by
                          show _ = _
                          unfold stepF
                          rw [if_pos hL, if_pos rfl, hnm]
                        have HGO : Hid (∀ wl', Only w1.heap.size wr wl' → QAt w1 wl' { q with name := ws.getD 0 ⟨#[]⟩ } (.slice none 0 0) → FSt w1 wR wl' F ws v (0 + 1) { q with name := ws.getD 0 ⟨#[]⟩ }) := fun wl' ho hq => FSt.only HST.out HSZ.out.2 ho hq hlt HN.out hiw2 HSTEP.out HST.out.none_ HST.out.verb
                        clear HSTEP
                        have HW0 : Hid (∀ W, Below w1.heap.size w1 W → W.cell? ⟨g, 1 + 0, none⟩ = some (.string (ws.getD 0 ⟨#[]⟩))) := fun W hW => HW.out W hW 0 hiw2
                        have hc := fun W => refNamed_any (ws.getD 0 ⟨#[]⟩) W (by have := HX.out; omega)
                        simp only [hnm] at hc
                        clear hnm
                        clear hL h99
                        generalize ws.getD 0 ⟨#[]⟩ = x at *
                        go_wp2_with fail
                        refine (hc wr).mono ?_
                        rintro e w2 ⟨rfl, hb2⟩
                        have HQ2 : Hid (QAt w1 w2 q (.slice none 0 0)) := HST.out.at_.go hb2
                        have HO2 : Hid (Only w1.heap.size wr w2) := Only.of hb2
                        have hcw2 := HW0.out w2 HQ2.out.2
                        have q1 : w2.cell? ⟨w1.heap.size, 1, none⟩ = some (.string q.name) := HQ2.out.cells 1
                        have z1 := HQ2.out.frozen 1
                        clear hb2 hcw hby
                        go_wp2_with fail
                        go_roundg (gk - 1)
                        case measure => have := HG.out; omega
                        case rel =>
                          have := HG.out
                          exact ⟨0 + 1, _, by omega, by omega, by go_num, HGO.out _ (HO2.out.trans (Only.set _ _ _)) (HQ2.out.nameSet _)⟩
                      · have hnm := Bool.eq_false_iff.2 hnm
                        have HA2 : Hid (bodyF x0 ws = (noRq, 2)) := by
                          show _ = _
                          rw [HA.out, HST.out.bad hlt HN.out (fun _ => by
                            unfold stepF
                            rw [if_pos hL, if_pos rfl]
                            exact hnm)]
                        have HW0 : Hid (∀ W, Below w1.heap.size w1 W → W.cell? ⟨g, 1 + 0, none⟩ = some (.string (ws.getD 0 ⟨#[]⟩))) := fun W hW => HW.out W hW 0 hiw2
                        have hc := fun W => refNamed_any (ws.getD 0 ⟨#[]⟩) W (by have := HX.out; omega)
                        simp only [hnm] at hc
                        clear hnm
                        clear hL h99
                        generalize ws.getD 0 ⟨#[]⟩ = x at *
                        go_wp2_with fail
                        refine (hc wr).mono ?_
                        rintro e w2 ⟨rfl, hb2⟩
                        have HQ2 : Hid (QAt w1 w2 q (.slice none 0 0)) := HST.out.at_.go hb2
                        have HO2 : Hid (Only w1.heap.size wr w2) := Only.of hb2
                        have hcw2 := HW0.out w2 HQ2.out.2
                        have q1 : w2.cell? ⟨w1.heap.size, 1, none⟩ = some (.string q.name) := HQ2.out.cells 1
                        have z1 := HQ2.out.frozen 1
                        obtain ⟨s0, s1, s2, s3, s4, s5, s6⟩ := (HSEV.out HQ2.out.2).cells
                        have zr0 := (HSEV.out HQ2.out.2).frozen 0
                        have zr1 := (HSEV.out HQ2.out.2).frozen 1
                        have zr2 := (HSEV.out HQ2.out.2).frozen 2
                        have zr3 := (HSEV.out HQ2.out.2).frozen 3
                        have zr4 := (HSEV.out HQ2.out.2).frozen 4
                        have zr5 := (HSEV.out HQ2.out.2).frozen 5
                        have zr6 := (HSEV.out HQ2.out.2).frozen 6
                        clear hb2 hcw hby
                        go_wp2_with fail
                        refine bodyPost_ret (v := .tuple #[noRq.val (.slice none 0 0), .int .i64 2]) ?_ rfl ?_
                        · simp [results, Tryz.results8, go_sem, s0, s1, s2, s3, s4, s5, s6, noRq, Rq.val, hne, hne.symm]
                        · rw [HA2.out]
                          refine ref_no w 2 _ (below_mid (R := w.heap.size) (Q := w1.heap.size) (HBW.out HQ2.out.2) ?_ (Nat.le_refl _) HB1.out.size)
                          repeat (first | refine Mid.set ?_ (Or.inl rfl) | refine Mid.set ?_ (Or.inr rfl) | refine Mid.drew ?_ | exact Mid.refl _ _ _)
                    · have hi4 : ¬ (i : Int) = 0 := by omega
                      by_cases hnm : namedB (ws.getD i ⟨#[]⟩) = true
                      · have hdum : True := trivial
                        have HSTEP : Hid (stepF (F.getD i 0) i (ws.getD i ⟨#[]⟩) q = ({ q with other := ws.getD i ⟨#[]⟩ }, true)) := by
                          show _ = _
                          unfold stepF
                          rw [if_pos hL, if_neg hi0, hnm]
                        have HGO : Hid (∀ wl', Only w1.heap.size wr wl' → QAt w1 wl' { q with other := ws.getD i ⟨#[]⟩ } (.slice none 0 0) → FSt w1 wR wl' F ws v (i + 1) { q with other := ws.getD i ⟨#[]⟩ }) := fun wl' ho hq => FSt.only HST.out HSZ.out.2 ho hq hlt HN.out hiw2 HSTEP.out HST.out.none_ HST.out.verb
                        clear HSTEP
                        have HW0 : Hid (∀ W, Below w1.heap.size w1 W → W.cell? ⟨g, 1 + i, none⟩ = some (.string (ws.getD i ⟨#[]⟩))) := fun W hW => HW.out W hW i hiw2
                        have hc := fun W => refNamed_any (ws.getD i ⟨#[]⟩) W (by have := HX.out; omega)
                        simp only [hnm] at hc
                        clear hnm
                        clear hL h99
                        generalize ws.getD i ⟨#[]⟩ = x at *
                        go_wp2_with fail
                        refine (hc wr).mono ?_
                        rintro e w2 ⟨rfl, hb2⟩
                        have HQ2 : Hid (QAt w1 w2 q (.slice none 0 0)) := HST.out.at_.go hb2
                        have HO2 : Hid (Only w1.heap.size wr w2) := Only.of hb2
                        have hcw2 := HW0.out w2 HQ2.out.2
                        have q2 : w2.cell? ⟨w1.heap.size, 2, none⟩ = some (.string q.other) := HQ2.out.cells 2
                        have z2 := HQ2.out.frozen 2
                        clear hb2 hcw hby
                        go_wp2_with fail
                        go_roundg (gk - 1)
                        case measure => have := HG.out; omega
                        case rel =>
                          have := HG.out
                          exact ⟨i + 1, _, by omega, by omega, by go_num, HGO.out _ (HO2.out.trans (Only.set _ _ _)) (HQ2.out.otherSet _)⟩
                      · have hnm := Bool.eq_false_iff.2 hnm
                        have HA2 : Hid (bodyF x0 ws = (noRq, 2)) := by
                          show _ = _
                          rw [HA.out, HST.out.bad hlt HN.out (fun _ => by
                            unfold stepF
                            rw [if_pos hL, if_neg hi0]
                            exact hnm)]
                        have HW0 : Hid (∀ W, Below w1.heap.size w1 W → W.cell? ⟨g, 1 + i, none⟩ = some (.string (ws.getD i ⟨#[]⟩))) := fun W hW => HW.out W hW i hiw2
                        have hc := fun W => refNamed_any (ws.getD i ⟨#[]⟩) W (by have := HX.out; omega)
                        simp only [hnm] at hc
                        clear hnm
                        clear hL h99
                        generalize ws.getD i ⟨#[]⟩ = x at *
                        go_wp2_with fail
                        refine (hc wr).mono ?_
                        rintro e w2 ⟨rfl, hb2⟩
                        have HQ2 : Hid (QAt w1 w2 q (.slice none 0 0)) := HST.out.at_.go hb2
                        have HO2 : Hid (Only w1.heap.size wr w2) := Only.of hb2
                        have hcw2 := HW0.out w2 HQ2.out.2
                        have q2 : w2.cell? ⟨w1.heap.size, 2, none⟩ = some (.string q.other) := HQ2.out.cells 2
                        have z2 := HQ2.out.frozen 2
                        obtain ⟨s0, s1, s2, s3, s4, s5, s6⟩ := (HSEV.out HQ2.out.2).cells
                        have zr0 := (HSEV.out HQ2.out.2).frozen 0
                        have zr1 := (HSEV.out HQ2.out.2).frozen 1
                        have zr2 := (HSEV.out HQ2.out.2).frozen 2
                        have zr3 := (HSEV.out HQ2.out.2).frozen 3
                        have zr4 := (HSEV.out HQ2.out.2).frozen 4
                        have zr5 := (HSEV.out HQ2.out.2).frozen 5
                        have zr6 := (HSEV.out HQ2.out.2).frozen 6
                        clear hb2 hcw hby
                        go_wp2_with fail
                        refine bodyPost_ret (v := .tuple #[noRq.val (.slice none 0 0), .int .i64 2]) ?_ rfl ?_
                        · simp [results, Tryz.results8, go_sem, s0, s1, s2, s3, s4, s5, s6, noRq, Rq.val, hne, hne.symm]
                        · rw [HA2.out]
                          refine ref_no w 2 _ (below_mid (R := w.heap.size) (Q := w1.heap.size) (HBW.out HQ2.out.2) ?_ (Nat.le_refl _) HB1.out.size)
                          repeat (first | refine Mid.set ?_ (Or.inl rfl) | refine Mid.set ?_ (Or.inr rfl) | refine Mid.drew ?_ | exact Mid.refl _ _ _)
                  · rw [hL] at hby
                    have hn1 : ¬ F.getD i 0 = 110 := by rw [hL]; decide
                    by_cases hnm : namedB (ws.getD i ⟨#[]⟩) = true
                    · have hdum : True := trivial
                      have HSTEP : Hid (stepF (F.getD i 0) i (ws.getD i ⟨#[]⟩) q = ({ q with name := ws.getD i ⟨#[]⟩ }, true)) := by
                        show _ = _
                        unfold stepF
                        rw [if_neg hn1, if_pos hL, hnm]
                        rfl
                      have HGO : Hid (∀ wl', Only w1.heap.size wr wl' → QAt w1 wl' { q with name := ws.getD i ⟨#[]⟩ } (.slice none 0 0) → FSt w1 wR wl' F ws v (i + 1) { q with name := ws.getD i ⟨#[]⟩ }) := fun wl' ho hq => FSt.only HST.out HSZ.out.2 ho hq hlt HN.out hiw2 HSTEP.out HST.out.none_ HST.out.verb
                      clear HSTEP
                      have HW0 : Hid (∀ W, Below w1.heap.size w1 W → W.cell? ⟨g, 1 + i, none⟩ = some (.string (ws.getD i ⟨#[]⟩))) := fun W hW => HW.out W hW i hiw2
                      have hc := fun W => refNamed_any (ws.getD i ⟨#[]⟩) W (by have := HX.out; omega)
                      simp only [hnm] at hc
                      clear hnm
                      clear hL h99
                      generalize ws.getD i ⟨#[]⟩ = x at *
                      clear hn1
                      go_wp2_with fail
                      refine (hc wr).mono ?_
                      rintro e w2 ⟨rfl, hb2⟩
                      have HQ2 : Hid (QAt w1 w2 q (.slice none 0 0)) := HST.out.at_.go hb2
                      have HO2 : Hid (Only w1.heap.size wr w2) := Only.of hb2
                      have hcw2 := HW0.out w2 HQ2.out.2
                      have q1 : w2.cell? ⟨w1.heap.size, 1, none⟩ = some (.string q.name) := HQ2.out.cells 1
                      have z1 := HQ2.out.frozen 1
                      clear hb2 hcw hby
                      go_wp2_with fail
                      go_roundg (gk - 1)
                      case measure => have := HG.out; omega
                      case rel =>
                        have := HG.out
                        exact ⟨i + 1, _, by omega, by omega, by go_num, HGO.out _ (HO2.out.trans (Only.set _ _ _)) (HQ2.out.nameSet _)⟩
                    · have hnm := Bool.eq_false_iff.2 hnm
                      by_cases hkd : keyedB (ws.getD i ⟨#[]⟩) = true
                      · have hdum : True := trivial
                        have HSTEP : Hid (stepF (F.getD i 0) i (ws.getD i ⟨#[]⟩) q = ({ q with name := ws.getD i ⟨#[]⟩ }, true)) := by
                          show _ = _
                          unfold stepF
                          rw [if_neg hn1, if_pos hL, hnm, hkd]
                          rfl
                        have HGO : Hid (∀ wl', Only w1.heap.size wr wl' → QAt w1 wl' { q with name := ws.getD i ⟨#[]⟩ } (.slice none 0 0) → FSt w1 wR wl' F ws v (i + 1) { q with name := ws.getD i ⟨#[]⟩ }) := fun wl' ho hq => FSt.only HST.out HSZ.out.2 ho hq hlt HN.out hiw2 HSTEP.out HST.out.none_ HST.out.verb
                        clear HSTEP
                        have HW0 : Hid (∀ W, Below w1.heap.size w1 W → W.cell? ⟨g, 1 + i, none⟩ = some (.string (ws.getD i ⟨#[]⟩))) := fun W hW => HW.out W hW i hiw2
                        have hc := fun W => refNamed_any (ws.getD i ⟨#[]⟩) W (by have := HX.out; omega)
                        have hk := fun W => refKeyed_any (ws.getD i ⟨#[]⟩) W (by have := HX.out; omega)
                        simp only [hnm] at hc
                        simp only [hkd] at hk
                        clear hnm hkd
                        clear hL h99
                        generalize ws.getD i ⟨#[]⟩ = x at *
                        clear hn1
                        go_wp2_with fail
                        refine (hc wr).mono ?_
                        rintro e w2 ⟨rfl, hb2⟩
                        have HQ2 : Hid (QAt w1 w2 q (.slice none 0 0)) := HST.out.at_.go hb2
                        have HO2 : Hid (Only w1.heap.size wr w2) := Only.of hb2
                        have hcw2 := HW0.out w2 HQ2.out.2
                        clear hb2 hcw hby
                        go_wp2_with fail
                        refine (hk w2).mono ?_
                        rintro e w3 ⟨rfl, hb3⟩
                        have HQ3 : Hid (QAt w1 w3 q (.slice none 0 0)) := HQ2.out.go hb3
                        have HO3 : Hid (Only w1.heap.size wr w3) := HO2.out.trans (Only.of hb3)
                        have hcw3 := HW0.out w3 HQ3.out.2
                        have q1 : w3.cell? ⟨w1.heap.size, 1, none⟩ = some (.string q.name) := HQ3.out.cells 1
                        have z1 := HQ3.out.frozen 1
                        clear hb3 hcw2
                        go_wp2_with fail
                        go_roundg (gk - 1)
                        case measure => have := HG.out; omega
                        case rel =>
                          have := HG.out
                          exact ⟨i + 1, _, by omega, by omega, by go_num, HGO.out _ (HO3.out.trans (Only.set _ _ _)) (HQ3.out.nameSet _)⟩
                      · have hkd := Bool.eq_false_iff.2 hkd
                        have HA2 : Hid (bodyF x0 ws = (noRq, 2)) := by
                          show _ = _
                          rw [HA.out, HST.out.bad hlt HN.out (fun _ => by
                            unfold stepF
                            rw [if_neg hn1, if_pos hL, hnm, hkd]
                            rfl)]
                        have HW0 : Hid (∀ W, Below w1.heap.size w1 W → W.cell? ⟨g, 1 + i, none⟩ = some (.string (ws.getD i ⟨#[]⟩))) := fun W hW => HW.out W hW i hiw2
                        have hc := fun W => refNamed_any (ws.getD i ⟨#[]⟩) W (by have := HX.out; omega)
                        have hk := fun W => refKeyed_any (ws.getD i ⟨#[]⟩) W (by have := HX.out; omega)
                        simp only [hnm] at hc
                        simp only [hkd] at hk
                        clear hnm hkd
                        clear hL h99
                        generalize ws.getD i ⟨#[]⟩ = x at *
                        clear hn1
                        go_wp2_with fail
                        refine (hc wr).mono ?_
                        rintro e w2 ⟨rfl, hb2⟩
                        have HQ2 : Hid (QAt w1 w2 q (.slice none 0 0)) := HST.out.at_.go hb2
                        have HO2 : Hid (Only w1.heap.size wr w2) := Only.of hb2
                        have hcw2 := HW0.out w2 HQ2.out.2
                        clear hb2 hcw hby
                        go_wp2_with fail
                        refine (hk w2).mono ?_
                        rintro e w3 ⟨rfl, hb3⟩
                        have HQ3 : Hid (QAt w1 w3 q (.slice none 0 0)) := HQ2.out.go hb3
                        have HO3 : Hid (Only w1.heap.size wr w3) := HO2.out.trans (Only.of hb3)
                        have hcw3 := HW0.out w3 HQ3.out.2
                        have q1 : w3.cell? ⟨w1.heap.size, 1, none⟩ = some (.string q.name) := HQ3.out.cells 1
                        have z1 := HQ3.out.frozen 1
                        obtain ⟨s0, s1, s2, s3, s4, s5, s6⟩ := (HSEV.out HQ3.out.2).cells
                        have zr0 := (HSEV.out HQ3.out.2).frozen 0
                        have zr1 := (HSEV.out HQ3.out.2).frozen 1
                        have zr2 := (HSEV.out HQ3.out.2).frozen 2
                        have zr3 := (HSEV.out HQ3.out.2).frozen 3
                        have zr4 := (HSEV.out HQ3.out.2).frozen 4
                        have zr5 := (HSEV.out HQ3.out.2).frozen 5
                        have zr6 := (HSEV.out HQ3.out.2).frozen 6
                        clear hb3 hcw2
                        go_wp2_with fail
                        refine bodyPost_ret (v := .tuple #[noRq.val (.slice none 0 0), .int .i64 2]) ?_ rfl ?_
                        · simp [results, Tryz.results8, go_sem, s0, s1, s2, s3, s4, s5, s6, noRq, Rq.val, hne, hne.symm]
                        · rw [HA2.out]
                          refine ref_no w 2 _ (below_mid (R := w.heap.size) (Q := w1.heap.size) (HBW.out HQ3.out.2) ?_ (Nat.le_refl _) HB1.out.size)
                          repeat (first | refine Mid.set ?_ (Or.inl rfl) | refine Mid.set ?_ (Or.inr rfl) | refine Mid.drew ?_ | exact Mid.refl _ _ _)
                  · rw [hL] at hby
                    have hn1 : ¬ F.getD i 0 = 110 := by rw [hL]; decide
                    have hn2 : ¬ F.getD i 0 = 112 := by rw [hL]; decide
                    by_cases hrd : (refF (ws.getD i ⟨#[]⟩).data.toList).2.2 = 0
                    · have hdum : True := trivial
                      have HSTEP : Hid (stepF (F.getD i 0) i (ws.getD i ⟨#[]⟩) q = ({ q with born := (refF (ws.getD i ⟨#[]⟩).data.toList).1, live := (refF (ws.getD i ⟨#[]⟩).data.toList).2.1 }, true)) := by
                        show _ = _
                        unfold stepF
                        rw [if_neg hn1, if_neg hn2, if_pos hL, decide_eq_true hrd]
                      have HGO : Hid (∀ wl', Only w1.heap.size wr wl' → QAt w1 wl' { q with born := (refF (ws.getD i ⟨#[]⟩).data.toList).1, live := (refF (ws.getD i ⟨#[]⟩).data.toList).2.1 } (.slice none 0 0) → FSt w1 wR wl' F ws v (i + 1) { q with born := (refF (ws.getD i ⟨#[]⟩).data.toList).1, live := (refF (ws.getD i ⟨#[]⟩).data.toList).2.1 }) := fun wl' ho hq => FSt.only HST.out HSZ.out.2 ho hq hlt HN.out hiw2 HSTEP.out HST.out.none_ HST.out.verb
                      clear HSTEP
                      have HW0 : Hid (∀ W, Below w1.heap.size w1 W → W.cell? ⟨g, 1 + i, none⟩ = some (.string (ws.getD i ⟨#[]⟩))) := fun W hW => HW.out W hW i hiw2
                      have hc := fun W => refRead_any (ws.getD i ⟨#[]⟩) W (by have := HX.out; omega)
                      clear hL h99
                      generalize ws.getD i ⟨#[]⟩ = x at *
                      generalize refF x.data.toList = a at *
                      obtain ⟨ab, al, ae⟩ := a
                      clear hn1 hn2
                      simp only at hrd hc HGO
                      subst hrd
                      go_wp2_with fail
                      refine (hc wr).mono ?_
                      rintro e w2 ⟨rfl, hb2⟩
                      have HQ2 : Hid (QAt w1 w2 q (.slice none 0 0)) := HST.out.at_.go hb2
                      have HO2 : Hid (Only w1.heap.size wr w2) := Only.of hb2
                      have hcw2 := HW0.out w2 HQ2.out.2
                      have q3 : w2.cell? ⟨w1.heap.size, 3, none⟩ = some (.int .i64 q.born) := HQ2.out.cells 3
                      have z3 := HQ2.out.frozen 3
                      have q4 : w2.cell? ⟨w1.heap.size, 4, none⟩ = some (.int .i64 q.live) := HQ2.out.cells 4
                      have z4 := HQ2.out.frozen 4
                      clear hb2 hcw hby
                      go_wp2_with fail
                      go_roundg (gk - 1)
                      case measure => have := HG.out; omega
                      case rel =>
                        have := HG.out
                        exact ⟨i + 1, _, by omega, by omega, by go_num, HGO.out _ ((HO2.out.trans (Only.set _ _ _)).trans (Only.set _ _ _)) (HQ2.out.ruleSet _ _)⟩
                    · have hdum : True := trivial
                      have HA2 : Hid (bodyF x0 ws = (noRq, 2)) := by
                        show _ = _
                        rw [HA.out, HST.out.bad hlt HN.out (fun _ => by
                          unfold stepF
                          rw [if_neg hn1, if_neg hn2, if_pos hL, decide_eq_false hrd])]
                      have HW0 : Hid (∀ W, Below w1.heap.size w1 W → W.cell? ⟨g, 1 + i, none⟩ = some (.string (ws.getD i ⟨#[]⟩))) := fun W hW => HW.out W hW i hiw2
                      have hc := fun W => refRead_any (ws.getD i ⟨#[]⟩) W (by have := HX.out; omega)
                      clear hL h99
                      generalize ws.getD i ⟨#[]⟩ = x at *
                      generalize refF x.data.toList = a at *
                      obtain ⟨ab, al, ae⟩ := a
                      clear hn1 hn2
                      simp only at hrd hc
                      have hae : (ae == 0) = false := by simpa using hrd
                      go_wp2_with fail
                      refine (hc wr).mono ?_
                      rintro e w2 ⟨rfl, hb2⟩
                      have HQ2 : Hid (QAt w1 w2 q (.slice none 0 0)) := HST.out.at_.go hb2
                      have HO2 : Hid (Only w1.heap.size wr w2) := Only.of hb2
                      have hcw2 := HW0.out w2 HQ2.out.2
                      have q3 : w2.cell? ⟨w1.heap.size, 3, none⟩ = some (.int .i64 q.born) := HQ2.out.cells 3
                      have z3 := HQ2.out.frozen 3
                      have q4 : w2.cell? ⟨w1.heap.size, 4, none⟩ = some (.int .i64 q.live) := HQ2.out.cells 4
                      have z4 := HQ2.out.frozen 4
                      obtain ⟨s0, s1, s2, s3, s4, s5, s6⟩ := (HSEV.out HQ2.out.2).cells
                      have zr0 := (HSEV.out HQ2.out.2).frozen 0
                      have zr1 := (HSEV.out HQ2.out.2).frozen 1
                      have zr2 := (HSEV.out HQ2.out.2).frozen 2
                      have zr3 := (HSEV.out HQ2.out.2).frozen 3
                      have zr4 := (HSEV.out HQ2.out.2).frozen 4
                      have zr5 := (HSEV.out HQ2.out.2).frozen 5
                      have zr6 := (HSEV.out HQ2.out.2).frozen 6
                      clear hb2 hcw hby
                      go_wp2_with fail
                      refine bodyPost_ret (v := .tuple #[noRq.val (.slice none 0 0), .int .i64 2]) ?_ rfl ?_
                      · simp [results, Tryz.results8, go_sem, s0, s1, s2, s3, s4, s5, s6, noRq, Rq.val, hne, hne.symm]
                      · rw [HA2.out]
                        refine ref_no w 2 _ (below_mid (R := w.heap.size) (Q := w1.heap.size) (HBW.out HQ2.out.2) ?_ (Nat.le_refl _) HB1.out.size)
                        repeat (first | refine Mid.set ?_ (Or.inl rfl) | refine Mid.set ?_ (Or.inr rfl) | refine Mid.drew ?_ | exact Mid.refl _ _ _)
                  · rw [hL] at hby
                    have hn1 : ¬ F.getD i 0 = 110 := by rw [hL]; decide
                    have hn2 : ¬ F.getD i 0 = 112 := by rw [hL]; decide
                    have hn3 : ¬ F.getD i 0 = 114 := by rw [hL]; decide
                    by_cases hrd : (signedF (ws.getD i ⟨#[]⟩).data.toList).2 = true
                    · have hdum : True := trivial
                      have HSTEP : Hid (stepF (F.getD i 0) i (ws.getD i ⟨#[]⟩) q = ({ q with n := (signedF (ws.getD i ⟨#[]⟩).data.toList).1 }, true)) := by
                        show _ = _
                        unfold stepF
                        rw [if_neg hn1, if_neg hn2, if_neg hn3, hrd]
                      have HGO : Hid (∀ wl', Only w1.heap.size wr wl' → QAt w1 wl' { q with n := (signedF (ws.getD i ⟨#[]⟩).data.toList).1 } (.slice none 0 0) → FSt w1 wR wl' F ws v (i + 1) { q with n := (signedF (ws.getD i ⟨#[]⟩).data.toList).1 }) := fun wl' ho hq => FSt.only HST.out HSZ.out.2 ho hq hlt HN.out hiw2 HSTEP.out HST.out.none_ HST.out.verb
                      clear HSTEP
                      have HW0 : Hid (∀ W, Below w1.heap.size w1 W → W.cell? ⟨g, 1 + i, none⟩ = some (.string (ws.getD i ⟨#[]⟩))) := fun W hW => HW.out W hW i hiw2
                      have hc := fun W => signed_any (ws.getD i ⟨#[]⟩).data.toList W (by rw [ba_len]; exact HX.out)
                      clear hL h99
                      generalize ws.getD i ⟨#[]⟩ = x at *
                      generalize signedF x.data.toList = a at *
                      obtain ⟨an, ao⟩ := a
                      simp only at hrd hc
                      subst hrd
                      clear hn1 hn2 hn3
                      go_wp2_with fail
                      refine (hc wr).mono ?_
                      rintro e w2 ⟨rfl, hb2⟩
                      have HQ2 : Hid (QAt w1 w2 q (.slice none 0 0)) := HST.out.at_.go hb2
                      have HO2 : Hid (Only w1.heap.size wr w2) := Only.of hb2
                      have hcw2 := HW0.out w2 HQ2.out.2
                      have q5 : w2.cell? ⟨w1.heap.size, 5, none⟩ = some (.int .i64 q.n) := HQ2.out.cells 5
                      have z5 := HQ2.out.frozen 5
                      clear hb2 hcw hby
                      go_wp2_with fail
                      go_roundg (gk - 1)
                      case measure => have := HG.out; omega
                      case rel =>
                        have := HG.out
                        exact ⟨i + 1, _, by omega, by omega, by go_num, HGO.out _ (HO2.out.trans (Only.set _ _ _)) (HQ2.out.nSet _)⟩
                    · have hrd := Bool.eq_false_iff.2 hrd
                      have HA2 : Hid (bodyF x0 ws = (noRq, 2)) := by
                        show _ = _
                        rw [HA.out, HST.out.bad hlt HN.out (fun _ => by
                          unfold stepF
                          rw [if_neg hn1, if_neg hn2, if_neg hn3]
                          exact hrd)]
                      have HW0 : Hid (∀ W, Below w1.heap.size w1 W → W.cell? ⟨g, 1 + i, none⟩ = some (.string (ws.getD i ⟨#[]⟩))) := fun W hW => HW.out W hW i hiw2
                      have hc := fun W => signed_any (ws.getD i ⟨#[]⟩).data.toList W (by rw [ba_len]; exact HX.out)
                      clear hL h99
                      generalize ws.getD i ⟨#[]⟩ = x at *
                      generalize signedF x.data.toList = a at *
                      obtain ⟨an, ao⟩ := a
                      simp only at hrd hc
                      subst hrd
                      clear hn1 hn2 hn3
                      go_wp2_with fail
                      refine (hc wr).mono ?_
                      rintro e w2 ⟨rfl, hb2⟩
                      have HQ2 : Hid (QAt w1 w2 q (.slice none 0 0)) := HST.out.at_.go hb2
                      have HO2 : Hid (Only w1.heap.size wr w2) := Only.of hb2
                      have hcw2 := HW0.out w2 HQ2.out.2
                      have q5 : w2.cell? ⟨w1.heap.size, 5, none⟩ = some (.int .i64 q.n) := HQ2.out.cells 5
                      have z5 := HQ2.out.frozen 5
                      obtain ⟨s0, s1, s2, s3, s4, s5, s6⟩ := (HSEV.out HQ2.out.2).cells
                      have zr0 := (HSEV.out HQ2.out.2).frozen 0
                      have zr1 := (HSEV.out HQ2.out.2).frozen 1
                      have zr2 := (HSEV.out HQ2.out.2).frozen 2
                      have zr3 := (HSEV.out HQ2.out.2).frozen 3
                      have zr4 := (HSEV.out HQ2.out.2).frozen 4
                      have zr5 := (HSEV.out HQ2.out.2).frozen 5
                      have zr6 := (HSEV.out HQ2.out.2).frozen 6
                      clear hb2 hcw hby
                      go_wp2_with fail
                      refine bodyPost_ret (v := .tuple #[noRq.val (.slice none 0 0), .int .i64 2]) ?_ rfl ?_
                      · simp [results, Tryz.results8, go_sem, s0, s1, s2, s3, s4, s5, s6, noRq, Rq.val, hne, hne.symm]
                      · rw [HA2.out]
                        refine ref_no w 2 _ (below_mid (R := w.heap.size) (Q := w1.heap.size) (HBW.out HQ2.out.2) ?_ (Nat.le_refl _) HB1.out.size)
                        repeat (first | refine Mid.set ?_ (Or.inl rfl) | refine Mid.set ?_ (Or.inr rfl) | refine Mid.drew ?_ | exact Mid.refl _ _ _)
                  · exact absurd hL h99
                · have HA2 : Hid (bodyF x0 ws = (noRq, 2)) := by show _ = _; rw [HA.out, HST.out.bad hlt HN.out (fun h => absurd h hiw2)]
                  have hiw3 : ¬ (i : Int) < (ws.length : Int) := by omega
                  obtain ⟨d, hd⟩ : ∃ d, d = (F.getD i 0).toNat := ⟨_, rfl⟩
                  rw [← hd] at hby
                  have hd2 : ¬ (d : Int) = 99 := by
                    rw [hd]; intro h; exact h99 (UInt8.toNat_inj.1 (by show _ = 99; omega))
                  clear hd
                  obtain ⟨s0, s1, s2, s3, s4, s5, s6⟩ := (HSEV.out HST.out.at_.2).cells
                  have zr0 := (HSEV.out HST.out.at_.2).frozen 0
                  have zr1 := (HSEV.out HST.out.at_.2).frozen 1
                  have zr2 := (HSEV.out HST.out.at_.2).frozen 2
                  have zr3 := (HSEV.out HST.out.at_.2).frozen 3
                  have zr4 := (HSEV.out HST.out.at_.2).frozen 4
                  have zr5 := (HSEV.out HST.out.at_.2).frozen 5
                  have zr6 := (HSEV.out HST.out.at_.2).frozen 6
                  go_wp2_with fail
                  refine bodyPost_ret (v := .tuple #[noRq.val (.slice none 0 0), .int .i64 2]) ?_ rfl ?_
                  · simp [results, Tryz.results8, go_sem, s0, s1, s2, s3, s4, s5, s6, noRq, Rq.val]
                  · rw [HA2.out]
                    refine ref_no w 2 _ (below_mid (R := w.heap.size) (Q := w1.heap.size) (HBW.out HST.out.at_.2) ?_ (Nat.le_refl _) HB1.out.size)
                    repeat (first | refine Mid.set ?_ (Or.inl rfl) | refine Mid.set ?_ (Or.inr rfl) | refine Mid.drew ?_ | exact Mid.refl _ _ _)
            · have hq1 : ¬ (i : Int) < (F.length : Int) := by omega
              have hiF : i = F.length := by have := HG.out; omega
              have hv22 : v ≠ 2 := by
                intro h
                have h2 := HFL.out.2.2.1 h
                have h3 := HST.out.past 1 (by rw [hiF, h2]; decide)
                rw [h2] at h3
                exact h3 rfl
              have hv23 : ¬ (v : Int) = 2 := by omega
              have HFM : Hid (formF ws F 0 { noRq with verb := v } = some q) := by
                show _ = _
                rw [HST.out.form, hiF, List.drop_length, formF]
              have hcv : wr.cell? ⟨w1.heap.size, 0, none⟩ = some (.int .i64 v) := by
                have := HST.out.at_.cells 0
                rw [HST.out.verb] at this
                exact this
              have a4 := (HV1.out.go HST.out.at_.2 (Nat.le_refl _)).form
              have a5 := HA5.out wr HST.out.at_.2
              have hFs : (⟨F.toArray⟩ : ByteArray).size = F.length := by simp [ByteArray.size]
              generalize hFT : (⟨F.toArray⟩ : ByteArray) = FT at *
              clear hFT
              by_cases hlen : ws.length = F.length
              · have HA2 : Hid (bodyF x0 ws = (q, 0)) := by
                  show _ = _
                  rw [HA.out, HFM.out]
                  simp only
                  rw [if_pos hv22, if_neg (fun h => h hlen)]
                have hlen2 : (ws.length : Int) = (F.length : Int) := by omega
                have q1 : wr.cell? ⟨w1.heap.size, 1, none⟩ = some (.string q.name) := HST.out.at_.cells 1
                have q2 : wr.cell? ⟨w1.heap.size, 2, none⟩ = some (.string q.other) := HST.out.at_.cells 2
                have q3 : wr.cell? ⟨w1.heap.size, 3, none⟩ = some (.int .i64 q.born) := HST.out.at_.cells 3
                have q4 : wr.cell? ⟨w1.heap.size, 4, none⟩ = some (.int .i64 q.live) := HST.out.at_.cells 4
                have q5 : wr.cell? ⟨w1.heap.size, 5, none⟩ = some (.int .i64 q.n) := HST.out.at_.cells 5
                have q6 : wr.cell? ⟨w1.heap.size, 6, none⟩ = some (.slice none 0 0) := HST.out.at_.cells 6
                obtain ⟨s0, s1, s2, s3, s4, s5, s6⟩ := (HSEV.out HST.out.at_.2).cells
                have zr0 := (HSEV.out HST.out.at_.2).frozen 0
                have zr1 := (HSEV.out HST.out.at_.2).frozen 1
                have zr2 := (HSEV.out HST.out.at_.2).frozen 2
                have zr3 := (HSEV.out HST.out.at_.2).frozen 3
                have zr4 := (HSEV.out HST.out.at_.2).frozen 4
                have zr5 := (HSEV.out HST.out.at_.2).frozen 5
                have zr6 := (HSEV.out HST.out.at_.2).frozen 6
                go_wp2_with fail
                refine bodyPost_ret (v := .tuple #[.agg #[.int .i64 v, .string q.name, .string q.other, .int .i64 q.born, .int .i64 q.live, .int .i64 q.n, .slice none 0 0], .int .i64 0]) ?_ rfl ?_
                · simp [results, Tryz.results8, go_sem, s0, s1, s2, s3, s4, s5, s6, hne, hne.symm]
                · refine ⟨below_mid (R := w.heap.size) (Q := w1.heap.size) (HBW.out HST.out.at_.2) ?_ (Nat.le_refl _) HB1.out.size, .slice none 0 0, ?_, ?_⟩
                  · repeat (first | refine Mid.set ?_ (Or.inl rfl) | refine Mid.set ?_ (Or.inr rfl) | refine Mid.drew ?_ | exact Mid.refl _ _ _)
                  · rw [HA2.out]
                    unfold Rq.val
                    simp only [HST.out.verb]
                  · rw [HA2.out]
                    simp only [HST.out.none_]
                    exact crow_nil _ _
              · have HA2 : Hid (bodyF x0 ws = (noRq, 2)) := by
                  show _ = _
                  rw [HA.out, HFM.out]
                  simp only
                  rw [if_pos hv22, if_pos hlen]
                have hlen2 : ¬ (ws.length : Int) = (F.length : Int) := by omega
                obtain ⟨s0, s1, s2, s3, s4, s5, s6⟩ := (HSEV.out HST.out.at_.2).cells
                have zr0 := (HSEV.out HST.out.at_.2).frozen 0
                have zr1 := (HSEV.out HST.out.at_.2).frozen 1
                have zr2 := (HSEV.out HST.out.at_.2).frozen 2
                have zr3 := (HSEV.out HST.out.at_.2).frozen 3
                have zr4 := (HSEV.out HST.out.at_.2).frozen 4
                have zr5 := (HSEV.out HST.out.at_.2).frozen 5
                have zr6 := (HSEV.out HST.out.at_.2).frozen 6
                go_wp2_with fail
                refine bodyPost_ret (v := .tuple #[noRq.val (.slice none 0 0), .int .i64 2]) ?_ rfl ?_
                · simp [results, Tryz.results8, go_sem, s0, s1, s2, s3, s4, s5, s6, noRq, Rq.val, hne, hne.symm]
                · rw [HA2.out]
                  refine ref_no w 2 _ (below_mid (R := w.heap.size) (Q := w1.heap.size) (HBW.out HST.out.at_.2) ?_ (Nat.le_refl _) HB1.out.size)
                  repeat (first | refine Mid.set ?_ (Or.inl rfl) | refine Mid.set ?_ (Or.inr rfl) | refine Mid.drew ?_ | exact Mid.refl _ _ _)
end Go.Proofs.YtpghbchbhjbbiaaGreatDoor
