/- The document's ReadRequest: the line that sets cells. -/
import Derived.Test.YtpghbchbhjbbiaaGreatDoorRqMain
namespace Go.Proofs.YtpghbchbhjbbiaaGreatDoor
open Go.RowKit

theorem QAt.base {w1 wr w2 : World} {q : Rq} {v : Value} {B : Nat} (h : QAt w1 wr q v) (hb : Below B wr w2) (hB : w1.heap.size < B) : QAt w1 w2 q v := ⟨(hb.block _ hB).trans h.1, h.2.trans (hb.mono (by omega))⟩
theorem QAt.cellsSet {w1 wr : World} {q : Rq} {v : Value} (h : QAt w1 wr q v) (x : Value) : QAt w1 (wr.setCell ⟨w1.heap.size, 6, none⟩ x) q x := ⟨Go.Joins.block_setCell h.1 _, h.2.setCell (p := ⟨w1.heap.size, 6, none⟩) (Nat.le_refl _) _⟩
/-- midway among the cells -/
structure PSt (w1 wl : World) (ws : List ByteArray) (q : Rq) (j : Nat) (acc : List (Int × Int)) (v : Value) : Prop where
  at_ : QAt w1 wl q v
  row : CRow wl (w1.heap.size + 1) v acc
  len : acc.length = j
  pairs : pairsF [] (ws.drop 1) = pairsF acc (ws.drop (1 + j))
theorem pairs_step {acc : List (Int × Int)} {ws : List ByteArray} {i : Nat} (h : i < ws.length) : pairsF acc (ws.drop i) = match pairF (ws.getD i ⟨#[]⟩) with | none => none | some c => pairsF (acc ++ [c]) (ws.drop (i + 1)) := by
  have hd : ws.drop i = ws.getD i ⟨#[]⟩ :: ws.drop (i + 1) := by
    rw [List.drop_eq_getElem_cons h]
    simp [List.getD, h]
  rw [hd, pairsF]
  cases pairF (ws.getD i ⟨#[]⟩) <;> rfl
set_option maxRecDepth 20000 in
set_option maxHeartbeats 8000000 in
set_option linter.unusedSimpArgs false in
set_option linter.unusedVariables false in
theorem rr_set (s : ByteArray) (w : World) (gv ov cv gf of cf : Nat) (hV : RVars w gv ov cv gf of cf) (hs : s.size ≤ 6000) (x0 : ByteArray) (ws : List ByteArray) (hws : pieceL 32 s.data.toList = x0 :: ws) (hset : verbF x0 = 2) :
    Calls Tryz.prog 8 #[.string s] w (RefOut w (bodyF x0 ws)) := by
  have h1 : ¬ ((s.size : Nat) : Int) > 6000 := by omega
  have hsp := fun W => splitAt_any s 32 W (by omega)
  have HB : Hid (∀ o, Below w.heap.size w (w.alloc o)) := fun o => (Below.refl _ _).alloc (Nat.le_refl _) _
  go_enter Tryz.func8, Tryz.ntmps8
  go_wp2_with fail
  refine (hsp _).mono ?_
  rintro e w1 ⟨u, rfl, hr1, hb1⟩
  have HV1 : Hid (RVars w1 gv ov cv gf of cf) := (hV.go (HB.out _) (Nat.le_refl _)).go hb1 (Nat.le_refl _)
  have HB1 : Hid (Below w.heap.size w w1) := (HB.out _).trans (hb1.mono (HB.out _).size)
  have HR0 : Hid (SevIn w.heap.size (.int .i64 0) (.string ⟨#[]⟩) (.string ⟨#[]⟩) (.int .i64 0) (.int .i64 0) (.int .i64 0) (.slice none 0 0) w1) := (SevIn.born w (.int .i64 0) (.string ⟨#[]⟩) (.string ⟨#[]⟩) (.int .i64 0) (.int .i64 0) (.int .i64 0) (.slice none 0 0)).go hb1
  rw [hws] at hr1
  obtain ⟨g, cap, rfl, hgw, hgl⟩ := World.ownsRow.form hr1 (by simp)
  have hx0 : w1.cell? ⟨g, 0, none⟩ = some (.string x0) := by
    have := SRow.at_ hr1 0 (.string x0) rfl
    simpa [Addr.add] using this
  have HR1 : Hid (SRow w1 (w.alloc (.cells #[.int .i64 0, .string ⟨#[]⟩, .string ⟨#[]⟩, .int .i64 0, .int .i64 0, .int .i64 0, .slice none 0 0] 26)).heap.size (.slice (some ⟨g, 0, none⟩) (x0 :: ws).length cap) (x0 :: ws)) := hr1
  have HWS : Hid (pieceL 32 s.data.toList = x0 :: ws) := hws
  clear hsp hb1 hV hr1 hws HB
  go_wp2_with fail
  go_loopg [6] 10 (fun gk s6 wr => ∃ k : Nat, 1 ≤ k ∧ k + gk = 11 ∧ s6 = .int .i64 k ∧ QAt w1 wr ⟨seenV x0 k, ⟨#[]⟩, ⟨#[]⟩, 0, 0, 0, []⟩ (.slice none 0 0))
  case atStart => exact ⟨1, by omega, by omega, rfl, by
    have : seenV x0 1 = 0 := by unfold seenV; split <;> omega
    rw [this]
    exact QAt.born w1⟩
  case round =>
    obtain ⟨k, hk1, hk, rfl, hq⟩ := hrel
    have HV : Hid (RVars wr gv ov cv gf of cf) := HV1.out.go hq.2 (Nat.le_refl _)
    have a1 := HV.out.verbs
    have a3 : wr.cell? ⟨g, 0, none⟩ = some (.string x0) := by
      rw [← hx0]
      unfold World.cell?
      rw [hq.2.block _ hgl]
    have HK : Hid (k + gk = 11) := hk
    have HQ : Hid (QAt w1 wr ⟨seenV x0 k, ⟨#[]⟩, ⟨#[]⟩, 0, 0, 0, []⟩ (.slice none 0 0)) := hq
    clear hq
    by_cases hlt : k < 11
    · have hk2 : (k : Int) < 11 := by omega
      have a2 := HV.out.verbsAt k hlt
      obtain ⟨x, hx⟩ : ∃ x, x = verbL.getD k ⟨#[]⟩ := ⟨_, rfl⟩
      rw [← hx] at a2
      by_cases he : x0 = x
      · have HH : Hid (seenV x0 (k + 1) = k) := seen_hit hlt (he.trans hx)
        have c0 := HQ.out.cells 0
        have z0 := HQ.out.frozen 0
        have HS := HQ.out.drew.verbSet (k : Int)
        have HS : Hid (QAt w1 (wr.drew.setCell ⟨w1.heap.size, 0, none⟩ (.int .i64 k)) ⟨k, ⟨#[]⟩, ⟨#[]⟩, 0, 0, 0, []⟩ (.slice none 0 0)) := HS
        clear hx
        subst he
        clear hk
        go_wp2_with fail
        go_region_held3 (fun W => W.cell? ⟨0, 0, none⟩ = some (.slice (some ⟨gv, ov, none⟩) 11 cv) ∧ W.cell? ⟨gv, ov + k, none⟩ = some (.string x0) ∧ W.cell? ⟨g, 0, none⟩ = some (.string x0) ∧ W.cell? ⟨w1.heap.size, 0, none⟩ = some (.int .i64 (seenV x0 k)) ∧ W.frozen? ⟨w1.heap.size, 0, none⟩ = false) (exact ⟨a1, a2, a3, c0, z0⟩) (fail)
        go_wp2_with fail
        go_roundg (gk - 1)
        case measure => have := HK.out; omega
        case rel =>
          have := HK.out
          exact ⟨k + 1, by omega, by omega, by go_num, by rw [HH.out]; exact HS.out⟩
      · have HH : Hid (seenV x0 (k + 1) = seenV x0 k) := seen_miss hk1 (fun h => he (h.trans hx.symm))
        have hd : (x0.toList == x.toList) = false := by rw [beq_ba]; simpa using he
        clear hx he hk
        go_wp2_with fail
        go_region_held3 (fun W => W.cell? ⟨0, 0, none⟩ = some (.slice (some ⟨gv, ov, none⟩) 11 cv) ∧ W.cell? ⟨gv, ov + k, none⟩ = some (.string x) ∧ W.cell? ⟨g, 0, none⟩ = some (.string x0)) (exact ⟨a1, a2, a3⟩) (fail)
        go_wp2_with fail
        go_roundg (gk - 1)
        case measure => have := HK.out; omega
        case rel =>
          have := HK.out
          exact ⟨k + 1, by omega, by omega, by go_num, by rw [HH.out]; exact HQ.out.drew⟩
    · have hk2 : ¬ (k : Int) < 11 := by omega
      have hk3 : k = 11 := by omega
      subst hk3
      rw [seen_all] at HQ
      have c0 := HQ.out.cells 0
      have HBR : Hid (Below w.heap.size w wr) := HB1.out.trans (HQ.out.2.mono HB1.out.size)
      have HRR : Hid (SevIn w.heap.size (.int .i64 0) (.string ⟨#[]⟩) (.string ⟨#[]⟩) (.int .i64 0) (.int .i64 0) (.int .i64 0) (.slice none 0 0) wr) := (HQ.out.2.block _ HR0.out.lt).trans HR0.out
      by_cases hv0 : verbF x0 = 0
      · have HA : Hid (bodyF x0 ws = (noRq, 4)) := by show _ = _; unfold bodyF; rw [if_pos hv0]
        rw [hv0] at c0
        have c0 : wr.cell? ⟨w1.heap.size, 0, none⟩ = some (.int .i64 0) := c0
        clear hv0
        obtain ⟨s0, s1, s2, s3, s4, s5, s6⟩ := (HRR.out).cells
        have zr0 := (HRR.out).frozen 0
        have zr1 := (HRR.out).frozen 1
        have zr2 := (HRR.out).frozen 2
        have zr3 := (HRR.out).frozen 3
        have zr4 := (HRR.out).frozen 4
        have zr5 := (HRR.out).frozen 5
        have zr6 := (HRR.out).frozen 6
        go_wp2_with fail
        refine bodyPost_ret (v := .tuple #[noRq.val (.slice none 0 0), .int .i64 4]) ?_ rfl ?_
        · simp [results, Tryz.results8, go_sem, s0, s1, s2, s3, s4, s5, s6, noRq, Rq.val]
        · rw [HA.out]
          refine ref_no w 4 _ (below_mid (R := w.heap.size) (Q := w.heap.size) (HBR.out) ?_ (Nat.le_refl _) (Nat.le_refl _))
          repeat (first | refine Mid.set ?_ (Or.inl rfl) | refine Mid.drew ?_ | exact Mid.refl _ _ _)
      · obtain ⟨v, hv⟩ : ∃ v, v = verbF x0 := ⟨_, rfl⟩
        have hv1 : v < 11 := by rw [hv]; exact verb_lt x0
        have a4 := HV.out.form
        have a5 := HV.out.formAt v hv1
        have HA : Hid (bodyF x0 ws = match formF ws (formL.getD v []) 0 { noRq with verb := v } with | none => (noRq, 2) | some q => if v ≠ 2 then (if ws.length ≠ (formL.getD v []).length then (noRq, 2) else (q, 0)) else match pairsF [] (ws.drop 1) with | none => (noRq, 2) | some cs => ({ q with cells := cs }, 0)) := by
          show _ = _
          rw [hv]
          show bodyF x0 ws = _
          unfold bodyF
          rw [if_neg hv0]
          rfl
        rw [← hv] at c0 hv0 HQ
        have c0 : wr.cell? ⟨w1.heap.size, 0, none⟩ = some (.int .i64 v) := c0
        have HF : Hid ((formL.map fun l => (⟨l.toArray⟩ : ByteArray)).getD v ⟨#[]⟩ = ⟨(formL.getD v []).toArray⟩) := by
          show _ = _
          rw [List.getD_eq_getElem?_getD, List.getElem?_map, List.getD_eq_getElem?_getD]
          cases formL[v]? <;> rfl
        rw [HF.out] at a5
        have HFL : Hid ((formL.getD v []).length ≤ 2 ∧ (∀ c ∈ formL.getD v [], c = 110 ∨ c = 112 ∨ c = 114 ∨ c = 100 ∨ c = 99) ∧ (v = 2 → formL.getD v [] = [112, 99]) ∧ (v ≠ 2 → ∀ c ∈ formL.getD v [], c ≠ 99)) := by
          have : v = 0 ∨ v = 1 ∨ v = 2 ∨ v = 3 ∨ v = 4 ∨ v = 5 ∨ v = 6 ∨ v = 7 ∨ v = 8 ∨ v = 9 ∨ v = 10 := by omega
          show _ ∧ _
          rcases this with rfl | rfl | rfl | rfl | rfl | rfl | rfl | rfl | rfl | rfl | rfl <;> exact ⟨by decide, by decide, by decide, by decide⟩
        have HA5 : Hid (∀ W, Below w1.heap.size w1 W → W.cell? ⟨gf, of + v, none⟩ = some (.string ⟨(formL.getD v []).toArray⟩)) := fun W hW => by
          have h := (HV1.out.go hW (Nat.le_refl _)).formAt v hv1
          rw [HF.out] at h
          exact h
        generalize formL.getD v [] = F at *
        have HV2 : Hid (v = 2) := by rw [hv]; exact hset
        clear HF hv hk hk2
        have hv2 : (v : Int) < 11 := by omega
        have hv3 : ¬ (v : Int) = 0 := by omega
        have hconv := fun W => Lib.run_convert_string_bytes (P := Tryz.prog) W 9 45 5 ⟨F.toArray⟩ Tryz.underlying9 Tryz.underlying45 Tryz.underlying5
        by_cases hcap : cap = 1
        · have HNIL : Hid (ws = []) := by
            show _ = _
            rcases HR1.out.2 with ⟨h0, _⟩ | ⟨g', cap', cur, hv', _, _, hle, _⟩
            · cases h0
            · cases hv'
              have h1 : ws.length + 1 ≤ cap := by simpa using hle
              exact List.eq_nil_of_length_eq_zero (by omega)
          subst hcap
          go_wp2_with fail
          clear hconv
          have hbw : Below wr.heap.size wr (Lib.bytesWorld wr 5 ⟨F.toArray⟩) := ⟨rfl, rfl, rfl, by rw [Lib.bytesWorld_size]; omega, fun j hj => Lib.bytesWorld_at_old wr 5 _ j hj⟩
          have hcell : ∀ k, k < F.length → (Lib.bytesWorld wr 5 ⟨F.toArray⟩).cell? ⟨wr.heap.size, k, none⟩ = some (.int .u8 (F.getD k 0).toNat) := fun k hk => Lib.bytesWorld_cell wr 5 ⟨F.toArray⟩ k (by simpa [ByteArray.size] using hk)
          have hszb : wr.heap.size < (Lib.bytesWorld wr 5 ⟨F.toArray⟩).heap.size := by rw [Lib.bytesWorld_size]; omega
          have HQB := HQ.out.go hbw
          have HQB : Hid (QAt w1 (Lib.bytesWorld wr 5 ⟨F.toArray⟩) ⟨v, ⟨#[]⟩, ⟨#[]⟩, 0, 0, 0, []⟩ (.slice none 0 0)) := HQB
          have HC : Hid (∀ k, k < F.length → (Lib.bytesWorld wr 5 ⟨F.toArray⟩).cell? ⟨wr.heap.size, k, none⟩ = some (.int .u8 (F.getD k 0).toNat)) := hcell
          have HSZ : Hid (wr.heap.size < (Lib.bytesWorld wr 5 ⟨F.toArray⟩).heap.size ∧ w1.heap.size < wr.heap.size) := ⟨hszb, (Array.getElem?_eq_some_iff.1 HQ.out.1).1⟩
          have hFs : (⟨F.toArray⟩ : ByteArray).size = F.length := by simp [ByteArray.size]
          clear hbw hcell hszb c0 a1 a3 a4 a5
          generalize grownCap wr (⟨F.toArray⟩ : ByteArray).size 0 5 = cp at *
          generalize Lib.bytesWorld wr 5 ⟨F.toArray⟩ = wb at *
          have HSM : Hid (∀ x ∈ ws, x.size ≤ 6000) := fun x hx => by
            have h1 := words_small s x (by rw [← pieceL_words, HWS.out]; simp [hx])
            omega
          have HW : Hid (∀ W, Below w1.heap.size w1 W → ∀ i, i < ws.length → W.cell? ⟨g, 1 + i, none⟩ = some (.string (ws.getD i ⟨#[]⟩))) := fun W hW i hi => by
            have h1 := SRow.at_ HR1.out (i + 1) (.string (ws.getD i ⟨#[]⟩)) (by simp [List.getD, hi])
            have h2 : w1.cell? ⟨g, 1 + i, none⟩ = some (.string (ws.getD i ⟨#[]⟩)) := by
              simpa [Addr.add, Nat.add_comm] using h1
            rw [← h2]
            unfold World.cell?
            rw [hW.block _ hgl]
          have HF0 : Hid (FSt w1 wr wb F ws v 0 ⟨v, ⟨#[]⟩, ⟨#[]⟩, 0, 0, 0, []⟩) := ⟨HQB.out, rfl, rfl, HC.out, HSZ.out.1, by rw [List.drop_zero]; rfl, fun k hk => absurd hk (by omega)⟩
          clear HQB HC
          clear hFs
          obtain ⟨wR, hwR⟩ : ∃ a, a = wr := ⟨_, rfl⟩
          subst hwR
          obtain ⟨gK, hgK⟩ : ∃ a, a = gk := ⟨_, rfl⟩
          subst hgK
          go_loopg [53] F.length (fun gl s53 wl => ∃ (i : Nat) (q : Rq), i + gl = F.length ∧ i ≤ ws.length ∧ s53 = .int .i64 i ∧ FSt w1 wR wl F ws v i q)
          case atStart => exact ⟨0, _, by omega, by omega, rfl, HF0.out⟩
          case round =>
            obtain ⟨i, q, hi, hiw, rfl, hst⟩ := hrel
            have HG : Hid (i + gk = F.length) := hi
            have HSEV : Hid (∀ {W : World}, Below w1.heap.size w1 W → SevIn w.heap.size (.int .i64 0) (.string ⟨#[]⟩) (.string ⟨#[]⟩) (.int .i64 0) (.int .i64 0) (.int .i64 0) (.slice none 0 0) W) := fun hW => (hW.block _ HR0.out.lt).trans HR0.out
            have hne : w.heap.size ≠ w1.heap.size := by have := HR0.out.lt; omega
            have HST : Hid (FSt w1 wR wr F ws v i q) := hst
            have HBW : Hid (∀ {W : World}, Below w1.heap.size w1 W → Below w.heap.size w W) := fun hW => HB1.out.trans (hW.mono HB1.out.size)
            clear hst hi
            by_cases hlt : i < F.length
            · have hq1 : (i : Int) < (F.length : Int) := by omega
              have hby := HST.out.bytes i hlt
              have hi5 : (i : Int) < 3 := by have := HFL.out.1; omega
              have HLET := HFL.out.2.1 (F.getD i 0) (by rw [List.getD_eq_getElem?_getD, List.getElem?_eq_getElem hlt]; exact List.getElem_mem hlt)
              by_cases h99 : F.getD i 0 = 99
              · have hi00 : i = 0 := by have := HNIL.out; rw [this] at hiw; simpa using hiw
                by_cases h2 : v = 2
                · have h3 := HFL.out.2.2.1 h2
                  rw [h3, hi00] at h99
                  exact absurd h99 (by decide)
                · have h3 := HFL.out.2.2.2 h2 (F.getD i 0) (by rw [List.getD_eq_getElem?_getD, List.getElem?_eq_getElem hlt]; exact List.getElem_mem hlt)
                  exact absurd h99 h3
              · have HN : Hid (F.getD i 0 ≠ 99) := h99
                by_cases hiw2 : i < ws.length
                · exact absurd hiw2 (by rw [HNIL.out]; exact Nat.not_lt_zero _)
                · have HA2 : Hid (bodyF x0 ws = (noRq, 2)) := by show _ = _; rw [HA.out, HST.out.bad hlt HN.out (fun h => absurd h hiw2)]
                  have hiw3 : ¬ (i : Int) < (ws.length : Int) := by omega
                  obtain ⟨d, hd⟩ : ∃ d, d = (F.getD i 0).toNat := ⟨_, rfl⟩
                  rw [← hd] at hby
                  have hd2 : ¬ (d : Int) = 99 := by
                    rw [hd]; intro h; exact h99 (UInt8.toNat_inj.1 (by show _ = 99; omega))
                  clear hd
                  obtain ⟨s0, s1, s2, s3, s4, s5, s6⟩ := (HSEV.out HST.out.at_.2).cells
                  have zr0 := (HSEV.out HST.out.at_.2).frozen 0
                  have zr1 := (HSEV.out HST.out.at_.2).frozen 1
                  have zr2 := (HSEV.out HST.out.at_.2).frozen 2
                  have zr3 := (HSEV.out HST.out.at_.2).frozen 3
                  have zr4 := (HSEV.out HST.out.at_.2).frozen 4
                  have zr5 := (HSEV.out HST.out.at_.2).frozen 5
                  have zr6 := (HSEV.out HST.out.at_.2).frozen 6
                  go_wp2_with fail
                  refine bodyPost_ret (v := .tuple #[noRq.val (.slice none 0 0), .int .i64 2]) ?_ rfl ?_
                  · simp [results, Tryz.results8, go_sem, s0, s1, s2, s3, s4, s5, s6, noRq, Rq.val]
                  · rw [HA2.out]
                    refine ref_no w 2 _ (below_mid (R := w.heap.size) (Q := w1.heap.size) (HBW.out HST.out.at_.2) ?_ (Nat.le_refl _) HB1.out.size)
                    repeat (first | refine Mid.set ?_ (Or.inl rfl) | refine Mid.set ?_ (Or.inr rfl) | refine Mid.drew ?_ | exact Mid.refl _ _ _)
            · exfalso
              have h2 := HFL.out.2.2.1 HV2.out
              have h3 := HNIL.out
              rw [h2] at hlt
              rw [h3] at hiw
              simp only [List.length_nil, List.length_cons] at hlt hiw
              omega
        · have HCAP : Hid (cap ≠ 1) := hcap
          go_wp2_with fail
          clear hconv
          have hbw : Below wr.heap.size wr (Lib.bytesWorld wr 5 ⟨F.toArray⟩) := ⟨rfl, rfl, rfl, by rw [Lib.bytesWorld_size]; omega, fun j hj => Lib.bytesWorld_at_old wr 5 _ j hj⟩
          have hcell : ∀ k, k < F.length → (Lib.bytesWorld wr 5 ⟨F.toArray⟩).cell? ⟨wr.heap.size, k, none⟩ = some (.int .u8 (F.getD k 0).toNat) := fun k hk => Lib.bytesWorld_cell wr 5 ⟨F.toArray⟩ k (by simpa [ByteArray.size] using hk)
          have hszb : wr.heap.size < (Lib.bytesWorld wr 5 ⟨F.toArray⟩).heap.size := by rw [Lib.bytesWorld_size]; omega
          have HQB := HQ.out.go hbw
          have HQB : Hid (QAt w1 (Lib.bytesWorld wr 5 ⟨F.toArray⟩) ⟨v, ⟨#[]⟩, ⟨#[]⟩, 0, 0, 0, []⟩ (.slice none 0 0)) := HQB
          have HC : Hid (∀ k, k < F.length → (Lib.bytesWorld wr 5 ⟨F.toArray⟩).cell? ⟨wr.heap.size, k, none⟩ = some (.int .u8 (F.getD k 0).toNat)) := hcell
          have HSZ : Hid (wr.heap.size < (Lib.bytesWorld wr 5 ⟨F.toArray⟩).heap.size ∧ w1.heap.size < wr.heap.size) := ⟨hszb, (Array.getElem?_eq_some_iff.1 HQ.out.1).1⟩
          have hFs : (⟨F.toArray⟩ : ByteArray).size = F.length := by simp [ByteArray.size]
          clear hbw hcell hszb c0 a1 a3 a4 a5
          generalize grownCap wr (⟨F.toArray⟩ : ByteArray).size 0 5 = cp at *
          generalize Lib.bytesWorld wr 5 ⟨F.toArray⟩ = wb at *
          have HSM : Hid (∀ x ∈ ws, x.size ≤ 6000) := fun x hx => by
            have h1 := words_small s x (by rw [← pieceL_words, HWS.out]; simp [hx])
            omega
          have HW : Hid (∀ W, Below w1.heap.size w1 W → ∀ i, i < ws.length → W.cell? ⟨g, 1 + i, none⟩ = some (.string (ws.getD i ⟨#[]⟩))) := fun W hW i hi => by
            have h1 := SRow.at_ HR1.out (i + 1) (.string (ws.getD i ⟨#[]⟩)) (by simp [List.getD, hi])
            have h2 : w1.cell? ⟨g, 1 + i, none⟩ = some (.string (ws.getD i ⟨#[]⟩)) := by
              simpa [Addr.add, Nat.add_comm] using h1
            rw [← h2]
            unfold World.cell?
            rw [hW.block _ hgl]
          have HF0 : Hid (FSt w1 wr wb F ws v 0 ⟨v, ⟨#[]⟩, ⟨#[]⟩, 0, 0, 0, []⟩) := ⟨HQB.out, rfl, rfl, HC.out, HSZ.out.1, by rw [List.drop_zero]; rfl, fun k hk => absurd hk (by omega)⟩
          clear HQB HC
          clear hFs
          obtain ⟨wR, hwR⟩ : ∃ a, a = wr := ⟨_, rfl⟩
          subst hwR
          obtain ⟨gK, hgK⟩ : ∃ a, a = gk := ⟨_, rfl⟩
          subst hgK
          go_loopg [53] F.length (fun gl s53 wl => ∃ (i : Nat) (q : Rq), i + gl = F.length ∧ i ≤ ws.length ∧ s53 = .int .i64 i ∧ FSt w1 wR wl F ws v i q)
          case atStart => exact ⟨0, _, by omega, by omega, rfl, HF0.out⟩
          case round =>
            obtain ⟨i, q, hi, hiw, rfl, hst⟩ := hrel
            have HG : Hid (i + gk = F.length) := hi
            have HSEV : Hid (∀ {W : World}, Below w1.heap.size w1 W → SevIn w.heap.size (.int .i64 0) (.string ⟨#[]⟩) (.string ⟨#[]⟩) (.int .i64 0) (.int .i64 0) (.int .i64 0) (.slice none 0 0) W) := fun hW => (hW.block _ HR0.out.lt).trans HR0.out
            have hne : w.heap.size ≠ w1.heap.size := by have := HR0.out.lt; omega
            have HST : Hid (FSt w1 wR wr F ws v i q) := hst
            have HBW : Hid (∀ {W : World}, Below w1.heap.size w1 W → Below w.heap.size w W) := fun hW => HB1.out.trans (hW.mono HB1.out.size)
            clear hst hi
            by_cases hlt : i < F.length
            · have hq1 : (i : Int) < (F.length : Int) := by omega
              have hby := HST.out.bytes i hlt
              have hi5 : (i : Int) < 3 := by have := HFL.out.1; omega
              have HLET := HFL.out.2.1 (F.getD i 0) (by rw [List.getD_eq_getElem?_getD, List.getElem?_eq_getElem hlt]; exact List.getElem_mem hlt)
              by_cases h99 : F.getD i 0 = 99
              · have hi1 : i = 1 := by
                  have h2 := HFL.out.2.2.1 HV2.out
                  rw [h2] at h99 hlt
                  have h3 : i = 0 ∨ i = 1 := by simp only [List.length_cons, List.length_nil] at hlt; omega
                  rcases h3 with rfl | rfl
                  · exact absurd h99 (by decide)
                  · rfl
                subst hi1
                have HFM : Hid (formF ws F 0 { noRq with verb := v } = some q) := by
                  show _ = _
                  rw [HST.out.form, HFL.out.2.2.1 HV2.out]
                  rfl
                have HA2 : Hid (bodyF x0 ws = match pairsF [] (ws.drop 1) with | none => (noRq, 2) | some cs => ({ q with cells := cs }, 0)) := by
                  show _ = _
                  rw [HA.out, HFM.out]
                  simp only
                  rw [if_neg (fun h => h HV2.out)]
                have hcv : wr.cell? ⟨w1.heap.size, 0, none⟩ = some (.int .i64 2) := by
                  have h1 := HST.out.at_.cells 0
                  rw [HST.out.verb, HV2.out] at h1
                  exact h1
                rw [h99] at hby
                have HP0 : Hid (PSt w1 wr ws q 0 [] (.slice none 0 0)) := ⟨HST.out.at_, crow_nil _ _, rfl, rfl⟩
                have HQV : Hid (q.verb = 2) := by show _ = _; rw [HST.out.verb, HV2.out]; rfl
                obtain ⟨i0, hi0, hz0, hz1, hz2⟩ := info_parts Tryz.infoCell
                have hwl1 : (1 : Int) ≤ (ws.length : Int) := by omega
                clear hlt hq1 hi5 HLET h99
                by_cases hcap2 : cap = 2
                · subst hcap2
                  have hws1 : ws.length = 1 := by
                    rcases HR1.out.2 with ⟨h0, _⟩ | ⟨g', cap', cur, hv', _, _, hle, _⟩
                    · cases h0
                    · cases hv'
                      have h1 : ws.length + 1 ≤ 2 := by simpa using hle
                      omega
                  have HPS : Hid (PSt w1 wr ws q 0 [] (.slice none 0 0)) := HP0.out
                  have hlz : ¬ (0 : Int) < (ws.length : Int) - 1 := by omega
                  go_wp2_with fail
                  all_goals
                    refine wp_loop_rounds 1 ?_
                    rw [rounds_succ]
                    clear hcv
                    have HA3 : Hid (bodyF x0 ws = ({ q with cells := ([] : List (Int × Int)) }, 0)) := by
                      show _ = _
                      have h1 : pairsF [] (ws.drop 1) = some [] := by rw [show ws.drop 1 = [] from List.drop_eq_nil_of_le (by omega), pairsF]
                      rw [HA2.out, h1]
                    have q0 : wr.cell? ⟨w1.heap.size, 0, none⟩ = some (.int .i64 q.verb) := HPS.out.at_.cells 0
                    have q1 : wr.cell? ⟨w1.heap.size, 1, none⟩ = some (.string q.name) := HPS.out.at_.cells 1
                    have q2 : wr.cell? ⟨w1.heap.size, 2, none⟩ = some (.string q.other) := HPS.out.at_.cells 2
                    have q3 : wr.cell? ⟨w1.heap.size, 3, none⟩ = some (.int .i64 q.born) := HPS.out.at_.cells 3
                    have q4 : wr.cell? ⟨w1.heap.size, 4, none⟩ = some (.int .i64 q.live) := HPS.out.at_.cells 4
                    have q5 : wr.cell? ⟨w1.heap.size, 5, none⟩ = some (.int .i64 q.n) := HPS.out.at_.cells 5
                    have q6 : wr.cell? ⟨w1.heap.size, 6, none⟩ = some (.slice none 0 0) := HPS.out.at_.cells 6
                    obtain ⟨s0, s1, s2, s3, s4, s5, s6⟩ := (HSEV.out HPS.out.at_.2).cells
                    have zr0 := (HSEV.out HPS.out.at_.2).frozen 0
                    have zr1 := (HSEV.out HPS.out.at_.2).frozen 1
                    have zr2 := (HSEV.out HPS.out.at_.2).frozen 2
                    have zr3 := (HSEV.out HPS.out.at_.2).frozen 3
                    have zr4 := (HSEV.out HPS.out.at_.2).frozen 4
                    have zr5 := (HSEV.out HPS.out.at_.2).frozen 5
                    have zr6 := (HSEV.out HPS.out.at_.2).frozen 6
                    go_wp2_with fail
                    refine bodyPost_ret (v := .tuple #[.agg #[.int .i64 q.verb, .string q.name, .string q.other, .int .i64 q.born, .int .i64 q.live, .int .i64 q.n, .slice none 0 0], .int .i64 0]) ?_ rfl ?_
                    · simp [results, Tryz.results8, go_sem, s0, s1, s2, s3, s4, s5, s6, hne, hne.symm]
                    · refine ⟨below_mid (R := w.heap.size) (Q := w1.heap.size) (HBW.out HPS.out.at_.2) ?_ (Nat.le_refl _) HB1.out.size, .slice none 0 0, ?_, ?_⟩
                      · repeat (first | refine Mid.set ?_ (Or.inl rfl) | refine Mid.set ?_ (Or.inr rfl) | refine Mid.drew ?_ | exact Mid.refl _ _ _)
                      · rw [HA3.out]
                        rfl
                      · rw [HA3.out]
                        refine CRow.mid (R := w.heap.size) (Q := w1.heap.size) HPS.out.row ?_ (by have := HB1.out.size; omega) (by omega) (by have := HB1.out.size; omega)
                        repeat (first | refine Mid.set ?_ (Or.inl rfl) | refine Mid.set ?_ (Or.inr rfl) | refine Mid.drew ?_ | exact Mid.refl _ _ _)
                · go_wp2_with fail
                  all_goals
                    obtain ⟨wS, hwS⟩ : ∃ a, a = wr := ⟨_, rfl⟩
                    subst hwS
                    obtain ⟨gL, hgL⟩ : ∃ a, a = gk := ⟨_, rfl⟩
                    subst hgL
                    clear hcv hby
                    go_loopg [149] (ws.length - 1) (fun gl s149 wl => ∃ (j : Nat) (acc : List (Int × Int)) (v6 : Value), j + gl = ws.length - 1 ∧ s149 = .int .i64 j ∧ PSt w1 wl ws q j acc v6)
                    case atStart => exact ⟨0, [], _, by omega, rfl, HP0.out⟩
                    case round =>
                      obtain ⟨j, acc, v6, hj, rfl, hp⟩ := hrel
                      have HJ : Hid (j + gk = ws.length - 1) := hj
                      obtain ⟨va, vn, vc, rfl⟩ := crow_slice hp.row
                      have HPS : Hid (PSt w1 wr ws q j acc (.slice va vn vc)) := hp
                      clear hp hj
                      by_cases hlt2 : j < ws.length - 1
                      · have hjl : (j : Int) < (ws.length : Int) - 1 := by omega
                        have HX : Hid ((ws.getD (1 + j) ⟨#[]⟩).size ≤ 6000) := HSM.out _ (by rw [List.getD_eq_getElem?_getD, List.getElem?_eq_getElem (by omega)]; exact List.getElem_mem (by omega))
                        have hcw : wr.cell? ⟨g, 2 + j, none⟩ = some (.string (ws.getD (1 + j) ⟨#[]⟩)) := by
                          have h1 := HW.out wr HPS.out.at_.2 (1 + j) (by omega)
                          rw [show 1 + (1 + j) = 2 + j by omega] at h1
                          exact h1
                        have HST2 : Hid (pairsF [] (ws.drop 1) = match pairF (ws.getD (1 + j) ⟨#[]⟩) with | none => none | some c => pairsF (acc ++ [c]) (ws.drop (1 + j + 1))) := by
                          show _ = _
                          rw [HPS.out.pairs]
                          exact pairs_step (by omega)
                        have hsp := fun W => splitAt_any (ws.getD (1 + j) ⟨#[]⟩) 44 W (by have := HX.out; omega)
                        have HWL : Hid (ws.length ≤ 6001) := by
                          show _ ≤ _
                          have h1 := words_count s
                          rw [← pieceL_words, HWS.out] at h1
                          simp only [List.length_cons] at h1
                          omega
                        generalize ws.getD (1 + j) ⟨#[]⟩ = x at *
                        have hjb : (j : Int) < 7000 := by have := HWL.out; omega
                        go_wp2_with fail
                        refine (hsp wr).mono ?_
                        rintro e w2 ⟨u, rfl, hr2, hb2⟩
                        rw [pieceL_spl] at hr2
                        have HQ2 : Hid (QAt w1 w2 q (.slice va vn vc)) := HPS.out.at_.go hb2
                        have HC2 : Hid (CRow w2 (w1.heap.size + 1) (.slice va vn vc) acc) := HPS.out.row.below hb2
                        have HPX : Hid (∀ p ∈ spl 44 x.data.toList, p.length ≤ 6000) := fun p hp => by
                          have h1 := spl_len 44 x.data.toList p hp
                          rw [ba_len] at h1
                          have h2 := HX.out
                          omega
                        have HPF0 : Hid (pairF x = match spl 44 x.data.toList with | [a, b] => if (signedF a).2 = true ∧ (signedF b).2 = true then some ((signedF a).1, (signedF b).1) else none | _ => none) := rfl
                        have hpn := spl_ne 44 x.data.toList
                        generalize spl 44 x.data.toList = ps at *
                        clear hsp hcw hb2
                        by_cases h2 : ∃ a b, ps = [a, b]
                        · obtain ⟨a, b, rfl⟩ := h2
                          obtain ⟨g2, cap2, rfl, hgw2, hgl2⟩ := World.ownsRow.form hr2 (by simp)
                          have x0c : w2.cell? ⟨g2, 0, none⟩ = some (.string ⟨a.toArray⟩) := by
                            have := SRow.at_ hr2 0 (.string ⟨a.toArray⟩) rfl
                            simpa [Addr.add] using this
                          have x1c : w2.cell? ⟨g2, 1, none⟩ = some (.string ⟨b.toArray⟩) := by
                            have := SRow.at_ hr2 1 (.string ⟨b.toArray⟩) rfl
                            simpa [Addr.add] using this
                          have c1 := fun W => signed_any a W (HPX.out a (by simp))
                          have c2 := fun W => signed_any b W (HPX.out b (by simp))
                          simp only at HPF0
                          generalize signedF a = sa at *
                          generalize signedF b = sb at *
                          obtain ⟨an, ao⟩ := sa
                          obtain ⟨bn, bo⟩ := sb
                          simp only at HPF0 c1 c2
                          clear hr2 hpn
                          go_wp2_with fail
                          refine (c1 w2).mono ?_
                          rintro e w3 ⟨rfl, hb3⟩
                          have HQ3 : Hid (QAt w1 w3 q (.slice va vn vc)) := HQ2.out.go hb3
                          have HC3 : Hid (CRow w3 (w1.heap.size + 1) (.slice va vn vc) acc) := HC2.out.below hb3
                          have x1d : w3.cell? ⟨g2, 1, none⟩ = some (.string ⟨b.toArray⟩) := by
                            rw [← x1c]
                            unfold World.cell?
                            rw [hb3.block _ hgl2]
                          clear hb3 x0c x1c
                          go_wp2_with fail
                          refine (c2 w3).mono ?_
                          rintro e w4 ⟨rfl, hb4⟩
                          have HQ4 : Hid (QAt w1 w4 q (.slice va vn vc)) := HQ3.out.go hb4
                          have HC4 : Hid (CRow w4 (w1.heap.size + 1) (.slice va vn vc) acc) := HC3.out.below hb4
                          clear hb4 x1d c1 c2
                          cases ao
                          · have HPF : Hid (pairF x = none) := by show _ = _; rw [HPF0.out, if_neg (fun h => by cases h.1)]
                            have HA3 : Hid (bodyF x0 ws = (noRq, 2)) := by show _ = _; rw [HA2.out, HST2.out, HPF.out]
                            obtain ⟨s0, s1, s2, s3, s4, s5, s6⟩ := (HSEV.out HQ4.out.2).cells
                            have zr0 := (HSEV.out HQ4.out.2).frozen 0
                            have zr1 := (HSEV.out HQ4.out.2).frozen 1
                            have zr2 := (HSEV.out HQ4.out.2).frozen 2
                            have zr3 := (HSEV.out HQ4.out.2).frozen 3
                            have zr4 := (HSEV.out HQ4.out.2).frozen 4
                            have zr5 := (HSEV.out HQ4.out.2).frozen 5
                            have zr6 := (HSEV.out HQ4.out.2).frozen 6
                            go_wp2_with fail
                            refine bodyPost_ret (v := .tuple #[noRq.val (.slice none 0 0), .int .i64 2]) ?_ rfl ?_
                            · simp [results, Tryz.results8, go_sem, s0, s1, s2, s3, s4, s5, s6, noRq, Rq.val, hne, hne.symm]
                            · rw [HA3.out]
                              refine ref_no w 2 _ (below_mid (R := w.heap.size) (Q := w1.heap.size) (HBW.out HQ4.out.2) ?_ (Nat.le_refl _) HB1.out.size)
                              repeat (first | refine Mid.set ?_ (Or.inl rfl) | refine Mid.set ?_ (Or.inr rfl) | refine Mid.drew ?_ | exact Mid.refl _ _ _)
                          · cases bo
                            · have HPF : Hid (pairF x = none) := by show _ = _; rw [HPF0.out, if_neg (fun h => by cases h.2)]
                              have HA3 : Hid (bodyF x0 ws = (noRq, 2)) := by show _ = _; rw [HA2.out, HST2.out, HPF.out]
                              obtain ⟨s0, s1, s2, s3, s4, s5, s6⟩ := (HSEV.out HQ4.out.2).cells
                              have zr0 := (HSEV.out HQ4.out.2).frozen 0
                              have zr1 := (HSEV.out HQ4.out.2).frozen 1
                              have zr2 := (HSEV.out HQ4.out.2).frozen 2
                              have zr3 := (HSEV.out HQ4.out.2).frozen 3
                              have zr4 := (HSEV.out HQ4.out.2).frozen 4
                              have zr5 := (HSEV.out HQ4.out.2).frozen 5
                              have zr6 := (HSEV.out HQ4.out.2).frozen 6
                              go_wp2_with fail
                              refine bodyPost_ret (v := .tuple #[noRq.val (.slice none 0 0), .int .i64 2]) ?_ rfl ?_
                              · simp [results, Tryz.results8, go_sem, s0, s1, s2, s3, s4, s5, s6, noRq, Rq.val, hne, hne.symm]
                              · rw [HA3.out]
                                refine ref_no w 2 _ (below_mid (R := w.heap.size) (Q := w1.heap.size) (HBW.out HQ4.out.2) ?_ (Nat.le_refl _) HB1.out.size)
                                repeat (first | refine Mid.set ?_ (Or.inl rfl) | refine Mid.set ?_ (Or.inr rfl) | refine Mid.drew ?_ | exact Mid.refl _ _ _)
                            · have HPF : Hid (pairF x = some (an, bn)) := by show _ = _; rw [HPF0.out, if_pos ⟨rfl, rfl⟩]
                              have q6 : w4.cell? ⟨w1.heap.size, 6, none⟩ = some (.slice va vn vc) := HQ4.out.cells 6
                              have hrow4 := HC4.out
                              have HAL : Hid (acc.length ≤ 6001) := by show _ ≤ _; have h1 := HPS.out.len; have h2 := HWL.out; omega
                              have HSZ4 : Hid (w1.heap.size < w4.heap.size) := (Array.getElem?_eq_some_iff.1 HQ4.out.1).1
                              go_wp2_with (at_builtin; refine wpList_append_own _ rfl _ _ 24 rfl (w1.heap.size + 1) 51 i0 (.agg #[.int .i64 0, .int .i64 0]) 2 16 Tryz.underlying24 hi0 hz0 hz1 hz2 rfl (by decide) _ _ _ rfl (World.ownsRow.alloc hrow4 _) ⟨w4.heap.size, 0, none⟩ 1 1 [.int .i64 an, .int .i64 bn] rfl rfl ?c1 ?c2 ?c3 ?c4 ?c5 ?_)
                              case c1 =>
                                intro j u hj
                                match j, hj with
                                | 0, hj => simp at hj; subst hj; simp [Addr.add]
                                | 1, hj => simp at hj; subst hj; simp [Addr.add]
                              case c2 => intro u hu; simp at hu; rcases hu with rfl | rfl <;> rfl
                              case c3 => unfold maxLen; have := HAL.out; omega
                              case c4 => have := HAL.out; omega
                              case c5 => have := HSZ4.out; simp; omega
                              intro v' w5 hown' hgrow _
                              obtain ⟨ua, un, uc, rfl⟩ : ∃ a n c, v' = .slice a n c := by
                                rcases hown'.2 with ⟨e, _⟩ | ⟨_, _, _, e, _⟩
                                · exact ⟨_, _, _, e⟩
                                · exact ⟨_, _, _, e⟩
                              have hba : Below w4.heap.size w4 (w4.alloc (.cells #[.int .i64 an, .int .i64 bn] 51)) := (Below.refl _ _).alloc (Nat.le_refl _) _
                              have hbb : Below (w1.heap.size + 1) w4 w5 := (hba.mono (by have := HSZ4.out; omega)).trans (grown_below hgrow (World.ownsRow.alloc hrow4 _) (by have := HSZ4.out; simp; omega))
                              have HQ5 : Hid (QAt w1 w5 q (.slice va vn vc)) := HQ4.out.base hbb (by omega)
                              have q65 : w5.cell? ⟨w1.heap.size, 6, none⟩ = some (.slice va vn vc) := HQ5.out.cells 6
                              have z65 := HQ5.out.frozen 6
                              have HOWN : Hid (CRow w5 (w1.heap.size + 1) (.slice ua un uc) (acc ++ [(an, bn)])) := by
                                show CRow _ _ _ _
                                rw [CRow, List.length_append, cellsL_append]
                                exact hown'
                              clear hown' hgrow hba hbb q6 hrow4
                              go_wp2_with fail
                              go_roundg (gk - 1)
                              case measure => have := HJ.out; omega
                              case rel =>
                                have h1 := HJ.out
                                have h4 := HWL.out
                                have h5 : (j : Int) < 7000 := by omega
                                have h2 := HST2.out
                                rw [HPF.out] at h2
                                refine ⟨j + 1, acc ++ [(an, bn)], .slice ua un uc, by omega, by go_num, HQ5.out.cellsSet _, HOWN.out.only (b := w1.heap.size) (Only.set _ _ _) (by omega), by simp [HPS.out.len], h2⟩
                        · have HPF : Hid (pairF x = none) := by
                            show _ = _
                            rw [HPF0.out]
                            match ps, h2 with
                            | [], _ => rfl
                            | [_], _ => rfl
                            | [a, b], h2 => exact absurd ⟨a, b, rfl⟩ h2
                            | _ :: _ :: _ :: _, _ => rfl
                          have hl2 : ¬ ((ps.length : Nat) : Int) = 2 := by
                            match ps, h2 with
                            | [], _ => simp
                            | [_], _ => simp
                            | [a, b], h2 => exact absurd ⟨a, b, rfl⟩ h2
                            | _ :: _ :: _ :: _, _ => simp; omega
                          obtain ⟨g2, cap2, rfl, hgw2, hgl2⟩ := World.ownsRow.form hr2 (by simpa using List.length_pos_iff.2 hpn)
                          simp only [List.length_map]
                          clear hr2 hpn h2 HPF0 HPX hgw2 hgl2
                          generalize ps.length = n2 at *
                          have hl3 : ((n2 : Int) == 2) = false := by simpa using hl2
                          have hl4 : ((n2 : Int) != 2) = true := by simpa using hl2
                          have HA3 : Hid (bodyF x0 ws = (noRq, 2)) := by show _ = _; rw [HA2.out, HST2.out, HPF.out]
                          obtain ⟨s0, s1, s2, s3, s4, s5, s6⟩ := (HSEV.out HQ2.out.2).cells
                          have zr0 := (HSEV.out HQ2.out.2).frozen 0
                          have zr1 := (HSEV.out HQ2.out.2).frozen 1
                          have zr2 := (HSEV.out HQ2.out.2).frozen 2
                          have zr3 := (HSEV.out HQ2.out.2).frozen 3
                          have zr4 := (HSEV.out HQ2.out.2).frozen 4
                          have zr5 := (HSEV.out HQ2.out.2).frozen 5
                          have zr6 := (HSEV.out HQ2.out.2).frozen 6
                          go_wp2_with fail
                          refine bodyPost_ret (v := .tuple #[noRq.val (.slice none 0 0), .int .i64 2]) ?_ rfl ?_
                          · simp [results, Tryz.results8, go_sem, s0, s1, s2, s3, s4, s5, s6, noRq, Rq.val, hne, hne.symm]
                          · rw [HA3.out]
                            refine ref_no w 2 _ (below_mid (R := w.heap.size) (Q := w1.heap.size) (HBW.out HQ2.out.2) ?_ (Nat.le_refl _) HB1.out.size)
                            repeat (first | refine Mid.set ?_ (Or.inl rfl) | refine Mid.set ?_ (Or.inr rfl) | refine Mid.drew ?_ | exact Mid.refl _ _ _)
                      · have hjl : ¬ (j : Int) < (ws.length : Int) - 1 := by omega
                        have HA3 : Hid (bodyF x0 ws = ({ q with cells := acc }, 0)) := by
                          show _ = _
                          have h1 := HPS.out.pairs
                          rw [show ws.drop (1 + j) = [] from List.drop_eq_nil_of_le (by omega), pairsF] at h1
                          rw [HA2.out, h1]
                        have q0 : wr.cell? ⟨w1.heap.size, 0, none⟩ = some (.int .i64 q.verb) := HPS.out.at_.cells 0
                        have q1 : wr.cell? ⟨w1.heap.size, 1, none⟩ = some (.string q.name) := HPS.out.at_.cells 1
                        have q2 : wr.cell? ⟨w1.heap.size, 2, none⟩ = some (.string q.other) := HPS.out.at_.cells 2
                        have q3 : wr.cell? ⟨w1.heap.size, 3, none⟩ = some (.int .i64 q.born) := HPS.out.at_.cells 3
                        have q4 : wr.cell? ⟨w1.heap.size, 4, none⟩ = some (.int .i64 q.live) := HPS.out.at_.cells 4
                        have q5 : wr.cell? ⟨w1.heap.size, 5, none⟩ = some (.int .i64 q.n) := HPS.out.at_.cells 5
                        have q6 : wr.cell? ⟨w1.heap.size, 6, none⟩ = some (.slice va vn vc) := HPS.out.at_.cells 6
                        obtain ⟨s0, s1, s2, s3, s4, s5, s6⟩ := (HSEV.out HPS.out.at_.2).cells
                        have zr0 := (HSEV.out HPS.out.at_.2).frozen 0
                        have zr1 := (HSEV.out HPS.out.at_.2).frozen 1
                        have zr2 := (HSEV.out HPS.out.at_.2).frozen 2
                        have zr3 := (HSEV.out HPS.out.at_.2).frozen 3
                        have zr4 := (HSEV.out HPS.out.at_.2).frozen 4
                        have zr5 := (HSEV.out HPS.out.at_.2).frozen 5
                        have zr6 := (HSEV.out HPS.out.at_.2).frozen 6
                        go_wp2_with fail
                        refine bodyPost_ret (v := .tuple #[.agg #[.int .i64 q.verb, .string q.name, .string q.other, .int .i64 q.born, .int .i64 q.live, .int .i64 q.n, .slice va vn vc], .int .i64 0]) ?_ rfl ?_
                        · simp [results, Tryz.results8, go_sem, s0, s1, s2, s3, s4, s5, s6, hne, hne.symm]
                        · refine ⟨below_mid (R := w.heap.size) (Q := w1.heap.size) (HBW.out HPS.out.at_.2) ?_ (Nat.le_refl _) HB1.out.size, .slice va vn vc, ?_, ?_⟩
                          · repeat (first | refine Mid.set ?_ (Or.inl rfl) | refine Mid.set ?_ (Or.inr rfl) | refine Mid.drew ?_ | exact Mid.refl _ _ _)
                          · rw [HA3.out]
                            rfl
                          · rw [HA3.out]
                            refine CRow.mid (R := w.heap.size) (Q := w1.heap.size) HPS.out.row ?_ (by have := HB1.out.size; omega) (by omega) (by have := HB1.out.size; omega)
                            repeat (first | refine Mid.set ?_ (Or.inl rfl) | refine Mid.set ?_ (Or.inr rfl) | refine Mid.drew ?_ | exact Mid.refl _ _ _)
              · have HN : Hid (F.getD i 0 ≠ 99) := h99
                by_cases hiw2 : i < ws.length
                · have hiw3 : (i : Int) < (ws.length : Int) := by omega
                  have HX : Hid ((ws.getD i ⟨#[]⟩).size ≤ 6000) := HSM.out _ (by rw [List.getD_eq_getElem?_getD, List.getElem?_eq_getElem hiw2]; exact List.getElem_mem hiw2)
                  have hcw := HW.out wr HST.out.at_.2 i hiw2
                  have HSF : Hid (∀ q', stepF (F.getD i 0) i (ws.getD i ⟨#[]⟩) q = q' → stepF (F.getD i 0) i (ws.getD i ⟨#[]⟩) q = q') := fun _ h => h
                  rcases HLET with hL | hL | hL | hL | hL
                  · exfalso
                    have h2 := HFL.out.2.2.1 HV2.out
                    rw [h2] at hL hlt
                    have h3 : i = 0 ∨ i = 1 := by simp only [List.length_cons, List.length_nil] at hlt; omega
                    rcases h3 with rfl | rfl <;> exact absurd hL (by decide)
                  · rw [hL] at hby
                    have hn1 : ¬ F.getD i 0 = 110 := by rw [hL]; decide
                    by_cases hnm : namedB (ws.getD i ⟨#[]⟩) = true
                    · have hdum : True := trivial
                      have HSTEP : Hid (stepF (F.getD i 0) i (ws.getD i ⟨#[]⟩) q = ({ q with name := ws.getD i ⟨#[]⟩ }, true)) := by
                        show _ = _
                        unfold stepF
                        rw [if_neg hn1, if_pos hL, hnm]
                        rfl
                      have HGO : Hid (∀ wl', Only w1.heap.size wr wl' → QAt w1 wl' { q with name := ws.getD i ⟨#[]⟩ } (.slice none 0 0) → FSt w1 wR wl' F ws v (i + 1) { q with name := ws.getD i ⟨#[]⟩ }) := fun wl' ho hq => FSt.only HST.out HSZ.out.2 ho hq hlt HN.out hiw2 HSTEP.out HST.out.none_ HST.out.verb
                      clear HSTEP
                      have HW0 : Hid (∀ W, Below w1.heap.size w1 W → W.cell? ⟨g, 1 + i, none⟩ = some (.string (ws.getD i ⟨#[]⟩))) := fun W hW => HW.out W hW i hiw2
                      have hc := fun W => refNamed_any (ws.getD i ⟨#[]⟩) W (by have := HX.out; omega)
                      simp only [hnm] at hc
                      clear hnm
                      clear hL h99
                      generalize ws.getD i ⟨#[]⟩ = x at *
                      clear hn1
                      go_wp2_with fail
                      refine (hc wr).mono ?_
                      rintro e w2 ⟨rfl, hb2⟩
                      have HQ2 : Hid (QAt w1 w2 q (.slice none 0 0)) := HST.out.at_.go hb2
                      have HO2 : Hid (Only w1.heap.size wr w2) := Only.of hb2
                      have hcw2 := HW0.out w2 HQ2.out.2
                      have q1 : w2.cell? ⟨w1.heap.size, 1, none⟩ = some (.string q.name) := HQ2.out.cells 1
                      have z1 := HQ2.out.frozen 1
                      clear hb2 hcw hby
                      go_wp2_with fail
                      go_roundg (gk - 1)
                      case measure => have := HG.out; omega
                      case rel =>
                        have := HG.out
                        exact ⟨i + 1, _, by omega, by omega, by go_num, HGO.out _ (HO2.out.trans (Only.set _ _ _)) (HQ2.out.nameSet _)⟩
                    · have hnm := Bool.eq_false_iff.2 hnm
                      by_cases hkd : keyedB (ws.getD i ⟨#[]⟩) = true
                      · have hdum : True := trivial
                        have HSTEP : Hid (stepF (F.getD i 0) i (ws.getD i ⟨#[]⟩) q = ({ q with name := ws.getD i ⟨#[]⟩ }, true)) := by
                          show _ = _
                          unfold stepF
                          rw [if_neg hn1, if_pos hL, hnm, hkd]
                          rfl
                        have HGO : Hid (∀ wl', Only w1.heap.size wr wl' → QAt w1 wl' { q with name := ws.getD i ⟨#[]⟩ } (.slice none 0 0) → FSt w1 wR wl' F ws v (i + 1) { q with name := ws.getD i ⟨#[]⟩ }) := fun wl' ho hq => FSt.only HST.out HSZ.out.2 ho hq hlt HN.out hiw2 HSTEP.out HST.out.none_ HST.out.verb
                        clear HSTEP
                        have HW0 : Hid (∀ W, Below w1.heap.size w1 W → W.cell? ⟨g, 1 + i, none⟩ = some (.string (ws.getD i ⟨#[]⟩))) := fun W hW => HW.out W hW i hiw2
                        have hc := fun W => refNamed_any (ws.getD i ⟨#[]⟩) W (by have := HX.out; omega)
                        have hk := fun W => refKeyed_any (ws.getD i ⟨#[]⟩) W (by have := HX.out; omega)
                        simp only [hnm] at hc
                        simp only [hkd] at hk
                        clear hnm hkd
                        clear hL h99
                        generalize ws.getD i ⟨#[]⟩ = x at *
                        clear hn1
                        go_wp2_with fail
                        refine (hc wr).mono ?_
                        rintro e w2 ⟨rfl, hb2⟩
                        have HQ2 : Hid (QAt w1 w2 q (.slice none 0 0)) := HST.out.at_.go hb2
                        have HO2 : Hid (Only w1.heap.size wr w2) := Only.of hb2
                        have hcw2 := HW0.out w2 HQ2.out.2
                        clear hb2 hcw hby
                        go_wp2_with fail
                        refine (hk w2).mono ?_
                        rintro e w3 ⟨rfl, hb3⟩
                        have HQ3 : Hid (QAt w1 w3 q (.slice none 0 0)) := HQ2.out.go hb3
                        have HO3 : Hid (Only w1.heap.size wr w3) := HO2.out.trans (Only.of hb3)
                        have hcw3 := HW0.out w3 HQ3.out.2
                        have q1 : w3.cell? ⟨w1.heap.size, 1, none⟩ = some (.string q.name) := HQ3.out.cells 1
                        have z1 := HQ3.out.frozen 1
                        clear hb3 hcw2
                        go_wp2_with fail
                        go_roundg (gk - 1)
                        case measure => have := HG.out; omega
                        case rel =>
                          have := HG.out
                          exact ⟨i + 1, _, by omega, by omega, by go_num, HGO.out _ (HO3.out.trans (Only.set _ _ _)) (HQ3.out.nameSet _)⟩
                      · have hkd := Bool.eq_false_iff.2 hkd
                        have HA2 : Hid (bodyF x0 ws = (noRq, 2)) := by
                          show _ = _
                          rw [HA.out, HST.out.bad hlt HN.out (fun _ => by
                            unfold stepF
                            rw [if_neg hn1, if_pos hL, hnm, hkd]
                            rfl)]
                        have HW0 : Hid (∀ W, Below w1.heap.size w1 W → W.cell? ⟨g, 1 + i, none⟩ = some (.string (ws.getD i ⟨#[]⟩))) := fun W hW => HW.out W hW i hiw2
                        have hc := fun W => refNamed_any (ws.getD i ⟨#[]⟩) W (by have := HX.out; omega)
                        have hk := fun W => refKeyed_any (ws.getD i ⟨#[]⟩) W (by have := HX.out; omega)
                        simp only [hnm] at hc
                        simp only [hkd] at hk
                        clear hnm hkd
                        clear hL h99
                        generalize ws.getD i ⟨#[]⟩ = x at *
                        clear hn1
                        go_wp2_with fail
                        refine (hc wr).mono ?_
                        rintro e w2 ⟨rfl, hb2⟩
                        have HQ2 : Hid (QAt w1 w2 q (.slice none 0 0)) := HST.out.at_.go hb2
                        have HO2 : Hid (Only w1.heap.size wr w2) := Only.of hb2
                        have hcw2 := HW0.out w2 HQ2.out.2
                        clear hb2 hcw hby
                        go_wp2_with fail
                        refine (hk w2).mono ?_
                        rintro e w3 ⟨rfl, hb3⟩
                        have HQ3 : Hid (QAt w1 w3 q (.slice none 0 0)) := HQ2.out.go hb3
                        have HO3 : Hid (Only w1.heap.size wr w3) := HO2.out.trans (Only.of hb3)
                        have hcw3 := HW0.out w3 HQ3.out.2
                        have q1 : w3.cell? ⟨w1.heap.size, 1, none⟩ = some (.string q.name) := HQ3.out.cells 1
                        have z1 := HQ3.out.frozen 1
                        obtain ⟨s0, s1, s2, s3, s4, s5, s6⟩ := (HSEV.out HQ3.out.2).cells
                        have zr0 := (HSEV.out HQ3.out.2).frozen 0
                        have zr1 := (HSEV.out HQ3.out.2).frozen 1
                        have zr2 := (HSEV.out HQ3.out.2).frozen 2
                        have zr3 := (HSEV.out HQ3.out.2).frozen 3
                        have zr4 := (HSEV.out HQ3.out.2).frozen 4
                        have zr5 := (HSEV.out HQ3.out.2).frozen 5
                        have zr6 := (HSEV.out HQ3.out.2).frozen 6
                        clear hb3 hcw2
                        go_wp2_with fail
                        refine bodyPost_ret (v := .tuple #[noRq.val (.slice none 0 0), .int .i64 2]) ?_ rfl ?_
                        · simp [results, Tryz.results8, go_sem, s0, s1, s2, s3, s4, s5, s6, noRq, Rq.val, hne, hne.symm]
                        · rw [HA2.out]
                          refine ref_no w 2 _ (below_mid (R := w.heap.size) (Q := w1.heap.size) (HBW.out HQ3.out.2) ?_ (Nat.le_refl _) HB1.out.size)
                          repeat (first | refine Mid.set ?_ (Or.inl rfl) | refine Mid.set ?_ (Or.inr rfl) | refine Mid.drew ?_ | exact Mid.refl _ _ _)
                  · exfalso
                    have h2 := HFL.out.2.2.1 HV2.out
                    rw [h2] at hL hlt
                    have h3 : i = 0 ∨ i = 1 := by simp only [List.length_cons, List.length_nil] at hlt; omega
                    rcases h3 with rfl | rfl <;> exact absurd hL (by decide)
                  · exfalso
                    have h2 := HFL.out.2.2.1 HV2.out
                    rw [h2] at hL hlt
                    have h3 : i = 0 ∨ i = 1 := by simp only [List.length_cons, List.length_nil] at hlt; omega
                    rcases h3 with rfl | rfl <;> exact absurd hL (by decide)
                  · exact absurd hL h99
                · have HA2 : Hid (bodyF x0 ws = (noRq, 2)) := by show _ = _; rw [HA.out, HST.out.bad hlt HN.out (fun h => absurd h hiw2)]
                  have hiw3 : ¬ (i : Int) < (ws.length : Int) := by omega
                  obtain ⟨d, hd⟩ : ∃ d, d = (F.getD i 0).toNat := ⟨_, rfl⟩
                  rw [← hd] at hby
                  have hd2 : ¬ (d : Int) = 99 := by
                    rw [hd]; intro h; exact h99 (UInt8.toNat_inj.1 (by show _ = 99; omega))
                  clear hd
                  obtain ⟨s0, s1, s2, s3, s4, s5, s6⟩ := (HSEV.out HST.out.at_.2).cells
                  have zr0 := (HSEV.out HST.out.at_.2).frozen 0
                  have zr1 := (HSEV.out HST.out.at_.2).frozen 1
                  have zr2 := (HSEV.out HST.out.at_.2).frozen 2
                  have zr3 := (HSEV.out HST.out.at_.2).frozen 3
                  have zr4 := (HSEV.out HST.out.at_.2).frozen 4
                  have zr5 := (HSEV.out HST.out.at_.2).frozen 5
                  have zr6 := (HSEV.out HST.out.at_.2).frozen 6
                  go_wp2_with fail
                  refine bodyPost_ret (v := .tuple #[noRq.val (.slice none 0 0), .int .i64 2]) ?_ rfl ?_
                  · simp [results, Tryz.results8, go_sem, s0, s1, s2, s3, s4, s5, s6, noRq, Rq.val]
                  · rw [HA2.out]
                    refine ref_no w 2 _ (below_mid (R := w.heap.size) (Q := w1.heap.size) (HBW.out HST.out.at_.2) ?_ (Nat.le_refl _) HB1.out.size)
                    repeat (first | refine Mid.set ?_ (Or.inl rfl) | refine Mid.set ?_ (Or.inr rfl) | refine Mid.drew ?_ | exact Mid.refl _ _ _)
            · exfalso
              have hiF : i = F.length := by have := HG.out; omega
              have h2 := HFL.out.2.2.1 HV2.out
              have h3 := HST.out.past 1 (by rw [hiF, h2]; decide)
              rw [h2] at h3
              exact h3 rfl
end Go.Proofs.YtpghbchbhjbbiaaGreatDoor
