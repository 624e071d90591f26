/- The keepers' and the document's own: are cells the same? -/
import Derived.Test.YtpghbchbhjbbiaaGreatDoorSpWrite
namespace Go.Proofs.YtpghbchbhjbbiaaGreatDoor
open Go.RowKit

set_option maxRecDepth 20000 in
set_option maxHeartbeats 1000000 in
theorem same_any (v u : Value) (cs ds : List (Int × Int)) (w : World) (h : HR w v cs) (h' : HR w u ds) :
    Calls Tryz.prog 31 #[v, u] w fun e w' => e = .returned (.bool (decide (cs = ds))) ∧ Below w.heap.size w w' := by
  obtain ⟨a, c, rfl, hn, h1⟩ := h
  obtain ⟨a', c', rfl, hn', h1'⟩ := h'
  have HA : Hid (cs = [] ∨ ∃ g o, a = some ⟨g, o, none⟩ ∧ g < w.heap.size ∧ ∀ (k : Nat) x y, cs[k]? = some (x, y) → w.cell? ⟨g, o + k * 2, none⟩ = some (.int .i64 x) ∧ w.cell? ⟨g, o + k * 2 + 1, none⟩ = some (.int .i64 y)) := h1
  have HA' : Hid (ds = [] ∨ ∃ g o, a' = some ⟨g, o, none⟩ ∧ g < w.heap.size ∧ ∀ (k : Nat) x y, ds[k]? = some (x, y) → w.cell? ⟨g, o + k * 2, none⟩ = some (.int .i64 x) ∧ w.cell? ⟨g, o + k * 2 + 1, none⟩ = some (.int .i64 y)) := h1'
  clear h1 h1'
  obtain ⟨R, hR⟩ : ∃ R, R = decide (cs = ds) := ⟨_, rfl⟩
  rw [← hR]
  have HRR : Hid (R = decide (cs = ds)) := hR
  clear hR
  obtain ⟨n, hl⟩ : ∃ n, n = cs.length := ⟨_, rfl⟩
  obtain ⟨m, hm⟩ : ∃ m, m = ds.length := ⟨_, rfl⟩
  rw [← hl] at hn ⊢
  rw [← hm] at hn' ⊢
  have HL : Hid (n = cs.length ∧ m = ds.length) := ⟨hl, hm⟩
  clear hl hm
  by_cases hnm : n = m
  · subst hnm
    have hnn : ((n : Int) == (n : Int)) = true := by simp
    have hnn2 : ((n : Int) != (n : Int)) = false := by simp
    go_enter Tryz.func31, Tryz.ntmps31
    go_wp2_with fail
    go_loopg [5] n (fun g s wr => ∃ k q : Nat, k + g = n ∧ s = .int .i64 k ∧ wr = w.drewN q ∧ ∀ j, j < k → cs[j]? = ds[j]?)
    case atStart => exact ⟨0, 0, by omega, rfl, rfl, fun j hj => absurd hj (by omega)⟩
    case round =>
      obtain ⟨k, q, hk, rfl, rfl, hsame⟩ := hrel
      have HK : Hid (k + gk = n ∧ ∀ j, j < k → cs[j]? = ds[j]?) := ⟨hk, hsame⟩
      have hkn : k ≤ n := by omega
      clear hk hsame
      by_cases hlt : k < n
      · have hll := HL.out
        obtain ⟨⟨x, y⟩, hxy⟩ : ∃ c, cs[k]? = some c := ⟨cs[k]'(by omega), List.getElem?_eq_getElem (by omega)⟩
        obtain ⟨⟨x', y'⟩, hxy'⟩ : ∃ c, ds[k]? = some c := ⟨ds[k]'(by omega), List.getElem?_eq_getElem (by omega)⟩
        rcases HA.out with h0 | ⟨g, o, rfl, hg, hc⟩
        · rw [h0] at hxy; simp at hxy
        rcases HA'.out with h0 | ⟨g', o', rfl, hg', hc'⟩
        · rw [h0] at hxy'; simp at hxy'
        obtain ⟨c0, c1⟩ := hc k x y hxy
        obtain ⟨d0, d1⟩ := hc' k x' y' hxy'
        have hi1 : (0 : Int) ≤ (k : Int) := by omega
        have hi2 : (k : Int) < (n : Int) := by omega
        have HXY : Hid (cs[k]? = some (x, y) ∧ ds[k]? = some (x', y')) := ⟨hxy, hxy'⟩
        have hne := fun W => cell_ne x y x' y' W
        clear hc hc' hll hxy hxy'
        by_cases he : (x, y) = (x', y')
        · have hd : decide ((x, y) = (x', y')) = true := decide_eq_true he
          simp only [hd] at hne
          have HE : Hid ((x, y) = (x', y')) := he
          clear he hd
          go_wp2
          go_region
          go_wp2
          go_roundg (gk - 1)
          case measure => have := HK.out; omega
          case rel =>
            have h1 := HK.out
            refine ⟨k + 1, q + 1, by omega, by go_num, rfl, fun j hj => ?_⟩
            rcases Nat.lt_succ_iff_lt_or_eq.1 hj with h | h
            · exact h1.2 j h
            · rw [h, HXY.out.1, HXY.out.2, HE.out]
        · have hd : decide ((x, y) = (x', y')) = false := decide_eq_false he
          simp only [hd] at hne
          have HF : Hid (R = false) := by show _ = _; rw [HRR.out]; exact decide_eq_false (list_ext_ne HXY.out.1 HXY.out.2 he)
          clear he hd
          go_wp2
          go_region
          go_wp2
          go_ret
          rw [HF.out]
          exact ⟨rfl, ⟨rfl, rfl, rfl, Nat.le_refl _, fun _ _ => rfl⟩⟩
      · have HT : Hid (R = true) := by
          show _ = _
          rw [HRR.out]
          refine decide_eq_true (List.ext_getElem? fun j => ?_)
          have h1 := HK.out
          have h2 := HL.out
          by_cases hj : j < n
          · exact h1.2 j (by omega)
          · rw [List.getElem?_eq_none (by omega), List.getElem?_eq_none (by omega)]
        go_wp2
        go_ret
        rw [HT.out]
        exact ⟨rfl, ⟨rfl, rfl, rfl, Nat.le_refl _, fun _ _ => rfl⟩⟩
  · have hi : (n : Int) ≠ (m : Int) := by omega
    have hi2 : ((n : Int) == (m : Int)) = false := by simpa using hi
    have hi3 : ((n : Int) != (m : Int)) = true := by simpa using hi
    have HF : Hid (R = false) := by show _ = _; rw [HRR.out]; exact decide_eq_false (fun e => by have := HL.out; rw [e] at this; omega)
    go_enter Tryz.func31, Tryz.ntmps31
    go_wp2_with fail
    go_ret
    rw [HF.out]
    exact ⟨rfl, Below.refl _ _⟩

set_option maxRecDepth 20000 in
set_option maxHeartbeats 1000000 in
theorem sameCells_any (v u : Value) (cs ds : List (Int × Int)) (w : World) (h : HR w v cs) (h' : HR w u ds) :
    Calls Tryz.prog 24 #[v, u] w fun e w' => e = .returned (.bool (decide (cs = ds))) ∧ Below w.heap.size w w' := by
  obtain ⟨a, c, rfl, hn, h1⟩ := h
  obtain ⟨a', c', rfl, hn', h1'⟩ := h'
  have HA : Hid (cs = [] ∨ ∃ g o, a = some ⟨g, o, none⟩ ∧ g < w.heap.size ∧ ∀ (k : Nat) x y, cs[k]? = some (x, y) → w.cell? ⟨g, o + k * 2, none⟩ = some (.int .i64 x) ∧ w.cell? ⟨g, o + k * 2 + 1, none⟩ = some (.int .i64 y)) := h1
  have HA' : Hid (ds = [] ∨ ∃ g o, a' = some ⟨g, o, none⟩ ∧ g < w.heap.size ∧ ∀ (k : Nat) x y, ds[k]? = some (x, y) → w.cell? ⟨g, o + k * 2, none⟩ = some (.int .i64 x) ∧ w.cell? ⟨g, o + k * 2 + 1, none⟩ = some (.int .i64 y)) := h1'
  clear h1 h1'
  obtain ⟨R, hR⟩ : ∃ R, R = decide (cs = ds) := ⟨_, rfl⟩
  rw [← hR]
  have HRR : Hid (R = decide (cs = ds)) := hR
  clear hR
  obtain ⟨n, hl⟩ : ∃ n, n = cs.length := ⟨_, rfl⟩
  obtain ⟨m, hm⟩ : ∃ m, m = ds.length := ⟨_, rfl⟩
  rw [← hl] at hn ⊢
  rw [← hm] at hn' ⊢
  have HL : Hid (n = cs.length ∧ m = ds.length) := ⟨hl, hm⟩
  clear hl hm
  by_cases hnm : n = m
  · subst hnm
    have hnn : ((n : Int) == (n : Int)) = true := by simp
    have hnn2 : ((n : Int) != (n : Int)) = false := by simp
    go_enter Tryz.func24, Tryz.ntmps24
    go_wp2_with fail
    go_loopg [13] n (fun g s wr => ∃ k q : Nat, k + g = n ∧ s = .int .i64 k ∧ wr = w.drewN q ∧ ∀ j, j < k → cs[j]? = ds[j]?)
    case atStart => exact ⟨0, 0, by omega, rfl, rfl, fun j hj => absurd hj (by omega)⟩
    case round =>
      obtain ⟨k, q, hk, rfl, rfl, hsame⟩ := hrel
      have HK : Hid (k + gk = n ∧ ∀ j, j < k → cs[j]? = ds[j]?) := ⟨hk, hsame⟩
      have hkn : k ≤ n := by omega
      clear hk hsame
      by_cases hlt : k < n
      · have hll := HL.out
        obtain ⟨⟨x, y⟩, hxy⟩ : ∃ c, cs[k]? = some c := ⟨cs[k]'(by omega), List.getElem?_eq_getElem (by omega)⟩
        obtain ⟨⟨x', y'⟩, hxy'⟩ : ∃ c, ds[k]? = some c := ⟨ds[k]'(by omega), List.getElem?_eq_getElem (by omega)⟩
        rcases HA.out with h0 | ⟨g, o, rfl, hg, hc⟩
        · rw [h0] at hxy; simp at hxy
        rcases HA'.out with h0 | ⟨g', o', rfl, hg', hc'⟩
        · rw [h0] at hxy'; simp at hxy'
        obtain ⟨c0, c1⟩ := hc k x y hxy
        obtain ⟨d0, d1⟩ := hc' k x' y' hxy'
        have hi1 : (0 : Int) ≤ (k : Int) := by omega
        have hi2 : (k : Int) < (n : Int) := by omega
        have HXY : Hid (cs[k]? = some (x, y) ∧ ds[k]? = some (x', y')) := ⟨hxy, hxy'⟩
        have hne := fun W => cell_ne x y x' y' W
        clear hc hc' hll hxy hxy'
        by_cases he : (x, y) = (x', y')
        · have hd : decide ((x, y) = (x', y')) = true := decide_eq_true he
          simp only [hd] at hne
          have HE : Hid ((x, y) = (x', y')) := he
          clear he hd
          go_wp2
          go_region
          go_wp2
          go_roundg (gk - 1)
          case measure => have := HK.out; omega
          case rel =>
            have h1 := HK.out
            refine ⟨k + 1, q + 1, by omega, by go_num, rfl, fun j hj => ?_⟩
            rcases Nat.lt_succ_iff_lt_or_eq.1 hj with h | h
            · exact h1.2 j h
            · rw [h, HXY.out.1, HXY.out.2, HE.out]
        · have hd : decide ((x, y) = (x', y')) = false := decide_eq_false he
          simp only [hd] at hne
          have HF : Hid (R = false) := by show _ = _; rw [HRR.out]; exact decide_eq_false (list_ext_ne HXY.out.1 HXY.out.2 he)
          clear he hd
          go_wp2
          go_region
          go_wp2
          go_ret
          rw [HF.out]
          exact ⟨rfl, ⟨rfl, rfl, rfl, Nat.le_refl _, fun _ _ => rfl⟩⟩
      · have HT : Hid (R = true) := by
          show _ = _
          rw [HRR.out]
          refine decide_eq_true (List.ext_getElem? fun j => ?_)
          have h1 := HK.out
          have h2 := HL.out
          by_cases hj : j < n
          · exact h1.2 j (by omega)
          · rw [List.getElem?_eq_none (by omega), List.getElem?_eq_none (by omega)]
        go_wp2
        go_ret
        rw [HT.out]
        exact ⟨rfl, ⟨rfl, rfl, rfl, Nat.le_refl _, fun _ _ => rfl⟩⟩
  · have hi : (n : Int) ≠ (m : Int) := by omega
    have hi2 : ((n : Int) == (m : Int)) = false := by simpa using hi
    have hi3 : ((n : Int) != (m : Int)) = true := by simpa using hi
    have HF : Hid (R = false) := by show _ = _; rw [HRR.out]; exact decide_eq_false (fun e => by have := HL.out; rw [e] at this; omega)
    go_enter Tryz.func24, Tryz.ntmps24
    go_wp2_with fail
    go_ret
    rw [HF.out]
    exact ⟨rfl, Below.refl _ _⟩

set_option maxRecDepth 20000 in
set_option maxHeartbeats 1000000 in
theorem sameKeep_any (p q : Rq) (v u : Value) (w : World) (h : HR w v p.cells) (h' : HR w u q.cells) :
    Calls Tryz.prog 15 #[p.val v, q.val u] w fun e w' => e = .returned (.bool (sameRq p q)) ∧ Below w.heap.size w w' := by
  obtain ⟨pv, pn, po, pb, pl, pk, pc⟩ := p
  obtain ⟨qv, qn, qo, qb, ql, qk, qc⟩ := q
  simp only at h h'
  obtain ⟨va, vn, vc, rfl⟩ : ∃ a n c, v = .slice a n c := by obtain ⟨a, c, rfl, _⟩ := h; exact ⟨_, _, _, rfl⟩
  obtain ⟨ua, un, uc, rfl⟩ : ∃ a n c, u = .slice a n c := by obtain ⟨a, c, rfl, _⟩ := h'; exact ⟨_, _, _, rfl⟩
  have hb1 : Below w.heap.size w (w.alloc (.cells #[.int .i64 pv, .string pn, .string po, .int .i64 pb, .int .i64 pl, .int .i64 pk, .slice va vn vc] 26)) := (Below.refl _ _).alloc (Nat.le_refl _) _
  have hb2 : Below w.heap.size w ((w.alloc (.cells #[.int .i64 pv, .string pn, .string po, .int .i64 pb, .int .i64 pl, .int .i64 pk, .slice va vn vc] 26)).alloc (.cells #[.int .i64 qv, .string qn, .string qo, .int .i64 qb, .int .i64 ql, .int .i64 qk, .slice ua un uc] 26)) := hb1.alloc hb1.size _
  have hc := same_any (.slice va vn vc) (.slice ua un uc) pc qc _ (h.below hb2) (h'.below hb2)
  have hru := fun W => rule_eq pb pl qb ql W
  have HB2 : Hid (Below w.heap.size w ((w.alloc (.cells #[.int .i64 pv, .string pn, .string po, .int .i64 pb, .int .i64 pl, .int .i64 pk, .slice va vn vc] 26)).alloc (.cells #[.int .i64 qv, .string qn, .string qo, .int .i64 qb, .int .i64 ql, .int .i64 qk, .slice ua un uc] 26))) := hb2
  have HS : Hid (sameRq ⟨pv, pn, po, pb, pl, pk, pc⟩ ⟨qv, qn, qo, qb, ql, qk, qc⟩ = (decide (pv = qv) && decide (pn = qn) && decide (po = qo) && decide ((pb, pl) = (qb, ql)) && decide (pk = qk) && decide (pc = qc))) := rfl
  generalize sameRq ⟨pv, pn, po, pb, pl, pk, pc⟩ ⟨qv, qn, qo, qb, ql, qk, qc⟩ = SR at *
  generalize decide (pc = qc) = dc at *
  unfold Rq.val
  clear hb1 hb2 h h'
  have e1 : (pv == qv) = decide (pv = qv) := by by_cases h : pv = qv <;> simp [h]
  have e2 : (pn.toList == qn.toList) = decide (pn = qn) := beq_ba pn qn
  have e3 : (po.toList == qo.toList) = decide (po = qo) := beq_ba po qo
  have e5 : (pk == qk) = decide (pk = qk) := by by_cases h : pk = qk <;> simp [h]
  generalize decide (pv = qv) = d1 at *
  generalize decide (pn = qn) = d2 at *
  generalize decide (po = qo) = d3 at *
  generalize decide ((pb, pl) = (qb, ql)) = d4 at *
  generalize decide (pk = qk) = d5 at *
  cases d1
  · clear hc
    go_enter Tryz.func15, Tryz.ntmps15
    go_wp2_with fail
    go_ret
    rw [HS.out]
    exact ⟨rfl, HB2.out⟩
  cases d2
  · clear hc
    go_enter Tryz.func15, Tryz.ntmps15
    go_wp2_with fail
    go_ret
    rw [HS.out]
    exact ⟨rfl, HB2.out⟩
  cases d3
  · clear hc
    go_enter Tryz.func15, Tryz.ntmps15
    go_wp2_with fail
    go_ret
    rw [HS.out]
    exact ⟨rfl, HB2.out⟩
  cases d4
  · clear hc
    go_enter Tryz.func15, Tryz.ntmps15
    go_wp2_with fail
    go_ret
    rw [HS.out]
    exact ⟨rfl, HB2.out⟩
  cases d5
  · clear hc
    go_enter Tryz.func15, Tryz.ntmps15
    go_wp2_with fail
    go_ret
    rw [HS.out]
    exact ⟨rfl, HB2.out⟩
  go_enter Tryz.func15, Tryz.ntmps15
  go_wp2_with (go_at_call 31; refine hc.mono ?_; rintro e w9 ⟨rfl, hb9⟩)
  go_ret
  rw [HS.out]
  exact ⟨rfl, HB2.out.trans (hb9.mono HB2.out.size)⟩

set_option maxRecDepth 20000 in
set_option maxHeartbeats 1000000 in
theorem sameRef_any (p q : Rq) (v u : Value) (w : World) (h : HR w v p.cells) (h' : HR w u q.cells) :
    Calls Tryz.prog 9 #[p.val v, q.val u] w fun e w' => e = .returned (.bool (sameRq p q)) ∧ Below w.heap.size w w' := by
  obtain ⟨pv, pn, po, pb, pl, pk, pc⟩ := p
  obtain ⟨qv, qn, qo, qb, ql, qk, qc⟩ := q
  simp only at h h'
  obtain ⟨va, vn, vc, rfl⟩ : ∃ a n c, v = .slice a n c := by obtain ⟨a, c, rfl, _⟩ := h; exact ⟨_, _, _, rfl⟩
  obtain ⟨ua, un, uc, rfl⟩ : ∃ a n c, u = .slice a n c := by obtain ⟨a, c, rfl, _⟩ := h'; exact ⟨_, _, _, rfl⟩
  have hb1 : Below w.heap.size w (w.alloc (.cells #[.int .i64 pv, .string pn, .string po, .int .i64 pb, .int .i64 pl, .int .i64 pk, .slice va vn vc] 26)) := (Below.refl _ _).alloc (Nat.le_refl _) _
  have hb2 : Below w.heap.size w ((w.alloc (.cells #[.int .i64 pv, .string pn, .string po, .int .i64 pb, .int .i64 pl, .int .i64 pk, .slice va vn vc] 26)).alloc (.cells #[.int .i64 qv, .string qn, .string qo, .int .i64 qb, .int .i64 ql, .int .i64 qk, .slice ua un uc] 26)) := hb1.alloc hb1.size _
  have hc := sameCells_any (.slice va vn vc) (.slice ua un uc) pc qc _ (h.below hb2) (h'.below hb2)
  have hru := fun W => rule_eq pb pl qb ql W
  have HB2 : Hid (Below w.heap.size w ((w.alloc (.cells #[.int .i64 pv, .string pn, .string po, .int .i64 pb, .int .i64 pl, .int .i64 pk, .slice va vn vc] 26)).alloc (.cells #[.int .i64 qv, .string qn, .string qo, .int .i64 qb, .int .i64 ql, .int .i64 qk, .slice ua un uc] 26))) := hb2
  have HS : Hid (sameRq ⟨pv, pn, po, pb, pl, pk, pc⟩ ⟨qv, qn, qo, qb, ql, qk, qc⟩ = (decide (pv = qv) && decide (pn = qn) && decide (po = qo) && decide ((pb, pl) = (qb, ql)) && decide (pk = qk) && decide (pc = qc))) := rfl
  generalize sameRq ⟨pv, pn, po, pb, pl, pk, pc⟩ ⟨qv, qn, qo, qb, ql, qk, qc⟩ = SR at *
  generalize decide (pc = qc) = dc at *
  unfold Rq.val
  clear hb1 hb2 h h'
  have e1 : (pv == qv) = decide (pv = qv) := by by_cases h : pv = qv <;> simp [h]
  have e2 : (pn.toList == qn.toList) = decide (pn = qn) := beq_ba pn qn
  have e3 : (po.toList == qo.toList) = decide (po = qo) := beq_ba po qo
  have e5 : (pk == qk) = decide (pk = qk) := by by_cases h : pk = qk <;> simp [h]
  generalize decide (pv = qv) = d1 at *
  generalize decide (pn = qn) = d2 at *
  generalize decide (po = qo) = d3 at *
  generalize decide ((pb, pl) = (qb, ql)) = d4 at *
  generalize decide (pk = qk) = d5 at *
  cases d1
  · clear hc
    go_enter Tryz.func9, Tryz.ntmps9
    go_wp2_with fail
    go_ret
    rw [HS.out]
    exact ⟨rfl, HB2.out⟩
  cases d2
  · clear hc
    go_enter Tryz.func9, Tryz.ntmps9
    go_wp2_with fail
    go_ret
    rw [HS.out]
    exact ⟨rfl, HB2.out⟩
  cases d3
  · clear hc
    go_enter Tryz.func9, Tryz.ntmps9
    go_wp2_with fail
    go_ret
    rw [HS.out]
    exact ⟨rfl, HB2.out⟩
  cases d4
  · clear hc
    go_enter Tryz.func9, Tryz.ntmps9
    go_wp2_with fail
    go_ret
    rw [HS.out]
    exact ⟨rfl, HB2.out⟩
  cases d5
  · clear hc
    go_enter Tryz.func9, Tryz.ntmps9
    go_wp2_with fail
    go_ret
    rw [HS.out]
    exact ⟨rfl, HB2.out⟩
  go_enter Tryz.func9, Tryz.ntmps9
  go_wp2_with (go_at_call 24; refine hc.mono ?_; rintro e w9 ⟨rfl, hb9⟩)
  go_ret
  rw [HS.out]
  exact ⟨rfl, HB2.out.trans (hb9.mono HB2.out.size)⟩

end Go.Proofs.YtpghbchbhjbbiaaGreatDoor
