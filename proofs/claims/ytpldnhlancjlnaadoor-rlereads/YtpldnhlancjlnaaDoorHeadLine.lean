/- rle.readHead: what it answers. -/
import Derived.Test.YtpldnhlancjlnaaDoorDraw
namespace Go.Proofs.YtpldnhlancjlnaaDoor
open Go.Shelf Go.RowKit

theorem read_list (s : List UInt8) (w : World) (hs : s.length ≤ 30000) (hv : VarsD w) :
    Calls Tryd.prog 57 #[.string ⟨s.toArray⟩] w fun e w' => e = .returned (.tuple #[.agg #[.int .i64 (readF s).1, .int .i64 (readF s).2.1], .int .i64 (readF s).2.2]) ∧ Below w.heap.size w w' := by
  obtain ⟨m, hm⟩ := hv.max
  exact read_any ⟨s.toArray⟩ m w (by show s.toArray.size < _; rw [List.size_toArray]; omega) hm
theorem cut_any (s : List UInt8) (p : ByteArray) (w : World) (hs : s.length ≤ 30000) (hv : VarsD w) :
    Calls Tryd.prog 25 #[.string ⟨s.toArray⟩, .string p] w fun e w' => e = .returned (.tuple #[.string ⟨(Lib.cut s p.data.toList).1.toArray⟩, .string ⟨(Lib.cut s p.data.toList).2.1.toArray⟩, .bool (Lib.cut s p.data.toList).2.2]) ∧ Below w.heap.size w w' := by
  obtain ⟨m, hm⟩ := hv.max
  refine (Any.strings_Cut Tryd.cutStr ⟨s.toArray⟩ p m w (by show s.toArray.size < _; rw [List.size_toArray]; omega) hm).mono ?_
  rintro e w' ⟨rfl, q, rfl⟩
  exact ⟨rfl, rfl, rfl, rfl, Nat.le_refl _, fun _ _ => rfl⟩
theorem behind_len (p s : List UInt8) : (behindF p s).2.1.length ≤ s.length := by
  unfold behindF
  split
  · have : (numberF (s.drop p.length)).2.1 = Lib.trimLeftS (s.drop p.length) digs := by
      unfold numberF
      simp only
      split
      · rfl
      · split <;> rfl
    rw [this]
    refine Nat.le_trans (List.dropWhile_sublist _).length_le ?_
    simp
  · exact Nat.le_refl _
theorem trimP_len (p s : List UInt8) : (Lib.trimPrefix s p).length ≤ s.length := by unfold Lib.trimPrefix; split <;> simp

theorem behind_at (p : ByteArray) (k s : List UInt8) (w : World) (hk : p.data.toList = k) (hs : s.length ≤ 30000) (hv : VarsD w) :
    Calls Tryd.prog 55 #[.string p, .string ⟨s.toArray⟩] w fun e w' => e = .returned (.tuple #[.int .i64 (behindF k s).1, .string ⟨(behindF k s).2.1.toArray⟩, .bool (behindF k s).2.2]) ∧ Below w.heap.size w w' := by
  rw [← hk]
  exact behind_any p s w hs hv
theorem cutPrefix_at (s : List UInt8) (p : ByteArray) (k : List UInt8) (w : World) (hk : p.data.toList = k) :
    Calls Tryd.prog 56 #[.string ⟨s.toArray⟩, .string p] w fun e w' => e = .returned (.tuple #[.string ⟨(Lib.trimPrefix s k).toArray⟩, .bool (Lib.hasPrefix s k)]) ∧ w' = w := by
  rw [← hk]
  exact cutPrefix_any s p w

/-- the blocks of readHead's answer -/
structure Two (w W : World) : Prop where
  page : W.heap[w.heap.size]? = some (.cells #[.int .i64 0, .int .i64 0, .int .i64 0, .int .i64 0, .slice none 0 0] 61 (0, 0))
  rule : W.heap[w.heap.size + 1]? = some (.cells #[.int .i64 0, .int .i64 0] 24 (0, 0))
  below : Below w.heap.size w W
  room : w.heap.size + 2 ≤ W.heap.size
theorem Two.born (w : World) : Two w ((w.alloc (.cells #[.int .i64 0, .int .i64 0, .int .i64 0, .int .i64 0, .slice none 0 0] 61)).alloc (.cells #[.int .i64 0, .int .i64 0] 24)) := by
  refine ⟨?_, ?_, ((Below.refl _ _).alloc (Nat.le_refl _) _).alloc (by simp) _, by simp⟩
  · rw [Lib.alloc_old _ _ _ (by simp)]
    exact heap_alloc_new w _
  · have := heap_alloc_new (w.alloc (.cells #[.int .i64 0, .int .i64 0, .int .i64 0, .int .i64 0, .slice none 0 0] 61)) (.cells #[.int .i64 0, .int .i64 0] 24)
    simpa using this
theorem Two.go {w W W' : World} (h : Two w W) (hb : Below W.heap.size W W') : Two w W' := by
  have hr := h.room
  exact ⟨(hb.block _ (by omega)).trans h.page, (hb.block _ (by omega)).trans h.rule, h.below.trans (hb.mono (by omega)), Nat.le_trans hr hb.size⟩

theorem Two.pageCells {w W : World} (h : Two w W) : W.cell? ⟨w.heap.size, 0, none⟩ = some (.int .i64 0) ∧ W.cell? ⟨w.heap.size, 1, none⟩ = some (.int .i64 0) ∧ W.cell? ⟨w.heap.size, 2, none⟩ = some (.int .i64 0) ∧ W.cell? ⟨w.heap.size, 3, none⟩ = some (.int .i64 0) ∧ W.cell? ⟨w.heap.size, 4, none⟩ = some (.slice none 0 0) ∧
    W.frozen? ⟨w.heap.size, 0, none⟩ = false ∧ W.frozen? ⟨w.heap.size, 1, none⟩ = false ∧ W.frozen? ⟨w.heap.size, 2, none⟩ = false ∧ W.frozen? ⟨w.heap.size, 3, none⟩ = false ∧ W.frozen? ⟨w.heap.size, 4, none⟩ = false := by
  refine ⟨?_, ?_, ?_, ?_, ?_, Lib.frozen_of_heap h.page 0, Lib.frozen_of_heap h.page 1, Lib.frozen_of_heap h.page 2, Lib.frozen_of_heap h.page 3, Lib.frozen_of_heap h.page 4⟩ <;> (rw [Lib.cell_of_heap h.page]; rfl)
theorem Two.ruleCells {w W : World} (h : Two w W) : W.cell? ⟨w.heap.size + 1, 0, none⟩ = some (.int .i64 0) ∧ W.cell? ⟨w.heap.size + 1, 1, none⟩ = some (.int .i64 0) ∧ W.frozen? ⟨w.heap.size + 1, 0, none⟩ = false ∧ W.frozen? ⟨w.heap.size + 1, 1, none⟩ = false := by
  refine ⟨?_, ?_, Lib.frozen_of_heap h.rule 0, Lib.frozen_of_heap h.rule 1⟩ <;> (rw [Lib.cell_of_heap h.rule]; rfl)

theorem Two.final {w W : World} (h : Two w W) (a b r1 r2 : Int) {WF : World} (hF : WF = ((((((W.setCell ⟨w.heap.size, 0, none⟩ (.int .i64 a)).setCell ⟨w.heap.size, 1, none⟩ (.int .i64 b)).setCell ⟨w.heap.size, 2, none⟩ (.int .i64 0)).setCell ⟨w.heap.size, 3, none⟩ (.int .i64 0)).setCell ⟨w.heap.size, 4, none⟩ (.slice none 0 0)).setCell ⟨w.heap.size + 1, 0, none⟩ (.int .i64 r1)).setCell ⟨w.heap.size + 1, 1, none⟩ (.int .i64 r2)) :
    WF.cell? ⟨w.heap.size, 0, none⟩ = some (.int .i64 a) ∧ WF.cell? ⟨w.heap.size, 1, none⟩ = some (.int .i64 b) ∧ WF.cell? ⟨w.heap.size, 2, none⟩ = some (.int .i64 0) ∧ WF.cell? ⟨w.heap.size, 3, none⟩ = some (.int .i64 0) ∧ WF.cell? ⟨w.heap.size, 4, none⟩ = some (.slice none 0 0) ∧ WF.cell? ⟨w.heap.size + 1, 0, none⟩ = some (.int .i64 r1) ∧ WF.cell? ⟨w.heap.size + 1, 1, none⟩ = some (.int .i64 r2) ∧ Below w.heap.size w WF := by
  have hp := Go.Joins.block_setCell (Go.Joins.block_setCell (Go.Joins.block_setCell (Go.Joins.block_setCell (Go.Joins.block_setCell h.page (i := 0) (.int .i64 a)) (i := 1) (.int .i64 b)) (i := 2) (.int .i64 0)) (i := 3) (.int .i64 0)) (i := 4) (.slice none 0 0)
  have hp2 : WF.heap[w.heap.size]? = some (.cells #[.int .i64 a, .int .i64 b, .int .i64 0, .int .i64 0, .slice none 0 0] 61 (0, 0)) := by
    rw [hF, Below.heap_setCell _ _ _ _ (by show w.heap.size ≠ w.heap.size + 1; omega), Below.heap_setCell _ _ _ _ (by show w.heap.size ≠ w.heap.size + 1; omega)]
    exact hp
  have hr1 : (((((W.setCell ⟨w.heap.size, 0, none⟩ (.int .i64 a)).setCell ⟨w.heap.size, 1, none⟩ (.int .i64 b)).setCell ⟨w.heap.size, 2, none⟩ (.int .i64 0)).setCell ⟨w.heap.size, 3, none⟩ (.int .i64 0)).setCell ⟨w.heap.size, 4, none⟩ (.slice none 0 0)).heap[w.heap.size + 1]? = some (.cells #[.int .i64 0, .int .i64 0] 24 (0, 0)) := by
    rw [Below.heap_setCell _ _ _ _ (by show w.heap.size + 1 ≠ w.heap.size; omega), Below.heap_setCell _ _ _ _ (by show w.heap.size + 1 ≠ w.heap.size; omega), Below.heap_setCell _ _ _ _ (by show w.heap.size + 1 ≠ w.heap.size; omega), Below.heap_setCell _ _ _ _ (by show w.heap.size + 1 ≠ w.heap.size; omega), Below.heap_setCell _ _ _ _ (by show w.heap.size + 1 ≠ w.heap.size; omega)]
    exact h.rule
  have hr := Go.Joins.block_setCell (Go.Joins.block_setCell hr1 (i := 0) (.int .i64 r1)) (i := 1) (.int .i64 r2)
  have hr2 : WF.heap[w.heap.size + 1]? = some (.cells #[.int .i64 r1, .int .i64 r2] 24 (0, 0)) := by rw [hF]; exact hr
  refine ⟨by rw [Lib.cell_of_heap hp2]; rfl, by rw [Lib.cell_of_heap hp2]; rfl, by rw [Lib.cell_of_heap hp2]; rfl, by rw [Lib.cell_of_heap hp2]; rfl, by rw [Lib.cell_of_heap hp2]; rfl, by rw [Lib.cell_of_heap hr2]; rfl, by rw [Lib.cell_of_heap hr2]; rfl, ?_⟩
  rw [hF]
  exact ((((((h.below.setCell (Nat.le_refl _) _).setCell (Nat.le_refl _) _).setCell (Nat.le_refl _) _).setCell (Nat.le_refl _) _).setCell (Nat.le_refl _) _).setCell (by show w.heap.size ≤ w.heap.size + 1; omega) _).setCell (by show w.heap.size ≤ w.heap.size + 1; omega) _

/-- what readHead answers -/
def headV (q : (Int × Int) × (Int × Int) × Bool) : Value := .tuple #[.agg #[.int .i64 q.1.1, .int .i64 q.1.2, .int .i64 0, .int .i64 0, .slice none 0 0], .agg #[.int .i64 q.2.1.1, .int .i64 q.2.1.2], .bool q.2.2]

set_option maxRecDepth 20000 in
set_option maxHeartbeats 4000000 in
theorem readHead_any (s : List UInt8) (w : World) (hs : s.length ≤ 20000) (hv : VarsD w) :
    Calls Tryd.prog 26 #[.string ⟨s.toArray⟩] w fun e w' => e = .returned (headV (headF readF s)) ∧ Below w.heap.size w w' := by
  have T0 := Two.born w
  have hv0 := hv.go T0.below hv.room
  have hx := behind_at ⟨#[120, 32, 61, 32]⟩ kx s _ rfl (by omega) hv0
  have hax := behind_len kx s
  have hhf : headF readF s = headF readF s := rfl
  conv at hhf => rhs; unfold headF
  simp only at hhf
  generalize behindF kx s = qa at *
  obtain ⟨a, ra, oka⟩ := qa
  simp only at hx hax hhf
  have hy := fun V hV => behind_at ⟨#[44, 32, 121, 32, 61, 32]⟩ ky ra V rfl (by omega) hV
  have hay := behind_len ky ra
  generalize behindF ky ra = qb at *
  obtain ⟨b, rb, okb⟩ := qb
  simp only at hy hay hhf
  obtain ⟨rest, hrest⟩ : ∃ rest, rest = (if rb = [] then kr ++ [66, 51, 47, 83, 50, 51] else rb) := ⟨_, rfl⟩
  have hrl : rest.length ≤ 20000 := by
    rw [hrest]
    split
    · simp [kr]
    · omega
  rw [← hrest] at hhf
  have hcp := fun V => cutPrefix_at rest ⟨#[44, 32, 114, 117, 108, 101, 32, 61, 32]⟩ kr V rfl
  have htl := trimP_len kr rest
  have hrd := fun V hV => read_list (Lib.trimPrefix rest kr) V (by omega) hV
  generalize Lib.trimPrefix rest kr = tx at *
  generalize Lib.hasPrefix rest kr = okr at *
  generalize readF tx = qr at *
  obtain ⟨r1, r2, er⟩ := qr
  simp only at hhf hrd
  have HHF : Hid _ := hhf
  have HRE : Hid _ := hrest
  clear hhf hrest
  go_enter Tryd.func26, Tryd.ntmps26
  go_wp2_with fail
  refine hx.mono ?_
  rintro e w1 ⟨rfl, hb1⟩
  have T1 := T0.go hb1
  have hv1 := hv.go T1.below hv.room
  go_wp2_with fail
  refine (hy _ hv1).mono ?_
  rintro e w2 ⟨rfl, hb2⟩
  have T2 := T1.go hb2
  have hv2 := hv.go T2.below hv.room
  clear T0 T1 hb1 hb2 hx hy hv1 hv0
  go_upto_if 27 with fail
  go_cut [6] from 14 to 57 (fun s6 wc => s6 = .string ⟨rest.toArray⟩ ∧ wc = w2)
  case first =>
    cases rb with
    | nil =>
      have hse : (([] : List UInt8) == []) = true := rfl
      go_wp2
      go_meet
      case rel => exact ⟨by rw [HRE.out]; rfl, rfl⟩
    | cons c r =>
      have hse : ((c :: r) == ([] : List UInt8)) = false := rfl
      go_wp2
      go_meet
      case rel => exact ⟨by rw [HRE.out]; rfl, rfl⟩
  case rest =>
  obtain ⟨rfl, hwc⟩ := hcut
  subst hwc
  go_wp2_with fail
  refine (hcp _).mono ?_
  rintro e w3 ⟨rfl, hw⟩
  have hw2 := hw.symm
  subst hw2
  clear hw
  go_wp2_with fail
  refine (hrd _ hv2).mono ?_
  rintro e w4 ⟨rfl, hb4⟩
  have T4 := T2.go hb4
  have hb5 : Below w4.heap.size w4 (w4.alloc (.cells #[.int .i64 r1, .int .i64 r2] 24)) := (Below.refl _ _).alloc (Nat.le_refl _) _
  have T5 := T4.go hb5
  have z5 := heap_alloc_new w4 (.cells #[.int .i64 r1, .int .i64 r2] 24)
  clear T2 hcp hrd
  have hne : w4.heap.size ≠ w.heap.size := by have := T4.room; omega
  have hne2 : w4.heap.size ≠ w.heap.size + 1 := by have := T4.room; omega
  have hv5a : Hid (Below w.heap.size w (w4.alloc (.cells #[.int .i64 r1, .int .i64 r2] 24))) := T5.below
  by_cases hall : oka = true ∧ okb = true ∧ okr = true ∧ er = 0
  · have HX : Hid (headF readF s = ((a, b), (r1, r2), true)) := by
      have := HHF.out
      rw [if_pos hall] at this
      exact this
    obtain ⟨rfl, rfl, rfl, rfl⟩ := hall
    go_wp2_with fail
    clear T4 hb5 hb4
    generalize w4.alloc (.cells #[.int .i64 r1, .int .i64 r2] 24) = w5 at *
    have hbl := T5.below
    obtain ⟨p0, p1, p2, p3, p4, p5, p6, p7, p8, p9⟩ := T5.pageCells
    obtain ⟨k0, k1, k2, k3⟩ := T5.ruleCells
    have y0 : w5.cell? ⟨w4.heap.size, 0, none⟩ = some (.int .i64 r1) := by rw [Lib.cell_of_heap z5]; rfl
    have y1 : w5.cell? ⟨w4.heap.size, 1, none⟩ = some (.int .i64 r2) := by rw [Lib.cell_of_heap z5]; rfl
    have HF := fun WF hF => T5.final a b r1 r2 (WF := WF) hF
    clear T5 z5 HHF HRE hv5a
    go_region
    go_wp2
    obtain ⟨s0, s1, s2, s3, s4, s5, s6, s7⟩ := HF _ rfl
    refine bodyPost_ret (v := headV ((a, b), (r1, r2), true)) ?_ rfl ⟨by rw [HX.out], s7.drew⟩
    generalize (((((((w5.setCell ⟨w.heap.size, 0, none⟩ (.int .i64 a)).setCell ⟨w.heap.size, 1, none⟩ (.int .i64 b)).setCell ⟨w.heap.size, 2, none⟩ (.int .i64 0)).setCell ⟨w.heap.size, 3, none⟩ (.int .i64 0)).setCell ⟨w.heap.size, 4, none⟩ (.slice none 0 0)).setCell ⟨w.heap.size + 1, 0, none⟩ (.int .i64 r1)).setCell ⟨w.heap.size + 1, 1, none⟩ (.int .i64 r2)) = WF at *
    simp [results, Tryd.results26, go_sem, s0, s1, s2, s3, s4, s5, s6, headV]
  · have HX : Hid (headF readF s = ((0, 0), (0, 0), false)) := by
      have := HHF.out
      rw [if_neg hall] at this
      exact this
    have hbad : oka = false ∨ (oka = true ∧ okb = false) ∨ (oka = true ∧ okb = true ∧ okr = false) ∨ (oka = true ∧ okb = true ∧ okr = true ∧ (er != 0) = true) := by
      cases oka
      · exact Or.inl rfl
      · cases okb
        · exact Or.inr (Or.inl ⟨rfl, rfl⟩)
        · cases okr
          · exact Or.inr (Or.inr (Or.inl ⟨rfl, rfl, rfl⟩))
          · refine Or.inr (Or.inr (Or.inr ⟨rfl, rfl, rfl, ?_⟩))
            have : er ≠ 0 := fun e => hall ⟨rfl, rfl, rfl, e⟩
            simpa using this
    clear hall HHF HRE hv5a T4 hb5 hb4
    generalize hW5 : w4.alloc (.cells #[.int .i64 r1, .int .i64 r2] 24) = w5 at T5
    have HF := fun WF hF => T5.final 0 0 0 0 (WF := WF) hF
    obtain ⟨p0, p1, p2, p3, p4, p5, p6, p7, p8, p9⟩ := T5.pageCells
    obtain ⟨k0, k1, k2, k3⟩ := T5.ruleCells
    clear T5 z5
    rcases hbad with rfl | ⟨rfl, rfl⟩ | ⟨rfl, rfl, rfl⟩ | ⟨rfl, rfl, rfl, her⟩
    all_goals
      go_wp2_with fail
      obtain ⟨s0, s1, s2, s3, s4, s5, s6, s7⟩ := HF _ rfl
      refine bodyPost_ret (v := headV ((0, 0), (0, 0), false)) ?_ rfl ⟨by rw [HX.out], s7⟩
      generalize (((((((w5.setCell ⟨w.heap.size, 0, none⟩ (.int .i64 0)).setCell ⟨w.heap.size, 1, none⟩ (.int .i64 0)).setCell ⟨w.heap.size, 2, none⟩ (.int .i64 0)).setCell ⟨w.heap.size, 3, none⟩ (.int .i64 0)).setCell ⟨w.heap.size, 4, none⟩ (.slice none 0 0)).setCell ⟨w.heap.size + 1, 0, none⟩ (.int .i64 0)).setCell ⟨w.heap.size + 1, 1, none⟩ (.int .i64 0)) = WF at *
      simp [results, Tryd.results26, go_sem, s0, s1, s2, s3, s4, s5, s6, headV]
end Go.Proofs.YtpldnhlancjlnaaDoor
