/- rle.Decode: what it answers. -/
import Derived.Test.YtpldnhlancjlnaaDoorHeadLine
namespace Go.Proofs.YtpldnhlancjlnaaDoor
open Go.Shelf Go.RowKit

/-- the block of Decode's rule -/
structure One (w W : World) : Prop where
  rule : W.heap[w.heap.size]? = some (.cells #[.int .i64 0, .int .i64 0] 24 (0, 0))
  below : Below w.heap.size w W
  room : w.heap.size + 1 ≤ W.heap.size
theorem One.born (w : World) : One w (w.alloc (.cells #[.int .i64 0, .int .i64 0] 24)) := ⟨heap_alloc_new w _, (Below.refl _ _).alloc (Nat.le_refl _) _, by simp⟩
theorem One.go {w W W' : World} {B : Nat} (h : One w W) (hb : Below B W W') (hB : w.heap.size < B) : One w W' :=
  ⟨(hb.block _ hB).trans h.rule, h.below.trans (hb.mono (by omega)), Nat.le_trans h.room hb.size⟩
theorem One.cells {w W : World} (h : One w W) : W.cell? ⟨w.heap.size, 0, none⟩ = some (.int .i64 0) ∧ W.cell? ⟨w.heap.size, 1, none⟩ = some (.int .i64 0) ∧ W.frozen? ⟨w.heap.size, 0, none⟩ = false ∧ W.frozen? ⟨w.heap.size, 1, none⟩ = false := by
  refine ⟨?_, ?_, Lib.frozen_of_heap h.rule 0, Lib.frozen_of_heap h.rule 1⟩ <;> (rw [Lib.cell_of_heap h.rule]; rfl)
theorem One.final {w W : World} (h : One w W) (r1 r2 : Int) {WF : World} (hF : WF = (W.setCell ⟨w.heap.size, 0, none⟩ (.int .i64 r1)).setCell ⟨w.heap.size, 1, none⟩ (.int .i64 r2)) :
    WF.cell? ⟨w.heap.size, 0, none⟩ = some (.int .i64 r1) ∧ WF.cell? ⟨w.heap.size, 1, none⟩ = some (.int .i64 r2) ∧ Below w.heap.size w WF := by
  have hr := Go.Joins.block_setCell (Go.Joins.block_setCell h.rule (i := 0) (.int .i64 r1)) (i := 1) (.int .i64 r2)
  rw [← hF] at hr
  refine ⟨by rw [Lib.cell_of_heap hr]; rfl, by rw [Lib.cell_of_heap hr]; rfl, ?_⟩
  rw [hF]
  exact (h.below.setCell (Nat.le_refl _) _).setCell (Nat.le_refl _) _

theorem cut_call (s : List UInt8) (p : ByteArray) (k : List UInt8) (w : World) (hk : p.data.toList = k) (hs : s.length ≤ 30000) (hv : VarsD w) :
    Calls Tryd.prog 25 #[.string ⟨s.toArray⟩, .string p] w fun e w' => e = .returned (.tuple #[.string ⟨(Lib.cut s k).1.toArray⟩, .string ⟨(Lib.cut s k).2.1.toArray⟩, .bool (Lib.cut s k).2.2]) ∧ Below w.heap.size w w' := by
  rw [← hk]
  exact cut_any s p w hs hv

theorem head_bound (rd : List UInt8 → Int × Int × Int) (line : List UInt8) (h : (headF rd line).2.2 = true) : (headF rd line).1.1 < 1000000000000 := by
  unfold headF at h ⊢
  simp only at h ⊢
  generalize (if (behindF ky (behindF kx line).2.1).2.1 = [] then kr ++ [66, 51, 47, 83, 50, 51] else (behindF ky (behindF kx line).2.1).2.1) = rest at *
  by_cases hk : (behindF kx line).2.2 = true ∧ (behindF ky (behindF kx line).2.1).2.2 = true ∧ Lib.hasPrefix rest kr = true ∧ (rd (Lib.trimPrefix rest kr)).2.2 = 0
  · rw [if_pos hk]
    have hq := hk.1
    unfold behindF at hq ⊢
    split at hq
    · rename_i hp
      rw [if_pos hp]
      exact (number_bound _ hq).2
    · simp at hq
  · rw [if_neg hk] at h
    simp at h

/-- what Decode answers -/
def DecOut (s : List UInt8) (w : World) (e : Ending) (w' : World) : Prop :=
  ∃ u, e = .returned (.tuple #[u, .agg #[.int .i64 (decF readF s).2.1.1, .int .i64 (decF readF s).2.1.2], .int .i64 (decF readF s).2.2]) ∧ Row w' u (decF readF s).1 ∧ Below w.heap.size w w'

set_option maxRecDepth 20000 in
set_option maxHeartbeats 4000000 in
theorem decode_long (s : ByteArray) (w : World) (hs : 20000 < s.size) : Calls Tryd.prog 10 #[.string s] w (DecOut s.data.toList w) := by
  have O0 := One.born w
  have HX : Hid (decF readF s.data.toList = ([], (0, 0), 1)) := by
    show _ = _
    unfold decF
    rw [if_pos (by rw [← Lib.size_eq]; exact hs)]
  have hs' : (20000 : Int) < (s.size : Int) := by omega
  clear O0
  go_enter Tryd.func10, Tryd.ntmps10
  go_wp2_with fail
  refine bodyPost_ret (v := .tuple #[.slice none 0 0, .agg #[.int .i64 0, .int .i64 0], .int .i64 1]) ?_ rfl ⟨.slice none 0 0, by rw [HX.out], by rw [HX.out]; exact Or.inl ⟨rfl, rfl⟩, ?_⟩
  · simp [results, Tryd.results10, go_sem]
  · exact (Below.refl _ _).alloc (Nat.le_refl _) _

set_option maxRecDepth 20000 in
set_option maxHeartbeats 4000000 in
theorem decode_short (s : List UInt8) (w : World) (hs : s.length ≤ 20000) (hv : VarsD w) : Calls Tryd.prog 10 #[.string ⟨s.toArray⟩] w (DecOut s w) := by
  have O0 := One.born w
  have hdf : decF readF s = (if (Lib.cut (skipF s.length s) [10]).2.2 = false ∨ (headF readF (Lib.cut (skipF s.length s) [10]).1).2.2 = false then ([], (0, 0), 2)
    else if (drawF (headF readF (Lib.cut (skipF s.length s) [10]).1).1.1 (headF readF (Lib.cut (skipF s.length s) [10]).1).1.2 ((Lib.cut (skipF s.length s) [10]).2.1.length + 1) 0 0 [] (Lib.cut (skipF s.length s) [10]).2.1).1 ≠ 0 then ([], (0, 0), (drawF (headF readF (Lib.cut (skipF s.length s) [10]).1).1.1 (headF readF (Lib.cut (skipF s.length s) [10]).1).1.2 ((Lib.cut (skipF s.length s) [10]).2.1.length + 1) 0 0 [] (Lib.cut (skipF s.length s) [10]).2.1).1)
      else ((drawF (headF readF (Lib.cut (skipF s.length s) [10]).1).1.1 (headF readF (Lib.cut (skipF s.length s) [10]).1).1.2 ((Lib.cut (skipF s.length s) [10]).2.1.length + 1) 0 0 [] (Lib.cut (skipF s.length s) [10]).2.1).2, (headF readF (Lib.cut (skipF s.length s) [10]).1).2.1, 0)) := by
    unfold decF
    rw [if_neg (by omega)]
  have hst : ∃ f, s.length ≤ f ∧ skipF s.length s = skipF f s := ⟨s.length, Nat.le_refl _, rfl⟩
  obtain ⟨tot, htot⟩ : ∃ tot, tot = skipF s.length s := ⟨_, rfl⟩
  rw [← htot] at hdf hst
  have HDF : Hid _ := hdf
  have hr8 := hv.room
  have hs' : (s.length : Int) ≤ 20000 := by omega
  clear hdf htot
  go_enter Tryd.func10, Tryd.ntmps10
  go_wp2_with fail
  generalize w.alloc (.cells #[.int .i64 0, .int .i64 0] 24) = W0 at *
  go_loopg [0] (s.length + 1) (fun gk s0 wr => ∃ t : List UInt8, t.length < gk ∧ t.length ≤ 20000 ∧ s0 = .string ⟨t.toArray⟩ ∧ (∃ f, t.length ≤ f ∧ tot = skipF f t) ∧ One w wr)
  case atStart => exact ⟨s, by omega, hs, rfl, hst, O0⟩
  case round =>
    obtain ⟨t, hg, ht, rfl, hsk, O1⟩ := hrel
    have HG : Hid (t.length < gk) := hg
    clear hg
    have hv1 := hv.go O1.below hr8
    have hhp := hasPrefix_any t ⟨#[35]⟩ wr
    have e2 : (⟨#[35]⟩ : ByteArray).data.toList = [35] := rfl
    rw [e2] at hhp
    clear e2
    have hct := fun V hV => cut_call t ⟨#[10]⟩ [10] V rfl (by omega) hV
    have hcl := cut_le t
    have hz1 := O1.room
    cases hp : Lib.hasPrefix t [35] with
    | true =>
      rw [hp] at hhp
      have hne : t ≠ [] := by intro e; subst e; simp [Lib.hasPrefix] at hp
      have hlt := hcl.2.2 hne
      have HSK : Hid (∃ f, (Lib.cut t [10]).2.1.length ≤ f ∧ tot = skipF f (Lib.cut t [10]).2.1) := by
        obtain ⟨f, hf, e⟩ := hsk
        obtain ⟨g, rfl⟩ : ∃ g, f = g + 1 := ⟨f - 1, by omega⟩
        rw [skipF, if_pos hp] at e
        exact ⟨g, by omega, e⟩
      clear hsk hp hcl
      generalize Lib.cut t [10] = cc at *
      obtain ⟨ca, cb, cd⟩ := cc
      simp only at hct hlt HSK
      go_wp2_with fail
      refine hhp.mono ?_
      rintro e w2 ⟨rfl, hw⟩
      have hw2 := hw.symm
      subst hw2
      clear hw
      go_wp2_with fail
      refine (hct _ hv1).mono ?_
      rintro e w3 ⟨rfl, hb3⟩
      go_wp2_with fail
      go_roundg (gk - 1)
      case measure => have := HG.out; omega
      case rel =>
        have h5 := HG.out
        exact ⟨cb, by omega, by omega, rfl, HSK.out, O1.go hb3 (by omega)⟩
    | false =>
      rw [hp] at hhp
      have hte : tot = t := by
        obtain ⟨f, hf, e⟩ := hsk
        rw [e]
        exact skip_no f t hp
      subst hte
      clear hsk hp
      have hlf := hcl.1
      have hlb := hcl.2.1
      clear hcl
      have hdd := HDF.out
      clear HDF
      generalize Lib.cut tot [10] = cc at *
      obtain ⟨line, body, whole⟩ := cc
      simp only at hct hlf hlb hdd
      have hrh := fun V hV => readHead_any line V (by omega) hV
      have hhb := head_bound readF line
      generalize headF readF line = q at *
      obtain ⟨⟨W, H⟩, ⟨r1, r2⟩, ok⟩ := q
      simp only [headV] at hrh hdd hhb
      have HDD : Hid _ := hdd
      clear hdd
      go_wp2_with fail
      refine hhp.mono ?_
      rintro e w2 ⟨rfl, hw⟩
      have hw2 := hw.symm
      subst hw2
      clear hw
      go_wp2_with fail
      refine (hct _ hv1).mono ?_
      rintro e w3 ⟨rfl, hb3⟩
      have O3 := O1.go hb3 (by omega)
      have hv3 := hv.go O3.below hr8
      go_wp2_with fail
      refine (hrh _ hv3).mono ?_
      rintro e w4 ⟨rfl, hb4⟩
      have O4 := O3.go hb4 (by have := O3.room; omega)
      have hz4 := O4.room
      have hb5 : Below w4.heap.size w4 ((w4.alloc (.cells #[.int .i64 W, .int .i64 H, .int .i64 0, .int .i64 0, .slice none 0 0] 61)).alloc (.cells #[.int .i64 r1, .int .i64 r2] 24)) := ((Below.refl _ _).alloc (Nat.le_refl _) _).alloc (by simp) _
      have O5 := O4.go hb5 (by omega)
      have hv5 := hv.go O5.below hr8
      have z1 : ((w4.alloc (.cells #[.int .i64 W, .int .i64 H, .int .i64 0, .int .i64 0, .slice none 0 0] 61)).alloc (.cells #[.int .i64 r1, .int .i64 r2] 24)).heap[w4.heap.size]? = some (.cells #[.int .i64 W, .int .i64 H, .int .i64 0, .int .i64 0, .slice none 0 0] 61 (0, 0)) := by
        rw [Lib.alloc_old _ _ _ (by simp)]
        exact heap_alloc_new w4 _
      have z2 : ((w4.alloc (.cells #[.int .i64 W, .int .i64 H, .int .i64 0, .int .i64 0, .slice none 0 0] 61)).alloc (.cells #[.int .i64 r1, .int .i64 r2] 24)).heap[w4.heap.size + 1]? = some (.cells #[.int .i64 r1, .int .i64 r2] 24 (0, 0)) := by
        have := heap_alloc_new (w4.alloc (.cells #[.int .i64 W, .int .i64 H, .int .i64 0, .int .i64 0, .slice none 0 0] 61)) (.cells #[.int .i64 r1, .int .i64 r2] 24)
        simpa using this
      have z3 : w4.heap.size + 2 ≤ ((w4.alloc (.cells #[.int .i64 W, .int .i64 H, .int .i64 0, .int .i64 0, .slice none 0 0] 61)).alloc (.cells #[.int .i64 r1, .int .i64 r2] 24)).heap.size := by simp
      generalize hW5 : (w4.alloc (.cells #[.int .i64 W, .int .i64 H, .int .i64 0, .int .i64 0, .slice none 0 0] 61)).alloc (.cells #[.int .i64 r1, .int .i64 r2] 24) = w5 at *
      obtain ⟨k0, k1, k2, k3⟩ := O5.cells
      by_cases hall : whole = true ∧ ok = true
      · obtain ⟨rfl, rfl⟩ := hall
        have hd2 := HDD.out
        rw [if_neg (by simp)] at hd2
        have P5 : PgAt w4.heap.size w4.heap.size W H 0 0 [] w5 := ⟨Nat.le_refl _, _, z1, Or.inl ⟨rfl, rfl⟩⟩
        have hWb : W < 1000000000000 := hhb rfl
        have hdr := draw_any w4.heap.size w4.heap.size W H body w5 P5 hv5 (by omega) (by omega) hWb (by omega)
        generalize drawF W H (body.length + 1) 0 0 [] body = dd at *
        obtain ⟨dc, cells⟩ := dd
        simp only at hdr hd2
        have HD2 : Hid _ := hd2
        clear hd2 HDD P5
        go_wp2_with fail
        refine hdr.mono ?_
        rintro e w6 ⟨rfl, hok, hl6⟩
        have O6 := O5.go hl6.1 (by omega)
        obtain ⟨m0, m1, m2, m3⟩ := O6.cells
        have HF := fun a b WF hF => O6.final a b (WF := WF) hF
        have hz6 := hl6.1.size
        by_cases hdc : dc = 0
        · subst hdc
          obtain ⟨x, y, P6⟩ := hok rfl
          have HX : Hid (decF readF s = (cells, (r1, r2), 0)) := by
            have := HD2.out
            rw [if_neg (by simp)] at this
            exact this
          have z6 := hl6.2 _ _ z2 (by intro e; have := Option.some.inj e; omega) (by intro c fz e; cases e)
          obtain ⟨_, v, hbk, hkp⟩ := P6
          have x4 : w6.cell? ⟨w4.heap.size, 4, none⟩ = some v := by rw [Lib.cell_of_heap hbk]; rfl
          have x0 : w6.cell? ⟨w4.heap.size + 1, 0, none⟩ = some (.int .i64 r1) := by rw [Lib.cell_of_heap z6]; rfl
          have x1 : w6.cell? ⟨w4.heap.size + 1, 1, none⟩ = some (.int .i64 r2) := by rw [Lib.cell_of_heap z6]; rfl
          have hne1 : w4.heap.size ≠ w.heap.size := by omega
          have hne2 : w4.heap.size + 1 ≠ w.heap.size := by omega
          have HROW : Hid (Row w6 v cells) := hkp.row
          have HB : Hid (∀ v cs, Kept w6 w4.heap.size v cs → Kept ((w6.setCell ⟨w.heap.size, 0, none⟩ (.int .i64 r1)).setCell ⟨w.heap.size, 1, none⟩ (.int .i64 r2)) w4.heap.size v cs) := fun v cs hk => by
            have hno : v.ownBlock ≠ some w.heap.size := fun e => by have := (hk.owns.lt _ e).1; omega
            exact (hk.setOther hno).setOther hno
          have HKP : Hid (Kept w6 w4.heap.size v cells) := hkp
          obtain ⟨va, vc, rfl, _⟩ := hkp.row.shape
          clear HD2 hbk hkp z6 z1 z2 k0 k1 k2 k3
          go_wp2_with fail
          go_region
          all_goals
            go_wp2
            obtain ⟨s0, s1, s2⟩ := HF r1 r2 _ rfl
            refine bodyPost_ret (v := .tuple #[.slice va cells.length vc, .agg #[.int .i64 r1, .int .i64 r2], .int .i64 0]) ?_ rfl ⟨_, by rw [HX.out], by rw [HX.out]; exact (HB.out _ _ HKP.out).row, s2.drew⟩
            simp [results, Tryd.results10, go_sem, s0, s1]
        · have hne : (dc != 0) = true := by simpa using hdc
          have HX : Hid (decF readF s = ([], (0, 0), dc)) := by
            have := HD2.out
            rw [if_pos hdc] at this
            exact this
          clear HD2 hok
          go_wp2_with fail
          obtain ⟨s0, s1, s2⟩ := HF 0 0 _ rfl
          refine bodyPost_ret (v := .tuple #[.slice none 0 0, .agg #[.int .i64 0, .int .i64 0], .int .i64 dc]) ?_ rfl ⟨.slice none 0 0, by rw [HX.out], by rw [HX.out]; exact Or.inl ⟨rfl, rfl⟩, s2⟩
          simp [results, Tryd.results10, go_sem, s0, s1]
      · have HX : Hid (decF readF s = ([], (0, 0), 2)) := by
          have := HDD.out
          rw [if_pos (by cases whole <;> cases ok <;> simp at hall ⊢)] at this
          exact this
        have hbad : whole = false ∨ (whole = true ∧ ok = false) := by cases whole <;> cases ok <;> simp at hall ⊢
        have HF := fun WF hF => O5.final 0 0 (WF := WF) hF
        clear hall HDD
        rcases hbad with rfl | ⟨rfl, rfl⟩
        all_goals
          go_wp2_with fail
          obtain ⟨s0, s1, s2⟩ := HF _ rfl
          refine bodyPost_ret (v := .tuple #[.slice none 0 0, .agg #[.int .i64 0, .int .i64 0], .int .i64 2]) ?_ rfl ⟨.slice none 0 0, by rw [HX.out], by rw [HX.out]; exact Or.inl ⟨rfl, rfl⟩, s2⟩
          simp [results, Tryd.results10, go_sem, s0, s1]

theorem decode_any (s : ByteArray) (w : World) (hv : VarsD w) : Calls Tryd.prog 10 #[.string s] w (DecOut s.data.toList w) := by
  by_cases h : 20000 < s.size
  · exact decode_long s w h
  · exact decode_short s.data.toList w (by rw [← Lib.size_eq]; omega) hv
theorem decode_list (s : List UInt8) (w : World) (hv : VarsD w) : Calls Tryd.prog 10 #[.string ⟨s.toArray⟩] w (DecOut s w) := decode_any ⟨s.toArray⟩ w hv
end Go.Proofs.YtpldnhlancjlnaaDoor
