/- ArenaUndoes: the law's walk. -/
import Derived.Test.YthobobgiendcfaaArUndo
import Derived.Test.YthobobgiendcfaaKeepSame
import Derived.Test.YthobobgiendcfaaFromsLaw
namespace Go.Proofs.Ythobobgiendcfaa.A
open Go.RowKit Go.Maps

theorem ORow.within {w : World} {base : Nat} {v : Value} {zs : List (Int × Int)} (h : ORow w base v zs) : RowIn w base w.heap.size v zs := by
  rcases h with h | ⟨hz, b, off, c, hv, hB, hb, hl, hm, hh⟩
  · exact Or.inl h
  · exact Or.inr ⟨hz, b, off, c, hv, hB, hb, Nat.le_refl _, hl, hm, hh.read⟩

set_option maxRecDepth 20000 in
set_option maxHeartbeats 8000000 in
theorem undoes_any (v v' : Value) (zs zs' : List (Int × Int)) (w : World) (hrow : RRow w v zs) (hrow' : RRow w v' zs') :
    Calls Try.prog 17 #[v, v'] w fun e w' => e = .returned (.bool true) ∧ Below w.heap.size w w' := by
  have c1 : ∀ W, RRow W v zs → Calls Try.prog 53 #[v, .int .i64 100, .int .i64 1073741824] W fun e w' => ∃ u, e = .returned u ∧ Below W.heap.size W w' ∧ Kept w' W.heap.size u (someL 100 1073741824 zs) := fun W h => some_any v zs 100 1073741824 W h (by omega) (by omega) (by omega)
  have c2 : ∀ W, RRow W v' zs' → Calls Try.prog 53 #[v', .int .i64 100, .int .i64 1073741824] W fun e w' => ∃ u, e = .returned u ∧ Below W.heap.size W w' ∧ Kept w' W.heap.size u (someL 100 1073741824 zs') := fun W h => some_any v' zs' 100 1073741824 W h (by omega) (by omega) (by omega)
  have c4 := fun W => begun_any W
  go_enter Try.func17, Try.ntmps17
  go_wp2_with fail
  refine (c1 _ hrow).mono ?_
  rintro e w1 ⟨u1, rfl, hb1, hk1⟩
  have hrow2 := RRow.below hrow' hb1
  have R1 := rowIn_kept hk1
  clear c1 hk1 hrow hrow'
  go_wp2_with fail
  refine (c2 _ hrow2).mono ?_
  rintro e w2 ⟨u2, rfl, hb2, hk2⟩
  have S2 := rowIn_kept hk2
  have R2 := R1.apart (apart_of_below hb2 (fun _ => False)) (fun k _ h2 e => e)
  have b2 : Below w.heap.size w w2 := hb1.trans (hb2.mono hb1.size)
  clear c2 hk2 hrow2 R1
  obtain ⟨L, hL⟩ : ∃ L, L = someL 100 1073741824 zs := ⟨_, rfl⟩
  obtain ⟨M, hM⟩ : ∃ L, L = someL 100 1073741824 zs' := ⟨_, rfl⟩
  rw [← hL] at R2
  rw [← hM] at S2
  have hcode : tcode L = 0 := by rw [hL]; exact someL_code (by omega) (by omega) (by omega) zs
  have hlen : L.length ≤ 100 := by rw [hL]; exact someL_len _ _ _
  have hcodM : tcode M = 0 := by rw [hM]; exact someL_code (by omega) (by omega) (by omega) zs'
  have hlenM : M.length ≤ 100 := by rw [hM]; exact someL_len _ _ _
  clear hL hM
  obtain ⟨ys, hys⟩ := tidied_exists L
  have hyl : ys.length ≤ 100 := Nat.le_trans (tidied_len hys) hlen
  obtain ⟨ms, hms⟩ := tidied_exists M
  have hml : ms.length ≤ 100 := Nat.le_trans (tidied_len hms) hlenM
  have hs12 := hb2.size
  go_wp2_with fail
  refine (c4 _).mono ?_
  rintro e w3 ⟨b, F, rfl, hA3, hF3, hb3⟩
  have b3 : Below w.heap.size w w3 := b2.trans (hb3.mono b2.size)
  have R3 := R2.apart (apart_of_below hb3 F) (fun k _ h2 e => by have := hF3 k e; omega)
  have S3 := S2.apart (apart_of_below hb3 F) (fun k _ h2 e => by have := hF3 k e; omega)
  have hF3w : ∀ k, F k → w2.heap.size ≤ k := hF3
  have c5 := from_any b 1 1 30000 F arBegun u1 L ys w3 hA3 (by omega) begun_inv R3.row hcode hys (begun_pur 1 _ (by omega) (by omega))
  clear c4 R2 S2
  go_wp2_with fail
  refine c5.mono ?_
  rintro e w4 ⟨p, rfl, A0, F4, n4, N4, lv, hA4, hF4, P4, hI0, hP0, g4, s4, hL4, hlv4, hl0, hc0⟩
  have hF4w : ∀ k, F4 k → w2.heap.size ≤ k := fun k e => by
    rcases hF4 k e with h | h
    · exact hF3w k h
    · have := hb3.size; omega
  have b4 : Below w.heap.size w w4 := below_apart b3 P4 (fun k e => by have := hF3w k e; have := b2.size; omega)
  have R4 := R3.apart P4 (fun k _ h2 e => by have := hF3w k e; omega)
  have S4 := S3.apart P4 (fun k _ h2 e => by have := hF3w k e; omega)
  have c6 := fun W h => Count_any b n4 1 F4 A0 W h (by omega)
  have c7 := fun W h => Mark_any b 1 n4 F4 A0 W h (by omega)
  clear c5 R3 S3
  go_wp2_with fail
  refine (c6 _ hA4).mono ?_
  rintro e w4' ⟨rfl, hw⟩
  have hw' := hw.symm
  subst hw'
  clear c6 hw
  go_wp2_with fail
  refine (c7 _ hA4).mono ?_
  rintro e w5 ⟨rfl, hA5, P5⟩
  have b5 : Below w.heap.size w w5 := below_apart b4 P5 (fun k e => by have := hF4w k e; have := b2.size; omega)
  have R5 := R4.apart P5 (fun k _ h2 e => by have := hF4w k e; omega)
  have S5 := S4.apart P5 (fun k _ h2 e => by have := hF4w k e; omega)
  have c8 := from_any b n4 1 20000 F4 _ u2 M ms w5 hA5 (by omega) (marked_inv hI0) S5.row hcodM hms ((marked_pur hP0).less (by omega))
  clear c7 R4 S4
  go_wp2_with fail
  refine c8.mono ?_
  rintro e w6 ⟨q, rfl, A2, F6, n6, N6, lv6, hA6, hF6, P6, hI2, hP2, g6, s6, hL6, hlv6, hl2, hc2⟩
  have hF6w : ∀ k, F6 k → w2.heap.size ≤ k := fun k e => by
    rcases hF6 k e with h | h
    · exact hF4w k h
    · have := hb3.size; have := P4.size; have := P5.size; omega
  have b6 : Below w.heap.size w w6 := below_apart b5 P6 (fun k e => by have := hF4w k e; have := b2.size; omega)
  have R6 := R5.apart P6 (fun k _ h2 e => by have := hF4w k e; omega)
  have S6 := S5.apart P6 (fun k _ h2 e => by have := hF4w k e; omega)
  obtain ⟨hfr, hU⟩ := undone_of (by omega) g6 hP2.bud.mask
  have hle : A0.ths.length ≤ A2.ths.length := g6.ext.len
  have hIU := hU.inv hI0 hI2 hle
  have hPU := hU.pur (hP0.less (show 20000 ≤ 30000 by omega)) hP2 g6.room
  have hcn2 : A2.cnt 1 = A0.cnt 1 + (N6.length : Int) := by rw [g6.cnt, upd_same]
  have hc0nn := (hP0.bud.cnt 1 (by omega)).1
  have hc2b := (hP2.bud.cnt 1 (by omega)).2
  have hfrl := hP2.bud.fresh 1 (by omega)
  have c9 := fun W h => Count_any b n6 1 F6 A2 W h (by omega)
  have c10 := fun W h => Undo_any b 1 n6 F6 A2 W h (by omega) (by omega) (by rw [hfr]; exact g6.low) hP2.bud.mask hP2.bud.young.few (by rw [hfr, hcn2]; omega)
  rw [hfr] at c10 hfrl
  clear c8 R5 S5
  go_wp2_with fail
  refine (c9 _ hA6).mono ?_
  rintro e w6' ⟨rfl, hw⟩
  have hw' := hw.symm
  subst hw'
  clear c9 hw
  go_wp2_with fail
  refine (c10 _ hA6).mono ?_
  rintro e w7 ⟨rfl, hA7, P7⟩
  have b7 : Below w.heap.size w w7 := below_apart b6 P7 (fun k e => by have := hF6w k e; have := b2.size; omega)
  have R7 := R6.apart P7 (fun k _ h2 e => by have := hF6w k e; omega)
  have S7 := S6.apart P7 (fun k _ h2 e => by have := hF6w k e; omega)
  clear c10 R6 S6
  generalize A2.undo 1 = U at *
  have hlU : levelF U.ths 1 p = some (lv : Int) := level_ext hl0 hU.ext
  have hcU : cellsF U.ths lv p = cellsF A0.ths lv p := cells_ext hI0.good hU.ext lv p (glevel_of hl0)
  have hlen2 := made_len hI0.good (glevel_of hl0) hys.1 hc0
  have htid : Tidied (shiftL (-(halfN lv : Int)) (-(halfN lv : Int)) (cellsF U.ths lv p)) ys ∧ tcode (shiftL (-(halfN lv : Int)) (-(halfN lv : Int)) (cellsF U.ths lv p)) = 0 := by
    rw [hcU]
    exact made_tidied hys (made_mem hc0) (by rw [shift_len]; omega)
  have c11 : ∀ W, ArAt W b F6 n6 U → Calls Try.prog 41 #[.pointer (some ⟨b, 0, none⟩), .int .i64 1, .int .i64 p] W fun x w' => ∃ u, x = .returned (.tuple #[u, .int .i64 0]) ∧ ORow w' W.heap.size u ys ∧ Below W.heap.size W w' := fun W h => (Cells_root b n6 1 lv p F6 U W h hIU (by omega) hPU.bud.mask hPU.bud.young.few hlU (by have := hL4.two; omega) (by omega) (by rw [hcU]; omega)).mono fun x w' ⟨u, ys2, h1, h2, h3, h4⟩ => ⟨u, by rw [h1, htid.2], by rw [← h2.unique htid.1]; exact h3, h4⟩
  go_wp2_with fail
  refine (c11 _ hA7).mono ?_
  rintro e w8 ⟨x8, rfl, hr8, hb8⟩
  have hA8 := hA7.below hb8
  have b8 : Below w.heap.size w w8 := b7.trans (hb8.mono b7.size)
  have R8 := R7.apart (apart_of_below hb8 F6) (fun k _ h2 e => by have := hF6w k e; omega)
  have S8 := S7.apart (apart_of_below hb8 F6) (fun k _ h2 e => by have := hF6w k e; omega)
  have c12 := tidy_told u1 L w8 R8.row
  clear c11 R7 S7
  go_wp2_with fail
  refine c12.mono ?_
  rintro e w9 ⟨x9, ys9, rfl, hb9, ht9, hr9⟩
  obtain rfl : ys9 = ys := ht9.unique hys
  have hA9 := hA8.below hb9
  have b9 : Below w.heap.size w w9 := b8.trans (hb9.mono b8.size)
  have S9 := S8.apart (apart_of_below hb9 F6) (fun k _ h2 e => by have := hF6w k e; omega)
  have c13 := from_any b n6 1 5000 F6 U u2 M ms w9 hA9 (by omega) hIU S9.row hcodM hms (hPU.less (by omega))
  clear c12 R8 S8
  go_wp2_with fail
  refine c13.mono ?_
  rintro e w10 ⟨r, rfl, A3, F10, n10, N10, lv10, hA10, hF10, P10, hI3, hP3, g10, s10, hL10, hlv10, hl3, hc3⟩
  have b10 : Below w.heap.size w w10 := below_apart b9 P10 (fun k e => by have := hF6w k e; have := b2.size; omega)
  obtain rfl : lv10 = lv6 := hL10.unique hL6
  have hgq := hU.alike.glevel (glevel_of hl2)
  have hrq : r = q := cells_one hI3.good hI3.uniq lv10 r q (glevel_of hl3) (glevel_ext hgq g10.ext) (fun x => by rw [hc3 x, cells_ext hIU.good g10.ext _ _ hgq, hU.alike.cells, hc2 x])
  subst hrq
  have hnn := again hU g6 g10 hI2 hIU hI3 s6 s10 hl2 hl3
  have hcn3 : A3.cnt 1 = A0.cnt 1 + (N6.length : Int) := by rw [g10.cnt, upd_same, hU.cnt, hnn]
  have hflt := hA7.flt
  have r8 : Row w10 x8 ys9 := (((ORow.within hr8).apart (apart_of_below hb9 F6) (fun k h1 _ e => by have := hflt k e; omega)).apart P10 (fun k h1 _ e => by have := hflt k e; omega)).row
  have r9 : Row w10 x9 ys9 := ((ORow.within hr9).apart P10 (fun k h1 _ e => by have := hflt k e; have := hb8.size; omega)).row
  have c14 := keepSame_any x8 x9 ys9 w10 r8 r9
  have c15 := fun W h => Count_any b n10 1 F10 A3 W h (by omega)
  rw [hcn3] at c15
  have hk : IntKind.i64.wrap (A0.cnt 1 + (N6.length : Int) - A0.cnt 1) = (N6.length : Int) := by rw [IntKind.wrap_i64]; omega
  generalize A0.cnt 1 = cz at *
  generalize N6.length = nl at *
  clear c13 hnn hcn2 hcn3 hc0 hc2 hc3 hl0 hl2 hl3 hlU hcU htid g4 g6 g10 s4 s6 s10 hI0 hI2 hIU hI3 hP0 hP2 hPU hP3 hU hys hms hcodM S9 ht9 hgq hlen2
  go_wp2_with fail
  refine c14.mono ?_
  rintro e w11 ⟨rfl, hb11⟩
  have hA11 := hA10.below hb11
  have b11 : Below w.heap.size w w11 := b10.trans (hb11.mono b10.size)
  clear c14
  go_wp2_with fail
  refine (c15 _ hA11).mono ?_
  rintro e w11' ⟨rfl, hw⟩
  have hw' := hw.symm
  subst hw'
  clear c15 hw
  go_wp2_with fail
  go_ret
  exact ⟨rfl, b11⟩
end Go.Proofs.Ythobobgiendcfaa.A
