/- ArenaKeeps: the law's walk. -/
import Derived.Test.YthobobgiendcfaaArSweepP
import Derived.Test.YthobobgiendcfaaUndoesLaw
namespace Go.Proofs.Ythobobgiendcfaa.A
open Go.RowKit Go.Maps

theorem begun_kok : KOk arBegun.ths := by
  obtain ⟨N, g, hN⟩ := begun_joined.gain
  obtain ⟨y, hy, hk, _⟩ := begun_joined.own
  exact g.kok (fun x hx => by cases hx) begun_inv (fun j hj => by rw [hN j hj]; exact Sub.self _) (level_of hy (congrArg Ky.k hk))
theorem begun_room : arBegun.room = 200000 := by
  obtain ⟨N, g, _⟩ := begun_joined.gain
  exact g.room
theorem ids_none {l : List Th} {t : Nat} {K : List Bool} (h : ∀ (j : Nat) (x : Th), l[j]? = some x → x.mask.testBit t = true → K[j]! = true) : idsF l t K l.length = [] := by
  unfold idsF
  rw [List.map_eq_nil_iff, List.filter_eq_nil_iff]
  intro j hj
  rw [List.mem_range] at hj
  have hx : l[j]? = some l[j]! := by rw [getElem!_pos l j hj]; exact List.getElem?_eq_getElem hj
  cases hb : (l[j]!).mask.testBit t with
  | false => simp
  | true => rw [h j _ hx hb]; simp
theorem cnt_small {A : Ar} (hI : Inv A) (hf : A.ths.length < 1000000) {t : Nat} (ht : t < 64) : 0 ≤ A.cnt t ∧ A.cnt t < 4611686018427387904 := by
  have h1 := hI.cnt t ht
  have h2 : ownN A.ths t ≤ A.ths.length := List.countP_le_length
  omega

/-- what is left behind Clean and Sweep -/
structure Kept2 (p q : Int) (lv lq : Nat) (A S : Ar) : Prop where
  inv : Inv S
  kok : KOk S.ths
  mask : ∀ x ∈ S.ths, x.mask < 18446744073709551616
  len : S.ths.length = A.ths.length
  levp : levelF S.ths 1 p = some (lv : Int)
  levq : levelF S.ths 2 q = some (lq : Int)
  cp : cellsF S.ths lv p = cellsF A.ths lv p
  cq : cellsF S.ths lq q = cellsF A.ths lq q
  sub : ∀ (j : Nat) (x : Th), S.ths[j]? = some x → x.mask.testBit 1 = true → Sub S.ths p ((j : Int) + 2)
  none : ∀ x ∈ S.ths, gone x = false
  free : S.free.length ≤ A.free.length + A.ths.length
theorem kept2_of {p q : Int} {lv lq : Nat} {A C : Ar} (hI : Inv A) (hk : KOk A.ths) (hC : Cleaned 1 p A C) (hp : levelF A.ths 1 p = some (lv : Int)) (hq : levelF A.ths 2 q = some (lq : Int)) : Kept2 p q lv lq A (C.swp C.ths.length) := by
  have hIC := hC.inv hI
  have hpC := hC.level hp (fun _ _ => Sub.self _)
  have hqC := hC.level hq (fun e => by cases e)
  refine ⟨swept_inv hIC, swept_kok (hC.alike.kok hk), swept_mask hC.mask, ?_, swept_level hpC, swept_level hqC, ?_, ?_, fun j y hy hb => ?_, swept_none, ?_⟩
  · show (sw _ _).length = _
    rw [sw_len, hC.alike.1]
  · exact (swept_cells hIC lv p hpC).trans (hC.alike.cells lv p)
  · exact (swept_cells hIC lq q hqC).trans (hC.alike.cells lq q)
  · obtain ⟨x, hx, hxb⟩ := (swept_bits (show (sw C.ths C.ths.length)[j]? = some y from hy)).1 hb
    obtain ⟨x0, hx0, _⟩ := hC.alike.symm.2 j x hx
    have hs := ((hC.bits j x0 x hx0 hx 1).1 hxb).2 rfl
    exact swept_sub hIC (hC.alike.sub hs) _ hpC
  · show (C.free ++ fr C.ths C.ths.length).length ≤ _
    rw [List.length_append, hC.free]
    have := fr_len C.ths C.ths.length
    rw [hC.alike.1] at this ⊢
    omega

set_option maxRecDepth 20000 in
set_option maxHeartbeats 8000000 in
theorem keeps_any (v v' : Value) (zs zs' : List (Int × Int)) (w : World) (hrow : RRow w v zs) (hrow' : RRow w v' zs') :
    Calls Try.prog 16 #[v, v'] w fun e w' => e = .returned (.bool true) ∧ Below w.heap.size w w' := by
  have c1 : ∀ W, RRow W v zs → Calls Try.prog 53 #[v, .int .i64 100, .int .i64 1073741824] W fun e w' => ∃ u, e = .returned u ∧ Below W.heap.size W w' ∧ Kept w' W.heap.size u (someL 100 1073741824 zs) := fun W h => some_any v zs 100 1073741824 W h (by omega) (by omega) (by omega)
  have c2 : ∀ W, RRow W v' zs' → Calls Try.prog 53 #[v', .int .i64 100, .int .i64 1073741824] W fun e w' => ∃ u, e = .returned u ∧ Below W.heap.size W w' ∧ Kept w' W.heap.size u (someL 100 1073741824 zs') := fun W h => some_any v' zs' 100 1073741824 W h (by omega) (by omega) (by omega)
  have c4 := fun W => begun_any W
  go_enter Try.func16, Try.ntmps16
  go_wp2_with fail
  refine (c1 _ hrow).mono ?_
  rintro e w1 ⟨u1, rfl, hb1, hk1⟩
  have hrow2 := RRow.below hrow' hb1
  have R1 := rowIn_kept hk1
  clear c1 hk1 hrow hrow'
  go_wp2_with fail
  refine (c2 _ hrow2).mono ?_
  rintro e w2 ⟨u2, rfl, hb2, hk2⟩
  have S2 := rowIn_kept hk2
  have R2 := R1.apart (apart_of_below hb2 (fun _ => False)) (fun k _ h2 e => e)
  have b2 : Below w.heap.size w w2 := hb1.trans (hb2.mono hb1.size)
  clear c2 hk2 hrow2 R1
  obtain ⟨L, hL⟩ : ∃ L, L = someL 100 1073741824 zs := ⟨_, rfl⟩
  obtain ⟨M, hM⟩ : ∃ L, L = someL 100 1073741824 zs' := ⟨_, rfl⟩
  rw [← hL] at R2
  rw [← hM] at S2
  have hcode : tcode L = 0 := by rw [hL]; exact someL_code (by omega) (by omega) (by omega) zs
  have hlen : L.length ≤ 100 := by rw [hL]; exact someL_len _ _ _
  have hcodM : tcode M = 0 := by rw [hM]; exact someL_code (by omega) (by omega) (by omega) zs'
  have hlenM : M.length ≤ 100 := by rw [hM]; exact someL_len _ _ _
  clear hL hM
  obtain ⟨ys, hys⟩ := tidied_exists L
  have hyl : ys.length ≤ 100 := Nat.le_trans (tidied_len hys) hlen
  obtain ⟨ms, hms⟩ := tidied_exists M
  have hml : ms.length ≤ 100 := Nat.le_trans (tidied_len hms) hlenM
  have hs12 := hb2.size
  have hs02 := b2.size
  go_wp2_with fail
  refine (c4 _).mono ?_
  rintro e w3 ⟨b, F, rfl, hA3, hF3, hb3⟩
  have b3 : Below w.heap.size w w3 := b2.trans (hb3.mono b2.size)
  have R3 := R2.apart (apart_of_below hb3 F) (fun k _ h2 e => by have := hF3 k e; omega)
  have S3 := S2.apart (apart_of_below hb3 F) (fun k _ h2 e => by have := hF3 k e; omega)
  have c5 := from_any b 1 1 30000 F arBegun u1 L ys w3 hA3 (by omega) begun_inv R3.row hcode hys (begun_pur 1 _ (by omega) (by omega))
  have hs23 := hb3.size
  clear c4 R2 S2
  go_wp2_with fail
  refine c5.mono ?_
  rintro e w4 ⟨p, rfl, A1, F4, n4, N4, lv, hA4, hF4, P4, hI1, hP1, g4, s4, hL4, hlv4, hl1, hc1⟩
  have hF4w : ∀ k, F4 k → w2.heap.size ≤ k := fun k e => by
    rcases hF4 k e with h | h
    · exact hF3 k h
    · omega
  have b4 : Below w.heap.size w w4 := below_apart b3 P4 (fun k e => by have := hF3 k e; omega)
  have R4 := R3.apart P4 (fun k _ h2 e => by have := hF3 k e; omega)
  have S4 := S3.apart P4 (fun k _ h2 e => by have := hF3 k e; omega)
  have hP12 : Pur A1 2 25000 n4 := by
    refine ⟨hP1.bud.less (by omega), ?_, by have := hP1.nn; omega⟩
    rw [g4.lim, begun_lim, g4.cnt, upd, if_neg (by omega), begun_cnt0 2 (by omega)]
    omega
  have c6 := from_any b n4 2 15000 F4 A1 u2 M ms w4 hA4 (by omega) hI1 S4.row hcodM hms (hP12.less (by omega))
  have hs34 := P4.size
  clear c5 R3 S3
  go_wp2_with fail
  refine c6.mono ?_
  rintro e w5 ⟨q, rfl, A2, F5, n5, N5, lq, hA5, hF5, P5, hI2, hP2, g5, s5, hL5, hlv5, hl2, hc2⟩
  have hF5w : ∀ k, F5 k → w2.heap.size ≤ k := fun k e => by
    rcases hF5 k e with h | h
    · exact hF4w k h
    · omega
  have b5 : Below w.heap.size w w5 := below_apart b4 P5 (fun k e => by have := hF4w k e; omega)
  have R5 := R4.apart P5 (fun k _ h2 e => by have := hF4w k e; omega)
  have S5 := S4.apart P5 (fun k _ h2 e => by have := hF4w k e; omega)
  have hP21 : Pur A2 1 15000 n5 := by
    refine ⟨hP2.bud, ?_, hP2.nn⟩
    have := hP1.quo
    rw [g5.lim, g5.cnt, upd, if_neg (by omega)]
    omega
  have c7 := from_any b n5 1 5000 F5 A2 u2 M ms w5 hA5 (by omega) hI2 S5.row hcodM hms (hP21.less (by omega))
  have hs45 := P5.size
  clear c6 R4 S4
  go_wp2_with fail
  refine c7.mono ?_
  rintro e w6 ⟨q3, rfl, A3, F6, n6, N6, l6, hA6, hF6, P6, hI3, hP3, g6, s6, hL6, hlv6, hl3, hc3⟩
  have hF6w : ∀ k, F6 k → w2.heap.size ≤ k := fun k e => by
    rcases hF6 k e with h | h
    · exact hF5w k h
    · omega
  have b6 : Below w.heap.size w w6 := below_apart b5 P6 (fun k e => by have := hF5w k e; omega)
  have R6 := R5.apart P6 (fun k _ h2 e => by have := hF5w k e; omega)
  have S6 := S5.apart P6 (fun k _ h2 e => by have := hF5w k e; omega)
  have hs56 := P6.size
  have hkok : KOk A3.ths := g6.kok (g5.kok (g4.kok begun_kok hI1 s4 hl1) hI2 s5 hl2) hI3 s6 hl3
  have hp3 : levelF A3.ths 1 p = some (lv : Int) := level_ext hl1 (g5.ext.trans g6.ext)
  have hq3 : levelF A3.ths 2 q = some (lq : Int) := level_ext hl2 g6.ext
  have hcp3 : cellsF A3.ths lv p = cellsF A1.ths lv p := cells_ext hI1.good (g5.ext.trans g6.ext) lv p (glevel_of hl1)
  have hcq3 : cellsF A3.ths lq q = cellsF A2.ths lq q := cells_ext hI2.good g6.ext lq q (glevel_of hl2)
  have hroom : A3.ths.length < 200000 := by
    have := hP3.bud.room
    rw [g6.room, g5.room, g4.room, begun_room] at this
    omega
  have hpos : 0 < A3.ths.length := by
    obtain ⟨x, hx⟩ := level_own hp3 (by
      rcases level_some hp3 with ⟨_, h⟩ | ⟨x, h, _⟩
      · have := hL4.two; omega
      · exact (own_some h).1)
    have := (List.getElem?_eq_some_iff.1 (own_some hx).2.1).1
    omega
  have hf3 := hP3.bud.free
  have c8 := fun W rb h hr => Clean_any b n6 1 lv rb p F6 A3 W h hI3 (by omega) hP3.bud.mask (by omega) hpos hp3 (cnt_small hI3 (by omega) (by omega)) hr
  have hrootN : ∀ W : World, (W.alloc (.cells #[.int .i64 p] 3)).cell? ⟨W.heap.size, 0, none⟩ = some (.int .i64 p) := fun W => Lib.cell_of_heap (heap_alloc_new W _) 0
  have HRN : Hid (∀ W : World, (W.alloc (.cells #[.int .i64 p] 3)).cell? ⟨W.heap.size, 0, none⟩ = some (.int .i64 p)) := hrootN
  have hlv2 := hL4.two
  have hlq2 := hL5.two
  have hlenp := made_len hI1.good (glevel_of hl1) hys.1 hc1
  have hlenq := made_len hI2.good (glevel_of hl2) hms.1 hc2
  have HTP : Hid (Tidied (shiftL (-(halfN lv : Int)) (-(halfN lv : Int)) (cellsF A1.ths lv p)) ys ∧ tcode (shiftL (-(halfN lv : Int)) (-(halfN lv : Int)) (cellsF A1.ths lv p)) = 0) := made_tidied hys (made_mem hc1) (by rw [shift_len]; omega)
  have HTQ : Hid (Tidied (shiftL (-(halfN lq : Int)) (-(halfN lq : Int)) (cellsF A2.ths lq q)) ms ∧ tcode (shiftL (-(halfN lq : Int)) (-(halfN lq : Int)) (cellsF A2.ths lq q)) = 0) := made_tidied hms (made_mem hc2) (by rw [shift_len]; omega)
  clear c7 R5 S5 hrootN
  have ba : Below w6.heap.size w6 (w6.alloc (.cells #[.int .i64 p] 3)) := (Below.refl _ _).alloc (Nat.le_refl _) _
  have HBA : Hid (Below w6.heap.size w6 (w6.alloc (.cells #[.int .i64 p] 3))) := ba
  clear ba
  go_wp2_with fail
  refine (c8 _ _ (hA6.below HBA.out) (HRN.out w6)).mono ?_
  rintro e w7 ⟨K, hKl, hK, rfl, hA7, P7⟩
  have hC := cleaned_of (t := 1) (by omega) hI3 hP3.bud.mask hKl hK
  have R7 := (R6.apart (apart_of_below HBA.out F6) (fun k _ h2 e => by have := hF6w k e; omega)).apart P7 (fun k _ h2 e => by have := hF6w k e; omega)
  have S7 := (S6.apart (apart_of_below HBA.out F6) (fun k _ h2 e => by have := hF6w k e; omega)).apart P7 (fun k _ h2 e => by have := hF6w k e; omega)
  have b7 : Below w.heap.size w w7 := below_apart (b6.trans (HBA.out.mono b6.size)) P7 (fun k e => by have := hF6w k e; omega)
  have hs67 : w6.heap.size ≤ w7.heap.size := Nat.le_trans HBA.out.size P7.size
  generalize A3.clean 1 K = C at *
  generalize (idsF A3.ths 1 K A3.ths.length).length = nC at *
  have hk2 := kept2_of hI3 hkok hC hp3 hq3
  have hCl := hC.alike.1
  have c9 := Sweep_any b n6 F6 C w7 hA7 (by omega) (by omega) (hC.inv hI3) (hC.alike.kok hkok) (by rw [hC.free, hf3]; intro y hy; cases hy) (by rw [hC.free, hf3]; simp; omega)
  clear c8 R6 S6 hC hKl hK hA6
  go_wp2_with fail
  refine c9.mono ?_
  rintro e w8 ⟨rfl, ⟨F8, hF8, hA8⟩, P8⟩
  have hF8w : ∀ k, F8 k → w2.heap.size ≤ k := fun k e => by
    rcases hF8 k e with h | h
    · exact hF6w k h
    · omega
  have R8 := R7.apart P8 (fun k _ h2 e => by have := hF6w k e; omega)
  have S8 := S7.apart P8 (fun k _ h2 e => by have := hF6w k e; omega)
  have b8 : Below w.heap.size w w8 := below_apart b7 P8 (fun k e => by have := hF6w k e; omega)
  generalize (fr C.ths C.ths.length).length = nF at *
  generalize C.swp C.ths.length = S at *
  have hlS := hk2.len
  have hcS := cnt_small hk2.inv (by omega) (t := 1) (by omega)
  have hflt8 := hA8.flt
  have c10 : ∀ W, ArAt W b F8 n6 S → Calls Try.prog 41 #[.pointer (some ⟨b, 0, none⟩), .int .i64 1, .int .i64 p] W fun x w' => ∃ u, x = .returned (.tuple #[u, .int .i64 0]) ∧ ORow w' W.heap.size u ys ∧ Below W.heap.size W w' := fun W h => (Cells_root b n6 1 lv p F8 S W h hk2.inv (by omega) hk2.mask (by omega) hk2.levp (by omega) (by omega) (by rw [hk2.cp, hcp3]; omega)).mono fun x w' ⟨u, ys2, h1, h2, h3, h4⟩ => by
    rw [hk2.cp, hcp3] at h1 h2
    exact ⟨u, by rw [h1, HTP.out.2], by rw [← h2.unique HTP.out.1]; exact h3, h4⟩
  have c11 : ∀ W, ArAt W b F8 n6 S → Calls Try.prog 41 #[.pointer (some ⟨b, 0, none⟩), .int .i64 2, .int .i64 q] W fun x w' => ∃ u, x = .returned (.tuple #[u, .int .i64 0]) ∧ ORow w' W.heap.size u ms ∧ Below W.heap.size W w' := fun W h => (Cells_root b n6 2 lq q F8 S W h hk2.inv (by omega) hk2.mask (by omega) hk2.levq (by omega) (by omega) (by rw [hk2.cq, hcq3]; omega)).mono fun x w' ⟨u, ys2, h1, h2, h3, h4⟩ => by
    rw [hk2.cq, hcq3] at h1 h2
    exact ⟨u, by rw [h1, HTQ.out.2], by rw [← h2.unique HTQ.out.1]; exact h3, h4⟩
  clear c9 R7 S7 hA7
  go_wp2_with fail
  refine (c10 _ hA8).mono ?_
  rintro e w9 ⟨x9, rfl, hr9, hb9⟩
  have hA9 := hA8.below hb9
  have b9 : Below w.heap.size w w9 := b8.trans (hb9.mono b8.size)
  have R9 := R8.apart (apart_of_below hb9 F8) (fun k _ h2 e => by have := hF8w k e; omega)
  have S9 := S8.apart (apart_of_below hb9 F8) (fun k _ h2 e => by have := hF8w k e; omega)
  have X9 := ORow.within hr9
  clear c10 R8 S8 hr9
  go_wp2_with fail
  refine (c11 _ hA9).mono ?_
  rintro e w10 ⟨x10, rfl, hr10, hb10⟩
  have hA10 := hA9.below hb10
  have b10 : Below w.heap.size w w10 := b9.trans (hb10.mono b9.size)
  have R10 := R9.apart (apart_of_below hb10 F8) (fun k _ h2 e => by have := hF8w k e; omega)
  have S10 := S9.apart (apart_of_below hb10 F8) (fun k _ h2 e => by have := hF8w k e; omega)
  have X10 := X9.apart (apart_of_below hb10 F8) (fun k h1 h2 e => by have := hflt8 k e; omega)
  have Y10 := ORow.within hr10
  have hs89 := hb9.size
  have hs910 := hb10.size
  have c12 := tidy_told u1 L w10 R10.row
  clear c11 R9 S9 X9 hr10
  go_wp2_with fail
  refine c12.mono ?_
  rintro e w11 ⟨x11, ys11, rfl, hb11, ht11, hr11⟩
  obtain rfl : ys11 = ys := ht11.unique hys
  have hA11 := hA10.below hb11
  have b11 : Below w.heap.size w w11 := b10.trans (hb11.mono b10.size)
  have S11 := S10.apart (apart_of_below hb11 F8) (fun k _ h2 e => by have := hF8w k e; omega)
  have X11 := X10.apart (apart_of_below hb11 F8) (fun k h1 h2 e => by have := hflt8 k e; omega)
  have Y11 := Y10.apart (apart_of_below hb11 F8) (fun k h1 h2 e => by have := hflt8 k e; omega)
  have Z11 := ORow.within hr11
  have hs1011 := hb11.size
  have c13 := tidy_told u2 M w11 S11.row
  clear c12 R10 S10 X10 Y10 hr11 ht11
  go_wp2_with fail
  refine c13.mono ?_
  rintro e w12 ⟨x12, ms12, rfl, hb12, ht12, hr12⟩
  obtain rfl : ms12 = ms := ht12.unique hms
  have hA12 := hA11.below hb12
  have b12 : Below w.heap.size w w12 := b11.trans (hb12.mono b11.size)
  have X12 := X11.apart (apart_of_below hb12 F8) (fun k h1 h2 e => by have := hflt8 k e; omega)
  have Y12 := Y11.apart (apart_of_below hb12 F8) (fun k h1 h2 e => by have := hflt8 k e; omega)
  have Z12 := Z11.apart (apart_of_below hb12 F8) (fun k h1 h2 e => by have := hflt8 k e; omega)
  have V12 := ORow.within hr12
  have hs1112 := hb12.size
  have c14 := fun W h => Count_any b n6 1 F8 S W h (by omega)
  have c15 := fun W rb h hr => Clean_any b n6 1 lv rb p F8 S W h hk2.inv (by omega) hk2.mask (by omega) (by omega) hk2.levp hcS hr
  have HB12 : Hid (Below w12.heap.size w12 (w12.alloc (.cells #[.int .i64 p] 3))) := (Below.refl _ _).alloc (Nat.le_refl _) _
  clear c13 S11 X11 Y11 Z11 hr12 ht12
  go_wp2_with fail
  refine (c14 _ hA12).mono ?_
  rintro e w12' ⟨rfl, hw⟩
  have hw' := hw.symm
  subst hw'
  clear c14 hw
  go_wp2_with fail
  refine (c15 _ _ (hA12.below HB12.out) (HRN.out w12)).mono ?_
  rintro e w13 ⟨K2, hK2l, hK2, rfl, hA13, P13⟩
  have hids : idsF S.ths 1 K2 S.ths.length = [] := ids_none fun j x hx hb => by
    have h1 := (hK2 j).2 (hk2.sub j x hx hb)
    have hj : j < K2.length := by rw [hK2l]; exact (List.getElem?_eq_some_iff.1 hx).1
    unfold Mk at h1
    rw [List.getElem?_eq_getElem hj] at h1
    rw [getElem!_pos K2 j hj]
    exact Option.some.inj h1
  have hS2 : S.clean 1 K2 = { S with fresh := upd S.fresh 1 [] } := by
    unfold Ar.clean
    rw [hids]
    rfl
  rw [hS2] at hA13
  rw [hids]
  have hI13 : Inv { S with fresh := upd S.fresh 1 [] } := marked_inv hk2.inv
  have b13 : Below w.heap.size w w13 := below_apart (b12.trans (HB12.out.mono b12.size)) P13 (fun k e => by have := hF8w k e; omega)
  have X13 := ((X12.apart (apart_of_below HB12.out F8) (fun k h1 h2 e => by have := hflt8 k e; omega)).apart P13 (fun k h1 h2 e => by have := hflt8 k e; omega)).row
  have Y13 := ((Y12.apart (apart_of_below HB12.out F8) (fun k h1 h2 e => by have := hflt8 k e; omega)).apart P13 (fun k h1 h2 e => by have := hflt8 k e; omega)).row
  have Z13 := ((Z12.apart (apart_of_below HB12.out F8) (fun k h1 h2 e => by have := hflt8 k e; omega)).apart P13 (fun k h1 h2 e => by have := hflt8 k e; omega)).row
  have V13 := ((V12.apart (apart_of_below HB12.out F8) (fun k h1 h2 e => by have := hflt8 k e; omega)).apart P13 (fun k h1 h2 e => by have := hflt8 k e; omega)).row
  have c16 := keepSame_any x9 x11 ys11 w13 X13 Z13
  have c17 := fun W h => keepSame_any x10 x12 ms12 W (Row.below Y13 h) (Row.below V13 h)
  have c18 := fun W h => Count_any b n6 1 F8 { S with fresh := upd S.fresh 1 [] } W h (by omega)
  have c19 := fun W h => Sweep_any b n6 F8 { S with fresh := upd S.fresh 1 [] } W h (by show S.ths.length < _; omega) (by show 0 < S.ths.length; omega) hI13 hk2.kok (fun y _ j x hx hg => by
    have h1 := hk2.none x (List.mem_of_getElem? (show S.ths[j]? = some x from hx))
    rw [h1] at hg
    cases hg) (by
    show S.free.length + S.ths.length < _
    have := hk2.free
    rw [hf3] at this
    simp at this
    omega)
  have hfn : fr ({ S with fresh := upd S.fresh 1 [] } : Ar).ths ({ S with fresh := upd S.fresh 1 [] } : Ar).ths.length = [] := fr_none hk2.none
  rw [hfn] at c19
  clear c15 hids hS2 hK2 hK2l X12 Y12 Z12 V12 X13 Y13 Z13 V13 hfn hk2 hI13 hkok hp3 hq3 hcp3 hcq3 hc1 hc2 hc3 hl1 hl2 hl3 g4 g5 g6 s4 s5 s6 hI1 hI2 hI3 hP1 hP2 hP3 hP12 hP21 hys hms hcode hcodM hL4 hL5 hL6 hlenp hlenq hcS hlS
  generalize S.cnt 1 = cS at *
  go_wp2_with fail
  refine c16.mono ?_
  rintro e w14 ⟨rfl, hb14⟩
  have hA14 := hA13.below hb14
  have b14 : Below w.heap.size w w14 := b13.trans (hb14.mono b13.size)
  have c17' := c17 w14 hb14
  clear c16 c17
  go_wp2_with fail
  refine c17'.mono ?_
  rintro e w15 ⟨rfl, hb15⟩
  have hA15 := hA14.below hb15
  have b15 : Below w.heap.size w w15 := b14.trans (hb15.mono b14.size)
  clear c17'
  go_wp2_with fail
  refine (c18 _ hA15).mono ?_
  rintro e w15' ⟨rfl, hw⟩
  have hw' := hw.symm
  subst hw'
  clear c18 hw
  go_wp2_with fail
  refine (c19 _ hA15).mono ?_
  rintro e w16 ⟨rfl, _, P16⟩
  have b16 : Below w.heap.size w w16 := below_apart b15 P16 (fun k e => by have := hF8w k e; omega)
  clear c19
  go_wp2_with fail
  go_ret
  exact ⟨rfl, b16⟩
end Go.Proofs.Ythobobgiendcfaa.A
