/- QuadEras: the law's walk. -/
import Derived.Test.YthobobgiendcfaaSqKeep
import Derived.Test.YthobobgiendcfaaPutsLaw
import Derived.Test.YthobobgiendcfaaSqStep
namespace Go.Proofs.Ythobobgiendcfaa.A
open Go.RowKit Go.Maps

theorem set_block {w : World} {b i : Nat} {c : Array Value} {v : Value} {t : TypeId} (h : w.heap[b]? = some (.cells c t (0, 0))) : (w.setCell ⟨b, i, none⟩ v).heap[b]? = some (.cells (c.setIfInBounds i v) t (0, 0)) := by
  have hlt : b < w.heap.size := (Array.getElem?_eq_some_iff.1 h).1
  have h' : w.heap[b] = .cells c t (0, 0) := by simpa [Array.getElem?_eq_getElem hlt] using h
  show (w.heap.modify b _)[b]? = _
  rw [Array.getElem?_eq_getElem (by simpa using hlt), Array.getElem_modify_self, h']
  rfl
theorem two_setCell {w : World} {b : Nat} {u0 u1 v0 v1 : Value} {t : TypeId} (h : w.heap[b]? = some (.cells #[u0, u1] t (0, 0))) : ((w.setCell ⟨b, 0, none⟩ v0).setCell ⟨b, 1, none⟩ v1).heap[b]? = some (.cells #[v0, v1] t (0, 0)) :=
  set_block (set_block h)
theorem two_apart (w : World) (b : Nat) (u v : Value) : Apart (fun k => k = b) w ((w.setCell ⟨b, 0, none⟩ u).setCell ⟨b, 1, none⟩ v) :=
  ⟨rfl, rfl, rfl, by simp [World.setCell], fun k _ hk => by
    rw [Below.heap_setCell _ _ _ k (fun e => hk e), Below.heap_setCell _ _ _ k (fun e => hk e)]⟩

/-- one cell less -/
theorem len_less {S T : List (Int × Int)} {c : Int × Int} (hS : S.Nodup) (hT : T.Nodup) (hc : c ∈ S) (h : ∀ p, p ∈ T ↔ p ≠ c ∧ p ∈ S) : T.length + 1 = S.length := by
  have h1 := len_le (ys := c :: T) (zs := S) (List.nodup_cons.2 ⟨fun e => ((h c).1 e).1 rfl, hT⟩) (fun p hp => by
    rcases List.mem_cons.1 hp with e | e
    · rw [e]; exact hc
    · exact ((h p).1 e).2)
  have h2 := len_le (ys := S) (zs := c :: T) hS (fun p hp => by
    by_cases e : p = c
    · rw [e]; simp
    · exact List.mem_cons_of_mem _ ((h p).2 ⟨e, hp⟩))
  simp only [List.length_cons] at h1 h2
  omega
/-- a cell set twice is set once -/
theorem put_again {S T U : List (Int × Int)} {X Y : Int} (h1 : PutC true X Y S T) (h2 : PutC true X Y T U) : ∀ p, p ∈ U ↔ p ∈ T := fun p => by
  rw [h2 p, h1 p]
  by_cases e : p = (X, Y) <;> simp [e]
theorem put_off {S T U : List (Int × Int)} {X Y : Int} (h1 : PutC true X Y S T) (h2 : PutC false X Y T U) : (X, Y) ∈ T ∧ ∀ p, p ∈ U ↔ p ≠ (X, Y) ∧ p ∈ T := ⟨(h1 _).2 (Or.inl ⟨rfl, rfl⟩), fun p => by rw [h2 p]; simp⟩

set_option maxRecDepth 20000 in
set_option maxHeartbeats 8000000 in
theorem eras_any (v : Value) (zs : List (Int × Int)) (X Y : Int) (w : World) (hrow : RRow w v zs) :
    Calls Try.prog 15 #[v, .agg #[.int .i64 X, .int .i64 Y]] w fun e w' => e = .returned (.bool true) ∧ Below w.heap.size w w' := by
  have c1 : ∀ W, RRow W v zs → Calls Try.prog 53 #[v, .int .i64 100, .int .i64 1000] W fun e w' => ∃ u, e = .returned u ∧ Below W.heap.size W w' ∧ Kept w' W.heap.size u (someL 100 1000 zs) := fun W h => some_any v zs 100 1000 W h (by omega) (by omega) (by omega)
  have c2 : ∀ v W, RRow W v [(X, Y)] → Calls Try.prog 53 #[v, .int .i64 1, .int .i64 1000] W fun e w' => ∃ u, e = .returned u ∧ Below W.heap.size W w' ∧ Kept w' W.heap.size u [(nearI 1000 X, nearI 1000 Y)] := fun v W h => some_any v [(X, Y)] 1 1000 W h (by omega) (by omega) (by omega)
  obtain ⟨W0, hW0⟩ : ∃ W0, W0 = w.alloc (.cells #[.int .i64 X, .int .i64 Y] 87) := ⟨_, rfl⟩
  have hB0 : Below w.heap.size w W0 := by rw [hW0]; exact (Below.refl _ _).alloc (Nat.le_refl _) _
  have hC0 : W0.heap[w.heap.size]? = some (.cells #[.int .i64 X, .int .i64 Y] 87 (0, 0)) := by rw [hW0]; exact heap_alloc_new w _
  have hsz0 : W0.heap.size = w.heap.size + 1 := by rw [hW0]; simp
  have HR : Hid (RRow W0 v zs) := RRow.below hrow hB0
  have HW : Hid (Below w.heap.size w W0) := hB0
  have HC0 : Hid (W0.heap[w.heap.size]? = some (.cells #[.int .i64 X, .int .i64 Y] 87 (0, 0))) := hC0
  clear hrow hB0 hC0
  go_enter Try.func15, Try.ntmps15
  go_wp2_with fail
  rw [← hW0]
  clear hW0
  refine (c1 _ HR.out).mono ?_
  rintro e w1 ⟨u1, rfl, hb1, hk1⟩
  have hC1 : w1.heap[w.heap.size]? = some (.cells #[.int .i64 X, .int .i64 Y] 87 (0, 0)) := (hb1.block w.heap.size (by omega)).trans HC0.out
  have hx1 : w1.cell? ⟨w.heap.size, 0, none⟩ = some (.int .i64 X) := Lib.cell_of_heap hC1 0
  have hy1 : w1.cell? ⟨w.heap.size, 1, none⟩ = some (.int .i64 Y) := Lib.cell_of_heap hC1 1
  have HK1 : Hid (Kept w1 W0.heap.size u1 (someL 100 1000 zs)) := hk1
  clear c1 hk1 hC1
  go_wp2_with fail
  refine (c2 _ _ (one_row w1 X Y)).mono ?_
  rintro e w2 ⟨u2, rfl, hb2, hk2⟩
  clear c2
  obtain ⟨g2, cap2, rfl, hg2, hx2, hy2⟩ : ∃ g2 cap2, u2 = .slice (some ⟨g2, 0, none⟩) 1 cap2 ∧ w1.heap.size + 1 ≤ g2 ∧ w2.cell? ⟨g2, 0, none⟩ = some (.int .i64 (nearI 1000 X)) ∧ w2.cell? ⟨g2, 1, none⟩ = some (.int .i64 (nearI 1000 Y)) := by
    rcases rowIn_kept hk2 with ⟨h, _⟩ | ⟨_, b, off, c, rfl, h1, _, _, _, _, hh⟩
    · simp at h
    · have h2 := Kept.owns hk2
      rcases h2.2 with ⟨h3, _⟩ | ⟨g, cap, cur, h3, h4, _⟩
      · simp at h3
      · simp only [Value.slice.injEq, Option.some.injEq, Addr.mk.injEq] at h3
        obtain ⟨⟨rfl, rfl, _⟩, _, rfl⟩ := h3
        have h5 := hh 0 (by simp)
        simp only [World.size_alloc] at h4
        exact ⟨b, c, rfl, by simpa using h4, h5.1, h5.2⟩
  have hC2 : w2.heap[w.heap.size]? = some (.cells #[.int .i64 X, .int .i64 Y] 87 (0, 0)) := by
    have h1 := hb1.size
    rw [hb2.block w.heap.size (by simp; omega), push_old (by omega)]
    exact (hb1.block w.heap.size (by omega)).trans HC0.out
  have hx2' : w2.cell? ⟨w.heap.size, 0, none⟩ = some (.int .i64 X) := Lib.cell_of_heap hC2 0
  have hy2' : w2.cell? ⟨w.heap.size, 1, none⟩ = some (.int .i64 Y) := Lib.cell_of_heap hC2 1
  have hf0 : w2.frozen? ⟨w.heap.size, 0, none⟩ = false := by simp [World.frozen?, hC2]
  have hf1 : w2.frozen? ⟨w.heap.size, 1, none⟩ = false := by simp [World.frozen?, hC2]
  obtain ⟨X', hX'⟩ : ∃ a, a = nearI 1000 X := ⟨_, rfl⟩
  obtain ⟨Y', hY'⟩ : ∃ a, a = nearI 1000 Y := ⟨_, rfl⟩
  rw [← hX'] at hx2
  rw [← hY'] at hy2
  have HC2 : Hid (w2.heap[w.heap.size]? = some (.cells #[.int .i64 X, .int .i64 Y] 87 (0, 0))) := hC2
  have HN : Hid (-1000 ≤ X' ∧ X' < 1000 ∧ -1000 ≤ Y' ∧ Y' < 1000) := by
    have h1 := nearI_bound 1000 (by omega) X
    have h2 := nearI_bound 1000 (by omega) Y
    rw [hX', hY']
    exact ⟨by omega, by omega, by omega, by omega⟩
  clear hC2 hX' hY' hk2
  go_wp2_with fail
  obtain ⟨W3, hW3⟩ : ∃ W, W = (w2.setCell ⟨w.heap.size, 0, none⟩ (.int .i64 X')).setCell ⟨w.heap.size, 1, none⟩ (.int .i64 Y') := ⟨_, rfl⟩
  rw [← hW3]
  have hC3 : W3.heap[w.heap.size]? = some (.cells #[.int .i64 X', .int .i64 Y'] 87 (0, 0)) := by rw [hW3]; exact two_setCell HC2.out
  have hz3 : W3.heap.size = w2.heap.size := by rw [hW3]; simp
  have P3 : Apart (fun k => k = w.heap.size) w2 W3 := by rw [hW3]; exact two_apart w2 w.heap.size _ _
  have b12 : Below w1.heap.size w1 w2 := ((Below.refl _ _).alloc (Nat.le_refl _) _).trans (hb2.mono (by simp))
  have b2 : Below w.heap.size w w2 := (HW.out.trans (hb1.mono (by omega))).trans (b12.mono (by have := hb1.size; omega))
  have b3 : Below w.heap.size w W3 := below_apart b2 P3 (fun k e => by rw [e]; exact Nat.le_refl _)
  have R1 : RowIn W3 W0.heap.size w1.heap.size u1 (someL 100 1000 zs) := ((rowIn_kept HK1.out).apart (apart_of_below b12 (fun k => k = w.heap.size)) (fun k h1 _ e => by omega)).apart P3 (fun k h1 _ e => by omega)
  have c3 := begun_any W3
  have hs1 : W0.heap.size ≤ w1.heap.size := hb1.size
  have hsW : w1.heap.size ≤ W3.heap.size := by rw [hz3]; exact b12.size
  clear hW3 hx1 hy1 hx2 hy2 hx2' hy2' hf0 hf1 hb1 hb2
  refine c3.mono ?_
  rintro e w4 ⟨b, F, rfl, hA4, hF4, hb4⟩
  have b4 : Below w.heap.size w w4 := b3.trans (hb4.mono b3.size)
  have hC4 : w4.heap[w.heap.size]? = some (.cells #[.int .i64 X', .int .i64 Y'] 87 (0, 0)) := (hb4.block w.heap.size (by have := HW.out.size; omega)).trans hC3
  have R4 := R1.apart (apart_of_below hb4 F) (fun k h1 h2 e => by have := hF4 k e; omega)
  have c4 := kcells_any u1 _ w4 R4.row (Nat.le_trans (someL_len _ _ _) (by omega))
  clear c3 hC3 R1 HK1
  go_wp2_with fail
  refine c4.mono ?_
  rintro e w5 ⟨u5, rfl, hb5, hk5⟩
  clear c4
  obtain ⟨L, hL⟩ : ∃ L, L = someL 100 1000 zs := ⟨_, rfl⟩
  rw [← hL] at hk5
  have HL : Hid (L.length ≤ 100 ∧ ∀ p ∈ L, -1000 ≤ p.1 ∧ p.1 < 1000 ∧ -1000 ≤ p.2 ∧ p.2 < 1000) := by
    rw [hL]
    exact ⟨someL_len _ _ _, fun p hp => by have := someL_near (K := 1000) (by omega) hp; omega⟩
  have hA5 := hA4.below hb5
  have b5 : Below w.heap.size w w5 := b4.trans (hb5.mono b4.size)
  have hC5 : w5.heap[w.heap.size]? = some (.cells #[.int .i64 X', .int .i64 Y'] 87 (0, 0)) := (hb5.block w.heap.size (by have h1 := hb4.size; show w.heap.size < w4.heap.size; omega)).trans hC4
  have HC5 : Hid (w5.heap[w.heap.size]? = some (.cells #[.int .i64 X', .int .i64 Y'] 87 (0, 0))) := hC5
  obtain ⟨i0, hi, hz0, hz1, hz2⟩ := info_parts Try.info87
  have hln := HL.out.1
  have hown5 := Kept.owns hk5
  clear hL hC5 hC4
  go_wp2_with (at_builtin; refine wpList_append_own _ rfl _ _ 69 rfl w4.heap.size 87 i0 (.agg #[.int .i64 0, .int .i64 0]) 2 16 Try.underlying69 hi hz0 hz1 hz2 rfl (by decide) _ _ _ rfl (hown5.alloc _) ⟨w5.heap.size, 0, none⟩ 2 2 [.int .i64 999, .int .i64 (-1000), .int .i64 (-1000), .int .i64 999] rfl rfl ?k1 ?k2 ?k3 ?k4 ?k5 ?_)
  case k1 =>
    intro j u hj
    match j, hj with
    | 0, hj => simp at hj; subst hj; simp [Addr.add]
    | 1, hj => simp at hj; subst hj; simp [Addr.add]
    | 2, hj => simp at hj; subst hj; simp [Addr.add]
    | 3, hj => simp at hj; subst hj; simp [Addr.add]
  case k2 => intro u hu; simp at hu; rcases hu with rfl | rfl | rfl | rfl <;> rfl
  case k3 => unfold maxLen; omega
  case k4 => omega
  case k5 => have := hb5.size; simp; omega
  intro v6 w6 hown6 hgrow6 _
  have hk6 : Kept w6 w4.heap.size v6 (L ++ [(999, -1000), (-1000, 999)]) := Or.inr ⟨by simp, by
    rw [cellsL_append, List.length_append]
    exact hown6⟩
  have hb56 : Below w4.heap.size w5 w6 := ((Below.refl _ _).alloc hb5.size _).grown hgrow6 (by have := hb5.size; simp; omega) (fun g hg => (hown5.lt g hg).1)
  clear hown5 hgrow6 hown6
  go_wp2_with fail
  have b46 : Below w4.heap.size w4 w6 := hb5.trans hb56
  have hA6 := hA4.below b46
  have b6 : Below w.heap.size w w6 := b4.trans (b46.mono b4.size)
  have hC6 : w6.heap[w.heap.size]? = some (.cells #[.int .i64 X', .int .i64 Y'] 87 (0, 0)) := (hb56.block w.heap.size (by have h1 := hb4.size; omega)).trans HC5.out
  obtain ⟨zs2, hzs2⟩ : ∃ z, z = L ++ [(999, -1000), (-1000, 999)] := ⟨_, rfl⟩
  rw [← hzs2] at hk6
  have hnear : ∀ p ∈ zs2, -1000 ≤ p.1 ∧ p.1 < 1000 ∧ -1000 ≤ p.2 ∧ p.2 < 1000 := fun p hp => by
    rw [hzs2] at hp
    rcases List.mem_append.1 hp with h | h
    · exact HL.out.2 p h
    · simp at h
      rcases h with rfl | rfl <;> simp
  have hl2 : zs2.length ≤ 102 := by rw [hzs2, List.length_append]; simp only [List.length_cons, List.length_nil]; omega
  have hcode : tcode zs2 = 0 := by
    unfold tcode
    rw [if_neg (by omega), if_neg]
    simp only [Bool.not_eq_true, List.any_eq_false]
    intro p hp
    have h := near_far (K := 1000) (by omega) (p := p) (by have := hnear p hp; omega)
    simp [h]
  obtain ⟨ys, hys⟩ := tidied_exists zs2
  have hyl : ys.length ≤ 102 := Nat.le_trans (tidied_len hys) hl2
  have hin : (999, -1000) ∈ ys ∧ (-1000, 999) ∈ ys := ⟨(hys.2 _).2 ⟨by rw [hzs2]; simp, hcode⟩, (hys.2 _).2 ⟨by rw [hzs2]; simp, hcode⟩⟩
  refine (from_any b 1 1 3000 F arBegun v6 zs2 ys w6 hA6 (by omega) begun_inv (rowIn_kept hk6).row hcode hys (begun_pur 1 _ (by omega) (by omega))).mono ?_
  rintro e w7 ⟨id, rfl, A7, F7, n7, N7, lv, hA7, hF7, P7, hI7, hP7, g7, _, hL7, hlv7, hl7, hc7⟩
  have hreach : reachB lv X' Y' X' Y' = true := by
    have h1 := hL7.fits _ hin.1
    have h2 := hL7.fits _ hin.2
    have h3 := HN.out
    unfold reachB
    simp only [decide_eq_true_iff]
    simp only at h1 h2
    omega
  have hlv2 := hL7.two
  obtain ⟨m', rfl⟩ : ∃ m', lv = m' + 1 := ⟨lv - 1, by omega⟩
  have hF4w : ∀ k, F k → w.heap.size + 1 ≤ k := fun k e => by have := hF4 k e; omega
  have b7 : Below (w.heap.size + 1) w6 w7 := ⟨P7.os, P7.tape, P7.output, P7.size, fun k hk => P7.block k (by have h1 := hb4.size; have h2 := hb5.size; have h3 := hb56.size; omega) (fun e => by have := hF4w k e; omega)⟩
  have hF7w : ∀ k, F7 k → w.heap.size + 1 ≤ k := fun k e => by
    rcases hF7 k e with h | h
    · exact hF4w k h
    · have := hb56.size; have := hb5.size; have := hb4.size; omega
  have hC7 : w7.heap[w.heap.size]? = some (.cells #[.int .i64 X', .int .i64 Y'] 87 (0, 0)) := (b7.block w.heap.size (by omega)).trans hC6
  have bw7 : Below w.heap.size w w7 := b6.trans (b7.mono (by omega))
  have hx7 : w7.cell? ⟨w.heap.size, 0, none⟩ = some (.int .i64 X') := Lib.cell_of_heap hC7 0
  have hy7 : w7.cell? ⟨w.heap.size, 1, none⟩ = some (.int .i64 Y') := Lib.cell_of_heap hC7 1
  have hclen : (cellsF A7.ths (m' + 1) id).length ≤ 102 := by rw [made_len hI7.good (glevel_of hl7) hys.1 hc7]; exact hyl
  have HC7 : Hid (w7.heap[w.heap.size]? = some (.cells #[.int .i64 X', .int .i64 Y'] 87 (0, 0))) := hC7
  have c8 := Put_root b n7 1 2000 m' id X' Y' true F7 A7 w7 hA7 hI7 (by omega) hl7 (by omega) (hP7.less (by omega)) hreach
  clear hC7 hC6 hk6 hb56 b46 hA6 hA5 hA4 hb5 hb4 R4 P7 hc7 hin hyl hys hcode hl2 hnear hzs2 hF7 hL7 HC5 hk5
  go_wp2_with fail
  refine c8.mono ?_
  rintro e w8 ⟨id8, rfl, A8, F8, n8, N8, hA8, hF8, P8, hI8, hP8, g8, hl8, hc8⟩
  have b8 : Below (w.heap.size + 1) w7 w8 := ⟨P8.os, P8.tape, P8.output, P8.size, fun k hk => P8.block k (by have := (Array.getElem?_eq_some_iff.1 HC7.out).1; omega) (fun e => by have := hF7w k e; omega)⟩
  have hF8w : ∀ k, F8 k → w.heap.size + 1 ≤ k := fun k e => by
    rcases hF8 k e with h | h
    · exact hF7w k h
    · have := (Array.getElem?_eq_some_iff.1 HC7.out).1; omega
  have HC8 : Hid (w8.heap[w.heap.size]? = some (.cells #[.int .i64 X', .int .i64 Y'] 87 (0, 0))) := (b8.block w.heap.size (by omega)).trans HC7.out
  have bw8 : Below w.heap.size w w8 := bw7.trans (b8.mono (by omega))
  have hx8 : w8.cell? ⟨w.heap.size, 0, none⟩ = some (.int .i64 X') := Lib.cell_of_heap HC8.out 0
  have hy8 : w8.cell? ⟨w.heap.size, 1, none⟩ = some (.int .i64 Y') := Lib.cell_of_heap HC8.out 1
  have hcl8 : (cellsF A8.ths (m' + 1) id8).length ≤ 103 := by
    have := put_len hI8.good (glevel_of hl8) hc8
    omega
  have c9 := Put_root b n8 1 1000 m' id8 X' Y' true F8 A8 w8 hA8 hI8 (by omega) hl8 (by omega) (hP8.less (by omega)) hreach
  clear c8 P8 b8 hx7 hy7 hF8 hA7 b7
  go_wp2_with fail
  refine c9.mono ?_
  rintro e w9 ⟨id9, rfl, A9, F9, n9, N9, hA9, hF9, P9, hI9, hP9, g9, hl9, hc9⟩
  have b9 : Below (w.heap.size + 1) w8 w9 := ⟨P9.os, P9.tape, P9.output, P9.size, fun k hk => P9.block k (by have := (Array.getElem?_eq_some_iff.1 HC8.out).1; omega) (fun e => by have := hF8w k e; omega)⟩
  have hF9w : ∀ k, F9 k → w.heap.size + 1 ≤ k := fun k e => by
    rcases hF9 k e with h | h
    · exact hF8w k h
    · have := (Array.getElem?_eq_some_iff.1 HC8.out).1; omega
  have HC9 : Hid (w9.heap[w.heap.size]? = some (.cells #[.int .i64 X', .int .i64 Y'] 87 (0, 0))) := (b9.block w.heap.size (by omega)).trans HC8.out
  have bw9 : Below w.heap.size w w9 := bw8.trans (b9.mono (by omega))
  have hx9 : w9.cell? ⟨w.heap.size, 0, none⟩ = some (.int .i64 X') := Lib.cell_of_heap HC9.out 0
  have hy9 : w9.cell? ⟨w.heap.size, 1, none⟩ = some (.int .i64 Y') := Lib.cell_of_heap HC9.out 1
  have hce9 : cellsF A9.ths (m' + 1) id8 = cellsF A8.ths (m' + 1) id8 := cells_ext hI8.good g9.ext _ _ (glevel_of hl8)
  have hsame : id9 = id8 := cells_one hI9.good hI9.uniq (m' + 1) id9 id8 (glevel_of hl9) (glevel_ext (glevel_of hl8) g9.ext) (fun p => by rw [hce9]; exact put_again hc8 hc9 p)
  subst hsame
  have c10 := Put_root b n9 1 500 m' id9 X' Y' false F9 A9 w9 hA9 hI9 (by omega) hl9 (by omega) (hP9.less (by omega)) hreach
  clear c9 P9 b9 hx8 hy8 hF9 hA8
  go_wp2_with fail
  refine c10.mono ?_
  rintro e w10 ⟨id10, rfl, A10, F10, n10, N10, hA10, hF10, P10, hI10, hP10, g10, hl10, hc10⟩
  have b10 : Below (w.heap.size + 1) w9 w10 := ⟨P10.os, P10.tape, P10.output, P10.size, fun k hk => P10.block k (by have := (Array.getElem?_eq_some_iff.1 HC9.out).1; omega) (fun e => by have := hF9w k e; omega)⟩
  have bw10 : Below w.heap.size w w10 := bw9.trans (b10.mono (by omega))
  rw [hce9] at hc10
  have hce10 : cellsF A10.ths (m' + 1) id9 = cellsF A8.ths (m' + 1) id9 := (cells_ext hI9.good g10.ext _ _ (glevel_of hl9)).trans hce9
  have hlen : (cellsF A10.ths (m' + 1) id10).length + 1 = (cellsF A10.ths (m' + 1) id9).length := by
    rw [hce10]
    exact len_less (cells_nodup hI8.good _ _ (glevel_of hl8)) (cells_nodup hI10.good _ _ (glevel_of hl10)) (put_off hc8 hc10).1 (put_off hc8 hc10).2
  have hbig : (cellsF A10.ths (m' + 1) id9).length ≤ 103 := by rw [hce10]; exact hcl8
  have hm10 := hP10.bud.mask
  have hf10 := hP10.bud.young.few
  have c11 := Count_root b n10 1 (m' + 1) id9 F10 A10 w10 hA10 hI10 (by omega) hm10 hf10 (level_ext hl9 g10.ext) (by omega) (by omega)
  have c12 := fun W h => Count_root b n10 1 (m' + 1) id10 F10 A10 W h hI10 (by omega) hm10 hf10 hl10 (by omega) (by omega)
  generalize (cellsF A10.ths (m' + 1) id9).length = k9 at *
  generalize (cellsF A10.ths (m' + 1) id10).length = k10 at *
  clear c10 P10 b10 hx9 hy9 hF10 hA9 hc8 hc9 hc10 hce9 hce10 hl8 hl9 hl10 hI7 hI8 hI9 hI10 hP7 hP8 hP9 hP10 g7 g8 g9 g10 hreach hm10 hf10
  go_wp2_with fail
  refine c11.mono ?_
  rintro e w11 ⟨rfl, hb11⟩
  have hA11 := hA10.below hb11
  have bw11 : Below w.heap.size w w11 := bw10.trans (hb11.mono bw10.size)
  clear c11
  go_wp2_with fail
  refine (c12 _ hA11).mono ?_
  rintro e w12 ⟨rfl, hb12⟩
  have hkk : IntKind.i64.wrap ((k9 : Int) - 1) = (k10 : Int) := by rw [IntKind.wrap_i64]; omega
  have HB : Hid (Below w.heap.size w w12) := bw11.trans (hb12.mono bw11.size)
  clear c12 hlen
  go_wp2_with fail
  go_ret
  exact ⟨rfl, HB.out⟩
end Go.Proofs.Ythobobgiendcfaa.A
