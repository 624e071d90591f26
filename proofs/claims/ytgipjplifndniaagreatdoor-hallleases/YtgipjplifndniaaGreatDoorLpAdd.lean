/- Add, over any arena, where it may fail. -/
import Derived.Test.YtgipjplifndniaaGreatDoorLpSqG
import Derived.Test.YtgipjplifndniaaGreatDoorLpSqG2
import Derived.Test.YtgipjplifndniaaGreatDoorLpGood
import Derived.Lib.MinMax
namespace Go.Proofs.YtgipjplifndniaaGreatDoor.A
open Go.RowKit Go.Maps Go.Proofs.YtgipjplifndniaaGreatDoor.L

variable {w w1 w2 : World} {o o1 o2 : Nat → Nat} {hb b t : Nat} {e : Int} {A A' : Ar} {PR : (Bool → Nat → Bool) → Int → Prop} {q : Nat → Int} {E : List Int}
def AddR (t : Nat) (A A' : Ar) (g : Gr) (m : Nat) (ys : List (Int × Int)) (id e' : Int) : Prop :=
  ∃ N, m ≤ N ∧ N ≤ 43 ∧ (∃ N0, LeastLv (N0 + 1) ys ∧ N = max m N0) ∧ Gx t A A' 0 e' (LitD N (rootG g m (N - m)) ys (-(2 ^ N)) (-(2 ^ N))) ∧ ((Er e' ∧ id = 0) ∨ (e' = 0 ∧ Rt A' t N id (addG g ys)))
theorem Row.chG {v : Value} {zs : List (Int × Int)} (h : Row w v zs) (ho : ∀ k, v.ownBlock = some k → o k = 0) (c : Ch HM o w o1 w1) : Row w1 v zs := by
  rcases h with h | ⟨h0, b', off, cp, rfl, h1, h2, h3, h4⟩
  · exact .inl h
  · have hk := c.block b' h1 (by rw [ho b' rfl]; unfold HM; omega)
    exact .inr ⟨h0, b', off, cp, rfl, Nat.lt_of_lt_of_le h1 c.size, h2, h3, fun j hj => ⟨(World.cell?_of_block (a := ⟨b', off + j * 2, none⟩) hk).trans (h4 j hj).1, (World.cell?_of_block (a := ⟨b', off + j * 2 + 1, none⟩) hk).trans (h4 j hj).2⟩⟩
theorem st3' {W : World} {o' : Nat → Nat} {k : Nat} {T : TypeId} {vs : Array Value} (y : W.heap[k]? = some (.cells vs T (0, 0))) (h : HE W o' hb b t e E A ∧ Ch HM o w o' W) (hk : o' k = 0) (hge : w.heap.size ≤ k) (i j l : Nat) (a c d : Value) :
    (((W.setCell ⟨k, i, none⟩ a).setCell ⟨k, j, none⟩ c).setCell ⟨k, l, none⟩ d).heap[k]? = some (.cells (((vs.setIfInBounds i a).setIfInBounds j c).setIfInBounds l d) T (0, 0)) ∧ HE (((W.setCell ⟨k, i, none⟩ a).setCell ⟨k, j, none⟩ c).setCell ⟨k, l, none⟩ d) o' hb b t e E A ∧ Ch HM o w o' (((W.setCell ⟨k, i, none⟩ a).setCell ⟨k, j, none⟩ c).setCell ⟨k, l, none⟩ d) :=
  ⟨Go.Joins.block_setCell (Go.Joins.block_setCell (Go.Joins.block_setCell y _) _) _, he_set (he_set (he_set h hk hge i a) hk hge j c) hk hge l d⟩
theorem answer_any (hb b t : Nat) (e id : Int) (v : Value) (w : World) (h : HandAt w hb b t e v) :
    Calls Tryz.prog 92 #[.pointer (some ⟨hb, 0, none⟩), .int .i64 id] w fun x w' => ∃ id2, x = .returned (.tuple #[.int .i64 id2, .int .i64 e]) ∧ Hid ((e = 0 → id2 = id) ∧ (e ≠ 0 → id2 = 0)) ∧ ∃ q, w' = w.drewN q := by
  by_cases he : e = 0
  · subst he
    exact (answer_ok hb b t id v w h).mono fun x w' ⟨h1, h2⟩ => ⟨id, h1, ⟨fun _ => rfl, fun h => absurd rfl h⟩, 0, h2⟩
  · exact (answer_no hb b t e id v w h he).mono fun x w' ⟨h1, h2⟩ => ⟨0, h1, ⟨fun h => absurd h he, fun _ => rfl⟩, h2⟩
set_option maxRecDepth 20000 in
set_option maxHeartbeats 8000000 in
theorem add_rel (hA : ArL w o b A) (hst : NxSt PR t q A) (ht : t < 64) (v : Value) (zs ys : List (Int × Int)) (hrow : Row w v zs) (hc : tcode zs = 0) (hys : Tidied zs ys) (g : Gr) (id : Int) (m : Nat) (hm1 : 1 ≤ m) (hm : m ≤ 43) (hrt : Rt A t m id g) :
    Calls Tryz.prog 60 #[.pointer (some ⟨b, 0, none⟩), .int .i64 t, .int .i64 id, v] w fun r w' => ∃ id' e', r = .returned (.tuple #[.int .i64 id', .int .i64 e']) ∧ ∃ A' o', ArL w' o' b A' ∧ Ch (fun l => l = 1) o w o' w' ∧ NxSt PR t q A' ∧ AddR t A A' g m ys id' e' := by
  have hT := fun W (h : Row W v zs) => tidy_told v zs W h
  rw [hc] at hT
  obtain ⟨M, hM41, hM⟩ := least_exists (tidied_far hys)
  have hlen4 : ys.length ≤ 4096 := by
    have h1 := tidied_len hys
    unfold tcode at hc
    split at hc
    · omega
    · omega
  have hM2 := hM.two
  obtain ⟨N0, rfl⟩ : ∃ N0, M = N0 + 1 := ⟨M - 1, by omega⟩
  obtain ⟨k, hq, hkl⟩ := kids_lev (hst.g.wel t ht) hrt.lev
  obtain ⟨N, hN⟩ : ∃ N, N = max m N0 := ⟨_, rfl⟩
  have HROW : Hid (Row w v zs) := hrow
  have HR : Hid (Rt A t m id g ∧ QV (view A t) id = some (k 0, k 1, k 2, k 3) ∧ (∀ i, i < 4 → levV (view A t).V (k i) = some (m : Int)) ∧ N = max m N0 ∧ m ≤ 43 ∧ LeastLv (N0 + 1) ys ∧ N0 + 1 ≤ 41 ∧ ys.length ≤ 4096) := ⟨hrt, hq, hkl, hN, hm, hM, hM41, hlen4⟩
  have hfi := lev_fits hst.s hrt.lev
  have hN43 : N ≤ 43 ∧ 1 ≤ N := by omega
  clear hrow hlen4 hrt hq hkl hN
  go_enter Tryz.func60, Tryz.ntmps60
  go_wp2_with fail
  refine (hT _ HROW.out).mono ?_
  rintro e w1 ⟨u, ys', rfl, hb1, ht1, hr1⟩
  obtain rfl : ys' = ys := ht1.unique hys
  have HU : Hid (ORow w1 w.heap.size u ys') := hr1
  have HST : Hid (NxSt PR t q A) := hst
  have H1 : Hid (ArL w1 (ext o w.heap.size 0) b A ∧ Ch (fun l => l = 1) o w (ext o w.heap.size 0) w1 ∧ w.heap.size ≤ w1.heap.size) := ⟨hA.ch (L := fun _ => False) (Ch.ofBelow hb1 0) fun h => h, Ch.ofBelow hb1 0, hb1.size⟩
  clear hr1 ht1 hys hc hT hM hst hA
  obtain ⟨x0, y0, x1, y1, bl, hbox, hBd⟩ : ∃ x0 y0 x1 y1 bl, BoxOr ys' x0 y0 x1 y1 ∧ ∀ W, Row W u ys' → Calls Tryz.prog 90 #[u] W fun e w' => e = .returned (.tuple #[.agg #[.int .i64 x0, .int .i64 y0, .int .i64 x1, .int .i64 y1], .bool bl]) ∧ Below W.heap.size W w' := by
    by_cases h0 : ys' = []
    · exact ⟨0, 0, 0, 0, false, Or.inl ⟨h0, rfl, rfl, rfl, rfl⟩, fun W h => by subst h0; exact bounds_any u 0 (fun j => (([] : List (Int × Int))[j]!).1) (fun j => (([] : List (Int × Int))[j]!).2) W h.isRow⟩
    · exact ⟨_, _, _, _, _, Or.inr (box_is h0), fun W h => bounds_any u ys'.length (fun j => (ys'[j]!).1) (fun j => (ys'[j]!).2) W h.isRow⟩
  have hLL := fun W => least_any (N0 + 1) x0 y0 x1 y1 W hM2 (by omega) ((reach_fits hbox (by omega)).2 HR.out.2.2.2.2.2.1.fits) (fun j h1 h2 => by
    have := HR.out.2.2.2.2.2.1.least j h1 h2
    rw [← reach_fits hbox (by omega)] at this
    simpa using this)
  obtain ⟨lv, hlv⟩ : ∃ L : Int, L = ((m + 1 : Nat) : Int) := ⟨_, rfl⟩
  obtain ⟨ll, hll⟩ : ∃ L : Int, L = ((N0 + 1 : Nat) : Int) := ⟨_, rfl⟩
  obtain ⟨wd, hwd⟩ : ∃ L : Int, L = ((N + 1 : Nat) : Int) := ⟨_, rfl⟩
  obtain ⟨dd, hdd⟩ : ∃ L : Int, L = ((N - m : Nat) : Int) := ⟨_, rfl⟩
  have hNm := HR.out.2.2.2.1
  have hwl : IntKind.i64.wrap (wd - lv) = dd := by rw [IntKind.wrap_i64]; omega
  have hmx : ∀ W ts T, (Builtin.max_ ts T #[.int .i64 lv, .int .i64 ll]).run Tryz.prog W = .ok (.int .i64 wd) W := fun W ts T => by
    rw [Lib.run_max_ints, show max lv ll = wd by omega]
  rw [← hll] at hLL
  have HNN : Hid (lv = ((m + 1 : Nat) : Int) ∧ wd = ((N + 1 : Nat) : Int) ∧ dd = ((N - m : Nat) : Int) ∧ N ≤ 43 ∧ 1 ≤ N ∧ m ≤ N) := ⟨hlv, hwd, hdd, hN43.1, hN43.2, by omega⟩
  clear hlv hll hwd hdd hNm hN43 hm1 hm hM2 hM41
  go_wp2_with fail
  refine (newHand_any b t _).mono ?_
  rintro e w2 ⟨rfl, hE2, hb2⟩
  go_upto_region 5 with fail
  obtain ⟨S0, BW⟩ := HE.born (t := t) H1.out.1 hE2 hb2
  obtain ⟨oi, hoi⟩ : ∃ oi, oi = hin (ext o w.heap.size 0) w1.heap.size (w1.heap.size + 1) w2.heap.size := ⟨_, rfl⟩
  rw [← hoi] at S0
  have hle := hdLevel_he S0 HST.out ht id (m + 1) 1 44 HR.out.1.lev (by omega) (by have := HNN.out; omega)
  rw [← HNN.out.1] at hle
  have hrow2 : Row (w2.alloc (.cells #[.pointer (some ⟨b, 0, none⟩), .int .i64 t, .int .i64 0, .slice (some ⟨w1.heap.size + 1, 0, none⟩) 1 1] 143)) u ys' := (HU.out.below BW).read
  obtain ⟨ua, uc, hus, _⟩ := RowL.of hrow2
  have how : ∀ kk, u.ownBlock = some kk → oi kk = 0 ∧ kk < (w2.alloc (.cells #[.pointer (some ⟨b, 0, none⟩), .int .i64 t, .int .i64 0, .slice (some ⟨w1.heap.size + 1, 0, none⟩) 1 1] 143)).heap.size := fun kk hkk => by
    have hk2 : w.heap.size ≤ kk ∧ kk < w1.heap.size := by
      rcases HU.out with ⟨_, rfl⟩ | ⟨_, b', off, c', rfl, h1, h2, _⟩
      · simp [Value.ownBlock] at hkk
      · simp only [Value.ownBlock, Option.some.injEq] at hkk
        omega
    refine ⟨?_, Nat.lt_of_lt_of_le hk2.2 BW.size⟩
    rw [hoi]
    unfold hin
    rw [if_pos hk2.2, ext_new hk2.1]
    rfl
  have HOI : Hid (oi = hin (ext o w.heap.size 0) w1.heap.size (w1.heap.size + 1) w2.heap.size ∧ Below w1.heap.size w1 (w2.alloc (.cells #[.pointer (some ⟨b, 0, none⟩), .int .i64 t, .int .i64 0, .slice (some ⟨w1.heap.size + 1, 0, none⟩) 1 1] 143))) := ⟨hoi, BW⟩
  generalize hwh : (w2.alloc (.cells #[.pointer (some ⟨b, 0, none⟩), .int .i64 t, .int .i64 0, .slice (some ⟨w1.heap.size + 1, 0, none⟩) 1 1] 143)) = wh at *
  clear hwh hE2 hb2 BW hoi S0
  have HRW : Hid (Row wh u ys' ∧ ∀ kk, u.ownBlock = some kk → oi kk = 0 ∧ kk < wh.heap.size) := ⟨hrow2, how⟩
  clear hrow2 how
  subst hus
  go_wp2_with fail
  refine hle.mono ?_
  rintro r w3 ⟨rfl, o3, S3, C3⟩
  obtain ⟨v3, hv3, hv3b, hv3c⟩ := S3
  have c32 := hv3.hand.c2
  have H3 : Hid (HE w3 o3 w2.heap.size b t 0 [0] A ∧ Ch HM oi wh o3 w3) := ⟨⟨v3, hv3, hv3b, hv3c⟩, C3⟩
  clear hv3 hv3b hv3c C3 hle
  go_wp2_with fail
  refine (hBd _ ?_).mono ?_
  · exact Row.chG HRW.out.1 (fun kk hk => (HRW.out.2 kk hk).1) H3.out.2
  rintro e w4 ⟨rfl, hb4⟩
  go_wp2_with fail
  refine (hLL _).mono ?_
  rintro e w5 ⟨rfl, hb5⟩
  have hb4' := hb4.alloc hb4.size (.cells #[.int .i64 x0, .int .i64 y0, .int .i64 x1, .int .i64 y1] 31)
  have hb35 : Below w3.heap.size w3 w5 := hb4'.trans (hb5.mono hb4'.size)
  have H5 : Hid (HE w5 (ext o3 w3.heap.size 0) w2.heap.size b t 0 [0] A ∧ Ch HM oi wh (ext o3 w3.heap.size 0) w5) := ⟨H3.out.1.below hb35, H3.out.2.trans (Ch.ofBelow hb35 0)⟩
  have b6 : Below w5.heap.size w5 (w5.alloc (.cells #[.int .i64 0, .int .i64 0, .int .i64 0, .int .i64 0, .int .i64 0, .int .i64 0, .int .i64 0, .int .i64 0, .int .i64 0, .int .i64 0, .int .i64 0, .int .i64 0] 163)) := (Below.refl _ _).alloc (Nat.le_refl _) _
  have hkd := hdKids_he (H5.out.1.below b6) HST.out ht id hfi (k 0) (k 1) (k 2) (k 3) HR.out.2.1
  have H6 : Hid (Ch HM oi wh (ext (ext o3 w3.heap.size 0) w5.heap.size 0) (w5.alloc (.cells #[.int .i64 0, .int .i64 0, .int .i64 0, .int .i64 0, .int .i64 0, .int .i64 0, .int .i64 0, .int .i64 0, .int .i64 0, .int .i64 0, .int .i64 0, .int .i64 0] 163)) ∧ (w5.alloc (.cells #[.int .i64 0, .int .i64 0, .int .i64 0, .int .i64 0, .int .i64 0, .int .i64 0, .int .i64 0, .int .i64 0, .int .i64 0, .int .i64 0, .int .i64 0, .int .i64 0] 163)).heap[w5.heap.size]? = some (.cells #[.int .i64 0, .int .i64 0, .int .i64 0, .int .i64 0, .int .i64 0, .int .i64 0, .int .i64 0, .int .i64 0, .int .i64 0, .int .i64 0, .int .i64 0, .int .i64 0] 163 (0, 0)) ∧ w5.heap.size < (w5.alloc (.cells #[.int .i64 0, .int .i64 0, .int .i64 0, .int .i64 0, .int .i64 0, .int .i64 0, .int .i64 0, .int .i64 0, .int .i64 0, .int .i64 0, .int .i64 0, .int .i64 0] 163)).heap.size) := ⟨H5.out.2.trans (Ch.ofBelow b6 0), heap_alloc_new w5 _, by simp⟩
  clear hb4 hb5 hb4' hb35 hBd hLL b6 hbox
  obtain ⟨ix0, ix1, ix2, ix3⟩ := idx_four (k 0) (k 1) (k 2) (k 3)
  go_wp2_with fail
  refine hkd.mono ?_
  rintro r w6 ⟨rfl, o6, S6, C6⟩
  have y6 : w6.heap[w5.heap.size]? = some (.cells #[.int .i64 0, .int .i64 0, .int .i64 0, .int .i64 0, .int .i64 0, .int .i64 0, .int .i64 0, .int .i64 0, .int .i64 0, .int .i64 0, .int .i64 0, .int .i64 0] 163 (0, 0)) := (C6.block _ H6.out.2.2 (by rw [ext_new (Nat.le_refl _)]; unfold HM; omega)).trans H6.out.2.1
  have H7 : Hid (o6 w5.heap.size = 0 ∧ wh.heap.size ≤ w5.heap.size) := ⟨(C6.lab _ H6.out.2.2).trans (ext_new (Nat.le_refl _)), H5.out.2.size⟩
  have m6 : HE w6 o6 w2.heap.size b t 0 [0] A ∧ Ch HM oi wh o6 w6 := ⟨S6, H6.out.1.trans C6⟩
  clear S6 C6 hkd H6 H5 H3
  generalize hpb : w5.heap.size = pb at *
  clear hpb
  have r0 : w6.cell? ⟨pb, 0, none⟩ = some (.int .i64 0) := by rw [Lib.cell_of_heap y6]; rfl
  have f0 : w6.frozen? ⟨pb, 0, none⟩ = false := Lib.frozen_of_heap y6 0
  have r1 : w6.cell? ⟨pb, 1, none⟩ = some (.int .i64 0) := by rw [Lib.cell_of_heap y6]; rfl
  have f1 : w6.frozen? ⟨pb, 1, none⟩ = false := Lib.frozen_of_heap y6 1
  have r2 : w6.cell? ⟨pb, 2, none⟩ = some (.int .i64 0) := by rw [Lib.cell_of_heap y6]; rfl
  have f2 : w6.frozen? ⟨pb, 2, none⟩ = false := Lib.frozen_of_heap y6 2
  have r3 : w6.cell? ⟨pb, 3, none⟩ = some (.int .i64 0) := by rw [Lib.cell_of_heap y6]; rfl
  have f3 : w6.frozen? ⟨pb, 3, none⟩ = false := Lib.frozen_of_heap y6 3
  have r4 : w6.cell? ⟨pb, 4, none⟩ = some (.int .i64 0) := by rw [Lib.cell_of_heap y6]; rfl
  have f4 : w6.frozen? ⟨pb, 4, none⟩ = false := Lib.frozen_of_heap y6 4
  have r5 : w6.cell? ⟨pb, 5, none⟩ = some (.int .i64 0) := by rw [Lib.cell_of_heap y6]; rfl
  have f5 : w6.frozen? ⟨pb, 5, none⟩ = false := Lib.frozen_of_heap y6 5
  have r6 : w6.cell? ⟨pb, 6, none⟩ = some (.int .i64 0) := by rw [Lib.cell_of_heap y6]; rfl
  have f6 : w6.frozen? ⟨pb, 6, none⟩ = false := Lib.frozen_of_heap y6 6
  have r7 : w6.cell? ⟨pb, 7, none⟩ = some (.int .i64 0) := by rw [Lib.cell_of_heap y6]; rfl
  have f7 : w6.frozen? ⟨pb, 7, none⟩ = false := Lib.frozen_of_heap y6 7
  have r8 : w6.cell? ⟨pb, 8, none⟩ = some (.int .i64 0) := by rw [Lib.cell_of_heap y6]; rfl
  have f8 : w6.frozen? ⟨pb, 8, none⟩ = false := Lib.frozen_of_heap y6 8
  have r9 : w6.cell? ⟨pb, 9, none⟩ = some (.int .i64 0) := by rw [Lib.cell_of_heap y6]; rfl
  have f9 : w6.frozen? ⟨pb, 9, none⟩ = false := Lib.frozen_of_heap y6 9
  have r10 : w6.cell? ⟨pb, 10, none⟩ = some (.int .i64 0) := by rw [Lib.cell_of_heap y6]; rfl
  have f10 : w6.frozen? ⟨pb, 10, none⟩ = false := Lib.frozen_of_heap y6 10
  have r11 : w6.cell? ⟨pb, 11, none⟩ = some (.int .i64 0) := by rw [Lib.cell_of_heap y6]; rfl
  have f11 : w6.frozen? ⟨pb, 11, none⟩ = false := Lib.frozen_of_heap y6 11
  have HY : Hid (_ ∧ _ ∧ _) := ⟨y6, m6⟩
  clear y6 m6
  unfold quad4
  go_wp2_with fail
  refine wp_loop_rounds 5 ?_
  rw [rounds_succ]
  go_wp2_with fail
  obtain ⟨y20, m20⟩ := st3' (e := 0) (hb := w2.heap.size) (b := b) (t := t) (E := [0]) (A := A) (o := oi) (w := wh) HY.out.1 HY.out.2 H7.out.1 H7.out.2 0 1 2 (.int .i64 (k 0)) (.int .i64 3) (.int .i64 dd)
  generalize hp0 : ((w6.setCell ⟨pb, 0, none⟩ (.int .i64 (k 0))).setCell ⟨pb, 1, none⟩ (.int .i64 3)).setCell ⟨pb, 2, none⟩ (.int .i64 dd) = p0 at *
  have y30 : p0.heap[pb]? = some (.cells #[.int .i64 (k 0), .int .i64 3, .int .i64 dd, .int .i64 0, .int .i64 0, .int .i64 0, .int .i64 0, .int .i64 0, .int .i64 0, .int .i64 0, .int .i64 0, .int .i64 0] 163 (0, 0)) := y20
  clear hp0 y20 r0 f0 r1 f1 r2 f2 r3 f3 r4 f4 r5 f5 r6 f6 r7 f7 r8 f8 r9 f9 r10 f10 r11 f11
  have r0 : p0.cell? ⟨pb, 0, none⟩ = some (.int .i64 (k 0)) := by rw [Lib.cell_of_heap y30]; rfl
  have f0 : p0.frozen? ⟨pb, 0, none⟩ = false := Lib.frozen_of_heap y30 0
  have r1 : p0.cell? ⟨pb, 1, none⟩ = some (.int .i64 3) := by rw [Lib.cell_of_heap y30]; rfl
  have f1 : p0.frozen? ⟨pb, 1, none⟩ = false := Lib.frozen_of_heap y30 1
  have r2 : p0.cell? ⟨pb, 2, none⟩ = some (.int .i64 dd) := by rw [Lib.cell_of_heap y30]; rfl
  have f2 : p0.frozen? ⟨pb, 2, none⟩ = false := Lib.frozen_of_heap y30 2
  have r3 : p0.cell? ⟨pb, 3, none⟩ = some (.int .i64 0) := by rw [Lib.cell_of_heap y30]; rfl
  have f3 : p0.frozen? ⟨pb, 3, none⟩ = false := Lib.frozen_of_heap y30 3
  have r4 : p0.cell? ⟨pb, 4, none⟩ = some (.int .i64 0) := by rw [Lib.cell_of_heap y30]; rfl
  have f4 : p0.frozen? ⟨pb, 4, none⟩ = false := Lib.frozen_of_heap y30 4
  have r5 : p0.cell? ⟨pb, 5, none⟩ = some (.int .i64 0) := by rw [Lib.cell_of_heap y30]; rfl
  have f5 : p0.frozen? ⟨pb, 5, none⟩ = false := Lib.frozen_of_heap y30 5
  have r6 : p0.cell? ⟨pb, 6, none⟩ = some (.int .i64 0) := by rw [Lib.cell_of_heap y30]; rfl
  have f6 : p0.frozen? ⟨pb, 6, none⟩ = false := Lib.frozen_of_heap y30 6
  have r7 : p0.cell? ⟨pb, 7, none⟩ = some (.int .i64 0) := by rw [Lib.cell_of_heap y30]; rfl
  have f7 : p0.frozen? ⟨pb, 7, none⟩ = false := Lib.frozen_of_heap y30 7
  have r8 : p0.cell? ⟨pb, 8, none⟩ = some (.int .i64 0) := by rw [Lib.cell_of_heap y30]; rfl
  have f8 : p0.frozen? ⟨pb, 8, none⟩ = false := Lib.frozen_of_heap y30 8
  have r9 : p0.cell? ⟨pb, 9, none⟩ = some (.int .i64 0) := by rw [Lib.cell_of_heap y30]; rfl
  have f9 : p0.frozen? ⟨pb, 9, none⟩ = false := Lib.frozen_of_heap y30 9
  have r10 : p0.cell? ⟨pb, 10, none⟩ = some (.int .i64 0) := by rw [Lib.cell_of_heap y30]; rfl
  have f10 : p0.frozen? ⟨pb, 10, none⟩ = false := Lib.frozen_of_heap y30 10
  have r11 : p0.cell? ⟨pb, 11, none⟩ = some (.int .i64 0) := by rw [Lib.cell_of_heap y30]; rfl
  have f11 : p0.frozen? ⟨pb, 11, none⟩ = false := Lib.frozen_of_heap y30 11
  have HY10 : Hid (_ ∧ _ ∧ _) := ⟨y30, m20⟩
  clear y30 m20
  rw [rounds_succ]
  go_wp2_with fail
  obtain ⟨y21, m21⟩ := st3' (e := 0) (hb := w2.heap.size) (b := b) (t := t) (E := [0]) (A := A) (o := oi) (w := wh) HY10.out.1 HY10.out.2 H7.out.1 H7.out.2 3 4 5 (.int .i64 (k 1)) (.int .i64 2) (.int .i64 dd)
  generalize hp1 : ((p0.setCell ⟨pb, 3, none⟩ (.int .i64 (k 1))).setCell ⟨pb, 4, none⟩ (.int .i64 2)).setCell ⟨pb, 5, none⟩ (.int .i64 dd) = p1 at *
  have y31 : p1.heap[pb]? = some (.cells #[.int .i64 (k 0), .int .i64 3, .int .i64 dd, .int .i64 (k 1), .int .i64 2, .int .i64 dd, .int .i64 0, .int .i64 0, .int .i64 0, .int .i64 0, .int .i64 0, .int .i64 0] 163 (0, 0)) := y21
  clear hp1 y21 r0 f0 r1 f1 r2 f2 r3 f3 r4 f4 r5 f5 r6 f6 r7 f7 r8 f8 r9 f9 r10 f10 r11 f11
  have r0 : p1.cell? ⟨pb, 0, none⟩ = some (.int .i64 (k 0)) := by rw [Lib.cell_of_heap y31]; rfl
  have f0 : p1.frozen? ⟨pb, 0, none⟩ = false := Lib.frozen_of_heap y31 0
  have r1 : p1.cell? ⟨pb, 1, none⟩ = some (.int .i64 3) := by rw [Lib.cell_of_heap y31]; rfl
  have f1 : p1.frozen? ⟨pb, 1, none⟩ = false := Lib.frozen_of_heap y31 1
  have r2 : p1.cell? ⟨pb, 2, none⟩ = some (.int .i64 dd) := by rw [Lib.cell_of_heap y31]; rfl
  have f2 : p1.frozen? ⟨pb, 2, none⟩ = false := Lib.frozen_of_heap y31 2
  have r3 : p1.cell? ⟨pb, 3, none⟩ = some (.int .i64 (k 1)) := by rw [Lib.cell_of_heap y31]; rfl
  have f3 : p1.frozen? ⟨pb, 3, none⟩ = false := Lib.frozen_of_heap y31 3
  have r4 : p1.cell? ⟨pb, 4, none⟩ = some (.int .i64 2) := by rw [Lib.cell_of_heap y31]; rfl
  have f4 : p1.frozen? ⟨pb, 4, none⟩ = false := Lib.frozen_of_heap y31 4
  have r5 : p1.cell? ⟨pb, 5, none⟩ = some (.int .i64 dd) := by rw [Lib.cell_of_heap y31]; rfl
  have f5 : p1.frozen? ⟨pb, 5, none⟩ = false := Lib.frozen_of_heap y31 5
  have r6 : p1.cell? ⟨pb, 6, none⟩ = some (.int .i64 0) := by rw [Lib.cell_of_heap y31]; rfl
  have f6 : p1.frozen? ⟨pb, 6, none⟩ = false := Lib.frozen_of_heap y31 6
  have r7 : p1.cell? ⟨pb, 7, none⟩ = some (.int .i64 0) := by rw [Lib.cell_of_heap y31]; rfl
  have f7 : p1.frozen? ⟨pb, 7, none⟩ = false := Lib.frozen_of_heap y31 7
  have r8 : p1.cell? ⟨pb, 8, none⟩ = some (.int .i64 0) := by rw [Lib.cell_of_heap y31]; rfl
  have f8 : p1.frozen? ⟨pb, 8, none⟩ = false := Lib.frozen_of_heap y31 8
  have r9 : p1.cell? ⟨pb, 9, none⟩ = some (.int .i64 0) := by rw [Lib.cell_of_heap y31]; rfl
  have f9 : p1.frozen? ⟨pb, 9, none⟩ = false := Lib.frozen_of_heap y31 9
  have r10 : p1.cell? ⟨pb, 10, none⟩ = some (.int .i64 0) := by rw [Lib.cell_of_heap y31]; rfl
  have f10 : p1.frozen? ⟨pb, 10, none⟩ = false := Lib.frozen_of_heap y31 10
  have r11 : p1.cell? ⟨pb, 11, none⟩ = some (.int .i64 0) := by rw [Lib.cell_of_heap y31]; rfl
  have f11 : p1.frozen? ⟨pb, 11, none⟩ = false := Lib.frozen_of_heap y31 11
  have HY11 : Hid (_ ∧ _ ∧ _) := ⟨y31, m21⟩
  clear y31 m21
  rw [rounds_succ]
  go_wp2_with fail
  obtain ⟨y22, m22⟩ := st3' (e := 0) (hb := w2.heap.size) (b := b) (t := t) (E := [0]) (A := A) (o := oi) (w := wh) HY11.out.1 HY11.out.2 H7.out.1 H7.out.2 6 7 8 (.int .i64 (k 2)) (.int .i64 1) (.int .i64 dd)
  generalize hp2 : ((p1.setCell ⟨pb, 6, none⟩ (.int .i64 (k 2))).setCell ⟨pb, 7, none⟩ (.int .i64 1)).setCell ⟨pb, 8, none⟩ (.int .i64 dd) = p2 at *
  have y32 : p2.heap[pb]? = some (.cells #[.int .i64 (k 0), .int .i64 3, .int .i64 dd, .int .i64 (k 1), .int .i64 2, .int .i64 dd, .int .i64 (k 2), .int .i64 1, .int .i64 dd, .int .i64 0, .int .i64 0, .int .i64 0] 163 (0, 0)) := y22
  clear hp2 y22 r0 f0 r1 f1 r2 f2 r3 f3 r4 f4 r5 f5 r6 f6 r7 f7 r8 f8 r9 f9 r10 f10 r11 f11
  have r0 : p2.cell? ⟨pb, 0, none⟩ = some (.int .i64 (k 0)) := by rw [Lib.cell_of_heap y32]; rfl
  have f0 : p2.frozen? ⟨pb, 0, none⟩ = false := Lib.frozen_of_heap y32 0
  have r1 : p2.cell? ⟨pb, 1, none⟩ = some (.int .i64 3) := by rw [Lib.cell_of_heap y32]; rfl
  have f1 : p2.frozen? ⟨pb, 1, none⟩ = false := Lib.frozen_of_heap y32 1
  have r2 : p2.cell? ⟨pb, 2, none⟩ = some (.int .i64 dd) := by rw [Lib.cell_of_heap y32]; rfl
  have f2 : p2.frozen? ⟨pb, 2, none⟩ = false := Lib.frozen_of_heap y32 2
  have r3 : p2.cell? ⟨pb, 3, none⟩ = some (.int .i64 (k 1)) := by rw [Lib.cell_of_heap y32]; rfl
  have f3 : p2.frozen? ⟨pb, 3, none⟩ = false := Lib.frozen_of_heap y32 3
  have r4 : p2.cell? ⟨pb, 4, none⟩ = some (.int .i64 2) := by rw [Lib.cell_of_heap y32]; rfl
  have f4 : p2.frozen? ⟨pb, 4, none⟩ = false := Lib.frozen_of_heap y32 4
  have r5 : p2.cell? ⟨pb, 5, none⟩ = some (.int .i64 dd) := by rw [Lib.cell_of_heap y32]; rfl
  have f5 : p2.frozen? ⟨pb, 5, none⟩ = false := Lib.frozen_of_heap y32 5
  have r6 : p2.cell? ⟨pb, 6, none⟩ = some (.int .i64 (k 2)) := by rw [Lib.cell_of_heap y32]; rfl
  have f6 : p2.frozen? ⟨pb, 6, none⟩ = false := Lib.frozen_of_heap y32 6
  have r7 : p2.cell? ⟨pb, 7, none⟩ = some (.int .i64 1) := by rw [Lib.cell_of_heap y32]; rfl
  have f7 : p2.frozen? ⟨pb, 7, none⟩ = false := Lib.frozen_of_heap y32 7
  have r8 : p2.cell? ⟨pb, 8, none⟩ = some (.int .i64 dd) := by rw [Lib.cell_of_heap y32]; rfl
  have f8 : p2.frozen? ⟨pb, 8, none⟩ = false := Lib.frozen_of_heap y32 8
  have r9 : p2.cell? ⟨pb, 9, none⟩ = some (.int .i64 0) := by rw [Lib.cell_of_heap y32]; rfl
  have f9 : p2.frozen? ⟨pb, 9, none⟩ = false := Lib.frozen_of_heap y32 9
  have r10 : p2.cell? ⟨pb, 10, none⟩ = some (.int .i64 0) := by rw [Lib.cell_of_heap y32]; rfl
  have f10 : p2.frozen? ⟨pb, 10, none⟩ = false := Lib.frozen_of_heap y32 10
  have r11 : p2.cell? ⟨pb, 11, none⟩ = some (.int .i64 0) := by rw [Lib.cell_of_heap y32]; rfl
  have f11 : p2.frozen? ⟨pb, 11, none⟩ = false := Lib.frozen_of_heap y32 11
  have HY12 : Hid (_ ∧ _ ∧ _) := ⟨y32, m22⟩
  clear y32 m22
  rw [rounds_succ]
  go_wp2_with fail
  obtain ⟨y23, m23⟩ := st3' (e := 0) (hb := w2.heap.size) (b := b) (t := t) (E := [0]) (A := A) (o := oi) (w := wh) HY12.out.1 HY12.out.2 H7.out.1 H7.out.2 9 10 11 (.int .i64 (k 3)) (.int .i64 0) (.int .i64 dd)
  generalize hp3 : ((p2.setCell ⟨pb, 9, none⟩ (.int .i64 (k 3))).setCell ⟨pb, 10, none⟩ (.int .i64 0)).setCell ⟨pb, 11, none⟩ (.int .i64 dd) = p3 at *
  have y33 : p3.heap[pb]? = some (.cells #[.int .i64 (k 0), .int .i64 3, .int .i64 dd, .int .i64 (k 1), .int .i64 2, .int .i64 dd, .int .i64 (k 2), .int .i64 1, .int .i64 dd, .int .i64 (k 3), .int .i64 0, .int .i64 dd] 163 (0, 0)) := y23
  clear hp3 y23 r0 f0 r1 f1 r2 f2 r3 f3 r4 f4 r5 f5 r6 f6 r7 f7 r8 f8 r9 f9 r10 f10 r11 f11
  have s0 : p3.cell? ⟨pb, 0, none⟩ = some (.int .i64 (k 0)) := by rw [Lib.cell_of_heap y33]; rfl
  have s1 : p3.cell? ⟨pb, 1, none⟩ = some (.int .i64 3) := by rw [Lib.cell_of_heap y33]; rfl
  have s2 : p3.cell? ⟨pb, 2, none⟩ = some (.int .i64 dd) := by rw [Lib.cell_of_heap y33]; rfl
  have s3 : p3.cell? ⟨pb, 3, none⟩ = some (.int .i64 (k 1)) := by rw [Lib.cell_of_heap y33]; rfl
  have s4 : p3.cell? ⟨pb, 4, none⟩ = some (.int .i64 2) := by rw [Lib.cell_of_heap y33]; rfl
  have s5 : p3.cell? ⟨pb, 5, none⟩ = some (.int .i64 dd) := by rw [Lib.cell_of_heap y33]; rfl
  have s6 : p3.cell? ⟨pb, 6, none⟩ = some (.int .i64 (k 2)) := by rw [Lib.cell_of_heap y33]; rfl
  have s7 : p3.cell? ⟨pb, 7, none⟩ = some (.int .i64 1) := by rw [Lib.cell_of_heap y33]; rfl
  have s8 : p3.cell? ⟨pb, 8, none⟩ = some (.int .i64 dd) := by rw [Lib.cell_of_heap y33]; rfl
  have s9 : p3.cell? ⟨pb, 9, none⟩ = some (.int .i64 (k 3)) := by rw [Lib.cell_of_heap y33]; rfl
  have s10 : p3.cell? ⟨pb, 10, none⟩ = some (.int .i64 0) := by rw [Lib.cell_of_heap y33]; rfl
  have s11 : p3.cell? ⟨pb, 11, none⟩ = some (.int .i64 dd) := by rw [Lib.cell_of_heap y33]; rfl
  have HY13 : Hid (_ ∧ _ ∧ _) := ⟨y33, m23⟩
  clear y33 m23
  rw [rounds_succ]
  have hh2 : ∀ W, Calls Tryz.prog 95 #[.int .i64 wd] W fun x w' => x = .returned (.int .i64 (halfN (N + 1) : Int)) ∧ w' = W := fun W => by rw [HNN.out.2.1]; exact half_any (N + 1) W (by omega) (by have := HNN.out; omega)
  have hbd := halfN_bd (N + 1) (by have := HNN.out; omega)
  obtain ⟨hf, hhf⟩ : ∃ hf : Nat, hf = halfN (N + 1) := ⟨_, rfl⟩
  rw [← hhf] at hh2 hbd
  have hf2 : (hf : Int) = 2 ^ N := by rw [hhf, halfN_succ, powI]
  have hneg : IntKind.i64.wrap (-(hf : Int)) = -(hf : Int) := by rw [IntKind.wrap_i64]; omega
  have HLIT : Hid (∀ W, Below p3.heap.size p3 W → Calls Tryz.prog 105 #[.pointer (some ⟨w2.heap.size, 0, none⟩), .agg #[.int .i64 (k 0), .int .i64 3, .int .i64 dd, .int .i64 (k 1), .int .i64 2, .int .i64 dd, .int .i64 (k 2), .int .i64 1, .int .i64 dd, .int .i64 (k 3), .int .i64 0, .int .i64 dd], .slice ua ys'.length uc, .int .i64 wd, .int .i64 (-(hf : Int)), .int .i64 (-(hf : Int))] W fun r w' => ∃ kk, r = .returned (.int .i64 kk) ∧ SqCalls PR W (ext o6 p3.heap.size 0) w2.heap.size b t q 0 A (N + 1) (rootG g m (N - m)) ys' (-(2 ^ N)) (-(2 ^ N)) (LitD N (rootG g m (N - m)) ys' (-(2 ^ N)) (-(2 ^ N))) kk w') := by
    intro W hW
    obtain ⟨r1, r2, r3, r4, r5, r6, r7, r8⟩ := HR.out
    obtain ⟨n1, n2, n3, n4, n5, n6⟩ := HNN.out
    have hgk := rootG_ok HST.out ht r1 r2 r3 (fun i hi => lev_nn (r3 i hi)) (lev_nn r1.lev) (N - m) (by omega)
    rw [show m + (N - m) = N by omega, ← n3] at hgk
    have g0 := hgk 0 (by omega)
    have g1 := hgk 1 (by omega)
    have g2 := hgk 2 (by omega)
    have g3 := hgk 3 (by omega)
    rw [show (3 - ((0 : Nat) : Int)) = 3 by omega] at g0
    rw [show (3 - ((1 : Nat) : Int)) = 2 by omega] at g1
    rw [show (3 - ((2 : Nat) : Int)) = 1 by omega] at g2
    rw [show (3 - ((3 : Nat) : Int)) = 0 by omega] at g3
    have cW : Ch HM oi wh (ext o6 p3.heap.size 0) W := HY13.out.2.2.trans (Ch.ofBelow hW 0)
    have hp := two_powI N
    have hpl : (2 : Int) ^ N0 ≤ 2 ^ N := pow_le (by omega)
    have hpb : (2 : Int) ^ N ≤ 2 ^ 43 := pow_le n4
    have hrow : RowL W (.slice ua ys'.length uc) ys' := (RowL.of HRW.out.1).ch (fun kk hk => (HRW.out.2 kk hk).1) cW
    rw [hf2]
    refine (lit_any N (squareG_any N) (rootG g m (N - m)) _ _ _ _ _ _ _ _ _ _ _ _ _ ys' (-(2 ^ N)) (-(2 ^ N)) wd (HY13.out.2.1.below hW) HST.out ht ⟨by simp, by simp⟩ (fun i x hx => ?_) (by omega) n2 hrow r8 g0 g1 g2 g3 (fun p hp' => ?_) (by omega) (by omega) (by omega) (by omega)).mono ?_
    · have hi : i = 0 := by have := (List.getElem?_eq_some_iff.1 hx).1; simpa using this
      subst hi
      have hx0 : x = 0 := by simpa using hx.symm
      subst hx0
      exact ⟨rfl, fun _ _ _ _ => rfl⟩
    · have := r6.fits p hp'
      rw [halfN_succ, powI] at this
      omega
    · rintro r w9 ⟨kk, rfl, hB⟩
      exact ⟨kk, rfl, hB⟩
  have HHF : Hid (hf = halfN (N + 1)) := hhf
  have HP : Hid (p3.heap[pb]? = some (.cells #[.int .i64 (k 0), .int .i64 3, .int .i64 dd, .int .i64 (k 1), .int .i64 2, .int .i64 dd, .int .i64 (k 2), .int .i64 1, .int .i64 dd, .int .i64 (k 3), .int .i64 0, .int .i64 dd] 163 (0, 0)) ∧ o6 pb = 0 ∧ pb < p3.heap.size) := ⟨HY13.out.1, H7.out.1, (Array.getElem?_eq_some_iff.1 HY13.out.1).1⟩
  have HS : Hid (∀ W : World, W.heap[pb]? = p3.heap[pb]? → W.cell? ⟨pb, 0, none⟩ = some (.int .i64 (k 0)) ∧ W.cell? ⟨pb, 1, none⟩ = some (.int .i64 3) ∧ W.cell? ⟨pb, 2, none⟩ = some (.int .i64 dd) ∧ W.cell? ⟨pb, 3, none⟩ = some (.int .i64 (k 1)) ∧ W.cell? ⟨pb, 4, none⟩ = some (.int .i64 2) ∧ W.cell? ⟨pb, 5, none⟩ = some (.int .i64 dd) ∧ W.cell? ⟨pb, 6, none⟩ = some (.int .i64 (k 2)) ∧ W.cell? ⟨pb, 7, none⟩ = some (.int .i64 1) ∧ W.cell? ⟨pb, 8, none⟩ = some (.int .i64 dd) ∧ W.cell? ⟨pb, 9, none⟩ = some (.int .i64 (k 3)) ∧ W.cell? ⟨pb, 10, none⟩ = some (.int .i64 0) ∧ W.cell? ⟨pb, 11, none⟩ = some (.int .i64 dd)) := fun W h => by
    have e := h.trans HP.out.1
    exact ⟨by rw [Lib.cell_of_heap e]; rfl, by rw [Lib.cell_of_heap e]; rfl, by rw [Lib.cell_of_heap e]; rfl, by rw [Lib.cell_of_heap e]; rfl, by rw [Lib.cell_of_heap e]; rfl, by rw [Lib.cell_of_heap e]; rfl, by rw [Lib.cell_of_heap e]; rfl, by rw [Lib.cell_of_heap e]; rfl, by rw [Lib.cell_of_heap e]; rfl, by rw [Lib.cell_of_heap e]; rfl, by rw [Lib.cell_of_heap e]; rfl, by rw [Lib.cell_of_heap e]; rfl⟩
  have HCW : Hid (∀ W, Below p3.heap.size p3 W → Ch HM oi wh (ext o6 p3.heap.size 0) W) := fun W hW => HY13.out.2.2.trans (Ch.ofBelow hW 0)
  clear hhf hf2 HY13 HY12 HY11 HY10 HY
  go_wp2_with fail
  go_region_held3 (fun W => W.cell? ⟨pb, 0, none⟩ = some (.int .i64 (k 0)) ∧ W.cell? ⟨pb, 1, none⟩ = some (.int .i64 3) ∧ W.cell? ⟨pb, 2, none⟩ = some (.int .i64 dd) ∧ W.cell? ⟨pb, 3, none⟩ = some (.int .i64 (k 1)) ∧ W.cell? ⟨pb, 4, none⟩ = some (.int .i64 2) ∧ W.cell? ⟨pb, 5, none⟩ = some (.int .i64 dd) ∧ W.cell? ⟨pb, 6, none⟩ = some (.int .i64 (k 2)) ∧ W.cell? ⟨pb, 7, none⟩ = some (.int .i64 1) ∧ W.cell? ⟨pb, 8, none⟩ = some (.int .i64 dd) ∧ W.cell? ⟨pb, 9, none⟩ = some (.int .i64 (k 3)) ∧ W.cell? ⟨pb, 10, none⟩ = some (.int .i64 0) ∧ W.cell? ⟨pb, 11, none⟩ = some (.int .i64 dd)) (first | exact ⟨s0, s1, s2, s3, s4, s5, s6, s7, s8, s9, s10, s11⟩ | exact HS.out _ K8)
    (first | (go_at_call 95; refine (hh2 _).mono ?_; rintro e w7 ⟨rfl, rfl⟩) | (go_at_call 105; refine (HLIT.out p3.drew ⟨rfl, rfl, rfl, Nat.le_refl _, fun _ _ => rfl⟩).mono ?_; rintro r w8 ⟨kk, rfl, e9, E9, A9, o9, S9, C9, SO⟩; have K8 : w8.heap[pb]? = p3.heap[pb]? := C9.block pb HP.out.2.2 (by rw [ext_old HP.out.2.2, HP.out.2.1]; unfold HM; omega); obtain ⟨v9, hv9, hx9⟩ := S9) | (go_at_call 92; refine (answer_any _ b t e9 kk v9 _ hv9.hand).mono ?_; rintro r w10 ⟨id2, rfl, hz, nd, rfl⟩))
  have HO : Hid (∃ A' o', ArL w8 o' b A' ∧ Ch (fun l => l = 1) o w o' w8 ∧ NxSt PR t q A' ∧ (e9 = 0 → AddR t A A' g m ys' kk 0) ∧ (Er e9 → AddR t A A' g m ys' 0 e9)) := by
    have C8 := (HCW.out p3.drew ⟨rfl, rfl, rfl, Nat.le_refl _, fun _ _ => rfl⟩).trans C9
    rw [HOI.out.1] at C8
    obtain ⟨a1, a2⟩ := hand_out HOI.out.2 C8 hv9.ar
    obtain ⟨r1, r2, r3, r4, r5, r6, r7, r8⟩ := HR.out
    obtain ⟨n1, n2, n3, n4, n5, n6⟩ := HNN.out
    obtain ⟨s1, s2, s3, s4, s5⟩ := SO
    refine ⟨A9, _, a1, H1.out.2.1.trans a2, s1, fun e0 => ⟨N, n6, n4, ⟨N0, r6, r4⟩, by rw [e0] at s2; exact s2, .inr ⟨rfl, ?_⟩⟩, fun e0 => ⟨N, n6, n4, ⟨N0, r6, r4⟩, s2, .inl ⟨e0, rfl⟩⟩⟩
    obtain ⟨_, _, b1, b2⟩ := s5 e0
    refine rt_of_add n6 r1.out (fun p hp' => ?_) b1 b2
    have := r6.fits p hp'
    rw [halfN_succ, powI] at this
    have hpl : (2 : Int) ^ N0 ≤ 2 ^ N := pow_le (by omega)
    omega
  have he9 : e9 = 0 ∨ Er e9 := SO.2.2.2.1
  clear hv9 hx9 C9 SO HLIT K8
  go_wp2_with fail
  go_ret2
  obtain ⟨A', o', a1, a2, a3, a4, a5⟩ := HO.out
  refine ⟨_, _, rfl, A', o', a1.ch ((Ch.refl (fun _ => False) o' _).drewN nd) (fun h => h), a2.drewN nd, a3, ?_⟩
  rcases he9 with h0 | h0
  · rw [hz.out.1 h0, h0]
    exact a4 h0
  · rw [hz.out.2 h0.ne]
    exact a5 h0
end Go.Proofs.YtgipjplifndniaaGreatDoor.A
