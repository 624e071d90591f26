/- 2^64, and numbers of any sign: Lsh, NewInt. -/
import Derived.Test.YtekjcmejnhhpaaaDoorMtSg
namespace Go.Proofs.YtekjcmejnhhpaaaDoor
open Go.RowKit

theorem or01 : bits .or .u32 0 1 = 1 := by decide
theorem or00 : bits .or .u32 0 0 = 0 := by decide
set_option maxRecDepth 20000 in
set_option maxHeartbeats 1000000 in
theorem left64_any (B : Nat) (v : Value) (w : World) (hv : Wd w B v 1) :
    Calls Tryd.prog 32 #[v, .int .u64 64] w fun e w' => ∃ x, e = .returned x ∧ Wd w' w.heap.size x 18446744073709551616 ∧ Below w.heap.size w w' := by
  have hmk := run_make_row' (P := Tryd.prog) 42 62 (.int .u32 0) 4 Tryd.underlying42 (by kernel_rfl) rfl .i64 .i64 4 (by omega) (by omega) w
  obtain ⟨a1, k1, c1, rfl, hk1, hc1, hk1000, hn1, hp1, h1⟩ := hv
  have hk : k1 = 1 := by
    have h2 := wd_count (k1 := 1) (by decide) hp1
    rcases Nat.eq_zero_or_pos k1 with e | e
    · subst e; simp at hn1
    · omega
  subst hk
  rcases h1 with h1 | ⟨b1, o1, rfl, _, hb1, hw1⟩
  · omega
  have x0 := hw1 0 (by omega)
  rw [show wd 1 0 = 1 by decide, Nat.add_zero] at x0
  have hR := World.rowIs_made w (.int .u32 0) 4 62
  have hB := (Below.refl w.heap.size w).alloc (Nat.le_refl _) (.cells (madeCells #[.int .u32 0] 4) 62)
  have x0' := (hB.cell (p := ⟨b1, o1, none⟩) hb1).trans x0
  clear hn1 hp1 hw1 x0 hk1 hc1 hk1000
  rw [show ((4 : Nat) : Int) = 4 from rfl] at hmk
  go_enter Tryd.func32, Tryd.ntmps32
  go_wp2_with fail
  generalize w.alloc (.cells (madeCells #[.int .u32 0] 4) 62) = wM at *
  clear hmk
  have e2 := hR.cell (i := 2) (by omega)
  have e3 := hR.cell (i := 3) (by omega)
  have f2 := hR.frozen 2
  have f3 := hR.frozen 3
  have h01 := or01
  have h00 := or00
  have HR : Hid (wM.rowIs w.heap.size 62 4 (fun _ => .int .u32 0)) := hR
  have HB : Hid (Below w.heap.size w wM) := hB
  clear hR hB
  refine wp_loop_rounds 2 ?_
  rw [rounds_succ]
  go_wp2_with fail
  have hR2 := (HR.out.set 2 (.int .u32 1)).set 3 (.int .u32 0)
  have HB2 : Hid (Below w.heap.size w ((wM.setCell ⟨w.heap.size, 2, none⟩ (.int .u32 1)).setCell ⟨w.heap.size, 3, none⟩ (.int .u32 0))) := (HB.out.setCell (p := ⟨w.heap.size, 2, none⟩) (Nat.le_refl _) _).setCell (p := ⟨w.heap.size, 3, none⟩) (Nat.le_refl _) _
  have htr := trim_any w.heap.size w.heap.size 0 4 4 18446744073709551616 ((wM.setCell ⟨w.heap.size, 2, none⟩ (.int .u32 1)).setCell ⟨w.heap.size, 3, none⟩ (.int .u32 0)) (Nat.le_refl _) (Nat.le_refl _) (by unfold maxLen; omega) (by omega) hR2.lt (by decide) (fun j hj => by
    rw [Nat.zero_add, hR2.cell (i := j) hj]
    match j, hj with
    | 0, _ => rfl
    | 1, _ => rfl
    | 2, _ => rfl
    | 3, _ => rfl)
  clear hR2 e2 e3 f2 f3 h01 h00 x0'
  generalize (wM.setCell ⟨w.heap.size, 2, none⟩ (.int .u32 1)).setCell ⟨w.heap.size, 3, none⟩ (.int .u32 0) = W2 at *
  rw [rounds_succ]
  go_wp2_with fail
  refine htr.mono ?_
  rintro e w3 ⟨u, rfl, hu, rfl⟩
  go_wp2_with fail
  go_ret
  exact ⟨u, rfl, hu, HB2.out⟩
set_option maxHeartbeats 1000000 in
theorem newZ_any (x : Int) (sg : Bool) (w : World) (h0 : -9223372036854775808 ≤ x) (h1 : x ≤ 9223372036854775807) (hsg : sg = decide (x < 0)) :
    Calls Tryd.prog 17 #[.int .i64 x] w fun e w' => e = .returned (.pointer (some ⟨w.heap.size, 0, none⟩)) ∧ Sg w.heap.size sg x.natAbs w' ∧ Below w.heap.size w w' := by
  by_cases hx : x < 0
  · have hs : sg = true := by rw [hsg]; exact decide_eq_true hx
    subst hs
    obtain ⟨n, hn⟩ : ∃ n : Nat, n = x.natAbs := ⟨_, rfl⟩
    have hnx : x = -(n : Int) := by omega
    rw [← hn]
    subst hnx
    have hn0 : n ≠ 0 := by omega
    have hn1 : n ≤ 9223372036854775808 := by omega
    have hb0 : Below w.heap.size w (w.alloc (.cells #[.bool false, .slice none 0 0] 44)) := (Below.refl _ _).alloc (Nat.le_refl _) _
    have hib := Ib.born w
    have hset : Calls Tryd.prog 33 #[.pointer (some ⟨w.heap.size, 0, none⟩), .int .i64 (-(n : Int))] (w.alloc (.cells #[.bool false, .slice none 0 0] 44)) fun e w' => e = .returned (.pointer (some ⟨w.heap.size, 0, none⟩)) ∧ Sg w.heap.size true n w' ∧ (w.alloc (.cells #[.bool false, .slice none 0 0] 44)).grownBy w' (some w.heap.size) := by
      have hlt := hib.lt
      generalize w.alloc (.cells #[.bool false, .slice none 0 0] 44) = W at *
      have hws := fun W => words_any n W (by omega)
      have HIB : Hid (Ib w.heap.size W) := hib
      have hn0' : -(n : Int) < 0 := by omega
      have hww : IntKind.u64.wrap (-IntKind.u64.wrap (-(n : Int))) = n := by rw [IntKind.wrap_u64, IntKind.wrap_u64]; omega
      have hdn : decide (0 < n) = true := decide_eq_true (by omega)
      clear h0 h1 hsg hx hn hb0 hib
      go_enter Tryd.func33, Tryd.ntmps33
      go_wp2_with fail
      refine (hws _).mono ?_
      rintro e w1 ⟨v, rfl, hv, hb1⟩
      go_wp2_with fail
      refine (giveG_any w.heap.size true true n v w1 (HIB.out.go hb1) (hv.mono hlt) (by simp [hn0])).mono ?_
      rintro e w2 ⟨rfl, hi, hb2⟩
      go_wp2_with fail
      go_ret
      exact ⟨rfl, hi, grown_under hb1 hb2⟩
    clear h0 h1 hsg hx hn hib
    go_enter Tryd.func17, Tryd.ntmps17
    go_wp2_with fail
    refine hset.mono ?_
    rintro e w2 ⟨rfl, hi, hb2⟩
    go_wp2_with fail
    go_ret
    exact ⟨rfl, hi, hb0.trans (grown_to_below hb2 (Nat.le_refl _) hb0.size)⟩
  · have hs : sg = false := by rw [hsg]; exact decide_eq_false hx
    subst hs
    obtain ⟨n, hn⟩ : ∃ n : Nat, n = x.natAbs := ⟨_, rfl⟩
    have hnx : x = (n : Int) := by omega
    rw [← hn, hnx]
    exact (newInt_any n w (by omega)).mono fun e w' ⟨a, b, c⟩ => ⟨a, Sg.of b, c⟩
set_option maxRecDepth 20000 in
set_option maxHeartbeats 1000000 in
theorem lsh64_any (z x : Nat) (w : World) (hz : Ib z w) (hx : Sg x false 1 w) (hne : x ≠ z) :
    Calls Tryd.prog 16 #[.pointer (some ⟨z, 0, none⟩), .pointer (some ⟨x, 0, none⟩), .int .u64 64] w fun e w' => e = .returned (.pointer (some ⟨z, 0, none⟩)) ∧ Sg z false 18446744073709551616 w' ∧ w.grownBy w' (some z) := by
  have HX : Hid (Sg x false 1 w) := hx
  obtain ⟨a, k, c, bx, vx⟩ := hx
  have x0 : w.drew.cell? ⟨x, 0, none⟩ = some (.bool false) := by rw [show w.drew.cell? _ = w.cell? _ from rfl, Lib.cell_of_heap bx]; rfl
  have x1 : w.drew.cell? ⟨x, 1, none⟩ = some (.slice a k c) := by rw [show w.drew.cell? _ = w.cell? _ from rfl, Lib.cell_of_heap bx]; rfl
  have htw := left64_any _ (.slice a k c) w.drew (vx.below (drewB w 1))
  have HS : Hid (∀ W : World, W.heap[x]? = w.heap[x]? → W.cell? ⟨x, 0, none⟩ = some (.bool false) ∧ W.cell? ⟨x, 1, none⟩ = some (.slice a k c)) := fun W h => ⟨(World.cell?_of_block (a := ⟨x, 0, none⟩) h).trans x0, (World.cell?_of_block (a := ⟨x, 1, none⟩) h).trans x1⟩
  have HXL : Hid (x < w.heap.size ∧ x ≠ z ∧ z < w.heap.size) := ⟨HX.out.lt, hne, hz.lt⟩
  have HZ : Hid (Ib z w) := hz
  generalize hnm : (18446744073709551616 : Nat) = N at *
  clear bx vx hz hne hnm
  go_enter Tryd.func16, Tryd.ntmps16
  go_wp2_with fail
  go_region_held3 (fun W => W.cell? ⟨x, 0, none⟩ = some (.bool false) ∧ W.cell? ⟨x, 1, none⟩ = some (.slice a k c)) (first | exact ⟨x0, x1⟩ | exact HS.out _ ((hg2.block x (by have := HXL.out; have := hb1.size; simp at this; omega) (fun e => HXL.out.2.1 (Option.some.inj e))).trans (hb1.block x HXL.out.1)) | exact HS.out _ (hb1.block x HXL.out.1)) ((first
    | (go_at_call 32; refine htw.mono ?_; rintro e w1 ⟨u, rfl, hu, hb1⟩)
    | (go_at_call 31; refine (giveG_any z false false N u w1 (HZ.out.go ⟨hb1.os, hb1.tape, hb1.output, hb1.size, hb1.block⟩) (hu.mono (by have := HXL.out.2.2; simp; omega)) rfl).mono ?_; rintro e w2 ⟨rfl, hs2, hg2⟩)))
  have HE : Hid (Sg z false N w2 ∧ w.grownBy w2 (some z)) := ⟨hs2, grown_under ⟨hb1.os, hb1.tape, hb1.output, hb1.size, hb1.block⟩ hg2⟩
  clear hs2 hg2 hb1 hu x0 x1 htw
  go_wp2_with fail
  go_ret
  exact ⟨rfl, HE.out⟩
end Go.Proofs.YtekjcmejnhhpaaaDoor
