/- square over any ground. -/
import Derived.Test.YtgipjplifndniaaGreatDoorQuQuart2
import Derived.Test.YtgipjplifndniaaGreatDoorLpSqG
import Derived.Test.YtgipjplifndniaaGreatDoorLpBelow
import Derived.Test.YtgipjplifndniaaGreatDoorLpBelowH
namespace Go.Proofs.YtgipjplifndniaaGreatDoor.A
open Go.RowKit Go.Maps

set_option maxRecDepth 20000 in
set_option maxHeartbeats 4000000 in
theorem quarters_zero (a : Option Addr) (cp : Nat) (x y : Int) (w : World) :
    Calls Tryz.prog 131 #[.slice a 0 cp, .int .i64 x, .int .i64 y] w fun e w' => e = .returned (.agg nil4) ∧ Below w.heap.size w w' := by
  have x0 : ((w.alloc (.cells nil4 199)).alloc (.cells nil4 199)).heap[w.heap.size]? = some (.cells nil4 199 (0, 0)) := heap_alloc2_old w _ _
  have x1 : ((w.alloc (.cells nil4 199)).alloc (.cells nil4 199)).heap[w.heap.size + 1]? = some (.cells nil4 199 (0, 0)) := heap_alloc2_new w _ _
  have hb : Below w.heap.size w ((w.alloc (.cells nil4 199)).alloc (.cells nil4 199)) := ((Below.refl _ _).alloc (Nat.le_refl _) _).alloc (by simp) _
  go_enter Tryz.func131, Tryz.ntmps131
  go_wp2_with fail
  generalize ((w.alloc (.cells nil4 199)).alloc (.cells nil4 199)) = wr at *
  refine wp_loop_rounds 1 ?_
  rw [rounds_succ]
  have k0 : wr.cell? ⟨w.heap.size + 1, 0, none⟩ = some (.slice none 0 0) := Lib.cell_of_heap x1 0
  have k1 : wr.cell? ⟨w.heap.size + 1, 1, none⟩ = some (.slice none 0 0) := Lib.cell_of_heap x1 1
  have k2 : wr.cell? ⟨w.heap.size + 1, 2, none⟩ = some (.slice none 0 0) := Lib.cell_of_heap x1 2
  have k3 : wr.cell? ⟨w.heap.size + 1, 3, none⟩ = some (.slice none 0 0) := Lib.cell_of_heap x1 3
  have j0 : wr.cell? ⟨w.heap.size, 0, none⟩ = some (.slice none 0 0) := Lib.cell_of_heap x0 0
  have j1 : wr.cell? ⟨w.heap.size, 1, none⟩ = some (.slice none 0 0) := Lib.cell_of_heap x0 1
  have j2 : wr.cell? ⟨w.heap.size, 2, none⟩ = some (.slice none 0 0) := Lib.cell_of_heap x0 2
  have j3 : wr.cell? ⟨w.heap.size, 3, none⟩ = some (.slice none 0 0) := Lib.cell_of_heap x0 3
  have z0 := Lib.frozen_of_heap x0 0
  have z1 := Lib.frozen_of_heap x0 1
  have z2 := Lib.frozen_of_heap x0 2
  have z3 := Lib.frozen_of_heap x0 3
  have HX : Hid (wr.heap[w.heap.size]? = some (.cells nil4 199 (0, 0)) ∧ Below w.heap.size w wr) := ⟨x0, hb⟩
  clear x0 x1 hb
  go_wp2_with fail
  have hR : ((((wr.setCell ⟨w.heap.size, 0, none⟩ (.slice none 0 0)).setCell ⟨w.heap.size, 1, none⟩ (.slice none 0 0)).setCell ⟨w.heap.size, 2, none⟩ (.slice none 0 0)).setCell ⟨w.heap.size, 3, none⟩ (.slice none 0 0)).heap[w.heap.size]? = some (.cells nil4 199 (0, 0)) := Go.Joins.block_setCell (Go.Joins.block_setCell (Go.Joins.block_setCell (Go.Joins.block_setCell HX.out.1 _) _) _) _
  refine bodyPost_ret (v := .agg nil4) ?_ rfl ⟨rfl, ?_⟩
  · simp [results, Tryz.results131, go_sem, Lib.cell_of_heap hR]
  · exact (((HX.out.2.setCell (p := ⟨w.heap.size, 0, none⟩) (Nat.le_refl _) _).setCell (p := ⟨w.heap.size, 1, none⟩) (Nat.le_refl _) _).setCell (p := ⟨w.heap.size, 2, none⟩) (Nat.le_refl _) _).setCell (p := ⟨w.heap.size, 3, none⟩) (Nat.le_refl _) _
end Go.Proofs.YtgipjplifndniaaGreatDoor.A

namespace Go.Proofs.YtgipjplifndniaaGreatDoor.A
open Go.RowKit Go.Maps Go.Proofs.YtgipjplifndniaaGreatDoor.L

variable {w w1 w2 : World} {o o1 o2 : Nat → Nat} {hb b t : Nat} {e : Int} {A A' : Ar} {PR : (Bool → Nat → Bool) → Int → Prop} {q : Nat → Int} {E : List Int}
theorem RowL.below {v : Value} {zs : List (Int × Int)} (h : RowL w v zs) (k : Below w.heap.size w w1) : RowL w1 v zs := by
  obtain ⟨a, c, hv, h | ⟨b, off, ha, hl, h3⟩⟩ := h
  · exact ⟨a, c, hv, Or.inl h⟩
  · exact ⟨a, c, hv, Or.inr ⟨b, off, ha, Nat.lt_of_lt_of_le hl k.size, fun j hj => ⟨(World.cell?_of_block (a := ⟨b, off + j * 2, none⟩) (k.block b hl)).trans (h3 j hj).1, (World.cell?_of_block (a := ⟨b, off + j * 2 + 1, none⟩) (k.block b hl)).trans (h3 j hj).2⟩⟩⟩
theorem quarters_row (v : Value) (zs : List (Int × Int)) (x y : Int) (w : World) (h : RowL w v zs) (hn : zs.length ≤ 4096) :
    Calls Tryz.prog 131 #[v, .int .i64 x, .int .i64 y] w fun e w' => ∃ vs : Nat → Value, e = .returned (.agg #[vs 0, vs 1, vs 2, vs 3]) ∧ (∀ i, i < 4 → RowL w' (vs i) (part x y zs i) ∧ ∀ k, (vs i).ownBlock = some k → w.heap.size + 2 ≤ k ∧ k < w'.heap.size) ∧ Below w.heap.size w w' := by
  obtain ⟨a, c, rfl, h⟩ := h
  by_cases h0 : zs = []
  · subst h0
    refine (quarters_zero a c x y w).mono ?_
    rintro e w' ⟨rfl, hb⟩
    exact ⟨fun _ => .slice none 0 0, rfl, fun i _ => ⟨⟨none, 0, by simp [part], Or.inl (by simp [part])⟩, fun k hk => by cases hk⟩, hb⟩
  · rcases h with h | ⟨b, off, rfl, hl, hh⟩
    · exact absurd h h0
    · refine (quarters_some b off c zs x y w hl hn hh).mono ?_
      rintro e w' ⟨vs, rfl, h1, h2⟩
      exact ⟨vs, rfl, fun i hi => ⟨row_of_own (h1 i hi), fun k hk => World.ownsRow.lt (h1 i hi) k hk⟩, h2⟩
set_option maxRecDepth 20000 in
set_option maxHeartbeats 8000000 in
theorem lit_any (n : Nat) (ih : SqGC n) (g : Gd) (p0 c0 d0 p1 c1 d1 p2 c2 d2 p3 c3 d3 : Int) (v : Value) (zs : List (Int × Int)) (x y level : Int) (h : HE w o hb b t 0 E A) (hst : NxSt PR t q A) (ht : t < 64) (hl : 1 ≤ E.length ∧ E.length ≤ 45) (hE : EOk A t E) (hn : n < 44) (hlev : level = ((n + 1 : Nat) : Int)) (hrow : RowL w v zs) (hlen : zs.length ≤ 4096)
    (hk0 : GOk (view A t) (g.sub n 0) n p0 c0 d0) (hk1 : GOk (view A t) (g.sub n 1) n p1 c1 d1) (hk2 : GOk (view A t) (g.sub n 2) n p2 c2 d2) (hk3 : GOk (view A t) (g.sub n 3) n p3 c3 d3)
    (hin : ∀ p ∈ zs, x ≤ p.1 ∧ p.1 < x + 2 ^ (n + 1) ∧ y ≤ p.2 ∧ p.2 < y + 2 ^ (n + 1)) (hx0 : -1152921504606846976 ≤ x) (hx1 : x + 2 ^ (n + 1) ≤ 1152921504606846976) (hy0 : -1152921504606846976 ≤ y) (hy1 : y + 2 ^ (n + 1) ≤ 1152921504606846976) :
    Calls Tryz.prog 105 #[.pointer (some ⟨hb, 0, none⟩), .agg #[.int .i64 p0, .int .i64 c0, .int .i64 d0, .int .i64 p1, .int .i64 c1, .int .i64 d1, .int .i64 p2, .int .i64 c2, .int .i64 d2, .int .i64 p3, .int .i64 c3, .int .i64 d3], v, .int .i64 level, .int .i64 x, .int .i64 y] w fun r w' => ∃ k, r = .returned (.int .i64 k) ∧ SqCalls PR w o hb b t q 0 A (n + 1) g zs x y (LitD n g zs x y) k w' := by
  obtain ⟨sa, sc, hsl, _⟩ := id hrow
  have hbP : Below w.heap.size w (w.alloc (.cells #[.int .i64 p0, .int .i64 c0, .int .i64 d0, .int .i64 p1, .int .i64 c1, .int .i64 d1, .int .i64 p2, .int .i64 c2, .int .i64 d2, .int .i64 p3, .int .i64 c3, .int .i64 d3] 163)) := (Below.refl _ _).alloc (Nat.le_refl _) _
  have hxP : (w.alloc (.cells #[.int .i64 p0, .int .i64 c0, .int .i64 d0, .int .i64 p1, .int .i64 c1, .int .i64 d1, .int .i64 p2, .int .i64 c2, .int .i64 d2, .int .i64 p3, .int .i64 c3, .int .i64 d3] 163)).heap[w.heap.size]? = some (.cells #[.int .i64 p0, .int .i64 c0, .int .i64 d0, .int .i64 p1, .int .i64 c1, .int .i64 d1, .int .i64 p2, .int .i64 c2, .int .i64 d2, .int .i64 p3, .int .i64 c3, .int .i64 d3] 163 (0, 0)) := heap_alloc_new w _
  have hsP : (w.alloc (.cells #[.int .i64 p0, .int .i64 c0, .int .i64 d0, .int .i64 p1, .int .i64 c1, .int .i64 d1, .int .i64 p2, .int .i64 c2, .int .i64 d2, .int .i64 p3, .int .i64 c3, .int .i64 d3] 163)).heap.size = w.heap.size + 1 := by simp
  generalize hwp : w.alloc (.cells #[.int .i64 p0, .int .i64 c0, .int .i64 d0, .int .i64 p1, .int .i64 c1, .int .i64 d1, .int .i64 p2, .int .i64 c2, .int .i64 d2, .int .i64 p3, .int .i64 c3, .int .i64 d3] 163) = wp at *
  have hrow1 : RowL wp v zs := hrow.below hbP
  have hh : ∀ W, Calls Tryz.prog 95 #[.int .i64 level] W fun x wp' => x = .returned (.int .i64 ((2 ^ n : Nat) : Int)) ∧ wp' = W := fun W => by rw [hlev]; exact half_any (n + 1) W (by omega) (by omega)
  have k0 : ∀ W, Calls Tryz.prog 132 #[.int .i64 0, .int .i64 level] W fun x wp' => x = .returned (.tuple #[.int .i64 0, .int .i64 0]) ∧ wp' = W := fun W => by rw [hlev]; exact corner0 (n + 1) W (by omega) (by omega)
  have k1 : ∀ W, Calls Tryz.prog 132 #[.int .i64 1, .int .i64 level] W fun x wp' => x = .returned (.tuple #[.int .i64 ((2 ^ n : Nat) : Int), .int .i64 0]) ∧ wp' = W := fun W => by rw [hlev]; exact corner1 (n + 1) W (by omega) (by omega)
  have k2 : ∀ W, Calls Tryz.prog 132 #[.int .i64 2, .int .i64 level] W fun x wp' => x = .returned (.tuple #[.int .i64 0, .int .i64 ((2 ^ n : Nat) : Int)]) ∧ wp' = W := fun W => by rw [hlev]; exact corner2 (n + 1) W (by omega) (by omega)
  have k3 : ∀ W, Calls Tryz.prog 132 #[.int .i64 3, .int .i64 level] W fun x wp' => x = .returned (.tuple #[.int .i64 ((2 ^ n : Nat) : Int), .int .i64 ((2 ^ n : Nat) : Int)]) ∧ wp' = W := fun W => by rw [hlev]; exact corner3 (n + 1) W (by omega) (by omega)
  have hpow := two_powI n
  have hpos : (0 : Int) < 2 ^ n := by have := powI n; have : 0 < 2 ^ n := Nat.pow_pos (by omega); omega
  rw [powI] at hh k1 k2 k3
  have hb0 : Below wp.heap.size wp (wp.alloc (.cells #[.int .i64 0, .int .i64 0, .int .i64 0, .int .i64 0] 69)) := (Below.refl _ _).alloc (Nat.le_refl _) _
  have hq := fun (X Y : Int) (q : Nat) => quarters_row v zs X Y ((wp.alloc (.cells #[.int .i64 0, .int .i64 0, .int .i64 0, .int .i64 0] 69)).drewN q) (hrow1.below (w1 := (wp.alloc (.cells #[.int .i64 0, .int .i64 0, .int .i64 0, .int .i64 0] 69)).drewN q) ⟨hb0.os, hb0.tape, hb0.output, hb0.size, hb0.block⟩) hlen
  have hlv0 : (level == 0) = false := by simp; omega
  have hlv1 : 1 ≤ level ∧ level ≤ 44 := by omega
  obtain ⟨hf, hhf⟩ : ∃ hf, hf = (2 : Int) ^ n := ⟨_, rfl⟩
  rw [← hhf] at hh k1 k2 k3 hpow hpos
  rw [hpow] at hx1 hy1
  have HLEV : Hid (level = ((n + 1 : Nat) : Int)) := hlev
  have HHF : Hid (hf = 2 ^ n) := hhf
  have H0 : Hid (HE w o hb b t 0 E A ∧ NxSt PR t q A ∧ (1 ≤ E.length ∧ E.length ≤ 45) ∧ EOk A t E ∧ n < 44) := ⟨h, hst, hl, hE, hn⟩
  have HGK : Hid (GOk (view A t) (g.sub n 0) n p0 c0 d0 ∧ GOk (view A t) (g.sub n 1) n p1 c1 d1 ∧ GOk (view A t) (g.sub n 2) n p2 c2 d2 ∧ GOk (view A t) (g.sub n 3) n p3 c3 d3) := ⟨hk0, hk1, hk2, hk3⟩
  have HIN : Hid (∀ p ∈ zs, x ≤ p.1 ∧ p.1 < x + (hf + hf) ∧ y ≤ p.2 ∧ p.2 < y + (hf + hf)) := by rw [hpow] at hin; exact hin
  have HBP : Hid (Below w.heap.size w wp ∧ wp.heap.size = w.heap.size + 1 ∧ wp.heap[w.heap.size]? = some (.cells #[.int .i64 p0, .int .i64 c0, .int .i64 d0, .int .i64 p1, .int .i64 c1, .int .i64 d1, .int .i64 p2, .int .i64 c2, .int .i64 d2, .int .i64 p3, .int .i64 c3, .int .i64 d3] 163 (0, 0))) := ⟨hbP, hsP, hxP⟩
  have HL4 : Hid (zs.length ≤ 4096) := hlen
  clear hlev hhf h hst hE hn hin hpow hrow hrow1 hbP hxP hl hsP hk0 hk1 hk2 hk3
  obtain ⟨a, ln, cp, rfl⟩ : ∃ a ln cp, v = .slice a ln cp := ⟨_, _, _, hsl⟩
  clear hsl
  go_enter Tryz.func105, Tryz.ntmps105
  go_wp2_with fail
  refine (hh _).mono ?_
  rintro e w1 ⟨rfl, rfl⟩
  go_wp2_with fail
  refine (hh _).mono ?_
  rintro e w1 ⟨rfl, rfl⟩
  go_wp2_with fail
  refine (hq (x + hf) (y + hf) 0).mono ?_
  rintro e w1 ⟨vs, rfl, hrows, hb1⟩
  have HW1 : Hid (Below w.heap.size w w1 ∧ wp.heap.size = w.heap.size + 1 ∧ w1.heap[w.heap.size]? = some (.cells #[.int .i64 p0, .int .i64 c0, .int .i64 d0, .int .i64 p1, .int .i64 c1, .int .i64 d1, .int .i64 p2, .int .i64 c2, .int .i64 d2, .int .i64 p3, .int .i64 c3, .int .i64 d3] 163 (0, 0)) ∧ Q4 w1 wp.heap.size 0 0 0 0 ∧ wp.heap.size < w1.heap.size) := by
    obtain ⟨c1, c2, c3⟩ := HBP.out
    have b1 : Below wp.heap.size wp w1 := hb0.trans ((show Below (wp.alloc (.cells #[.int .i64 0, .int .i64 0, .int .i64 0, .int .i64 0] 69)).heap.size (wp.alloc (.cells #[.int .i64 0, .int .i64 0, .int .i64 0, .int .i64 0] 69)) w1 from ⟨hb1.os, hb1.tape, hb1.output, hb1.size, hb1.block⟩).mono hb0.size)
    have hsz : (wp.alloc (.cells #[.int .i64 0, .int .i64 0, .int .i64 0, .int .i64 0] 69)).heap.size = wp.heap.size + 1 := by simp
    have hs1 : (wp.alloc (.cells #[.int .i64 0, .int .i64 0, .int .i64 0, .int .i64 0] 69)).heap.size ≤ w1.heap.size := hb1.size
    refine ⟨c1.trans (b1.mono c1.size), by omega, (b1.block _ (by omega)).trans c3, ?_, by omega⟩
    exact (hb1.block _ (by show wp.heap.size < (wp.alloc (.cells #[.int .i64 0, .int .i64 0, .int .i64 0, .int .i64 0] 69)).heap.size; omega)).trans (heap_alloc_new wp _)
  have HRW : Hid (∀ i, i < 4 → RowL w1 (vs i) (part (x + hf) (y + hf) zs i) ∧ ∀ k, (vs i).ownBlock = some k → wp.heap.size < k ∧ k < w1.heap.size) := fun i hi => ⟨(hrows i hi).1, fun k hk => by
    obtain ⟨h1, h2⟩ := (hrows i hi).2 k hk
    have hsz : ((wp.alloc (.cells #[.int .i64 0, .int .i64 0, .int .i64 0, .int .i64 0] 69)).drewN 0).heap.size = wp.heap.size + 1 := by show (wp.alloc (.cells #[.int .i64 0, .int .i64 0, .int .i64 0, .int .i64 0] 69)).heap.size = _; simp
    rw [hsz] at h1
    exact ⟨by omega, h2⟩⟩
  have L0 : LI o w hb b t 0 E A wp.heap.size (fun _ => 0) (ext o w.heap.size 0) w1 w1 (ext o w.heap.size 0) := ⟨⟨H0.out.1.below HW1.out.1, Ch.ofBelow HW1.out.1 0, HW1.out.2.2.2.1, ext_new (by have := HW1.out.2.1; omega), by have := HW1.out.2.1; omega⟩, Nat.le_refl _, fun k _ h _ => ⟨rfl, h⟩⟩
  have HG0 : Hid (LGh PR t q A A 0 0 E n g zs x y 0 (fun _ => 0)) := LGh.start H0.out.2.1 (.inl rfl) H0.out.2.2.1 fun _ => H0.out.2.2.2.1
  have HPS : Hid (_ ∧ _ ∧ _ ∧ _) := parts_in (h := hf) HIN.out
  have hle4 := fun i => Nat.le_trans (part_le (x + hf) (y + hf) zs i) HL4.out
  have i0 := Tryz.ix0 (vs 0) (vs 1) (vs 2) (vs 3)
  have i1 := Tryz.ix1 (vs 0) (vs 1) (vs 2) (vs 3)
  have i2 := Tryz.ix2 (vs 0) (vs 1) (vs 2) (vs 3)
  have i3 := Tryz.ix3 (vs 0) (vs 1) (vs 2) (vs 3)
  have HPT : Hid (∀ (W : World) (oW : Nat → Nat) (eW : Int) (EW : List Int) (AW : Ar) (jW : Nat → Int), LI o w hb b t eW EW AW wp.heap.size jW (ext o w.heap.size 0) w1 W oW → W.heap[w.heap.size]? = some (.cells #[.int .i64 p0, .int .i64 c0, .int .i64 d0, .int .i64 p1, .int .i64 c1, .int .i64 d1, .int .i64 p2, .int .i64 c2, .int .i64 d2, .int .i64 p3, .int .i64 c3, .int .i64 d3] 163 (0, 0))) := fun W oW eW EW AW jW hW =>
    (hW.kept w.heap.size (by have := HW1.out; omega) (ext_new (Nat.le_refl _)) (by have := HW1.out.2.1; omega)).1.trans HW1.out.2.2.1
  have HIH : Hid (∀ (W : World) (oW : Nat → Nat) (eW : Int) (EW : List Int) (AW : Ar) (jW : Nat → Int) (i : Nat) (X Y pi ci di : Int), LI o w hb b t eW EW AW wp.heap.size jW (ext o w.heap.size 0) w1 W oW → LGh PR t q A AW 0 eW EW n g zs x y i jW → i < 4 → GOk (view A t) (g.sub n i) n pi ci di → (∀ p ∈ part (x + hf) (y + hf) zs i, X ≤ p.1 ∧ p.1 < X + hf ∧ Y ≤ p.2 ∧ p.2 < Y + hf) → -1152921504606846976 ≤ X → X + hf ≤ 1152921504606846976 → -1152921504606846976 ≤ Y → Y + hf ≤ 1152921504606846976 →
      Calls Tryz.prog 93 #[.pointer (some ⟨hb, 0, none⟩), .agg #[.int .i64 pi, .int .i64 ci, .int .i64 di], vs i, .int .i64 (level - 1), .int .i64 X, .int .i64 Y] W fun r w' => ∃ k, r = .returned (.int .i64 k) ∧ SqCalls PR W oW hb b t q eW AW n (g.sub n i) (part (x + hf) (y + hf) zs i) X Y (SqD n (g.sub n i) (part (x + hf) (y + hf) zs i) X Y) k w') := by
    intro W oW eW EW AW jW i X Y pi ci di hL hG hi hgk a1 a2 a3 a4 a5
    have hr := hL.row (HRW.out i hi).1 (fun k hk => ⟨ext_new (by have := (HRW.out i hi).2 k hk; have := HW1.out.2.1; omega), by have := (HRW.out i hi).2 k hk; omega, ((HRW.out i hi).2 k hk).2⟩)
    have hl := HLEV.out
    rw [HHF.out] at a1 a3 a5 hr ⊢
    exact ih PR W oW hb b t q eW EW AW (g.sub n i) pi ci di _ (vs i) X Y (level - 1) hL.he hG.st ht hG.er hG.len (fun e0 => (hG.em e0).2) (fun _ => hgk.go H0.out.2.1 ht hG.gx.toGoes1) hr.1 hr.2 (by rw [← HHF.out]; exact hle4 i) a1 (by have := H0.out.2.2.2.2; omega) (by omega) a2 a3 a4 a5
  clear hrows hq hh ih hb1 hb0
  obtain ⟨pc0, pc1, pc2⟩ : w1.cell? ⟨w.heap.size, 0, none⟩ = some (.int .i64 p0) ∧ w1.cell? ⟨w.heap.size, 1, none⟩ = some (.int .i64 c0) ∧ w1.cell? ⟨w.heap.size, 2, none⟩ = some (.int .i64 d0) := by
    have hx := HPT.out _ _ _ _ _ _ L0
    rw [Lib.cell_of_heap hx, Lib.cell_of_heap hx, Lib.cell_of_heap hx]
    exact ⟨rfl, rfl, rfl⟩
  obtain ⟨⟨m0, m1, m2, m3⟩, z0, z1, z2, z3⟩ := L0.q.cells
  go_wp2_with fail
  refine wp_loop_rounds 5 ?_
  rw [rounds_succ]
  go_wp2_with fail
  refine (k0 _).mono ?_
  rintro e wk ⟨rfl, rfl⟩
  go_wp2_with fail
  refine (HIH.out _ _ _ _ _ _ 0 (x) (y) p0 c0 d0 L0 HG0.out (by omega) HGK.out.1 HPS.out.1 (by omega) (by omega) (by omega) (by omega)).mono ?_
  rintro r v1 ⟨id0, rfl, e1, E1, A1, o1, S1, C1, SO1⟩
  have L1 := L0.step S1 C1
  have HG1 : Hid (LGh PR t q A A1 0 e1 E1 n g zs x y (0 + 1) (putW (fun _ => 0) 0 id0)) := HG0.out.step ht (by
    have h := SO1
    rw [HHF.out] at h
    have ex : qx n x 0 = x := by simp [qx]
    have ey : qy n y 0 = y := by simp [qy]
    rw [ex, ey]
    exact h)
  clear S1 C1 SO1 m0 m1 m2 m3 z0 z1 z2 z3 pc0 pc1 pc2
  obtain ⟨⟨m0, m1, m2, m3⟩, z0, z1, z2, z3⟩ := L1.q.cells
  go_wp2_with fail
  have L1 := L1.set (j' := putW (fun _ => 0) 0 id0) 0 id0 (Go.Joins.block_setCell L1.q _)
  generalize v1.setCell ⟨wp.heap.size, 0, none⟩ (.int .i64 id0) = V1 at *
  clear m0 m1 m2 m3 z0 z1 z2 z3
  obtain ⟨⟨m0, m1, m2, m3⟩, z0, z1, z2, z3⟩ := L1.q.cells
  obtain ⟨pc0, pc1, pc2⟩ : V1.cell? ⟨w.heap.size, 3, none⟩ = some (.int .i64 p1) ∧ V1.cell? ⟨w.heap.size, 4, none⟩ = some (.int .i64 c1) ∧ V1.cell? ⟨w.heap.size, 5, none⟩ = some (.int .i64 d1) := by
    have hx := HPT.out _ _ _ _ _ _ L1
    rw [Lib.cell_of_heap hx, Lib.cell_of_heap hx, Lib.cell_of_heap hx]
    exact ⟨rfl, rfl, rfl⟩
  rw [rounds_succ]
  go_wp2_with fail
  refine (k1 _).mono ?_
  rintro e wk ⟨rfl, rfl⟩
  go_wp2_with fail
  refine (HIH.out _ _ _ _ _ _ 1 (x + hf) (y) p1 c1 d1 L1 HG1.out (by omega) HGK.out.2.1 HPS.out.2.1 (by omega) (by omega) (by omega) (by omega)).mono ?_
  rintro r v2 ⟨id1, rfl, e2, E2, A2, o2, S2, C2, SO2⟩
  have L2 := L1.step S2 C2
  have HG2 : Hid (LGh PR t q A A2 0 e2 E2 n g zs x y (1 + 1) (putW (putW (fun _ => 0) 0 id0) 1 id1)) := HG1.out.step ht (by
    have h := SO2
    rw [HHF.out] at h
    have ex : qx n x 1 = x + 2 ^ n := by simp [qx]
    have ey : qy n y 1 = y := by simp [qy]
    rw [ex, ey]
    exact h)
  clear S2 C2 SO2 m0 m1 m2 m3 z0 z1 z2 z3 pc0 pc1 pc2
  obtain ⟨⟨m0, m1, m2, m3⟩, z0, z1, z2, z3⟩ := L2.q.cells
  go_wp2_with fail
  have L2 := L2.set (j' := putW (putW (fun _ => 0) 0 id0) 1 id1) 1 id1 (Go.Joins.block_setCell L2.q _)
  generalize v2.setCell ⟨wp.heap.size, 1, none⟩ (.int .i64 id1) = V2 at *
  clear m0 m1 m2 m3 z0 z1 z2 z3
  obtain ⟨⟨m0, m1, m2, m3⟩, z0, z1, z2, z3⟩ := L2.q.cells
  obtain ⟨pc0, pc1, pc2⟩ : V2.cell? ⟨w.heap.size, 6, none⟩ = some (.int .i64 p2) ∧ V2.cell? ⟨w.heap.size, 7, none⟩ = some (.int .i64 c2) ∧ V2.cell? ⟨w.heap.size, 8, none⟩ = some (.int .i64 d2) := by
    have hx := HPT.out _ _ _ _ _ _ L2
    rw [Lib.cell_of_heap hx, Lib.cell_of_heap hx, Lib.cell_of_heap hx]
    exact ⟨rfl, rfl, rfl⟩
  rw [rounds_succ]
  go_wp2_with fail
  refine (k2 _).mono ?_
  rintro e wk ⟨rfl, rfl⟩
  go_wp2_with fail
  refine (HIH.out _ _ _ _ _ _ 2 (x) (y + hf) p2 c2 d2 L2 HG2.out (by omega) HGK.out.2.2.1 HPS.out.2.2.1 (by omega) (by omega) (by omega) (by omega)).mono ?_
  rintro r v3 ⟨id2, rfl, e3, E3, A3, o3, S3, C3, SO3⟩
  have L3 := L2.step S3 C3
  have HG3 : Hid (LGh PR t q A A3 0 e3 E3 n g zs x y (2 + 1) (putW (putW (putW (fun _ => 0) 0 id0) 1 id1) 2 id2)) := HG2.out.step ht (by
    have h := SO3
    rw [HHF.out] at h
    have ex : qx n x 2 = x := by simp [qx]
    have ey : qy n y 2 = y + 2 ^ n := by simp [qy]
    rw [ex, ey]
    exact h)
  clear S3 C3 SO3 m0 m1 m2 m3 z0 z1 z2 z3 pc0 pc1 pc2
  obtain ⟨⟨m0, m1, m2, m3⟩, z0, z1, z2, z3⟩ := L3.q.cells
  go_wp2_with fail
  have L3 := L3.set (j' := putW (putW (putW (fun _ => 0) 0 id0) 1 id1) 2 id2) 2 id2 (Go.Joins.block_setCell L3.q _)
  generalize v3.setCell ⟨wp.heap.size, 2, none⟩ (.int .i64 id2) = V3 at *
  clear m0 m1 m2 m3 z0 z1 z2 z3
  obtain ⟨⟨m0, m1, m2, m3⟩, z0, z1, z2, z3⟩ := L3.q.cells
  obtain ⟨pc0, pc1, pc2⟩ : V3.cell? ⟨w.heap.size, 9, none⟩ = some (.int .i64 p3) ∧ V3.cell? ⟨w.heap.size, 10, none⟩ = some (.int .i64 c3) ∧ V3.cell? ⟨w.heap.size, 11, none⟩ = some (.int .i64 d3) := by
    have hx := HPT.out _ _ _ _ _ _ L3
    rw [Lib.cell_of_heap hx, Lib.cell_of_heap hx, Lib.cell_of_heap hx]
    exact ⟨rfl, rfl, rfl⟩
  rw [rounds_succ]
  go_wp2_with fail
  refine (k3 _).mono ?_
  rintro e wk ⟨rfl, rfl⟩
  go_wp2_with fail
  refine (HIH.out _ _ _ _ _ _ 3 (x + hf) (y + hf) p3 c3 d3 L3 HG3.out (by omega) HGK.out.2.2.2 HPS.out.2.2.2 (by omega) (by omega) (by omega) (by omega)).mono ?_
  rintro r v4 ⟨id3, rfl, e4, E4, A4, o4, S4, C4, SO4⟩
  have L4 := L3.step S4 C4
  have HG4 : Hid (LGh PR t q A A4 0 e4 E4 n g zs x y (3 + 1) (putW (putW (putW (putW (fun _ => 0) 0 id0) 1 id1) 2 id2) 3 id3)) := HG3.out.step ht (by
    have h := SO4
    rw [HHF.out] at h
    have ex : qx n x 3 = x + 2 ^ n := by simp [qx]
    have ey : qy n y 3 = y + 2 ^ n := by simp [qy]
    rw [ex, ey]
    exact h)
  clear S4 C4 SO4 m0 m1 m2 m3 z0 z1 z2 z3 pc0 pc1 pc2
  obtain ⟨⟨m0, m1, m2, m3⟩, z0, z1, z2, z3⟩ := L4.q.cells
  go_wp2_with fail
  have L4 := L4.set (j' := putW (putW (putW (putW (fun _ => 0) 0 id0) 1 id1) 2 id2) 3 id3) 3 id3 (Go.Joins.block_setCell L4.q _)
  generalize v4.setCell ⟨wp.heap.size, 3, none⟩ (.int .i64 id3) = V4 at *
  clear m0 m1 m2 m3 z0 z1 z2 z3
  obtain ⟨⟨m0, m1, m2, m3⟩, z0, z1, z2, z3⟩ := L4.q.cells
  rw [rounds_succ]
  go_wp2_with fail
  have hjn := hdJoin_he L4.he HG4.out.st ht HG4.out.er n (by have := H0.out.2.2.2.2; omega) id0 id1 id2 id3 (fun e0 => ⟨(HG4.out.jk e0 0 (by omega)).1, (HG4.out.jk e0 1 (by omega)).1, (HG4.out.jk e0 2 (by omega)).1, (HG4.out.jk e0 3 (by omega)).1⟩)
  unfold quad4 at hjn
  refine hjn.mono ?_
  rintro r w9 ⟨k, rfl, e9, A9, o9, S9, C9, s9, g9, d9⟩
  have HO : Hid (SqCalls PR w o hb b t q 0 A (n + 1) g zs x y (LitD n g zs x y) k w9) := ⟨e9, E4, A9, o9, S9, L4.ch.trans C9, HG4.out.done ht s9 g9 d9⟩
  clear S9 C9 s9 g9 d9 hjn
  go_wp2_with fail
  go_ret
  exact ⟨k, rfl, HO.out⟩
end Go.Proofs.YtgipjplifndniaaGreatDoor.A

namespace Go.Proofs.YtgipjplifndniaaGreatDoor.A
open Go.RowKit Go.Maps Go.Proofs.YtgipjplifndniaaGreatDoor.L

variable {w w1 w2 : World} {o o1 o2 : Nat → Nat} {hb b t : Nat} {e : Int} {A A' : Ar} {PR : (Bool → Nat → Bool) → Int → Prop} {q : Nat → Int} {E : List Int}
theorem lev_nn {x a : Int} (h : levV (view A t).V x = some a) : 0 ≤ x := by
  unfold levV at h
  split at h
  · rename_i h0
    rcases h0 with rfl | rfl <;> omega
  · cases hv : (view A t).V x with
    | none => rw [hv] at h; cases h
    | some f =>
      obtain ⟨h2, x, hx, _⟩ := ownV_iff.1 hv
      omega
theorem below_any {n : Nat} {g : Gd} {x c d : Int} (h : HE w o hb b t 0 E A) (hst : NxSt PR t q A) (ht : t < 64) (hg : GOk (view A t) g (n + 1) x c d) :
    ∃ p : Nat → Int × Int × Int, (∀ W, Below w.heap.size w W → Calls Tryz.prog 127 #[.pointer (some ⟨hb, 0, none⟩), gV (x, c, d)] W fun r W' => r = .returned (gV4 p) ∧ ∃ o', HE W' o' hb b t 0 E A ∧ Ch HM o w o' W') ∧ ∀ r, r < 4 → GOk (view A t) (g.sub n r) n (p r).1 (p r).2.1 (p r).2.2 := by
  cases g with
  | no =>
    obtain ⟨rfl, rfl, rfl⟩ := hg
    refine ⟨fun _ => noG, fun W hW => (below_bare hb W).mono ?_, fun r _ => ⟨rfl, rfl, rfl⟩⟩
    rintro r W' ⟨rfl, hb'⟩
    have hh := hW.trans (hb'.mono hW.size)
    exact ⟨rfl, _, h.below hh, Ch.ofBelow hh 0⟩
  | here P =>
    have hg' := hg
    obtain ⟨rfl, h0, hlv, hp⟩ := hg'
    obtain ⟨r, hq, hl⟩ := kids_lev (hst.g.wel t ht) hlv
    refine ⟨fun i => (r i, 0, 0), fun W hW => (below_here x c (r 0) (r 1) (r 2) (r 3) (h.below hW) hst ht h0 (lev_fits hst.s hlv) hq).mono ?_, GOk.here hg hq hl fun i hi => lev_nn (hl i hi)⟩
    rintro r' W' ⟨rfl, o', h1, h2⟩
    exact ⟨rfl, o', h1, (Ch.ofBelow hW 0).trans h2⟩
  | four f => exact False.elim hg
  | dn c' g' =>
    have hg' := hg
    obtain ⟨m, h1, h2, h3, h4, h5, h6, h7⟩ := hg'
    refine ⟨dnG x c d, fun W hW => (below_dn hb x c d W (by omega) (by omega)).mono ?_, hg.dn⟩
    rintro r W' ⟨rfl, hb'⟩
    have hh := hW.trans (hb'.mono hW.size)
    exact ⟨rfl, _, h.below hh, Ch.ofBelow hh 0⟩
theorem RowL.ch {a : Option Addr} {cp : Nat} {zs : List (Int × Int)} (h : RowL w (.slice a zs.length cp) zs) (ho : ∀ k, (Value.slice a zs.length cp).ownBlock = some k → o k = 0) (c : Ch HM o w o1 w1) : RowL w1 (.slice a zs.length cp) zs := by
  by_cases h0 : zs = []
  · exact ⟨a, cp, rfl, .inl h0⟩
  · refine h.other c.size fun k hk => c.block k ?_ (by rw [ho k hk]; unfold HM; omega)
    obtain ⟨a', c', hv, h | ⟨b', off, ha, hl, _⟩⟩ := h
    · exact absurd h h0
    · rw [hv, ha] at hk
      simp only [Value.ownBlock, Option.some.injEq] at hk
      omega
set_option maxRecDepth 20000 in
set_option maxHeartbeats 4000000 in
theorem square_stepG (n : Nat) (ih : SqGC n) (g : Gd) (gi c d : Int) (a : Option Addr) (cp : Nat) (zs : List (Int × Int)) (x y level : Int) (h : HE w o hb b t 0 E A) (hst : NxSt PR t q A) (ht : t < 64) (hl : 1 ≤ E.length ∧ E.length ≤ 45) (hE : EOk A t E) (hg : GOk (view A t) g (n + 1) gi c d) (hnf : ¬ (zs = [] ∧ g.flat)) (hn : n < 44) (hlev : level = ((n + 1 : Nat) : Int)) (hrow : RowL w (.slice a zs.length cp) zs) (ho : ∀ k, (Value.slice a zs.length cp).ownBlock = some k → o k = 0) (hlen : zs.length ≤ 4096)
    (hin : ∀ p ∈ zs, x ≤ p.1 ∧ p.1 < x + 2 ^ (n + 1) ∧ y ≤ p.2 ∧ p.2 < y + 2 ^ (n + 1)) (hx0 : -1152921504606846976 ≤ x) (hx1 : x + 2 ^ (n + 1) ≤ 1152921504606846976) (hy0 : -1152921504606846976 ≤ y) (hy1 : y + 2 ^ (n + 1) ≤ 1152921504606846976) :
    Calls Tryz.prog 93 #[.pointer (some ⟨hb, 0, none⟩), gV (gi, c, d), .slice a zs.length cp, .int .i64 level, .int .i64 x, .int .i64 y] w fun r w' => ∃ k, r = .returned (.int .i64 k) ∧ SqCalls PR w o hb b t q 0 A (n + 1) g zs x y (SqD (n + 1) g zs x y) k w' := by
  obtain ⟨hb0, g0, g1, g2⟩ := ground_newG w gi c d
  generalize hw1 : w.alloc (.cells #[.int .i64 gi, .int .i64 c, .int .i64 d] 151) = w1 at *
  obtain ⟨p, hbl, hgx⟩ := below_any h hst ht hg
  have HL : Hid (∀ W oW, HE W oW hb b t 0 E A → Ch HM o w oW W → Calls Tryz.prog 105 #[.pointer (some ⟨hb, 0, none⟩), gV4 p, .slice a zs.length cp, .int .i64 level, .int .i64 x, .int .i64 y] W fun r w' => ∃ k, r = .returned (.int .i64 k) ∧ SqCalls PR w o hb b t q 0 A (n + 1) g zs x y (SqD (n + 1) g zs x y) k w') := fun W oW hW cW =>
    (lit_any n ih g _ _ _ _ _ _ _ _ _ _ _ _ (.slice a zs.length cp) zs x y level hW hst ht hl hE hn hlev (hrow.ch ho cW) hlen (hgx 0 (by omega)) (hgx 1 (by omega)) (hgx 2 (by omega)) (hgx 3 (by omega)) hin hx0 hx1 hy0 hy1).mono fun r w' ⟨k, he, hR⟩ => ⟨k, he, (hR.ahead cW).eqv (.inl rfl) fun i => sqD_lit hnf i⟩
  have HB : Hid (∀ W, Below w.heap.size w W → Calls Tryz.prog 127 #[.pointer (some ⟨hb, 0, none⟩), gV (gi, c, d)] W fun r W' => r = .returned (gV4 p) ∧ ∃ o', HE W' o' hb b t 0 E A ∧ Ch HM o w o' W') := hbl
  have HB0 : Hid (Below w.heap.size w w1) := hb0
  obtain ⟨v, hh, _⟩ := h.below hb0
  have c2 := hh.hand.c2
  have hlv0 : (level == 0) = false := by simp; omega
  unfold gV4 at HL HB
  unfold gV at HB ⊢
  simp only at HL HB ⊢
  by_cases h0 : zs = []
  · subst h0
    obtain ⟨hgi, hd0⟩ : (gi == -1) = false ∧ (d == 0) = false := by
      cases g with
      | no => exact absurd ⟨rfl, trivial⟩ hnf
      | here P => exact absurd ⟨rfl, trivial⟩ hnf
      | four f => exact False.elim hg
      | dn c' g' =>
        obtain ⟨m, h1, h2, h3, h4, h5, h6, h7⟩ := hg
        constructor <;> simp <;> omega
    simp only [List.length_nil] at HL ⊢
    clear hlev h hh hst hE hin hrow ho ih hb0 hg hnf hbl hgx hlen
    go_enter Tryz.func93, Tryz.ntmps93
    go_wp2_with fail
    refine (HB.out _ HB0.out).mono ?_
    rintro r w2 ⟨rfl, o2, h2, k2⟩
    have HK : Hid (HE w2 o2 hb b t 0 E A ∧ Ch HM o w o2 w2) := ⟨h2, k2⟩
    clear h2 k2
    go_wp2_with fail
    refine (HL.out _ _ HK.out.1 HK.out.2).mono ?_
    rintro r w3 ⟨k, rfl, hR⟩
    have HR : Hid (SqCalls PR w o hb b t q 0 A (n + 1) g [] x y (SqD (n + 1) g [] x y) k w3) := hR
    clear hR
    go_wp2_with fail
    go_ret
    exact ⟨k, rfl, HR.out⟩
  · have hl0 : 0 < zs.length := List.length_pos_iff.2 h0
    have hl1 : ((zs.length : Int) == 0) = false := by simp; omega
    clear hlev h hh hst hE hin hrow ho ih hb0 hg hnf hbl hgx hlen
    generalize hlz : zs.length = len at *
    clear hlz
    go_enter Tryz.func93, Tryz.ntmps93
    go_wp2_with fail
    refine (HB.out _ HB0.out).mono ?_
    rintro r w2 ⟨rfl, o2, h2, k2⟩
    have HK : Hid (HE w2 o2 hb b t 0 E A ∧ Ch HM o w o2 w2) := ⟨h2, k2⟩
    clear h2 k2
    go_wp2_with fail
    refine (HL.out _ _ HK.out.1 HK.out.2).mono ?_
    rintro r w3 ⟨k, rfl, hR⟩
    have HR : Hid (SqCalls PR w o hb b t q 0 A (n + 1) g zs x y (SqD (n + 1) g zs x y) k w3) := hR
    clear hR
    go_wp2_with fail
    go_ret
    exact ⟨k, rfl, HR.out⟩
theorem squareG_any : ∀ n, SqGC n
  | 0 => by
    intro PR w o hb b t q e E A g gi c d zs v x y level h hst ht he hl hE hg hrow hvl0 hlen hin hn hlev hx0 hx1 hy0 hy1
    obtain ⟨a, cp, rfl, hr⟩ := hrow
    rcases he with rfl | he
    · by_cases h0 : zs = []
      · subst h0
        cases g with
        | no =>
          obtain ⟨rfl, rfl, rfl⟩ := hg rfl
          exact square_nil 0 a cp x y level h hst ht hl (hE rfl) hn hlev
        | here P => exact square_hereG 0 P gi c d a cp x y level h hst hl (hE rfl) (hg rfl)
        | four f => exact False.elim (hg rfl)
        | dn c' g' =>
          obtain ⟨m, h1, _⟩ := hg rfl
          omega
      · subst hlev
        exact square_oneG g gi c d a cp zs x y h hst hl (hE rfl) h0 (by simpa using hin)
    · exact square_ndG 0 g gi c d a zs.length cp x y level zs h hst hl he
  | n + 1 => by
    intro PR w o hb b t q e E A g gi c d zs v x y level h hst ht he hl hE hg hrow hvl0 hlen hin hn hlev hx0 hx1 hy0 hy1
    have hrow' := hrow
    obtain ⟨a, cp, rfl, hr⟩ := hrow'
    rcases he with rfl | he
    · by_cases h0 : zs = [] ∧ g.flat
      · obtain ⟨rfl, hf⟩ := h0
        cases g with
        | no =>
          obtain ⟨rfl, rfl, rfl⟩ := hg rfl
          exact square_nil (n + 1) a cp x y level h hst ht hl (hE rfl) hn hlev
        | here P => exact square_hereG (n + 1) P gi c d a cp x y level h hst hl (hE rfl) (hg rfl)
        | four f => exact False.elim (hg rfl)
        | dn c' g' => exact absurd hf id
      · exact square_stepG n (squareG_any n) g gi c d a cp zs x y level h hst ht hl (hE rfl) (hg rfl) h0 (by omega) hlev hrow hvl0 hlen hin hx0 hx1 hy0 hy1
    · exact square_ndG (n + 1) g gi c d a zs.length cp x y level zs h hst hl he
end Go.Proofs.YtgipjplifndniaaGreatDoor.A
