/- square and lit, where nothing was there: over any arena, where they may fail. -/
import Derived.Test.YtgipjplifndniaaGreatDoorLpGnd
namespace Go.Proofs.YtgipjplifndniaaGreatDoor.A
open Go.RowKit Go.Maps Go.Proofs.YtgipjplifndniaaGreatDoor.L

variable {w w1 w2 : World} {o o1 o2 : Nat → Nat} {hb b t : Nat} {e : Int} {A A' : Ar} {PR : (Bool → Nat → Bool) → Int → Prop} {q : Nat → Int} {E : List Int}
def SqCalls (PR : (Bool → Nat → Bool) → Int → Prop) (w : World) (o : Nat → Nat) (hb b t : Nat) (q : Nat → Int) (e : Int) (A : Ar) (n : Nat) (g : Gd) (zs : List (Int × Int)) (x y : Int) (D : Item → Prop) (k : Int) (w' : World) : Prop :=
  ∃ e' E' A' o', HE w' o' hb b t e' E' A' ∧ Ch HM o w o' w' ∧ SqOut PR t q A A' e e' E' n g zs x y D k
theorem SqCalls.ahead {w0 : World} {o0 : Nat → Nat} {n : Nat} {g : Gd} {zs : List (Int × Int)} {x y k : Int} {D : Item → Prop} {w' : World} (h : SqCalls PR w o hb b t q e A n g zs x y D k w') (c : Ch HM o0 w0 o w) : SqCalls PR w0 o0 hb b t q e A n g zs x y D k w' := by
  obtain ⟨e', E', A', o', h1, h2, h3⟩ := h
  exact ⟨e', E', A', o', h1, c.trans h2, h3⟩
theorem SqCalls.eqv {n : Nat} {g : Gd} {zs : List (Int × Int)} {x y k : Int} {D D' : Item → Prop} {w' : World} (h : SqCalls PR w o hb b t q e A n g zs x y D k w') (he : e = 0 ∨ Er e) (hD : ∀ i, D i ↔ D' i) : SqCalls PR w o hb b t q e A n g zs x y D' k w' := by
  obtain ⟨e', E', A', o', h1, h2, s1, s2, s3⟩ := h
  exact ⟨e', E', A', o', h1, h2, s1, s2.eqv (fun _ => hD) he, s3⟩
def SqC (n : Nat) : Prop := ∀ (PR : (Bool → Nat → Bool) → Int → Prop) (w : World) (o : Nat → Nat) (hb b t : Nat) (q : Nat → Int) (e : Int) (E : List Int) (A : Ar) (zs : List (Int × Int)) (v : Value) (x y level : Int), HE w o hb b t e E A → NxSt PR t q A → t < 64 → (e = 0 ∨ Er e) → (1 ≤ E.length ∧ E.length ≤ 45) → (e = 0 → EOk A t E) → RowL w v zs → (∀ k, v.ownBlock = some k → o k = 0) → zs.length ≤ 4096 →
  (∀ p ∈ zs, x ≤ p.1 ∧ p.1 < x + 2 ^ n ∧ y ≤ p.2 ∧ p.2 < y + 2 ^ n) → n ≤ 44 → level = (n : Int) → -1152921504606846976 ≤ x → x + 2 ^ n ≤ 1152921504606846976 → -1152921504606846976 ≤ y → y + 2 ^ n ≤ 1152921504606846976 →
  Calls Tryz.prog 93 #[.pointer (some ⟨hb, 0, none⟩), bareV, v, .int .i64 level, .int .i64 x, .int .i64 y] w fun r w' => ∃ k, r = .returned (.int .i64 k) ∧ SqCalls PR w o hb b t q e A n .no zs x y (SqD n .no zs x y) k w'
theorem ground_new (w : World) : Below w.heap.size w (w.alloc (.cells #[.int .i64 (-1), .int .i64 0, .int .i64 0] 151)) ∧ (w.alloc (.cells #[.int .i64 (-1), .int .i64 0, .int .i64 0] 151)).cell? ⟨w.heap.size, 0, none⟩ = some (.int .i64 (-1)) ∧ (w.alloc (.cells #[.int .i64 (-1), .int .i64 0, .int .i64 0] 151)).cell? ⟨w.heap.size, 1, none⟩ = some (.int .i64 0) ∧ (w.alloc (.cells #[.int .i64 (-1), .int .i64 0, .int .i64 0] 151)).cell? ⟨w.heap.size, 2, none⟩ = some (.int .i64 0) :=
  ⟨(Below.refl _ _).alloc (Nat.le_refl _) _, by rw [World.cell?_alloc_new]; rfl, by rw [World.cell?_alloc_new]; rfl, by rw [World.cell?_alloc_new]; rfl⟩
theorem square_dead (a : Option Addr) (ln cp : Nat) (x y level : Int) (h : HE w o hb b t e E A) (he : e ≠ 0) :
    Calls Tryz.prog 93 #[.pointer (some ⟨hb, 0, none⟩), bareV, .slice a ln cp, .int .i64 level, .int .i64 x, .int .i64 y] w fun r w' => r = .returned (.int .i64 0) ∧ Below w.heap.size w w' := by
  obtain ⟨hb0, _, _, _⟩ := ground_new w
  obtain ⟨v, hh, _⟩ := h.below hb0
  have c2 := hh.hand.c2
  have HB : Hid (Below w.heap.size w (w.alloc (.cells #[.int .i64 (-1), .int .i64 0, .int .i64 0] 151))) := hb0
  clear hh hb0 h
  unfold bareV
  go_enter Tryz.func93, Tryz.ntmps93
  go_wp2_with fail
  go_ret
  exact ⟨rfl, HB.out⟩
set_option maxHeartbeats 2000000 in
theorem square_nil (n : Nat) (a : Option Addr) (cp : Nat) (x y level : Int) (h : HE w o hb b t 0 E A) (hst : NxSt PR t q A) (ht : t < 64) (hl : 1 ≤ E.length ∧ E.length ≤ 45) (hE : EOk A t E) (hn : n ≤ 44) (hlev : level = (n : Int)) :
    Calls Tryz.prog 93 #[.pointer (some ⟨hb, 0, none⟩), bareV, .slice a 0 cp, .int .i64 level, .int .i64 x, .int .i64 y] w fun r w' => ∃ k, r = .returned (.int .i64 k) ∧ SqCalls PR w o hb b t q 0 A n .no [] x y (SqD n .no [] x y) k w' := by
  obtain ⟨hb0, g0, _, _⟩ := ground_new w
  have hS := h.below hb0
  have hem := hdEmpty_rel hS hst ht (.inl rfl) n hn hl.1 hl.2 (fun _ => hE) level hlev
  obtain ⟨v, hh, _⟩ := hS
  have c2 := hh.hand.c2
  have HB : Hid (Below w.heap.size w (w.alloc (.cells #[.int .i64 (-1), .int .i64 0, .int .i64 0] 151))) := hb0
  clear hh hb0 h hst hE hlev
  unfold bareV
  go_enter Tryz.func93, Tryz.ntmps93
  go_wp2_with fail
  refine hem.mono ?_
  rintro r w2 ⟨k, rfl, e2, E2, A2, o2, S2, C2, s2, g2, l2, r2, d2⟩
  have HO : Hid (SqCalls PR w o hb b t q 0 A n .no [] x y (SqD n .no [] x y) k w2) := ⟨e2, E2, A2, o2, S2, (Ch.ofBelow HB.out 0).trans C2, s2, g2.eqv (fun _ i => sqD_nil i) (.inl rfl), l2, r2, fun e0 => by
    obtain ⟨_, a2, a3, a4⟩ := d2 e0
    exact ⟨rfl, a2, a3, by rw [litP_nil]; exact a4.pic⟩⟩
  clear S2 C2 s2 g2 d2 hem
  go_wp2_with fail
  go_ret
  exact ⟨k, rfl, HO.out⟩
set_option maxHeartbeats 2000000 in
theorem square_one (a : Option Addr) (cp : Nat) (zs : List (Int × Int)) (x y : Int) (h : HE w o hb b t 0 E A) (hst : NxSt PR t q A) (hl : 1 ≤ E.length ∧ E.length ≤ 45) (hE : EOk A t E) (h0 : zs ≠ []) (hin : ∀ p ∈ zs, x ≤ p.1 ∧ p.1 < x + 1 ∧ y ≤ p.2 ∧ p.2 < y + 1) :
    Calls Tryz.prog 93 #[.pointer (some ⟨hb, 0, none⟩), bareV, .slice a zs.length cp, .int .i64 0, .int .i64 x, .int .i64 y] w fun r w' => ∃ k, r = .returned (.int .i64 k) ∧ SqCalls PR w o hb b t q 0 A 0 .no zs x y (SqD 0 .no zs x y) k w' := by
  obtain ⟨hb0, g0, g1, g2⟩ := ground_new w
  have hS := h.below hb0
  have HF : Hid (SqCalls PR w o hb b t q 0 A 0 .no zs x y (SqD 0 .no zs x y) 1 (w.alloc (.cells #[.int .i64 (-1), .int .i64 0, .int .i64 0] 151))) := ⟨0, E, A, _, hS, Ch.ofBelow hb0 0, hst, (Gx.nil t A).eqv (fun _ i => Iff.rfl) (.inl rfl), hl, .inl rfl, fun _ => ⟨rfl, hE, rfl, litP_one h0 hin⟩⟩
  obtain ⟨v, hh, _⟩ := hS
  have c2 := hh.hand.c2
  have hl0 : 0 < zs.length := List.length_pos_iff.2 h0
  have hl1 : ((zs.length : Int) == 0) = false := by simp; omega
  generalize zs.length = len at *
  clear hh hb0 h hst hE
  unfold bareV
  go_enter Tryz.func93, Tryz.ntmps93
  go_wp2_with fail
  go_ret
  exact ⟨1, rfl, HF.out⟩
set_option maxRecDepth 20000 in
set_option maxHeartbeats 8000000 in
theorem lit_bare (n : Nat) (ih : SqC n) (vb off cp : Nat) (zs : List (Int × Int)) (x y level : Int) (h : HE w o hb b t 0 E A) (hst : NxSt PR t q A) (ht : t < 64) (hl : 1 ≤ E.length ∧ E.length ≤ 45) (hE : EOk A t E) (hn : n < 44) (hlev : level = ((n + 1 : Nat) : Int)) (hvl : vb < w.heap.size) (hold : HoldsR w vb off zs) (hz : zs ≠ []) (hlen : zs.length ≤ 4096)
    (hin : ∀ p ∈ zs, x ≤ p.1 ∧ p.1 < x + 2 ^ (n + 1) ∧ y ≤ p.2 ∧ p.2 < y + 2 ^ (n + 1)) (hx0 : -1152921504606846976 ≤ x) (hx1 : x + 2 ^ (n + 1) ≤ 1152921504606846976) (hy0 : -1152921504606846976 ≤ y) (hy1 : y + 2 ^ (n + 1) ≤ 1152921504606846976) :
    Calls Tryz.prog 105 #[.pointer (some ⟨hb, 0, none⟩), bare4, .slice (some ⟨vb, off, none⟩) zs.length cp, .int .i64 level, .int .i64 x, .int .i64 y] w fun r w' => ∃ k, r = .returned (.int .i64 k) ∧ SqCalls PR w o hb b t q 0 A (n + 1) .no zs x y (LitD n .no zs x y) k w' := by
  have hbP : Below w.heap.size w (w.alloc (.cells #[.int .i64 (-1), .int .i64 0, .int .i64 0, .int .i64 (-1), .int .i64 0, .int .i64 0, .int .i64 (-1), .int .i64 0, .int .i64 0, .int .i64 (-1), .int .i64 0, .int .i64 0] 163)) := (Below.refl _ _).alloc (Nat.le_refl _) _
  have hxP : (w.alloc (.cells #[.int .i64 (-1), .int .i64 0, .int .i64 0, .int .i64 (-1), .int .i64 0, .int .i64 0, .int .i64 (-1), .int .i64 0, .int .i64 0, .int .i64 (-1), .int .i64 0, .int .i64 0] 163)).heap[w.heap.size]? = some (.cells #[.int .i64 (-1), .int .i64 0, .int .i64 0, .int .i64 (-1), .int .i64 0, .int .i64 0, .int .i64 (-1), .int .i64 0, .int .i64 0, .int .i64 (-1), .int .i64 0, .int .i64 0] 163 (0, 0)) := heap_alloc_new w _
  have hsP : (w.alloc (.cells #[.int .i64 (-1), .int .i64 0, .int .i64 0, .int .i64 (-1), .int .i64 0, .int .i64 0, .int .i64 (-1), .int .i64 0, .int .i64 0, .int .i64 (-1), .int .i64 0, .int .i64 0] 163)).heap.size = w.heap.size + 1 := by simp
  generalize hwp : w.alloc (.cells #[.int .i64 (-1), .int .i64 0, .int .i64 0, .int .i64 (-1), .int .i64 0, .int .i64 0, .int .i64 (-1), .int .i64 0, .int .i64 0, .int .i64 (-1), .int .i64 0, .int .i64 0] 163) = wp at *
  have hold : HoldsR wp vb off zs := fun j hj => by
    obtain ⟨a1, a2⟩ := hold j hj
    exact ⟨(World.cell?_of_block (a := ⟨vb, off + j * 2, none⟩) (hbP.block vb hvl)).trans a1, (World.cell?_of_block (a := ⟨vb, off + j * 2 + 1, none⟩) (hbP.block vb hvl)).trans a2⟩
  have hvl : vb < wp.heap.size := Nat.lt_of_lt_of_le hvl hbP.size
  have hh : ∀ W, Calls Tryz.prog 95 #[.int .i64 level] W fun x wp' => x = .returned (.int .i64 ((2 ^ n : Nat) : Int)) ∧ wp' = W := fun W => by rw [hlev]; exact half_any (n + 1) W (by omega) (by omega)
  have k0 : ∀ W, Calls Tryz.prog 132 #[.int .i64 0, .int .i64 level] W fun x wp' => x = .returned (.tuple #[.int .i64 0, .int .i64 0]) ∧ wp' = W := fun W => by rw [hlev]; exact corner0 (n + 1) W (by omega) (by omega)
  have k1 : ∀ W, Calls Tryz.prog 132 #[.int .i64 1, .int .i64 level] W fun x wp' => x = .returned (.tuple #[.int .i64 ((2 ^ n : Nat) : Int), .int .i64 0]) ∧ wp' = W := fun W => by rw [hlev]; exact corner1 (n + 1) W (by omega) (by omega)
  have k2 : ∀ W, Calls Tryz.prog 132 #[.int .i64 2, .int .i64 level] W fun x wp' => x = .returned (.tuple #[.int .i64 0, .int .i64 ((2 ^ n : Nat) : Int)]) ∧ wp' = W := fun W => by rw [hlev]; exact corner2 (n + 1) W (by omega) (by omega)
  have k3 : ∀ W, Calls Tryz.prog 132 #[.int .i64 3, .int .i64 level] W fun x wp' => x = .returned (.tuple #[.int .i64 ((2 ^ n : Nat) : Int), .int .i64 ((2 ^ n : Nat) : Int)]) ∧ wp' = W := fun W => by rw [hlev]; exact corner3 (n + 1) W (by omega) (by omega)
  have hpow := two_powI n
  have hpos : (0 : Int) < 2 ^ n := by have := powI n; have : 0 < 2 ^ n := Nat.pow_pos (by omega); omega
  rw [powI] at hh k1 k2 k3
  have hb0 : Below wp.heap.size wp (wp.alloc (.cells #[.int .i64 0, .int .i64 0, .int .i64 0, .int .i64 0] 69)) := (Below.refl _ _).alloc (Nat.le_refl _) _
  have hq := fun (X Y : Int) (q : Nat) => quarters_some vb off cp zs X Y ((wp.alloc (.cells #[.int .i64 0, .int .i64 0, .int .i64 0, .int .i64 0] 69)).drewN q) (Nat.lt_of_lt_of_le hvl hb0.size) hlen (fun j hj => by
    obtain ⟨a1, a2⟩ := hold j hj
    exact ⟨(World.cell?_of_block (a := ⟨vb, off + j * 2, none⟩) (hb0.block vb hvl)).trans a1, (World.cell?_of_block (a := ⟨vb, off + j * 2 + 1, none⟩) (hb0.block vb hvl)).trans a2⟩)
  have hl0 : 0 < zs.length := List.length_pos_iff.2 hz
  have hl1 : ((zs.length : Int) == 0) = false := by simp; omega
  have hlv0 : (level == 0) = false := by simp; omega
  have hlv1 : 1 ≤ level ∧ level ≤ 44 := by omega
  obtain ⟨hf, hhf⟩ : ∃ hf, hf = (2 : Int) ^ n := ⟨_, rfl⟩
  rw [← hhf] at hh k1 k2 k3 hpow hpos
  rw [hpow] at hx1 hy1
  have HLEV : Hid (level = ((n + 1 : Nat) : Int)) := hlev
  have HHF : Hid (hf = 2 ^ n) := hhf
  have H0 : Hid (HE w o hb b t 0 E A ∧ NxSt PR t q A ∧ (1 ≤ E.length ∧ E.length ≤ 45) ∧ EOk A t E ∧ n < 44) := ⟨h, hst, hl, hE, hn⟩
  have HIN : Hid (∀ p ∈ zs, x ≤ p.1 ∧ p.1 < x + (hf + hf) ∧ y ≤ p.2 ∧ p.2 < y + (hf + hf)) := by rw [hpow] at hin; exact hin
  have HBP : Hid (Below w.heap.size w wp ∧ wp.heap.size = w.heap.size + 1 ∧ wp.heap[w.heap.size]? = some (.cells #[.int .i64 (-1), .int .i64 0, .int .i64 0, .int .i64 (-1), .int .i64 0, .int .i64 0, .int .i64 (-1), .int .i64 0, .int .i64 0, .int .i64 (-1), .int .i64 0, .int .i64 0] 163 (0, 0))) := ⟨hbP, hsP, hxP⟩
  have HL4 : Hid (zs.length ≤ 4096) := hlen
  clear hlev hhf h hst hE hn hin hpow hold hbP hxP hvl hl hsP
  unfold bare4
  go_enter Tryz.func105, Tryz.ntmps105
  go_wp2_with fail
  refine (hh _).mono ?_
  rintro e w1 ⟨rfl, rfl⟩
  go_wp2_with fail
  refine (hh _).mono ?_
  rintro e w1 ⟨rfl, rfl⟩
  go_wp2_with fail
  refine (hq (x + hf) (y + hf) 0).mono ?_
  rintro e w1 ⟨vs, rfl, hrows, hb1⟩
  have HW1 : Hid (Below w.heap.size w w1 ∧ wp.heap.size = w.heap.size + 1 ∧ w1.heap[w.heap.size]? = some (.cells #[.int .i64 (-1), .int .i64 0, .int .i64 0, .int .i64 (-1), .int .i64 0, .int .i64 0, .int .i64 (-1), .int .i64 0, .int .i64 0, .int .i64 (-1), .int .i64 0, .int .i64 0] 163 (0, 0)) ∧ Q4 w1 wp.heap.size 0 0 0 0 ∧ wp.heap.size < w1.heap.size) := by
    obtain ⟨c1, c2, c3⟩ := HBP.out
    have b1 : Below wp.heap.size wp w1 := hb0.trans ((show Below (wp.alloc (.cells #[.int .i64 0, .int .i64 0, .int .i64 0, .int .i64 0] 69)).heap.size (wp.alloc (.cells #[.int .i64 0, .int .i64 0, .int .i64 0, .int .i64 0] 69)) w1 from ⟨hb1.os, hb1.tape, hb1.output, hb1.size, hb1.block⟩).mono hb0.size)
    have hsz : (wp.alloc (.cells #[.int .i64 0, .int .i64 0, .int .i64 0, .int .i64 0] 69)).heap.size = wp.heap.size + 1 := by simp
    have hs1 : (wp.alloc (.cells #[.int .i64 0, .int .i64 0, .int .i64 0, .int .i64 0] 69)).heap.size ≤ w1.heap.size := hb1.size
    refine ⟨c1.trans (b1.mono c1.size), by omega, (b1.block _ (by omega)).trans c3, ?_, by omega⟩
    exact (hb1.block _ (by show wp.heap.size < (wp.alloc (.cells #[.int .i64 0, .int .i64 0, .int .i64 0, .int .i64 0] 69)).heap.size; omega)).trans (heap_alloc_new wp _)
  have HRW : Hid (∀ i, i < 4 → RowL w1 (vs i) (part (x + hf) (y + hf) zs i) ∧ ∀ k, (vs i).ownBlock = some k → wp.heap.size < k ∧ k < w1.heap.size) := fun i hi => ⟨row_of_own (hrows i hi), fun k hk => by
    obtain ⟨h1, h2⟩ := World.ownsRow.lt (hrows i hi) k hk
    have hsz : ((wp.alloc (.cells #[.int .i64 0, .int .i64 0, .int .i64 0, .int .i64 0] 69)).drewN 0).heap.size = wp.heap.size + 1 := by show (wp.alloc (.cells #[.int .i64 0, .int .i64 0, .int .i64 0, .int .i64 0] 69)).heap.size = _; simp
    rw [hsz] at h1
    exact ⟨by omega, h2⟩⟩
  have L0 : LI o w hb b t 0 E A wp.heap.size (fun _ => 0) (ext o w.heap.size 0) w1 w1 (ext o w.heap.size 0) := ⟨⟨H0.out.1.below HW1.out.1, Ch.ofBelow HW1.out.1 0, HW1.out.2.2.2.1, ext_new (by have := HW1.out.2.1; omega), by have := HW1.out.2.1; omega⟩, Nat.le_refl _, fun k _ h _ => ⟨rfl, h⟩⟩
  have HG0 : Hid (LGh PR t q A A 0 0 E n .no zs x y 0 (fun _ => 0)) := LGh.start H0.out.2.1 (.inl rfl) H0.out.2.2.1 fun _ => H0.out.2.2.2.1
  have HPS : Hid (_ ∧ _ ∧ _ ∧ _) := parts_in (h := hf) HIN.out
  have hle4 := fun i => Nat.le_trans (part_le (x + hf) (y + hf) zs i) HL4.out
  have i0 := Tryz.ix0 (vs 0) (vs 1) (vs 2) (vs 3)
  have i1 := Tryz.ix1 (vs 0) (vs 1) (vs 2) (vs 3)
  have i2 := Tryz.ix2 (vs 0) (vs 1) (vs 2) (vs 3)
  have i3 := Tryz.ix3 (vs 0) (vs 1) (vs 2) (vs 3)
  have HPT : Hid (∀ (W : World) (oW : Nat → Nat) (eW : Int) (EW : List Int) (AW : Ar) (jW : Nat → Int), LI o w hb b t eW EW AW wp.heap.size jW (ext o w.heap.size 0) w1 W oW → ∀ i, i < 4 → W.cell? ⟨w.heap.size, 3 * i, none⟩ = some (.int .i64 (-1)) ∧ W.cell? ⟨w.heap.size, 3 * i + 1, none⟩ = some (.int .i64 0) ∧ W.cell? ⟨w.heap.size, 3 * i + 2, none⟩ = some (.int .i64 0)) := fun W oW eW EW AW jW hW i hi => by
    have h1 := (hW.kept w.heap.size (by have := HW1.out; omega) (ext_new (Nat.le_refl _)) (by have := HW1.out.2.1; omega)).1.trans HW1.out.2.2.1
    rw [Lib.cell_of_heap h1, Lib.cell_of_heap h1, Lib.cell_of_heap h1]
    have h2 : i = 0 ∨ i = 1 ∨ i = 2 ∨ i = 3 := by omega
    rcases h2 with rfl | rfl | rfl | rfl <;> exact ⟨rfl, rfl, rfl⟩
  have HIH : Hid (∀ (W : World) (oW : Nat → Nat) (eW : Int) (EW : List Int) (AW : Ar) (jW : Nat → Int) (i : Nat) (X Y : Int), LI o w hb b t eW EW AW wp.heap.size jW (ext o w.heap.size 0) w1 W oW → LGh PR t q A AW 0 eW EW n .no zs x y i jW → i < 4 → (∀ p ∈ part (x + hf) (y + hf) zs i, X ≤ p.1 ∧ p.1 < X + hf ∧ Y ≤ p.2 ∧ p.2 < Y + hf) → -1152921504606846976 ≤ X → X + hf ≤ 1152921504606846976 → -1152921504606846976 ≤ Y → Y + hf ≤ 1152921504606846976 →
      Calls Tryz.prog 93 #[.pointer (some ⟨hb, 0, none⟩), bareV, vs i, .int .i64 (level - 1), .int .i64 X, .int .i64 Y] W fun r w' => ∃ k, r = .returned (.int .i64 k) ∧ SqCalls PR W oW hb b t q eW AW n .no (part (x + hf) (y + hf) zs i) X Y (SqD n .no (part (x + hf) (y + hf) zs i) X Y) k w') := by
    intro W oW eW EW AW jW i X Y hL hG hi a1 a2 a3 a4 a5
    have hr := hL.row (HRW.out i hi).1 (fun k hk => ⟨ext_new (by have := (HRW.out i hi).2 k hk; have := HW1.out.2.1; omega), by have := (HRW.out i hi).2 k hk; omega, ((HRW.out i hi).2 k hk).2⟩)
    have hl := HLEV.out
    rw [HHF.out] at a1 a3 a5 hr ⊢
    exact ih PR W oW hb b t q eW EW AW _ (vs i) X Y (level - 1) hL.he hG.st ht hG.er hG.len (fun e0 => (hG.em e0).2) hr.1 hr.2 (by rw [← HHF.out]; exact hle4 i) a1 (by have := H0.out.2.2.2.2; omega) (by omega) a2 a3 a4 a5
  clear hrows hq hh ih hb1 hb0
  unfold bareV at HIH
  obtain ⟨p0, p1, p2⟩ : w1.cell? ⟨w.heap.size, 0, none⟩ = some (.int .i64 (-1)) ∧ w1.cell? ⟨w.heap.size, 1, none⟩ = some (.int .i64 0) ∧ w1.cell? ⟨w.heap.size, 2, none⟩ = some (.int .i64 0) := HPT.out _ _ _ _ _ _ L0 0 (by omega)
  obtain ⟨⟨d0, d1, d2, d3⟩, z0, z1, z2, z3⟩ := L0.q.cells
  go_wp2_with fail
  refine wp_loop_rounds 5 ?_
  rw [rounds_succ]
  go_wp2_with fail
  refine (k0 _).mono ?_
  rintro e wk ⟨rfl, rfl⟩
  go_wp2_with fail
  refine (HIH.out _ _ _ _ _ _ 0 (x) (y) L0 HG0.out (by omega) HPS.out.1 (by omega) (by omega) (by omega) (by omega)).mono ?_
  rintro r v1 ⟨id0, rfl, e1, E1, A1, o1, S1, C1, SO1⟩
  have L1 := L0.step S1 C1
  have HG1 : Hid (LGh PR t q A A1 0 e1 E1 n .no zs x y (0 + 1) (putW (fun _ => 0) 0 id0)) := HG0.out.step ht (by
    have h := SO1
    rw [HHF.out] at h
    have ex : qx n x 0 = x := by simp [qx]
    have ey : qy n y 0 = y := by simp [qy]
    rw [ex, ey]
    exact h)
  clear S1 C1 SO1 d0 d1 d2 d3 z0 z1 z2 z3 p0 p1 p2
  obtain ⟨⟨d0, d1, d2, d3⟩, z0, z1, z2, z3⟩ := L1.q.cells
  go_wp2_with fail
  have L1 := L1.set (j' := putW (fun _ => 0) 0 id0) 0 id0 (Go.Joins.block_setCell L1.q _)
  generalize v1.setCell ⟨wp.heap.size, 0, none⟩ (.int .i64 id0) = V1 at *
  clear d0 d1 d2 d3 z0 z1 z2 z3
  obtain ⟨⟨d0, d1, d2, d3⟩, z0, z1, z2, z3⟩ := L1.q.cells
  obtain ⟨p0, p1, p2⟩ : V1.cell? ⟨w.heap.size, 3, none⟩ = some (.int .i64 (-1)) ∧ V1.cell? ⟨w.heap.size, 4, none⟩ = some (.int .i64 0) ∧ V1.cell? ⟨w.heap.size, 5, none⟩ = some (.int .i64 0) := HPT.out _ _ _ _ _ _ L1 1 (by omega)
  rw [rounds_succ]
  go_wp2_with fail
  refine (k1 _).mono ?_
  rintro e wk ⟨rfl, rfl⟩
  go_wp2_with fail
  refine (HIH.out _ _ _ _ _ _ 1 (x + hf) (y) L1 HG1.out (by omega) HPS.out.2.1 (by omega) (by omega) (by omega) (by omega)).mono ?_
  rintro r v2 ⟨id1, rfl, e2, E2, A2, o2, S2, C2, SO2⟩
  have L2 := L1.step S2 C2
  have HG2 : Hid (LGh PR t q A A2 0 e2 E2 n .no zs x y (1 + 1) (putW (putW (fun _ => 0) 0 id0) 1 id1)) := HG1.out.step ht (by
    have h := SO2
    rw [HHF.out] at h
    have ex : qx n x 1 = x + 2 ^ n := by simp [qx]
    have ey : qy n y 1 = y := by simp [qy]
    rw [ex, ey]
    exact h)
  clear S2 C2 SO2 d0 d1 d2 d3 z0 z1 z2 z3 p0 p1 p2
  obtain ⟨⟨d0, d1, d2, d3⟩, z0, z1, z2, z3⟩ := L2.q.cells
  go_wp2_with fail
  have L2 := L2.set (j' := putW (putW (fun _ => 0) 0 id0) 1 id1) 1 id1 (Go.Joins.block_setCell L2.q _)
  generalize v2.setCell ⟨wp.heap.size, 1, none⟩ (.int .i64 id1) = V2 at *
  clear d0 d1 d2 d3 z0 z1 z2 z3
  obtain ⟨⟨d0, d1, d2, d3⟩, z0, z1, z2, z3⟩ := L2.q.cells
  obtain ⟨p0, p1, p2⟩ : V2.cell? ⟨w.heap.size, 6, none⟩ = some (.int .i64 (-1)) ∧ V2.cell? ⟨w.heap.size, 7, none⟩ = some (.int .i64 0) ∧ V2.cell? ⟨w.heap.size, 8, none⟩ = some (.int .i64 0) := HPT.out _ _ _ _ _ _ L2 2 (by omega)
  rw [rounds_succ]
  go_wp2_with fail
  refine (k2 _).mono ?_
  rintro e wk ⟨rfl, rfl⟩
  go_wp2_with fail
  refine (HIH.out _ _ _ _ _ _ 2 (x) (y + hf) L2 HG2.out (by omega) HPS.out.2.2.1 (by omega) (by omega) (by omega) (by omega)).mono ?_
  rintro r v3 ⟨id2, rfl, e3, E3, A3, o3, S3, C3, SO3⟩
  have L3 := L2.step S3 C3
  have HG3 : Hid (LGh PR t q A A3 0 e3 E3 n .no zs x y (2 + 1) (putW (putW (putW (fun _ => 0) 0 id0) 1 id1) 2 id2)) := HG2.out.step ht (by
    have h := SO3
    rw [HHF.out] at h
    have ex : qx n x 2 = x := by simp [qx]
    have ey : qy n y 2 = y + 2 ^ n := by simp [qy]
    rw [ex, ey]
    exact h)
  clear S3 C3 SO3 d0 d1 d2 d3 z0 z1 z2 z3 p0 p1 p2
  obtain ⟨⟨d0, d1, d2, d3⟩, z0, z1, z2, z3⟩ := L3.q.cells
  go_wp2_with fail
  have L3 := L3.set (j' := putW (putW (putW (fun _ => 0) 0 id0) 1 id1) 2 id2) 2 id2 (Go.Joins.block_setCell L3.q _)
  generalize v3.setCell ⟨wp.heap.size, 2, none⟩ (.int .i64 id2) = V3 at *
  clear d0 d1 d2 d3 z0 z1 z2 z3
  obtain ⟨⟨d0, d1, d2, d3⟩, z0, z1, z2, z3⟩ := L3.q.cells
  obtain ⟨p0, p1, p2⟩ : V3.cell? ⟨w.heap.size, 9, none⟩ = some (.int .i64 (-1)) ∧ V3.cell? ⟨w.heap.size, 10, none⟩ = some (.int .i64 0) ∧ V3.cell? ⟨w.heap.size, 11, none⟩ = some (.int .i64 0) := HPT.out _ _ _ _ _ _ L3 3 (by omega)
  rw [rounds_succ]
  go_wp2_with fail
  refine (k3 _).mono ?_
  rintro e wk ⟨rfl, rfl⟩
  go_wp2_with fail
  refine (HIH.out _ _ _ _ _ _ 3 (x + hf) (y + hf) L3 HG3.out (by omega) HPS.out.2.2.2 (by omega) (by omega) (by omega) (by omega)).mono ?_
  rintro r v4 ⟨id3, rfl, e4, E4, A4, o4, S4, C4, SO4⟩
  have L4 := L3.step S4 C4
  have HG4 : Hid (LGh PR t q A A4 0 e4 E4 n .no zs x y (3 + 1) (putW (putW (putW (putW (fun _ => 0) 0 id0) 1 id1) 2 id2) 3 id3)) := HG3.out.step ht (by
    have h := SO4
    rw [HHF.out] at h
    have ex : qx n x 3 = x + 2 ^ n := by simp [qx]
    have ey : qy n y 3 = y + 2 ^ n := by simp [qy]
    rw [ex, ey]
    exact h)
  clear S4 C4 SO4 d0 d1 d2 d3 z0 z1 z2 z3 p0 p1 p2
  obtain ⟨⟨d0, d1, d2, d3⟩, z0, z1, z2, z3⟩ := L4.q.cells
  go_wp2_with fail
  have L4 := L4.set (j' := putW (putW (putW (putW (fun _ => 0) 0 id0) 1 id1) 2 id2) 3 id3) 3 id3 (Go.Joins.block_setCell L4.q _)
  generalize v4.setCell ⟨wp.heap.size, 3, none⟩ (.int .i64 id3) = V4 at *
  clear d0 d1 d2 d3 z0 z1 z2 z3
  obtain ⟨⟨d0, d1, d2, d3⟩, z0, z1, z2, z3⟩ := L4.q.cells
  rw [rounds_succ]
  go_wp2_with fail
  have hjn := hdJoin_he L4.he HG4.out.st ht HG4.out.er n (by have := H0.out.2.2.2.2; omega) id0 id1 id2 id3 (fun e0 => ⟨(HG4.out.jk e0 0 (by omega)).1, (HG4.out.jk e0 1 (by omega)).1, (HG4.out.jk e0 2 (by omega)).1, (HG4.out.jk e0 3 (by omega)).1⟩)
  unfold quad4 at hjn
  refine hjn.mono ?_
  rintro r w9 ⟨k, rfl, e9, A9, o9, S9, C9, s9, g9, d9⟩
  have HO : Hid (SqCalls PR w o hb b t q 0 A (n + 1) .no zs x y (LitD n .no zs x y) k w9) := ⟨e9, E4, A9, o9, S9, L4.ch.trans C9, HG4.out.done ht s9 g9 d9⟩
  clear S9 C9 s9 g9 d9 hjn
  go_wp2_with fail
  go_ret
  exact ⟨k, rfl, HO.out⟩
set_option maxRecDepth 20000 in
set_option maxHeartbeats 4000000 in
theorem square_step (n : Nat) (ih : SqC n) (vb off cp : Nat) (zs : List (Int × Int)) (x y level : Int) (h : HE w o hb b t 0 E A) (hst : NxSt PR t q A) (ht : t < 64) (hl : 1 ≤ E.length ∧ E.length ≤ 45) (hE : EOk A t E) (hn : n < 44) (hlev : level = ((n + 1 : Nat) : Int)) (hvl : vb < w.heap.size) (hold : HoldsR w vb off zs) (hz : zs ≠ []) (hlen : zs.length ≤ 4096)
    (hin : ∀ p ∈ zs, x ≤ p.1 ∧ p.1 < x + 2 ^ (n + 1) ∧ y ≤ p.2 ∧ p.2 < y + 2 ^ (n + 1)) (hx0 : -1152921504606846976 ≤ x) (hx1 : x + 2 ^ (n + 1) ≤ 1152921504606846976) (hy0 : -1152921504606846976 ≤ y) (hy1 : y + 2 ^ (n + 1) ≤ 1152921504606846976) :
    Calls Tryz.prog 93 #[.pointer (some ⟨hb, 0, none⟩), bareV, .slice (some ⟨vb, off, none⟩) zs.length cp, .int .i64 level, .int .i64 x, .int .i64 y] w fun r w' => ∃ k, r = .returned (.int .i64 k) ∧ SqCalls PR w o hb b t q 0 A (n + 1) .no zs x y (SqD (n + 1) .no zs x y) k w' := by
  obtain ⟨hb0, g0, g1, g2⟩ := ground_new w
  generalize hw1 : w.alloc (.cells #[.int .i64 (-1), .int .i64 0, .int .i64 0] 151) = w1 at *
  have HL : Hid (∀ W, Below w1.heap.size w1 W → Calls Tryz.prog 105 #[.pointer (some ⟨hb, 0, none⟩), bare4, .slice (some ⟨vb, off, none⟩) zs.length cp, .int .i64 level, .int .i64 x, .int .i64 y] W fun r w' => ∃ k, r = .returned (.int .i64 k) ∧ SqCalls PR w o hb b t q 0 A (n + 1) .no zs x y (SqD (n + 1) .no zs x y) k w') := fun W hW => by
    have hbW : Below w.heap.size w W := hb0.trans (hW.mono hb0.size)
    refine (lit_bare n ih vb off cp zs x y level (h.below hbW) hst ht hl hE hn hlev (Nat.lt_of_lt_of_le hvl hbW.size) (fun j hj => ?_) hz hlen hin hx0 hx1 hy0 hy1).mono fun r w' ⟨k, he, hR⟩ => ⟨k, he, (hR.ahead (Ch.ofBelow hbW 0)).eqv (.inl rfl) fun i => sqD_lit (fun hh => hz hh.1) i⟩
    obtain ⟨a1, a2⟩ := hold j hj
    exact ⟨(World.cell?_of_block (a := ⟨vb, off + j * 2, none⟩) (hbW.block vb hvl)).trans a1, (World.cell?_of_block (a := ⟨vb, off + j * 2 + 1, none⟩) (hbW.block vb hvl)).trans a2⟩
  obtain ⟨v, hh, _⟩ := h.below hb0
  have c2 := hh.hand.c2
  have hl0 : 0 < zs.length := List.length_pos_iff.2 hz
  have hl1 : ((zs.length : Int) == 0) = false := by simp; omega
  have hlv0 : (level == 0) = false := by simp; omega
  have hbb := fun W => below_bare hb W
  unfold bareV at hbb ⊢
  clear hlev h hh hst hE hin hold ih hb0
  generalize zs.length = len at *
  go_enter Tryz.func93, Tryz.ntmps93
  go_wp2_with fail
  refine (hbb _).mono ?_
  rintro e w2 ⟨rfl, hb2⟩
  go_wp2_with fail
  refine (HL.out _ hb2).mono ?_
  rintro r w3 ⟨k, rfl, hR⟩
  go_wp2_with fail
  go_ret
  exact ⟨k, rfl, hR⟩
theorem square_nd (n : Nat) (a : Option Addr) (ln cp : Nat) (x y level : Int) (zs : List (Int × Int)) (h : HE w o hb b t e E A) (hst : NxSt PR t q A) (hl : 1 ≤ E.length ∧ E.length ≤ 45) (he : Er e) :
    Calls Tryz.prog 93 #[.pointer (some ⟨hb, 0, none⟩), bareV, .slice a ln cp, .int .i64 level, .int .i64 x, .int .i64 y] w fun r w' => ∃ k, r = .returned (.int .i64 k) ∧ SqCalls PR w o hb b t q e A n .no zs x y (SqD n .no zs x y) k w' := by
  refine (square_dead a ln cp x y level h he.ne).mono ?_
  rintro r w' ⟨rfl, hb⟩
  exact ⟨0, rfl, e, E, A, _, h.below hb, Ch.ofBelow hb 0, hst, Gx.no he t A _, hl, .inr he, fun e0 => absurd e0 he.ne⟩
theorem square_any : ∀ n, SqC n
  | 0 => by
    intro PR w o hb b t q e E A zs v x y level h hst ht he hl hE hrow hvl0 hlen hin hn hlev hx0 hx1 hy0 hy1
    obtain ⟨a, cp, rfl, hr⟩ := hrow
    rcases he with rfl | he
    · by_cases h0 : zs = []
      · subst h0
        exact square_nil 0 a cp x y level h hst ht hl (hE rfl) hn hlev
      · subst hlev
        exact square_one a cp zs x y h hst hl (hE rfl) h0 (by simpa using hin)
    · exact square_nd 0 a zs.length cp x y level zs h hst hl he
  | n + 1 => by
    intro PR w o hb b t q e E A zs v x y level h hst ht he hl hE hrow hvl0 hlen hin hn hlev hx0 hx1 hy0 hy1
    obtain ⟨a, cp, rfl, hr⟩ := hrow
    rcases he with rfl | he
    · by_cases h0 : zs = []
      · subst h0
        exact square_nil (n + 1) a cp x y level h hst ht hl (hE rfl) hn hlev
      · obtain hr | ⟨vb, off, rfl, hvl, hold⟩ := hr
        · exact absurd hr h0
        · exact square_step n (square_any n) vb off cp zs x y level h hst ht hl (hE rfl) (by omega) hlev hvl hold h0 hlen hin hx0 hx1 hy0 hy1
    · exact square_nd (n + 1) a zs.length cp x y level zs h hst hl he
end Go.Proofs.YtgipjplifndniaaGreatDoor.A
