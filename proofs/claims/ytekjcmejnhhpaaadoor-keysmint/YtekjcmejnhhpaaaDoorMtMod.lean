/- The rest by 2^64: QuoRem, DivMod, Mod, and the document's times. -/
import Derived.Test.YtekjcmejnhhpaaaDoorMtLsh
namespace Go.Proofs.YtekjcmejnhhpaaaDoor
open Go.RowKit

/-- nothing but the blocks of P and new ones is written -/
structure Fr (P : Nat → Prop) (w w' : World) : Prop where
  os : w'.os = w.os
  tape : w'.tape = w.tape
  output : w'.output = w.output
  size : w.heap.size ≤ w'.heap.size
  block : ∀ k, k < w.heap.size → ¬ P k → w'.heap[k]? = w.heap[k]?
theorem Fr.of {P : Nat → Prop} {w w' : World} (h : Below w.heap.size w w') : Fr P w w' := ⟨h.os, h.tape, h.output, h.size, fun k hk _ => h.block k hk⟩
theorem Fr.ofG {P : Nat → Prop} {w w' : World} {b : Nat} (h : w.grownBy w' (some b)) (hP : P b) : Fr P w w' := ⟨h.os, h.tape, h.output, h.size, fun k hk hn => h.block k hk (fun e => hn ((Option.some.inj e) ▸ hP))⟩
theorem Fr.trans {P : Nat → Prop} {w w1 w2 : World} (h : Fr P w w1) (g : Fr P w1 w2) : Fr P w w2 := ⟨g.os.trans h.os, g.tape.trans h.tape, g.output.trans h.output, Nat.le_trans h.size g.size, fun k hk hn => (g.block k (Nat.lt_of_lt_of_le hk h.size) hn).trans (h.block k hk hn)⟩
theorem Fr.mono {P Q : Nat → Prop} {w w1 : World} (h : Fr P w w1) (hPQ : ∀ k, k < w.heap.size → P k → Q k) : Fr Q w w1 := ⟨h.os, h.tape, h.output, h.size, fun k hk hn => h.block k hk (fun e => hn (hPQ k hk e))⟩
theorem Fr.grown {w w1 : World} {b : Nat} (h : Fr (fun k => k = b) w w1) : w.grownBy w1 (some b) := ⟨h.os, h.tape, h.output, h.size, fun k hk hn => h.block k hk (fun e => hn (by rw [e]))⟩
theorem Fr.below {P : Nat → Prop} {w w1 : World} (h : Fr P w w1) (hP : ∀ k, P k → w.heap.size ≤ k) : Below w.heap.size w w1 := ⟨h.os, h.tape, h.output, h.size, fun k hk => h.block k hk (fun e => by have := hP k e; omega)⟩
abbrev M64 : Nat := 18446744073709551616
theorem nil_wd (w : World) (B : Nat) : Wd w B (.slice none 0 0) 0 := ⟨none, 0, 0, rfl, by omega, by unfold maxLen; omega, by omega, by simp, by simp, Or.inl rfl⟩
theorem div64_any (B B' n : Nat) (u v : Value) (w : World) (hu : Wd w B u n) (hv : Wd w B' v 18446744073709551616) (hn : n < 4294967296 ^ 4) :
    Calls Tryd.prog 62 #[u, v] w fun e w' => ∃ x y N, e = .returned (.tuple #[y, x]) ∧ Wd w' w.heap.size x (n % 18446744073709551616) ∧ Wd w' w.heap.size y N ∧ (n < 18446744073709551616 → N = 0) ∧ Below w.heap.size w w' := by
  by_cases h : n < 18446744073709551616
  · exact (div_small B B' n u v w hu hv h).mono fun e w' ⟨x, he, hx, hb⟩ => ⟨x, _, 0, he, by rw [Nat.mod_eq_of_lt h]; exact hx, nil_wd _ _, fun _ => rfl, hb⟩
  · exact (div64 B B' n u v w hu hv hn).mono fun e w' ⟨x, y, he, hx, ⟨N, hN⟩, hb⟩ => ⟨x, y, N, he, hx, hN, fun h' => absurd h' h, hb⟩

def QuoOut (z x R : Nat) (xn sg : Bool) (w w' : World) : Prop := Sg x sg R w' ∧ (∃ zs N, Sg z zs N w' ∧ (xn = true → N = 0)) ∧ Fr (fun k => k = z ∨ k = x) w w'
set_option maxRecDepth 20000 in
set_option maxHeartbeats 2000000 in
theorem quoG_any (z x y n : Nat) (xn sg : Bool) (w : World) (hz : Ib z w) (hx : Sg x xn n w) (hy : Sg y false 18446744073709551616 w) (hzx : z ≠ x) (hn : n < 4294967296 ^ 4) (hneg : xn = true → n < 18446744073709551616) (hsg : sg = (xn && decide (n % 18446744073709551616 ≠ 0))) :
    Calls Tryd.prog 55 #[.pointer (some ⟨z, 0, none⟩), .pointer (some ⟨x, 0, none⟩), .pointer (some ⟨y, 0, none⟩), .pointer (some ⟨x, 0, none⟩)] w fun e w' => e = .returned (.tuple #[.pointer (some ⟨z, 0, none⟩), .pointer (some ⟨x, 0, none⟩)]) ∧ QuoOut z x (n % 18446744073709551616) xn sg w w' := by
  have HIX : Hid (Ib x w ∧ Ib z w ∧ x < w.heap.size ∧ z < w.heap.size ∧ z ≠ x) := ⟨hx.ib, hz, hx.lt, hz.lt, hzx⟩
  obtain ⟨a, k, c, bx, vx⟩ := hx
  obtain ⟨a', k', c', hby, vy⟩ := hy
  have x0 : w.cell? ⟨x, 0, none⟩ = some (.bool xn) := by rw [Lib.cell_of_heap bx]; rfl
  have x1 : w.cell? ⟨x, 1, none⟩ = some (.slice a k c) := by rw [Lib.cell_of_heap bx]; rfl
  have y0 : w.cell? ⟨y, 0, none⟩ = some (.bool false) := by rw [Lib.cell_of_heap hby]; rfl
  have y1 : w.cell? ⟨y, 1, none⟩ = some (.slice a' k' c') := by rw [Lib.cell_of_heap hby]; rfl
  have HLL : Hid (x < w.heap.size ∧ y < w.heap.size) := ⟨(Array.getElem?_eq_some_iff.1 bx).1, (Array.getElem?_eq_some_iff.1 hby).1⟩
  have HDV : Hid (∀ W, Below w.heap.size w W → _) := fun W hb => div64_any _ _ n (.slice a k c) (.slice a' k' c') W (vx.below hb) (vy.below hb) hn
  have HS : Hid (∀ W : World, Below w.heap.size w W → W.cell? ⟨x, 1, none⟩ = some (.slice a k c) ∧ W.cell? ⟨y, 1, none⟩ = some (.slice a' k' c')) := fun W hb => ⟨(hb.cell (p := ⟨x, 1, none⟩) HLL.out.1).trans x1, (hb.cell (p := ⟨y, 1, none⟩) HLL.out.2).trans y1⟩
  have HSG : Hid (sg = (xn && decide (n % 18446744073709551616 ≠ 0)) ∧ (xn = true → n < 18446744073709551616)) := ⟨hsg, hneg⟩
  generalize n % 18446744073709551616 = R at *
  clear bx vx hby vy hz hzx hn hneg hsg
  go_enter Tryd.func55, Tryd.ntmps55
  go_wp2_with fail
  go_region_held3 (fun W => W.cell? ⟨x, 0, none⟩ = some (.bool xn) ∧ W.cell? ⟨y, 0, none⟩ = some (.bool false)) (exact ⟨x0, y0⟩) (fail)
  go_wp2_with fail
  go_region_held3 (fun W => W.cell? ⟨x, 1, none⟩ = some (.slice a k c) ∧ W.cell? ⟨y, 1, none⟩ = some (.slice a' k' c')) (first | exact ⟨x1, y1⟩ | exact HS.out _ hb1) ((go_at_call 62; refine (HDV.out _ (by first | exact (Below.refl _ _).drew | exact (Below.refl _ _).drew.drew | exact ⟨rfl, rfl, rfl, Nat.le_refl _, fun _ _ => rfl⟩)).mono ?_; rintro e w1 ⟨u, v, N, rfl, hu, hv, hN0, hb1'⟩; have hb1 : Below w.heap.size w w1 := ⟨hb1'.os, hb1'.tape, hb1'.output, hb1'.size, hb1'.block⟩; have hu : Wd w1 w.heap.size u R := hu; have hv : Wd w1 w.heap.size v N := hv; clear hb1'))
  have HB1 : Hid (Below w.heap.size w w1 ∧ Wd w1 w.heap.size u R ∧ Wd w1 w.heap.size v N ∧ (n < 18446744073709551616 → N = 0)) := ⟨hb1, hu, hv, hN0⟩
  have hgz := fun bb sb (hs : sb = (bb && decide (N ≠ 0))) => giveG_any z bb sb N v w1 (HIX.out.2.1.go hb1) (hv.mono (by have := HIX.out; omega)) hs
  clear hu hv hb1 hN0 x0 x1 y0 y1 HDV HS
  have hgz' := hgz (xn != false) _ rfl
  clear hgz
  have hxx : (xn != false) = xn := by cases xn <;> rfl
  rw [hxx] at hgz'
  cases xn with
  | true =>
    go_wp2_with fail
    refine hgz'.mono ?_
    rintro e w2 ⟨rfl, hs2, hg2⟩
    have HZ2 : Hid (Sg z (true && decide (N ≠ 0)) N w2 ∧ w1.grownBy w2 (some z)) := ⟨hs2, hg2⟩
    have hwu : Wd w2 w.heap.size u R := HB1.out.2.1.other hg2 (let ⟨x', a', k', c', hh⟩ := (HIX.out.2.1.go HB1.out.1); ⟨x', a', k', c', _, _, hh⟩)
    have hgx := giveG_any x true sg R u w2 ((HIX.out.1.go HB1.out.1).other hg2 (fun e => HIX.out.2.2.2.2 e.symm)) (hwu.mono (by have := HIX.out; omega)) HSG.out.1
    clear hs2 hg2 hgz' hwu
    go_wp2_with fail
    refine hgx.mono ?_
    rintro e w3 ⟨rfl, hs3, hg3⟩
    have HE : Hid (QuoOut z x R true sg w w3) := ⟨hs3, ⟨_, N, HZ2.out.1.other hg3 HIX.out.2.2.2.2 ((HIX.out.1.go HB1.out.1).other HZ2.out.2 (fun e => HIX.out.2.2.2.2 e.symm)), fun _ => HB1.out.2.2.2 (HSG.out.2 (by first | exact rfl | exact trivial))⟩, ((Fr.of HB1.out.1).trans (Fr.ofG HZ2.out.2 (.inl rfl))).trans (Fr.ofG hg3 (.inr rfl))⟩
    clear hs3 hg3 hgx
    go_wp2_with fail
    go_ret2
    exact ⟨rfl, HE.out⟩
  | false =>
    go_wp2_with fail
    refine hgz'.mono ?_
    rintro e w2 ⟨rfl, hs2, hg2⟩
    have HZ2 : Hid (Sg z (false && decide (N ≠ 0)) N w2 ∧ w1.grownBy w2 (some z)) := ⟨hs2, hg2⟩
    have hwu : Wd w2 w.heap.size u R := HB1.out.2.1.other hg2 (let ⟨x', a', k', c', hh⟩ := (HIX.out.2.1.go HB1.out.1); ⟨x', a', k', c', _, _, hh⟩)
    have hgx := giveG_any x false sg R u w2 ((HIX.out.1.go HB1.out.1).other hg2 (fun e => HIX.out.2.2.2.2 e.symm)) (hwu.mono (by have := HIX.out; omega)) HSG.out.1
    clear hs2 hg2 hgz' hwu
    go_wp2_with fail
    refine hgx.mono ?_
    rintro e w3 ⟨rfl, hs3, hg3⟩
    have HE : Hid (QuoOut z x R false sg w w3) := ⟨hs3, ⟨_, N, HZ2.out.1.other hg3 HIX.out.2.2.2.2 ((HIX.out.1.go HB1.out.1).other HZ2.out.2 (fun e => HIX.out.2.2.2.2 e.symm)), fun h => by cases h⟩, ((Fr.of HB1.out.1).trans (Fr.ofG HZ2.out.2 (.inl rfl))).trans (Fr.ofG hg3 (.inr rfl))⟩
    clear hs3 hg3 hgx
    go_wp2_with fail
    go_ret2
    exact ⟨rfl, HE.out⟩
end Go.Proofs.YtekjcmejnhhpaaaDoor
