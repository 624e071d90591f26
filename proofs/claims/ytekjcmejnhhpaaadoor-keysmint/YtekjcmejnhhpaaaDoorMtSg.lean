/- Whole numbers with a sign, in memory: give, Set, Mul, Lsh, Rsh. -/
import Derived.Test.YtekjcmejnhhpaaaDoorBigRest
import Derived.Test.YtekjcmejnhhpaaaDoorBigXor
import Derived.Test.YtekjcmejnhhpaaaDoorBigSum
import Derived.Deep.RegionHeld3
import Derived.Deep.RegionWith
namespace Go.Proofs.YtekjcmejnhhpaaaDoor
open Go.RowKit

/-- a whole number by its sign and its size -/
def Sg (b : Nat) (neg : Bool) (n : Nat) (w : World) : Prop := ∃ a k c, w.heap[b]? = some (.cells #[.bool neg, .slice a k c] 44 (0, 0)) ∧ Wd w (b + 1) (.slice a k c) n
theorem Sg.of {b n : Nat} {w : World} (h : IsInt b n w) : Sg b false n w := by
  obtain ⟨v, hv, hw⟩ := h
  have hw' := hw
  obtain ⟨a, k, c, rfl, _⟩ := hw
  exact ⟨a, k, c, hv, hw'⟩
theorem Sg.int {b n : Nat} {w : World} (h : Sg b false n w) : IsInt b n w := let ⟨_, _, _, h1, h2⟩ := h; ⟨_, h1, h2⟩
theorem Sg.lt {b n : Nat} {s : Bool} {w : World} (h : Sg b s n w) : b < w.heap.size := let ⟨_, _, _, h1, _⟩ := h; (Array.getElem?_eq_some_iff.1 h1).1
theorem Sg.go {b n : Nat} {s : Bool} {w w' : World} (h : Sg b s n w) (hb : Below w.heap.size w w') : Sg b s n w' := by
  have hl := h.lt
  obtain ⟨a, k, c, h1, h2⟩ := h
  exact ⟨a, k, c, (hb.block b hl).trans h1, h2.below hb⟩
theorem Sg.block {b n : Nat} {s : Bool} {w : World} (h : Sg b s n w) : ∃ p q, w.heap[b]? = some (.cells #[p, q] 44 (0, 0)) := let ⟨_, _, _, h1, _⟩ := h; ⟨_, _, h1⟩
/-- the block of a number: a sign and a row -/
def Ib (b : Nat) (w : World) : Prop := ∃ x a k c, w.heap[b]? = some (.cells #[.bool x, .slice a k c] 44 (0, 0))
theorem Sg.ib {b n : Nat} {s : Bool} {w : World} (h : Sg b s n w) : Ib b w := let ⟨_, _, _, h1, _⟩ := h; ⟨_, _, _, _, h1⟩
theorem Ib.lt {b : Nat} {w : World} (h : Ib b w) : b < w.heap.size := let ⟨_, _, _, _, h1⟩ := h; (Array.getElem?_eq_some_iff.1 h1).1
theorem Ib.go {b : Nat} {w w' : World} (h : Ib b w) (hb : Below w.heap.size w w') : Ib b w' := by
  have hl := h.lt
  obtain ⟨x, a, k, c, h1⟩ := h
  exact ⟨x, a, k, c, (hb.block b hl).trans h1⟩
theorem Ib.born (w : World) : Ib w.heap.size (w.alloc (.cells #[.bool false, .slice none 0 0] 44)) := ⟨_, _, _, _, heap_alloc_new w _⟩
theorem Sg.other {b b' n : Nat} {s : Bool} {w w' : World} (h : Sg b s n w) (hg : w.grownBy w' (some b')) (hne : b ≠ b') (hb : Ib b' w) : Sg b s n w' := by
  obtain ⟨a, k, c, h1, h2⟩ := h
  obtain ⟨x, a', k', c', hb⟩ := hb
  exact ⟨a, k, c, (hg.block b (Array.getElem?_eq_some_iff.1 h1).1 (fun e => hne (Option.some.inj e))).trans h1, h2.other hg ⟨x, a', k', c', _, _, hb⟩⟩
theorem Ib.other {b b' : Nat} {w w' : World} (h : Ib b w) (hg : w.grownBy w' (some b')) (hne : b ≠ b') : Ib b w' := by
  have hl := h.lt
  obtain ⟨x, a, k, c, h1⟩ := h
  exact ⟨x, a, k, c, (hg.block b hl (fun e => hne (Option.some.inj e))).trans h1⟩
theorem gset (w : World) (R i : Nat) (v : Value) : w.grownBy (w.setCell ⟨R, i, none⟩ v) (some R) :=
  ⟨rfl, rfl, rfl, by simp [World.setCell], fun k _ hne => Below.heap_setCell _ _ _ _ (fun e => hne (by rw [e]))⟩
/-- 'give' with a sign -/
theorem giveG_any (b : Nat) (neg sg : Bool) (n : Nat) (v : Value) (w : World) (hb : Ib b w) (hv : Wd w (b + 1) v n) (hsg : sg = (neg && decide (n ≠ 0))) :
    Calls Tryd.prog 31 #[.pointer (some ⟨b, 0, none⟩), .bool neg, v] w fun e w' => e = .returned (.pointer (some ⟨b, 0, none⟩)) ∧ Sg b sg n w' ∧ w.grownBy w' (some b) := by
  obtain ⟨x', a', k', c', hb⟩ := hb
  have c0 : w.cell? ⟨b, 0, none⟩ = some (.bool x') := by rw [Lib.cell_of_heap hb]; rfl
  have c1 : w.cell? ⟨b, 1, none⟩ = some (.slice a' k' c') := by rw [Lib.cell_of_heap hb]; rfl
  have f0 := Lib.frozen_of_heap hb 0
  have f1 := Lib.frozen_of_heap hb 1
  have HV : Hid (Wd w (b + 1) v n) := hv
  have HB : Hid (w.heap[b]? = some (.cells #[.bool x', .slice a' k' c'] 44 (0, 0))) := hb
  obtain ⟨a, k, c, rfl, _, _, _, hN, hp, _⟩ := hv
  cases neg with
  | false =>
    have h1 : sg = false := hsg
    subst h1
    clear hb hN hp hsg
    go_enter Tryd.func31, Tryd.ntmps31
    go_wp2_with fail
    go_ret
    refine ⟨rfl, ⟨a, k, c, ?_, (HV.out.setCell (by omega)).setCell (by omega)⟩, (grown_trans (gset w b 1 _) (gset _ b 0 _))⟩
    exact Go.Joins.block_setCell (Go.Joins.block_setCell HB.out _) _
  | true =>
    by_cases h0 : n = 0
    · obtain rfl : k = 0 := by
        rcases Nat.eq_zero_or_pos k with e | e
        · exact e
        · have := hp (by omega)
          have := wpos (k - 1)
          omega
      have h1 : sg = false := by rw [hsg, h0]; rfl
      subst h1
      clear hb hN hp h0 hsg
      go_enter Tryd.func31, Tryd.ntmps31
      go_wp2_with fail
      go_ret
      refine ⟨rfl, ⟨a, 0, c, ?_, (HV.out.setCell (by omega)).setCell (by omega)⟩, (grown_trans (gset w b 1 _) (gset _ b 0 _))⟩
      exact Go.Joins.block_setCell (Go.Joins.block_setCell HB.out _) _
    · have hk0 : (0 : Int) < (k : Int) := by
        rcases Nat.eq_zero_or_pos k with e | e
        · subst e; simp at hN; omega
        · omega
      have hkd : decide (0 < k) = true := decide_eq_true (by omega)
      have h1 : sg = true := by rw [hsg]; simp [h0]
      subst h1
      clear hb hN hp h0 hsg
      go_enter Tryd.func31, Tryd.ntmps31
      go_wp2_with fail
      go_ret
      refine ⟨rfl, ⟨a, k, c, ?_, (HV.out.setCell (by omega)).setCell (by omega)⟩, (grown_trans (gset w b 1 _) (gset _ b 0 _))⟩
      exact Go.Joins.block_setCell (Go.Joins.block_setCell HB.out _) _

set_option maxRecDepth 20000 in
set_option maxHeartbeats 1000000 in
theorem setG_any (z x n : Nat) (w : World) (hz : Ib z w) (hx : Sg x false n w) (hne : x ≠ z) (h0 : n ≠ 0) :
    Calls Tryd.prog 54 #[.pointer (some ⟨z, 0, none⟩), .pointer (some ⟨x, 0, none⟩)] w fun e w' => e = .returned (.pointer (some ⟨z, 0, none⟩)) ∧ Sg z false n w' ∧ w.grownBy w' (some z) := by
  have HX : Hid (Sg x false n w) := hx
  obtain ⟨a, k, c, bx, vx⟩ := hx
  have x0 : w.drew.cell? ⟨x, 0, none⟩ = some (.bool false) := by rw [show w.drew.cell? _ = w.cell? _ from rfl, Lib.cell_of_heap bx]; rfl
  have x1 : w.drew.cell? ⟨x, 1, none⟩ = some (.slice a k c) := by rw [show w.drew.cell? _ = w.cell? _ from rfl, Lib.cell_of_heap bx]; rfl
  have htw := twin_any _ (.slice a k c) n w.drew (vx.below (drewB w 1)) h0
  have HS : Hid (∀ W : World, W.heap[x]? = w.heap[x]? → W.cell? ⟨x, 0, none⟩ = some (.bool false) ∧ W.cell? ⟨x, 1, none⟩ = some (.slice a k c)) := fun W h => ⟨(World.cell?_of_block (a := ⟨x, 0, none⟩) h).trans x0, (World.cell?_of_block (a := ⟨x, 1, none⟩) h).trans x1⟩
  have HXL : Hid (x < w.heap.size ∧ x ≠ z ∧ z < w.heap.size) := ⟨HX.out.lt, hne, hz.lt⟩
  have HZ : Hid (Ib z w) := hz
  clear bx vx hz hne h0
  go_enter Tryd.func54, Tryd.ntmps54
  go_wp2_with fail
  go_region_held3 (fun W => W.cell? ⟨x, 0, none⟩ = some (.bool false) ∧ W.cell? ⟨x, 1, none⟩ = some (.slice a k c)) (first | exact ⟨x0, x1⟩ | exact HS.out _ ((hg2.block x (by have := HXL.out; have := hb1.size; simp at this; omega) (fun e => HXL.out.2.1 (Option.some.inj e))).trans (hb1.block x HXL.out.1)) | exact HS.out _ (hb1.block x HXL.out.1)) ((first
    | (go_at_call 45; refine htw.mono ?_; rintro e w1 ⟨u, rfl, hu, hb1⟩)
    | (go_at_call 31; refine (giveG_any z false false n u w1 (HZ.out.go ⟨hb1.os, hb1.tape, hb1.output, hb1.size, hb1.block⟩) (hu.mono (by have := HXL.out.2.2; simp; omega)) rfl).mono ?_; rintro e w2 ⟨rfl, hs2, hg2⟩)))
  have HE : Hid (Sg z false n w2 ∧ w.grownBy w2 (some z)) := ⟨hs2, grown_under ⟨hb1.os, hb1.tape, hb1.output, hb1.size, hb1.block⟩ hg2⟩
  clear hs2 hg2 hb1 hu x0 x1 htw
  go_wp2_with fail
  go_ret
  exact ⟨rfl, HE.out⟩
set_option maxRecDepth 20000 in
set_option maxHeartbeats 1000000 in
theorem mulG_any (z x y n m : Nat) (w : World) (hz : Ib z w) (hx : Sg x false n w) (hy : Sg y false m w) (hzx : x ≠ z) (hzy : y ≠ z) (hs : Few n ∧ m < 18446744073709551616) :
    Calls Tryd.prog 37 #[.pointer (some ⟨z, 0, none⟩), .pointer (some ⟨x, 0, none⟩), .pointer (some ⟨y, 0, none⟩)] w fun e w' => e = .returned (.pointer (some ⟨z, 0, none⟩)) ∧ Sg z false (n * m) w' ∧ w.grownBy w' (some z) := by
  have HX : Hid (Sg x false n w) := hx
  have HY : Hid (Sg y false m w) := hy
  obtain ⟨a, k, c, bx, vx⟩ := hx
  obtain ⟨a', k', c', hby, vy⟩ := hy
  have x0 : w.drew.cell? ⟨x, 0, none⟩ = some (.bool false) := by rw [show w.drew.cell? _ = w.cell? _ from rfl, Lib.cell_of_heap bx]; rfl
  have x1 : w.drew.cell? ⟨x, 1, none⟩ = some (.slice a k c) := by rw [show w.drew.cell? _ = w.cell? _ from rfl, Lib.cell_of_heap bx]; rfl
  have y0 : w.drew.cell? ⟨y, 0, none⟩ = some (.bool false) := by rw [show w.drew.cell? _ = w.cell? _ from rfl, Lib.cell_of_heap hby]; rfl
  have y1 : w.drew.cell? ⟨y, 1, none⟩ = some (.slice a' k' c') := by rw [show w.drew.cell? _ = w.cell? _ from rfl, Lib.cell_of_heap hby]; rfl
  have htw := bigMul_any _ _ n m (.slice a k c) (.slice a' k' c') w.drew (vx.below (drewB w 1)) (vy.below (drewB w 1)) hs
  have HS : Hid (∀ W : World, W.heap[x]? = w.heap[x]? → W.heap[y]? = w.heap[y]? → (W.cell? ⟨x, 0, none⟩ = some (.bool false) ∧ W.cell? ⟨x, 1, none⟩ = some (.slice a k c)) ∧ W.cell? ⟨y, 0, none⟩ = some (.bool false) ∧ W.cell? ⟨y, 1, none⟩ = some (.slice a' k' c')) := fun W h h' => ⟨⟨(World.cell?_of_block (a := ⟨x, 0, none⟩) h).trans x0, (World.cell?_of_block (a := ⟨x, 1, none⟩) h).trans x1⟩, (World.cell?_of_block (a := ⟨y, 0, none⟩) h').trans y0, (World.cell?_of_block (a := ⟨y, 1, none⟩) h').trans y1⟩
  have HXL : Hid ((x < w.heap.size ∧ x ≠ z) ∧ (y < w.heap.size ∧ y ≠ z) ∧ z < w.heap.size) := ⟨⟨HX.out.lt, hzx⟩, ⟨HY.out.lt, hzy⟩, hz.lt⟩
  have HZ : Hid (Ib z w) := hz
  have hnb : (false != false) = false := rfl
  clear bx vx hz hzx hzy hby vy hs
  generalize hnm : n * m = N at *
  clear hnm
  go_enter Tryd.func37, Tryd.ntmps37
  go_wp2_with fail
  go_region_held3 (fun W => (W.cell? ⟨x, 0, none⟩ = some (.bool false) ∧ W.cell? ⟨x, 1, none⟩ = some (.slice a k c)) ∧ W.cell? ⟨y, 0, none⟩ = some (.bool false) ∧ W.cell? ⟨y, 1, none⟩ = some (.slice a' k' c')) (first | exact ⟨⟨x0, x1⟩, y0, y1⟩ | exact HS.out _ ((hg2.block x (by have := HXL.out; have := hb1.size; simp at this; omega) (fun e => HXL.out.1.2 (Option.some.inj e))).trans (hb1.block x HXL.out.1.1)) ((hg2.block y (by have := HXL.out; have := hb1.size; simp at this; omega) (fun e => HXL.out.2.1.2 (Option.some.inj e))).trans (hb1.block y HXL.out.2.1.1)) | exact HS.out _ (hb1.block x HXL.out.1.1) (hb1.block y HXL.out.2.1.1)) ((first
    | (go_at_call 35; refine htw.mono ?_; rintro e w1 ⟨u, rfl, hu, hb1⟩)
    | (go_at_call 31; refine (giveG_any z false false N u w1 (HZ.out.go ⟨hb1.os, hb1.tape, hb1.output, hb1.size, hb1.block⟩) (hu.mono (by have := HXL.out.2.2; simp; omega)) rfl).mono ?_; rintro e w2 ⟨rfl, hs2, hg2⟩)))
  have HE : Hid (Sg z false N w2 ∧ w.grownBy w2 (some z)) := ⟨hs2, grown_under ⟨hb1.os, hb1.tape, hb1.output, hb1.size, hb1.block⟩ hg2⟩
  clear hs2 hg2 hb1 hu x0 x1 y0 y1 htw
  go_wp2_with fail
  go_ret
  exact ⟨rfl, HE.out⟩
set_option maxRecDepth 20000 in
set_option maxHeartbeats 1000000 in
theorem rshG_any (z x n s : Nat) (w : World) (hz : Ib z w) (hx : Sg x false n w) (hs : Few n) (hsl : s < 32) :
    Calls Tryd.prog 25 #[.pointer (some ⟨z, 0, none⟩), .pointer (some ⟨x, 0, none⟩), .int .u64 s] w fun e w' => e = .returned (.pointer (some ⟨z, 0, none⟩)) ∧ Sg z false (n / 2 ^ s) w' ∧ w.grownBy w' (some z) := by
  have HX : Hid (Sg x false n w) := hx
  obtain ⟨a, k, c, bx, vx⟩ := hx
  have x0 : w.cell? ⟨x, 0, none⟩ = some (.bool false) := by rw [Lib.cell_of_heap bx]; rfl
  have x1 : w.cell? ⟨x, 1, none⟩ = some (.slice a k c) := by rw [Lib.cell_of_heap bx]; rfl
  have htw := bigRight_any _ n s (.slice a k c) w vx hs hsl
  have HZ : Hid (Ib z w) := hz
  have HZL : Hid (z < w.heap.size) := hz.lt
  clear bx vx hz hs hsl
  generalize hnm : n / 2 ^ s = N at *
  clear hnm
  go_enter Tryd.func25, Tryd.ntmps25
  go_wp2_with fail
  refine htw.mono ?_
  rintro e w1 ⟨u, rfl, hu, hb1⟩
  have HB : Hid (Below w.heap.size w w1) := hb1
  have hgv := giveG_any z false false N u w1 (HZ.out.go hb1) (hu.mono (by have := HZL.out; omega)) rfl
  clear htw hu hb1 x0 x1
  go_wp2_with fail
  refine hgv.mono ?_
  rintro e w2 ⟨rfl, hs2, hg2⟩
  have HE : Hid (Sg z false N w2 ∧ w.grownBy w2 (some z)) := ⟨hs2, grown_under HB.out hg2⟩
  clear hs2 hg2 hgv
  go_wp2_with fail
  go_ret
  exact ⟨rfl, HE.out⟩
end Go.Proofs.YtekjcmejnhhpaaaDoor
