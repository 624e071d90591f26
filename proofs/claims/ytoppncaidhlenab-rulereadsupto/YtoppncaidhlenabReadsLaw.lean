/- RuleReads: the walk of the law itself. -/
import Derived.Test.YtoppncaidhlenabRefRead
namespace Go.Proofs.Ytoppncaidhlenab
open Go.RowKit
set_option maxRecDepth 4000 in
set_option maxHeartbeats 4000000 in
theorem readsLaw_any
    (s : ByteArray) (m : Int) (w : World) (hs : s.size < 4294967281) (hm : w.cell? ⟨0, 0, none⟩ = some (.int .i64 m)) :
    Calls Try.prog 5 #[.string s] w fun e w' => e = .returned (.bool true) ∧ Below w.heap.size w w' := by
  have hrd := read_any s m w hs hm
  have hrf := fun W => refRead_any s W hs
  rw [ref_is] at hrd
  obtain ⟨x, y, c, hR⟩ : ∃ x y c, refF s.data.toList = (x, y, c) := ⟨_, _, _, rfl⟩
  rw [hR] at hrd hrf
  simp only at hrd hrf
  have hsz : 0 < w.heap.size := by
    by_cases h : 0 < w.heap.size
    · exact h
    · simp [World.cell?, Array.getElem?_eq_none (show w.heap.size ≤ 0 by omega)] at hm
  clear hR
  go_enter Try.func5, Try.ntmps5
  go_wp2_with fail
  refine hrd.mono ?_
  rintro e w1 ⟨rfl, c1⟩
  have q1 := RuleIn.born w1 x y 37
  have b1 : Below w.heap.size w (w1.alloc (.cells #[.int .i64 x, .int .i64 y] 37)) := c1.alloc c1.size _
  go_wp2_with fail
  refine (hrf _).mono ?_
  rintro e w2 ⟨rfl, c2⟩
  have b2 : Below w.heap.size w w2 := b1.trans (c2.mono b1.size)
  have q2 := q1.go c2
  have q3 := RuleIn.born w2 x y 37
  have b3 : Below w.heap.size w (w2.alloc (.cells #[.int .i64 x, .int .i64 y] 37)) := b2.alloc b2.size _
  have q4 := q2.go ((Below.refl w2.heap.size w2).alloc (Nat.le_refl _) (.cells #[.int .i64 x, .int .i64 y] 37))
  have hm3 : (w2.alloc (.cells #[.int .i64 x, .int .i64 y] 37)).cell? ⟨0, 0, none⟩ = some (.int .i64 m) := (b3.cell (p := ⟨0, 0, none⟩) hsz).trans hm
  have hr3 := read_any ⟨#[66, 51, 47, 83, 50, 51]⟩ m _ (by decide) hm3
  rw [show readF (⟨#[66, 51, 47, 83, 50, 51]⟩ : ByteArray).data.toList = (8, 12, 0) by decide +kernel] at hr3
  simp only at hr3
  clear hm3 hrf hrd
  go_wp2_with fail
  refine hr3.mono ?_
  rintro e w3 ⟨rfl, c3⟩
  have b4 : Below w.heap.size w w3 := b3.trans (c3.mono b3.size)
  have p1 := (q4.go c3).go ((Below.refl w3.heap.size w3).alloc (Nat.le_refl _) (.cells #[.int .i64 8, .int .i64 12] 37))
  have p2 := (q3.go c3).go ((Below.refl w3.heap.size w3).alloc (Nat.le_refl _) (.cells #[.int .i64 8, .int .i64 12] 37))
  have p3 := RuleIn.born w3 8 12 37
  have b5 : Below w.heap.size w (w3.alloc (.cells #[.int .i64 8, .int .i64 12] 37)) := b4.alloc b4.size _
  obtain ⟨g0, g1, _⟩ := p1
  obtain ⟨h0, h1, _⟩ := p2
  obtain ⟨k0, k1, _⟩ := p3
  clear q1 q2 q3 q4 c1 c2 c3 b1 b2 b3 b4 hr3
  go_wp2_with fail
  go_ret
  exact ⟨rfl, b5⟩
end Go.Proofs.Ytoppncaidhlenab
