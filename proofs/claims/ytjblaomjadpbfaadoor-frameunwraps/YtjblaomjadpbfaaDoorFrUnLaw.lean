/- FrameUnwraps: the law's walk. -/
import Derived.Test.YtjblaomjadpbfaaDoorFrRefUn
import Derived.Test.YtjblaomjadpbfaaDoorFrSame
namespace Go.Proofs.YtjblaomjadpbfaaDoor
open Go.RowKit

theorem joinW_first {ts : List (List UInt8)} {t : List UInt8} (h : wrapL t = joinW ts) : ts = [t] := joinW_inj ts [t] (by rw [joinW_one, h])

set_option maxRecDepth 20000 in
set_option maxHeartbeats 2000000 in
theorem unwraps_law (s : List UInt8) (w : World) (hs : s.length ≤ 140737488351232) :
    Calls Tryd.prog 4 #[.string ⟨s.toArray⟩] w (fun e w' => e = .returned (.bool true) ∧ Below w.heap.size w w') := by
  have c1 := unwrap_any s w hs
  have c2 := fun W => refUnwrap_any s W hs
  have c3 : ∀ W, Calls Tryd.prog 13 #[.string ⟨#[97]⟩] W fun e w' => e = .returned (.string ⟨(wrapL [97]).toArray⟩) ∧ Below W.heap.size W w' := fun W => refWrap_any [97] W (by simp)
  have c4 := fun W => unwrap_any (wrapL [97]) W (by rw [wrapL_short (by simp), frameOf_len 0 (by simp)]; omega)
  have c5 := fun v u ts W h1 h2 h3 => sameTexts_any v u ts W h1 h2 h3
  obtain ⟨SB, hS⟩ : ∃ S, S = (⟨s.toArray⟩ : ByteArray) := ⟨_, rfl⟩
  obtain ⟨XB, hX⟩ : ∃ X, X = (⟨(wrapL [97]).toArray⟩ : ByteArray) := ⟨_, rfl⟩
  rw [← hS] at c1 c2 ⊢
  rw [← hX] at c3 c4
  clear hS hX
  go_enter Tryd.func4, Tryd.ntmps4
  go_wp2_with fail
  refine c1.mono ?_
  rintro e w1 ⟨hb1, h1⟩
  clear c1
  obtain ⟨v1, k1, rfl, H1⟩ : ∃ v1 k1, e = .returned (.tuple #[v1, .int .i64 k1]) ∧ Hid ((∃ ts, s = joinW ts ∧ Texts w1 w.heap.size v1 ts ∧ k1 = 0) ∨ ((∀ ts, s ≠ joinW ts) ∧ v1 = .slice none 0 0 ∧ k1 = 2)) := by
    rcases h1 with ⟨v, ts, h1, h2, h3⟩ | ⟨h1, h2⟩
    · exact ⟨v, 0, h3, Or.inl ⟨ts, h1, h2, rfl⟩⟩
    · exact ⟨_, 2, h2, Or.inr ⟨h1, rfl, rfl⟩⟩
  clear h1
  go_wp2_with fail
  refine (c2 _).mono ?_
  rintro e w2 ⟨hb2, h2⟩
  clear c2
  obtain ⟨v2, k2, rfl, H2⟩ : ∃ v1 k1, e = .returned (.tuple #[v1, .int .i64 k1]) ∧ Hid ((∃ ts, s = joinW ts ∧ Texts w2 w1.heap.size v1 ts ∧ k1 = 0) ∨ ((∀ ts, s ≠ joinW ts) ∧ v1 = .slice none 0 0 ∧ k1 = 2)) := by
    rcases h2 with ⟨v, ts, h1, h2, h3⟩ | ⟨h1, h2⟩
    · exact ⟨v, 0, h3, Or.inl ⟨ts, h1, h2, rfl⟩⟩
    · exact ⟨_, 2, h2, Or.inr ⟨h1, rfl, rfl⟩⟩
  clear h2
  obtain ⟨ts, hR1, hR2, hk, htl⟩ : ∃ ts, TRow w2 v1 ts ∧ TRow w2 v2 ts ∧ k1 = k2 ∧ ts.length ≤ 140737488351232 := by
    rcases H1.out with ⟨ts, h1, h2, h3⟩ | ⟨h1, h2, h3⟩
    · rcases H2.out with ⟨ts', h4, h5, h6⟩ | ⟨h4, _, _⟩
      · obtain rfl : ts = ts' := joinW_inj _ _ (h1.symm.trans h4)
        refine ⟨ts, (h2.below hb2).row, h5.row, h3.trans h6.symm, ?_⟩
        have := joinW_len ts
        rw [← h1] at this
        omega
      · exact absurd h1 (h4 ts)
    · rcases H2.out with ⟨ts', h4, _, _⟩ | ⟨_, h5, h6⟩
      · exact absurd h4 (h1 ts')
      · exact ⟨[], by rw [h2]; exact tRow_nil _, by rw [h5]; exact tRow_nil _, h3.trans h6.symm, by simp⟩
  have b2 : Below w.heap.size w w2 := hb1.trans (hb2.mono hb1.size)
  subst hk
  clear H1 H2 hb1 hb2
  go_wp2_with fail
  refine (c3 _).mono ?_
  rintro e w3 ⟨rfl, hb3⟩
  have hR3 := hR1.below hb3
  have hR4 := hR2.below hb3
  have b3 : Below w.heap.size w w3 := b2.trans (hb3.mono b2.size)
  clear c3 hR1 hR2 hb3
  go_wp2_with fail
  refine (c4 _).mono ?_
  rintro e w4 ⟨hb4, h4⟩
  have hR5 := hR3.below hb4
  have hR6 := hR4.below hb4
  have b4 : Below w.heap.size w w4 := b3.trans (hb4.mono b3.size)
  have c6 := c5 v1 v2 ts w4 htl hR5 hR6
  clear c4 hR3 hR4 hb4 c5 hR5 hR6 htl
  rcases h4 with ⟨v4, ts4, h5, h6, rfl⟩ | ⟨h5, _⟩
  · obtain rfl := joinW_first h5
    obtain ⟨xa, xc, rfl, _⟩ := h6.row
    clear h5 h6
    go_wp2_with fail
    refine c6.mono ?_
    rintro e w5 ⟨rfl, hb5⟩
    go_wp2_with fail
    go_ret
    exact ⟨rfl, b4.trans (hb5.mono b4.size)⟩
  · exact absurd (joinW_one [97]).symm (h5 [[97]])
end Go.Proofs.YtjblaomjadpbfaaDoor
