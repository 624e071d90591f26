/- LeapStill. -/
import Derived.Test.YtofbcngcblleaaaGreatLpBlock
namespace Go.Proofs.YtofbcngcblleaaaGreat.A
open Go.RowKit Go.Maps Go.Proofs.YtofbcngcblleaaaGreat.L

/-- the one rule of these laws -/
def oneR (rb rl : Int) (R : Bool → Nat → Bool) (rn : Int) : Prop := R = lifeR rb rl ∧ rn = rnum rb rl
theorem oneR_u (rb rl : Int) : ∀ R R' rn, oneR rb rl R rn → oneR rb rl R' rn → R = R' := fun _ _ _ h k => h.1.trans k.1.symm
theorem block_tidied (dx dy : Int) (h : 0 ≤ dx ∧ dx < 1073741824 ∧ 0 ≤ dy ∧ dy < 1073741824) : tcode (blockL dx dy) = 0 ∧ Tidied (blockL dx dy) (blockL dx dy) := by
  have hc : tcode (blockL dx dy) = 0 := by
    unfold tcode blockL
    rw [if_neg (by simp), if_neg (by simp [farP, farI]; omega)]
  refine ⟨hc, ?_, fun p => ⟨fun hp => ⟨hp, hc⟩, fun hp => hp.1⟩⟩
  unfold Tidy blockL
  simp [ahead]
  omega
/-- a least root of the same plane is the same root -/
theorem root_one {PR : (Bool → Nat → Bool) → Int → Prop} {t : Nat} {q : Nat → Int} {A : Ar} {N M : Nat} {x y : Int} {g : Gr} (hst : NxSt PR t q A) (ht : t < 64) (h1 : LeastG (N + 1) g) (h2 : LeastG (M + 1) g) (hx : Rt A t N x g) (hy : Rt A t M y g) : x = y := by
  have e := h1.unique h2
  have e' : N = M := by omega
  subst e'
  have hw := hst.g.wel t ht
  refine sq_one (uq_view hst.s t) (N + 1) (isSq_of_lev hw hst.p _ _ hx.lev) (isSq_of_lev hw hst.p _ _ hy.lev) fun X Y hX hY => ?_
  rw [hx.shows X Y hX hY, hy.shows X Y hX hY]
set_option maxRecDepth 20000 in
set_option maxHeartbeats 4000000 in
theorem still_law (n dx dy : Int) (w : World) : Calls Tryz.prog 8 #[.int .i64 n, .int .i64 dx, .int .i64 dy] w fun e w' => e = .returned (.bool true) ∧ Below w.heap.size w w' := by
  have s0 := fun W => spotJ_any n 1073741825 W (by omega) (by omega)
  have s1 := fun W => spotJ_any dx 1073741824 W (by omega) (by omega)
  have s2 := fun W => spotJ_any dy 1073741824 W (by omega) (by omega)
  have b0 := spotJ_bound n 1073741825 (by omega)
  have b1 := spotJ_bound dx 1073741824 (by omega)
  have b2 := spotJ_bound dy 1073741824 (by omega)
  generalize spotJ n 1073741825 = N at *
  generalize spotJ dx 1073741824 = X at *
  generalize spotJ dy 1073741824 = Y at *
  obtain ⟨k, rfl⟩ := Int.eq_ofNat_of_zero_le b0.1
  have w1 : IntKind.i64.wrap (X + 1) = X + 1 := by rw [IntKind.wrap_i64]; omega
  have w2 : IntKind.i64.wrap (Y + 1) = Y + 1 := by rw [IntKind.wrap_i64]; omega
  have hbg := fun W => begL_any W
  obtain ⟨t1, t2⟩ := block_tidied X Y ⟨b1.1, b1.2, b2.1, b2.2⟩
  have HT : Hid (tcode (blockL X Y) = 0 ∧ Tidied (blockL X Y) (blockL X Y)) := ⟨t1, t2⟩
  have HP : Hid ((0 ≤ X ∧ X < 1073741824 ∧ 0 ≤ Y ∧ Y < 1073741824) ∧ k ≤ 1073741824) := ⟨⟨b1.1, b1.2, b2.1, b2.2⟩, by omega⟩
  clear t1 t2 b0
  go_enter Tryz.func8, Tryz.ntmps8
  go_wp2_with fail
  refine (s0 _).mono ?_
  rintro e wx ⟨rfl, rfl⟩
  go_wp2_with fail
  refine (s1 _).mono ?_
  rintro e wx ⟨rfl, rfl⟩
  go_wp2_with fail
  refine (s2 _).mono ?_
  rintro e wx ⟨rfl, rfl⟩
  go_wp2_with fail
  refine (hbg _).mono ?_
  rintro e w3 ⟨rfl, hA3, hb3⟩
  go_wp2_with fail
  generalize hwc : w3.alloc (.cells #[.int .i64 X, .int .i64 Y, .int .i64 (X + 1), .int .i64 Y, .int .i64 X, .int .i64 (Y + 1), .int .i64 (X + 1), .int .i64 (Y + 1)] 52) = wc
  have hbc : Below w3.heap.size w3 wc := by rw [← hwc]; exact (Below.refl _ _).alloc (Nat.le_refl _) _
  have hg : wc.heap[w3.heap.size]? = some (.cells #[.int .i64 X, .int .i64 Y, .int .i64 (X + 1), .int .i64 Y, .int .i64 X, .int .i64 (Y + 1), .int .i64 (X + 1), .int .i64 (Y + 1)] 52 (0, 0)) := by rw [← hwc]; exact heap_alloc_new w3 _
  have hrow : Row wc (.slice (some ⟨w3.heap.size, 0, none⟩) 4 4) (blockL X Y) := Or.inr ⟨by simp [blockL], w3.heap.size, 0, 4, rfl, (Array.getElem?_eq_some_iff.1 hg).1, by simp [blockL], by unfold maxLen; omega, fun j hj => by
    have hj4 : j = 0 ∨ j = 1 ∨ j = 2 ∨ j = 3 := by simp [blockL] at hj; omega
    rw [Lib.cell_of_heap hg, Lib.cell_of_heap hg]
    rcases hj4 with rfl | rfl | rfl | rfl <;> exact ⟨rfl, rfl⟩⟩
  have hAc := hA3.ch (L := fun _ => False) (Ch.ofBelow hbc 0) fun h => h
  have hfr := from_rel (t := 1) hAc (begL_st (oneR_u 8 12)) (by omega) _ (blockL X Y) (blockL X Y) hrow HT.out.1 HT.out.2
  have HB : Hid (Below wx.heap.size wx wc ∧ wx.heap.size ≤ w3.heap.size) := ⟨hb3.trans (hbc.mono hb3.size), hb3.size⟩
  clear hg hrow hAc hA3 hwc hbc hb3 hbg s0 s1 s2
  refine hfr.mono ?_
  rintro r w4 ⟨p, e4, rfl, A4, o4, a1, a2, a3, N, f1, f2, f3, f4, f5⟩
  have hylen : (blockL X Y).length = 4 := rfl
  have hcnt4 : A4.cnt 1 ≤ 300 := by
    have h1 := from_count f4 a3 (by omega) (by omega)
    rw [begL_zero, hylen] at h1
    have h2 : (N + 1) * 4 ≤ 41 * 4 := Nat.mul_le_mul_right 4 (by omega)
    omega
  have hlim4 : A4.lim 1 = 200000 := f4.lim.trans begL_lim
  have hne4 : ¬ Er e4 := gx_fine f4 a3 (by show A4.cnt 1 < 199999; omega) (by omega)
  obtain ⟨rfl, hrt⟩ : e4 = 0 ∧ Rt A4 1 N p (cellsG (blockL X Y)) := by
    rcases f5 with ⟨h, _⟩ | h
    · exact absurd h hne4
    · exact h
  obtain ⟨g, hgd⟩ : ∃ g, g = cellsG (blockL X Y) := ⟨_, rfl⟩
  have hgp := block_plane X Y (ys := blockL X Y) fun _ => Iff.rfl
  have hitr : ∀ s, iter (lifeR 8 12) s g = g := fun s => by rw [hgd, hgp]; exact block_iter X Y s
  have hgin : ∀ X' Y', g X' Y' = true → (X', Y') ∈ blockL X Y := fun X' Y' h => by rw [hgd] at h; unfold cellsG at h; simpa using h
  have hgb : ∀ X' Y', g X' Y' = true → X ≤ X' ∧ X' ≤ X + 1 ∧ Y ≤ Y' ∧ Y' ≤ Y + 1 := fun X' Y' h => by
    have := hgin X' Y' h
    simp only [blockL, List.mem_cons, Prod.mk.injEq, List.not_mem_nil, or_false] at this
    omega
  rw [← hgd] at hrt
  have hlg : LeastG (N + 1) g := by
    refine ⟨by omega, hrt.out, fun j h2 hj hf => f1.least j h2 hj fun p hp => ?_⟩
    obtain ⟨j', rfl⟩ : ∃ j', j = j' + 1 := ⟨j - 1, by omega⟩
    rw [halfN_succ, powI]
    have h3 := hf p.1 p.2 (by rw [hgd]; unfold cellsG; simpa using hp)
    rw [Nat.add_sub_cancel] at h3
    exact h3
  have hN31 : N ≤ 31 := by
    have := least_le hlg (M := 31) (by omega) fun X' Y' h => by
      have := hgb X' Y' h
      have := HP.out
      omega
    omega
  have hst := Steps_rel (rb := 8) (rl := 12) a1 a3 (by omega) (by decide +kernel) ⟨rfl, rfl⟩ p N f2 (by omega) hrt k HP.out.2 (fun s _ A' m' x' h1 h2 _ => by
    rw [hitr] at h2
    have := cells_few h1 (by omega) h2 (blockL X Y) hgin
    rw [hylen] at this
    omega)
  have H4 : Hid (Ch (fun l => l = 1) (ext (fun k => if k < wx.heap.size then 0 else 1) w3.heap.size 0) wc o4 w4 ∧ NxSt (oneR 8 12) 1 (fun _ => 199999) A4 ∧ Rt A4 1 N p g ∧ LeastG (N + 1) g) := ⟨a2, a3, hrt, hlg⟩
  clear f4 f5 hfr a1 a2 a3 hrt
  go_wp2_with fail
  refine hst.mono ?_
  rintro r w5 ⟨x, e5, rfl, A5, o5, a1, a2, a3, hR⟩
  have hcov : ∀ i, StepsD (lifeR 8 12) (rnum 8 12) (Has (view A4 1)) g k i → i ∈ stillL g (rnum 8 12) X Y := fun i hi => still_steps hitr hgb (by have := HP.out; omega) hi
  have hmax : ∀ A' e', NxSt (oneR 8 12) 1 (fun _ => 199999) A' → Gx 1 A4 A' 0 e' (StepsD (lifeR 8 12) (rnum 8 12) (Has (view A4 1)) g k) → ¬ Er e' := fun A' e' h1 h2 => by
    have h3 := gx_count h2 h1 (by omega) _ hcov
    rw [still_len] at h3
    have h4 : A'.lim 1 = 200000 := h2.lim.trans hlim4
    exact gx_fine h2 h1 (by show A'.cnt 1 < 199999; omega) (by omega)
  have hfin : e5 = 0 ∧ x = p := by
    rcases hR with ⟨h1, _, _, A1, h2, h3⟩ | ⟨h1, h2, M, h3, h4⟩
    · exact absurd h1 (hmax _ _ h2 h3)
    · refine ⟨h1, ?_⟩
      rw [hitr] at h3 h4
      exact root_one a3 (by omega) h3 H4.out.2.2.2 h4 (H4.out.2.2.1.go H4.out.2.1 (by omega) h2.toGoes1)
  obtain ⟨rfl, rfl⟩ := hfin
  have HB5 : Hid (Below wx.heap.size wx w5) := by
    have c := H4.out.1.trans a2
    have hs := HB.out.1.size
    refine ⟨c.os.trans HB.out.1.os, c.tape.trans HB.out.1.tape, c.output.trans HB.out.1.output, Nat.le_trans hs c.size, fun i hi => (c.block i (by omega) ?_).trans (HB.out.1.block i hi)⟩
    rw [ext_old (by have := HB.out.2; omega), if_pos hi]
    decide
  clear hst hR a1 a2 a3 hcov hmax
  go_wp2_with fail
  go_ret
  exact ⟨rfl, HB5.out⟩
end Go.Proofs.YtofbcngcblleaaaGreat.A
