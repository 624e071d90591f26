/- PROVED: for all numbers, made less than 2^20, LeapGlides answers true (a glider lies so many places to the right and downwards after four times so many steps, as the very same square: P6.2, P6.3), and the input is left as it was. No condition. -/
import Derived.Test.YtofbcngcblleaabGreatLpShift
import Derived.Test.YtofbcngcblleaabGreatLpBegun
import Derived.Test.YtofbcngcblleaabGreatLpStillLaw
import Derived.Laws.IdiomArrays
import Derived.Test.YtofbcngcblleaabGreatRows
namespace Go.Proofs.YtofbcngcblleaabGreat.A
open Go.RowKit Go.Maps Go.Proofs.YtofbcngcblleaabGreat.L
variable {ys zs ts : List (Int × Int)} {dx dy : Int}
theorem mem_mv {p : Int × Int} : p ∈ ys.map (mv dx dy) ↔ (p.1 - dx, p.2 - dy) ∈ ys := by
  rw [List.mem_map]
  constructor
  · rintro ⟨q, hq, rfl⟩
    simp only [mv]
    rw [show q.1 + dx - dx = q.1 by omega, show q.2 + dy - dy = q.2 by omega]
    exact hq
  · intro h
    exact ⟨_, h, Prod.ext (by simp only [mv]; omega) (by simp only [mv]; omega)⟩
theorem mv_tidy (h : Tidy ys) : Tidy (ys.map (mv dx dy)) := by
  refine List.Pairwise.map _ (fun a b hab => ?_) h
  unfold ahead at *
  simp only [mv]
  omega
theorem near_tidied (h : Tidy ys) (hl : ys.length ≤ 4096) (hf : ys.any farP = false) : tcode ys = 0 ∧ Tidied ys ys := by
  have hc : tcode ys = 0 := by
    unfold tcode
    rw [if_neg (by omega), if_neg (by rw [hf]; simp)]
  exact ⟨hc, h, fun p => ⟨fun hp => ⟨hp, hc⟩, fun hp => hp.1⟩⟩
theorem cellsG_moved : cellsG (ys.map (mv dx dy)) = fun x y => cellsG ys (x - dx) (y - dy) := by
  funext x y
  unfold cellsG
  exact decide_eq_decide.2 mem_mv
theorem any_far {K : Int} (hK : K ≤ 1099511627775) (h : ∀ p ∈ ys, -K ≤ p.1 ∧ p.1 ≤ K ∧ -K ≤ p.2 ∧ p.2 ≤ K) : ys.any farP = false := by
  rw [List.any_eq_false]
  intro p hp
  have := h p hp
  simp [farP, farI]
  omega
end Go.Proofs.YtofbcngcblleaabGreat.A

namespace Go.Proofs.YtofbcngcblleaabGreat.A
open Go.RowKit Go.Maps Go.Proofs.YtofbcngcblleaabGreat.L
structure GlM (w W : World) (o : Nat → Nat) (b : Nat) (A : Ar) (v : Value) (zs : List (Int × Int)) : Prop where
  ar : ArL W o b A
  row : Row W v zs
  far : ∀ g, v.ownBlock = some g → o g ≠ 1
  below : Below w.heap.size w W
  low : ∀ k, k < w.heap.size → o k ≠ 1
variable {w W W' : World} {o o' : Nat → Nat} {b : Nat} {A A' : Ar} {v : Value} {zs : List (Int × Int)}
theorem GlM.ch (h : GlM w W o b A v zs) (k : Ch (fun l => l = 1) o W o' W') (hA : ArL W' o' b A') : GlM w W' o' b A' v zs := by
  have hs := h.below.size
  have hlt : ∀ g, v.ownBlock = some g → g < W.heap.size := fun g hg => by
    rcases h.row with ⟨_, rfl⟩ | ⟨_, bb, off, c, rfl, h2, _⟩
    · cases hg
    · have : bb = g := by simpa [Value.ownBlock] using hg
      omega
  refine ⟨hA, ?_, fun g hg => by rw [k.lab g (hlt g hg)]; exact h.far g hg, ⟨k.os.trans h.below.os, k.tape.trans h.below.tape, k.output.trans h.below.output, Nat.le_trans hs k.size, fun i hi => (k.block i (by omega) (h.low i hi)).trans (h.below.block i hi)⟩, fun i hi => by rw [k.lab i (by omega)]; exact h.low i hi⟩
  have hf := h.far
  rcases h.row with h | ⟨h0, bb, off, c, rfl, h2, h3, h4, h5⟩
  · exact Or.inl h
  · have hb := k.block bb h2 (hf bb rfl)
    exact Or.inr ⟨h0, bb, off, c, rfl, Nat.lt_of_lt_of_le h2 k.size, h3, h4, fun j hj => ⟨(World.cell?_of_block (a := ⟨bb, off + j * 2, none⟩) hb).trans (h5 j hj).1, (World.cell?_of_block (a := ⟨bb, off + j * 2 + 1, none⟩) hb).trans (h5 j hj).2⟩⟩
theorem GlM.grow {u : Value} {ys : List (Int × Int)} (h : GlM w W o b A v zs) (k : Below W.heap.size W W') (hr : ORow W' W.heap.size u ys) : GlM w W' (ext o W.heap.size 0) b A u ys := by
  have h1 := h.ch (Ch.ofBelow k 0) (h.ar.ch (L := fun _ => False) (Ch.ofBelow k 0) fun h => h)
  refine ⟨h1.ar, hr.read, fun g hg => ?_, h1.below, h1.low⟩
  rcases hr with ⟨_, rfl⟩ | ⟨_, bb, off, c, rfl, h2, _⟩
  · cases hg
  · have : bb = g := by simpa [Value.ownBlock] using hg
    subst this
    rw [ext_new h2]
    decide
theorem from_gl {PR : (Bool → Nat → Bool) → Int → Prop} {ys : List (Int × Int)} {p e' : Int} (hst : NxSt PR 1 (fun _ => 199999) A') (h : FromR 1 A A' ys p e') (hl : ys.length ≤ 5) (hc : A.cnt 1 ≤ 90000) (hlim : A.lim 1 = 200000) : e' = 0 ∧ A'.cnt 1 ≤ A.cnt 1 + 300 ∧ A'.lim 1 = 200000 ∧ Goes1 1 A A' ∧ ∃ N, 1 ≤ N ∧ Rt A' 1 N p (cellsG ys) ∧ LeastG (N + 1) (cellsG ys) := by
  obtain ⟨N, f1, f2, f3, f4, f5⟩ := h
  have h1 := from_count f4 hst (by omega) (by omega)
  have h2 : (N + 1) * ys.length ≤ 41 * 5 := Nat.mul_le_mul (by omega) hl
  have h3 : A'.lim 1 = 200000 := f4.lim.trans hlim
  have hne : ¬ Er e' := gx_fine f4 hst (by show A'.cnt 1 < 199999; omega) (by omega)
  rcases f5 with ⟨h, _⟩ | ⟨h, hrt⟩
  · exact absurd h hne
  · refine ⟨h, by omega, h3, f4.toGoes1, N, f2, hrt, by omega, hrt.out, fun j h2 hj hf => f1.least j h2 hj fun p hp => ?_⟩
    obtain ⟨j', rfl⟩ : ∃ j', j = j' + 1 := ⟨j - 1, by omega⟩
    rw [halfN_succ, powI]
    have h3 := hf p.1 p.2 (by unfold cellsG; simpa using hp)
    rw [Nat.add_sub_cancel] at h3
    exact h3
theorem ph_tidy : Tidy (ph 0) := by
  unfold Tidy ph
  simp [ahead]
theorem ph_moved (k : Nat) (hk : k < 1048576) : tcode ((ph 0).map (mv k k)) = 0 ∧ Tidied ((ph 0).map (mv k k)) ((ph 0).map (mv k k)) ∧ (far2 (k : Int) || far2 (k : Int)) = false ∧ ((ph 0).map (mv k k)).any farP = false := by
  have hf : ((ph 0).map (mv (k : Int) k)).any farP = false := any_far (K := 2000000) (by omega) fun p hp => by
    have := ph_near 0 (by omega) _ (mem_mv.1 hp)
    simp only at this
    omega
  obtain ⟨h1, h2⟩ := near_tidied (mv_tidy (dx := (k : Int)) (dy := (k : Int)) ph_tidy) (by simp [ph]) hf
  exact ⟨h1, h2, by simp [far2]; omega, hf⟩
theorem gli_few {PR : (Bool → Nat → Bool) → Int → Prop} {q : Nat → Int} {s m : Nat} {x : Int} (h1 : NxSt PR 1 q A) (h2 : Rt A 1 m x (iter (lifeR 8 12) s (cellsG (ph 0)))) : (cellsF A.ths (m + 1) x).length < 4611686018427387904 := by
  have h3 := cells_few h1 (by omega) h2 ((ph (s % 4)).map (mv (((s / 4 : Nat) : Int)) ((s / 4 : Nat) : Int))) fun X Y hXY => by
    rw [glide] at hXY
    refine mem_mv.2 ?_
    have : (-((s / 4 : Nat) : Int) + X, -((s / 4 : Nat) : Int) + Y) ∈ ph (s % 4) := by unfold cellsG at hXY; simpa using hXY
    rwa [show X - ((s / 4 : Nat) : Int) = -((s / 4 : Nat) : Int) + X by omega, show Y - ((s / 4 : Nat) : Int) = -((s / 4 : Nat) : Int) + Y by omega]
  rw [List.length_map] at h3
  have h4 : ∀ i, i < 4 → (ph i).length = 5 := by decide
  have := h4 (s % 4) (Nat.mod_lt _ (by omega))
  omega
end Go.Proofs.YtofbcngcblleaabGreat.A

namespace Go.Proofs.YtofbcngcblleaabGreat.A
open Go.RowKit Go.Maps Go.Proofs.YtofbcngcblleaabGreat.L
set_option maxRecDepth 20000 in
set_option maxHeartbeats 8000000 in
theorem glides_law (n : Int) (w : World) : Calls Tryz.prog 3 #[.int .i64 n] w fun e w' => e = .returned (.bool true) ∧ Below w.heap.size w w' := by
  have s0 := fun W => spotJ_any n 1048576 W (by omega) (by omega)
  have b0 := spotJ_bound n 1048576 (by omega)
  generalize spotJ n 1048576 = N at *
  obtain ⟨k, rfl⟩ := Int.eq_ofNat_of_zero_le b0.1
  have w4 : IntKind.i64.wrap (4 * (k : Int)) = 4 * (k : Int) := by rw [IntKind.wrap_i64]; omega
  have hbg := fun W => begL_any W
  have HP : Hid (k < 1048576) := by show k < 1048576; omega
  have HT : Hid (tcode (ph 0) = 0 ∧ Tidied (ph 0) (ph 0)) := near_tidied ph_tidy (by simp [ph]) (any_far (K := 10) (by omega) fun p hp => by have := ph_near 0 (by omega) p hp; omega)
  clear b0
  go_enter Tryz.func3, Tryz.ntmps3
  go_wp2_with fail
  refine (s0 _).mono ?_
  rintro e wx ⟨rfl, rfl⟩
  go_wp2_with fail
  refine (hbg _).mono ?_
  rintro e w3 ⟨rfl, hA3, hb3⟩
  go_wp2_with fail
  generalize hwc : w3.alloc (.cells #[.int .i64 1, .int .i64 0, .int .i64 2, .int .i64 1, .int .i64 0, .int .i64 2, .int .i64 1, .int .i64 2, .int .i64 2, .int .i64 2] 27) = wc
  have hbc : Below w3.heap.size w3 wc := by rw [← hwc]; exact (Below.refl _ _).alloc (Nat.le_refl _) _
  have hg : wc.heap[w3.heap.size]? = some (.cells #[.int .i64 1, .int .i64 0, .int .i64 2, .int .i64 1, .int .i64 0, .int .i64 2, .int .i64 1, .int .i64 2, .int .i64 2, .int .i64 2] 27 (0, 0)) := by rw [← hwc]; exact heap_alloc_new w3 _
  have hrow : Row wc (.slice (some ⟨w3.heap.size, 0, none⟩) 5 5) (ph 0) := Or.inr ⟨by simp [ph], w3.heap.size, 0, 5, rfl, (Array.getElem?_eq_some_iff.1 hg).1, by simp [ph], by unfold maxLen; omega, fun j hj => by
    have hj4 : j = 0 ∨ j = 1 ∨ j = 2 ∨ j = 3 ∨ j = 4 := by simp [ph] at hj; omega
    rw [Lib.cell_of_heap hg, Lib.cell_of_heap hg]
    rcases hj4 with rfl | rfl | rfl | rfl | rfl <;> exact ⟨rfl, rfl⟩⟩
  have Q3 : GlM wx wc (ext (fun k => if k < wx.heap.size then 0 else 1) w3.heap.size 0) (wx.heap.size + 1) arBegL (.slice (some ⟨w3.heap.size, 0, none⟩) 5 5) (ph 0) := by
    have hs := hb3.size
    refine ⟨hA3.ch (L := fun _ => False) (Ch.ofBelow hbc 0) fun h => h, hrow, fun g hg => ?_, hb3.trans (hbc.mono hs), fun i hi => ?_⟩
    · have : w3.heap.size = g := by simpa [Value.ownBlock] using hg
      rw [ext_new (by omega)]
      decide
    · rw [ext_old (by omega), if_pos hi]
      decide
  obtain ⟨o3, ho3⟩ : ∃ o3, o3 = ext (fun k => if k < wx.heap.size then 0 else 1) w3.heap.size 0 := ⟨_, rfl⟩
  obtain ⟨b, hbb⟩ : ∃ b, b = wx.heap.size + 1 := ⟨_, rfl⟩
  obtain ⟨v3, hv3⟩ : ∃ v3, v3 = w3.heap.size := ⟨_, rfl⟩
  rw [← ho3, ← hbb, ← hv3] at Q3
  rw [← hbb, ← hv3]
  have hfr := from_rel (t := 1) Q3.ar (begL_st (oneR_u 8 12)) (by omega) _ (ph 0) (ph 0) Q3.row HT.out.1 HT.out.2
  have H3 : Hid (GlM wx wc o3 b arBegL (.slice (some ⟨v3, 0, none⟩) 5 5) (ph 0)) := Q3
  clear hg hrow hA3 hwc hbc hb3 hbg s0 Q3 ho3 hbb hv3
  refine hfr.mono ?_
  rintro r w4 ⟨p, e4, rfl, A4, o4, a1, a2, a3, a4⟩
  obtain ⟨rfl, c4, l4, g4, M, m1, rt4, lg4⟩ := from_gl a3 a4 (by simp [ph]) (by rw [begL_zero]; omega) begL_lim
  rw [begL_zero] at c4
  have Q4 := H3.out.ch a2 a1
  have hM : M ≤ 3 := by
    have := least_le lg4 (M := 3) (by omega) fun X Y h => by
      have := ph_in (by omega) h
      omega
    omega
  have h4k : ((4 * k : Nat) : Int) = 4 * (k : Int) := by omega
  have hst := Steps_rel (rb := 8) (rl := 12) a1 a3 (by omega) (by decide +kernel) ⟨rfl, rfl⟩ p M m1 (by omega) rt4 (4 * k) (by have := HP.out; omega) (fun s _ A' m' x' h1 h2 _ => gli_few h1 h2)
  rw [h4k] at hst
  have H4 : Hid (GlM wx w4 o4 b A4 (.slice (some ⟨v3, 0, none⟩) 5 5) (ph 0) ∧ A4.cnt 1 ≤ 300 ∧ A4.lim 1 = 200000) := ⟨Q4, by omega, l4⟩
  clear hfr a1 a2 a3 a4 c4 l4 g4 m1 rt4 lg4 Q4 hM h4k H3
  go_wp2_with fail
  refine hst.mono ?_
  rintro r w5 ⟨x, e5, rfl, A5, o5, a1, a2, a3, hR⟩
  have Q5 := H4.out.1.ch a2 a1
  have hmax : ∀ A' e', NxSt (oneR 8 12) 1 (fun _ => 199999) A' → Gx 1 A4 A' 0 e' (StepsD (lifeR 8 12) (rnum 8 12) (Has (view A4 1)) (cellsG (ph 0)) (4 * k)) → A'.cnt 1 ≤ 80000 ∧ A'.lim 1 = 200000 ∧ ¬ Er e' := fun A' e' h1 h2 => by
    have h3 := gx_count h2 h1 (by omega) (gliL (rnum 8 12) k) fun i hi => gli_steps HP.out hi
    rw [gliL_len] at h3
    have h4 : A'.lim 1 = 200000 := h2.lim.trans H4.out.2.2
    have h5 := H4.out.2.1
    exact ⟨by omega, h4, gx_fine h2 h1 (by show A'.cnt 1 < 199999; omega) (by omega)⟩
  obtain ⟨rfl, M5, lg5, rt5, c5, l5⟩ : e5 = 0 ∧ ∃ M5, LeastG (M5 + 1) (iter (lifeR 8 12) (4 * k) (cellsG (ph 0))) ∧ Rt A5 1 M5 x (iter (lifeR 8 12) (4 * k) (cellsG (ph 0))) ∧ A5.cnt 1 ≤ 80000 ∧ A5.lim 1 = 200000 := by
    rcases hR with ⟨h1, _, _, A1, h2, h3⟩ | ⟨h1, h2, M5, h3, h4⟩
    · exact absurd h1 (hmax _ _ h2 h3).2.2
    · obtain ⟨h5, h6, _⟩ := hmax _ _ a3 h2
      exact ⟨h1, M5, h3, h4, h5, h6⟩
  have hsh := shift_any (.slice (some ⟨v3, 0, none⟩) 5 5) (ph 0) k k w5 Q5.row
  have H5 : Hid (GlM wx w5 o5 b A5 (.slice (some ⟨v3, 0, none⟩) 5 5) (ph 0) ∧ NxSt (oneR 8 12) 1 (fun _ => 199999) A5 ∧ LeastG (M5 + 1) (iter (lifeR 8 12) (4 * k) (cellsG (ph 0))) ∧ Rt A5 1 M5 x (iter (lifeR 8 12) (4 * k) (cellsG (ph 0))) ∧ A5.cnt 1 ≤ 80000 ∧ A5.lim 1 = 200000) := ⟨Q5, a3, lg5, rt5, c5, l5⟩
  clear hst a1 a2 a3 hR Q5 hmax lg5 rt5 c5 l5 H4
  go_wp2_with fail
  refine hsh.mono ?_
  rintro e w6 ⟨u, ys, hT, rfl, hb6, hr6⟩
  have hys : ys = ph 0 := hT.unique HT.out.2
  obtain ⟨t1, t2, t3, t4⟩ := ph_moved k HP.out
  rw [hys, HT.out.1, shiftF_ok t3 t4] at hr6
  rw [hys, HT.out.1, shiftF_ok t3 t4]
  have Q6 := H5.out.1.grow hb6 hr6
  obtain ⟨o6, ho6⟩ : ∃ o6, o6 = ext o5 w5.heap.size 0 := ⟨_, rfl⟩
  rw [← ho6] at Q6
  have hfr := from_rel (t := 1) Q6.ar H5.out.2.1 (by omega) _ ((ph 0).map (mv k k)) ((ph 0).map (mv k k)) Q6.row t1 t2
  have H6 : Hid (GlM wx w6 o6 b A5 u ((ph 0).map (mv k k))) := Q6
  clear hsh hT hb6 hr6 hys t1 t2 t3 t4 Q6 ho6
  go_wp2_with fail
  refine hfr.mono ?_
  rintro r w7 ⟨y, e7, rfl, A7, o7, a1, a2, a3, a4⟩
  obtain ⟨rfl, _, _, g7, M7, m7, rt7, lg7⟩ := from_gl a3 a4 (by simp [ph]) (by have := H5.out.2.2.2.2.1; omega) H5.out.2.2.2.2.2
  rw [cellsG_moved, ← glide4] at rt7 lg7
  have hxy : x = y := root_one a3 (by omega) H5.out.2.2.1 lg7 (H5.out.2.2.2.1.go H5.out.2.1 (by omega) g7) rt7
  subst hxy
  have HB : Hid (Below wx.heap.size wx w7) := (H6.out.ch a2 a1).below
  clear hfr a1 a2 a3 a4 g7 m7 rt7 lg7 H5 H6
  go_wp2_with fail
  go_ret
  exact ⟨rfl, HB.out⟩
end Go.Proofs.YtofbcngcblleaabGreat.A

namespace Go.Proofs.YtofbcngcblleaabGreat
open Go.ChangeShapes Go.WideShapes Go.ChangeAt Go.RowKit Go.Joins
set_option maxRecDepth 100000 in
theorem glides_lifted (os : Os) (started : os.Started) (H : Type) (enc : TypeId × Value → H) :
    ReturnsInHanded {} Tryz.checked os 3 .any (Rows.leapGlidesSpec.pre6 enc Tryz.prog Tryz.f3 Rows.leapGlidesRow.domain false) (Rows.leapGlidesSpec.post enc Tryz.prog Tryz.f3 false true false false) := by
  refine returnsInHanded_of_change_sized (C := Tryz.checked) (by kernel_rfl) started (by kernel_rfl) Tryz.func3
    (ChangeSpec.witness6 (enc := enc) (C := Tryz.checked) false ⟨#[], #[.int .i64 0], []⟩ 6 (by kernel_rfl) (by kernel_rfl) (by kernel_rfl) (by kernel_rfl)) ?_
  intro W base args ds gs before hval0 hW _ _ _
  have hval : ∀ (j : Nat) t v, Tryz.f3.params[j]? = some t → args[j]? = some v → Value.okWide Tryz.prog W .any base t v := hval0
  have hW' := hW
  obtain ⟨p, q, hA0, hV, rfl, _, _⟩ := hW
  have hA : DataW.TrodAll enc Tryz.prog W 0 (fun _ => true) true Tryz.f3.params.toList args.toList ds p := hA0
  rw [Tryz.params3] at hA hval
  obtain ⟨v0, d0, rfl, rfl, h0⟩ := trodAll_one hA
  obtain ⟨rfl, rfl⟩ := trodVars_none hV
  obtain ⟨n, rfl, rfl, rfl, wn⟩ := open_int Tryz.underlying3 (hval 0 3 v0 rfl rfl) h0
  clear hA0 hval0
  refine (A.glides_law n W).mono fun e W' ⟨he, hb⟩ => ?_
  subst he
  refine ⟨_, rfl, _, _, _, [], [], [], hW', ?_, ?_, rfl, hb.frame _, fun h => by cases h⟩
  · exact trodAll_mk1 (shut_bool Tryz.underlying4 true)
  · exact trodAll_mk1 (shut_int Tryz.underlying3 wn)
theorem glides_holds : Rows.LeapGlidesSaid :=
  OpenClaim.holds_of_wide 3 Tryz.f3 rfl rfl rfl rfl rfl rfl rfl ⟨rfl, rfl, rfl, rfl, rfl⟩ rfl rfl rfl rfl rfl (by kernel_rfl) Tryz.func3 (by kernel_rfl)
    (of_decide_eq_true (by kernel_rfl)) (by unfold Func.isWrapper; first | (rw [if_pos (by decide +kernel)]; kernel_rfl) | (rw [if_neg (by decide +kernel)]; exact ⟨rfl, rfl⟩))
    (fun os started H enc _ => glides_lifted os started H enc)
#print axioms glides_holds
end Go.Proofs.YtofbcngcblleaabGreat
