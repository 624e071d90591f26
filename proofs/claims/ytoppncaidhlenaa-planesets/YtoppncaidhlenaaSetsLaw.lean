/- PlaneSets: the walk of the law itself. -/
import Derived.Test.YtoppncaidhlenaaUnion
namespace Go.Proofs.Ytoppncaidhlenaa
open Go.RowKit Go.Lib Go.Sort

theorem some_any (v : Value) (zs : List (Int × Int)) (w : World) (h : RRow w v zs) :
    Calls Try.prog 23 #[v, .int .i64 1000, .int .i64 549755813888] w fun e w' => ∃ u, e = .returned u ∧ Below w.heap.size w w' ∧ Row w' u (someL zs) := by
  obtain ⟨a, c, rfl, _, _, _, h⟩ := h
  rcases h with h | ⟨b, off, rfl, hb, hp⟩
  · have hz := List.length_eq_zero_iff.1 h
    subst hz
    exact (some_none a c w).mono fun e w' ⟨he, hw⟩ => ⟨_, he, by rw [hw]; exact Below.refl _ _, Or.inl ⟨rfl, rfl⟩⟩
  · exact (some_some b off _ c zs w hb rfl hp).mono fun e w' ⟨u, he, hbel, hk⟩ => ⟨u, he, hbel, hk.row⟩

/-- rows that stand in one world -/
def AllRows (w : World) (l : List (Value × List (Int × Int))) : Prop := ∀ x ∈ l, Row w x.1 x.2
theorem AllRows.cons {w w' : World} {l : List (Value × List (Int × Int))} {v : Value} {zs : List (Int × Int)} (h : AllRows w l) (hb : Below w.heap.size w w') (hr : Row w' v zs) : AllRows w' ((v, zs) :: l) := by
  intro x hx
  rcases List.mem_cons.1 hx with rfl | hx
  · exact hr
  · exact (h x hx).below hb
theorem AllRows.below {w w' : World} {l : List (Value × List (Int × Int))} (h : AllRows w l) (hb : Below w.heap.size w w') : AllRows w' l := fun x hx => (h x hx).below hb

theorem sub_code {R S : List (Int × Int)} (hT : Tidy R) (hs : ∀ p, p ∈ R → p ∈ S) (hf : S.any farP = false) (hl : S.length ≤ 4096) : tcode R = 0 ∧ R.length ≤ S.length := by
  have h1 : R.length ≤ S.length := len_le (hT.imp fun {a b} hab e => by subst e; exact ahead_irrefl a hab) hs
  refine ⟨tcode_zero.2 ⟨by omega, ?_⟩, h1⟩
  rw [List.any_eq_false] at *
  exact fun p hp => hf p (hs p hp)
theorem someL_len (zs : List (Int × Int)) : (someL zs).length ≤ 1000 := by simp [someL]; omega
theorem someL_near (zs : List (Int × Int)) : (someL zs).any farP = false := (tcode_zero.1 (someL_code zs)).2
theorem near_append {a b : List (Int × Int)} (ha : a.any farP = false) (hb : b.any farP = false) : (a ++ b).any farP = false := by rw [List.any_append, ha, hb]; rfl

set_option linter.unusedSimpArgs false in
set_option maxHeartbeats 4000000 in
theorem sets_any (v u t : Value) (l m n : List (Int × Int)) (w : World) (hv : RRow w v l) (hu : RRow w u m) (ht : RRow w t n) :
    Calls Try.prog 7 #[v, u, t] w fun e w' => e = .returned (.bool true) ∧ Below w.heap.size w w' := by
  have HU : Hid (RRow w u m ∧ RRow w t n) := ⟨hu, ht⟩
  have hsl := some_any v l w hv
  clear hv hu ht
  have lL := someL_len l
  have lM := someL_len m
  have lN := someL_len n
  have cL := someL_code l
  have cM := someL_code m
  have cN := someL_code n
  have CC : Hid (tcode (someL l) = 0 ∧ tcode (someL m) = 0 ∧ tcode (someL n) = 0 ∧ (someL l).any farP = false ∧ (someL m).any farP = false) := ⟨cL, cM, cN, someL_near l, someL_near m⟩
  have CN : Hid ((someL n).any farP = false) := someL_near n
  clear cL cM cN
  have hsm := fun W (hb : Below w.heap.size w W) => some_any u m W (HU.out.1.below hb)
  have hsn := fun W (hb : Below w.heap.size w W) => some_any t n W (HU.out.2.below hb)
  generalize someL l = L at *
  generalize someL m = M at *
  generalize someL n = N at *
  go_enter Try.func7, Try.ntmps7
  go_wp2_with fail
  refine hsl.mono ?_
  rintro e w1 ⟨vl, rfl, b1, r1⟩
  have a1 : Hid (AllRows w1 [(vl, L)]) := fun x hx => by rw [List.mem_singleton.1 hx]; exact r1
  go_wp2_with fail
  refine (hsm w1 b1).mono ?_
  rintro e w2 ⟨vm, rfl, c2, r2⟩
  have b2 : Below w.heap.size w w2 := b1.trans (c2.mono b1.size)
  have a2 : Hid (AllRows w2 [(vm, M), (vl, L)]) := a1.out.cons c2 r2
  go_wp2_with fail
  refine (hsn w2 b2).mono ?_
  rintro e w3 ⟨vn, rfl, c3, r3⟩
  have b3 : Below w.heap.size w w3 := b2.trans (c3.mono b2.size)
  have a3 : Hid (AllRows w3 [(vn, N), (vm, M), (vl, L)]) := a2.out.cons c3 r3
  clear hsl hsm hsn a1 a2 r1 r2 r3 c2 c3 b1 b2
  go_wp2_with fail
  refine (union_any vl vm L M w3 (a3.out (vl, L) (by simp)) (a3.out (vm, M) (by simp)) CC.out.1 CC.out.2.1 (by omega)).mono ?_
  rintro e w4 ⟨vab, R1, rfl, c4, t1, m1, r4⟩
  have b4 : Below w.heap.size w w4 := b3.trans (c4.mono b3.size)
  have a4 : Hid (AllRows w4 [(vab, R1), (vn, N), (vm, M), (vl, L)]) := a3.out.cons c4 r4
  have T1 : Hid (Tidy R1 ∧ ∀ p, p ∈ R1 ↔ p ∈ L ∨ p ∈ M) := ⟨t1, fun p => by rw [m1 p]; by_cases h1 : p ∈ L <;> by_cases h2 : p ∈ M <;> simp [h1, h2]⟩
  clear a3 b3 c4 t1 m1 r4
  go_wp2_with fail
  refine (union_any vm vl M L w4 (a4.out (vm, M) (by simp)) (a4.out (vl, L) (by simp)) CC.out.2.1 CC.out.1 (by omega)).mono ?_
  rintro e w5 ⟨vba, R2, rfl, c5, t2, m2, r5⟩
  have b5 : Below w.heap.size w w5 := b4.trans (c5.mono b4.size)
  have e2 : R2 = R1 := tidy_unique _ _ t2 T1.out.1 fun p => by rw [m2 p, T1.out.2 p]; by_cases h1 : p ∈ L <;> by_cases h2 : p ∈ M <;> simp [h1, h2]
  subst e2
  have a5 : Hid (AllRows w5 [(vba, R2), (vab, R2), (vn, N), (vm, M), (vl, L)]) := a4.out.cons c5 r5
  clear a4 b4 c5 t2 m2 r5
  obtain ⟨k1, k2⟩ := sub_code (S := L ++ M) T1.out.1 (fun p hp => by rw [List.mem_append]; exact (T1.out.2 p).1 hp) (near_append CC.out.2.2.2.1 CC.out.2.2.2.2) (by rw [List.length_append]; omega)
  rw [List.length_append] at k2
  have K1 : Hid (tcode R2 = 0) := k1
  clear k1
  go_wp2_with fail
  refine (union_any vab vn R2 N w5 (a5.out (vab, R2) (by simp)) (a5.out (vn, N) (by simp)) K1.out CC.out.2.2.1 (by omega)).mono ?_
  rintro e w6 ⟨vabc, R3, rfl, c6, t3, m3, r6⟩
  have b6 : Below w.heap.size w w6 := b5.trans (c6.mono b5.size)
  have T3 : Hid (Tidy R3 ∧ ∀ p, p ∈ R3 ↔ p ∈ R2 ∨ p ∈ N) := ⟨t3, fun p => by rw [m3 p]; by_cases h1 : p ∈ R2 <;> by_cases h2 : p ∈ N <;> simp [h1, h2]⟩
  have a6 : Hid (AllRows w6 [(vabc, R3), (vba, R2), (vab, R2), (vn, N), (vm, M), (vl, L)]) := a5.out.cons c6 r6
  clear a5 b5 c6 t3 m3 r6
  go_wp2_with fail
  refine (union_any vm vn M N w6 (a6.out (vm, M) (by simp)) (a6.out (vn, N) (by simp)) CC.out.2.1 CC.out.2.2.1 (by omega)).mono ?_
  rintro e w7 ⟨vbc, R4, rfl, c7, t4, m4, r7⟩
  have b7 : Below w.heap.size w w7 := b6.trans (c7.mono b6.size)
  have T4 : Hid (Tidy R4 ∧ ∀ p, p ∈ R4 ↔ p ∈ M ∨ p ∈ N) := ⟨t4, fun p => by rw [m4 p]; by_cases h1 : p ∈ M <;> by_cases h2 : p ∈ N <;> simp [h1, h2]⟩
  have a7 : Hid (AllRows w7 [(vbc, R4), (vabc, R3), (vba, R2), (vab, R2), (vn, N), (vm, M), (vl, L)]) := a6.out.cons c7 r7
  obtain ⟨k3, k4⟩ := sub_code (S := M ++ N) T4.out.1 (fun p hp => by rw [List.mem_append]; exact (T4.out.2 p).1 hp) (near_append CC.out.2.2.2.2 CN.out) (by rw [List.length_append]; omega)
  rw [List.length_append] at k4
  have K3 : Hid (tcode R4 = 0) := k3
  clear a6 b6 c7 t4 m4 r7 k3
  go_wp2_with fail
  refine (union_any vl vbc L R4 w7 (a7.out (vl, L) (by simp)) (a7.out (vbc, R4) (by simp)) CC.out.1 K3.out (by omega)).mono ?_
  rintro e w8 ⟨vcba, R5, rfl, c8, t5, m5, r8⟩
  have b8 : Below w.heap.size w w8 := b7.trans (c8.mono b7.size)
  have e5 : R5 = R3 := tidy_unique _ _ t5 T3.out.1 fun p => by
    have h4 := T4.out.2 p
    rw [m5 p, T3.out.2 p, T1.out.2 p]
    by_cases h1 : p ∈ L <;> by_cases h2 : p ∈ M <;> by_cases h3 : p ∈ N <;> simp [h1, h2, h3] at h4 <;> simp [h1, h2, h3, h4]
  subst e5
  have a8 : Hid (AllRows w8 [(vcba, R5), (vabc, R5), (vba, R2), (vab, R2), (vm, M), (vl, L)]) := fun x hx => by
    have h := a7.out.cons c8 r8
    exact h x (by simp at hx ⊢; rcases hx with h | h | h | h | h | h <;> simp [h])
  clear a7 b7 c8 t5 m5 r8
  go_wp2_with fail
  refine (both_any vl vm L M w8 (a8.out (vl, L) (by simp)) (a8.out (vm, M) (by simp)) CC.out.1 CC.out.2.1 (by omega)).mono ?_
  rintro e w9 ⟨vx, R6, rfl, c9, t6, m6, r9⟩
  have b9 : Below w.heap.size w w9 := b8.trans (c9.mono b8.size)
  have T6 : Hid (Tidy R6 ∧ ∀ p, p ∈ R6 ↔ p ∈ L ∧ p ∈ M) := ⟨t6, fun p => by rw [m6 p]; by_cases h1 : p ∈ L <;> by_cases h2 : p ∈ M <;> simp [h1, h2]⟩
  have a9 : Hid (AllRows w9 [(vx, R6), (vcba, R5), (vabc, R5), (vba, R2), (vab, R2), (vm, M), (vl, L)]) := a8.out.cons c9 r9
  clear a8 b8 c9 t6 m6 r9
  go_wp2_with fail
  refine (both_any vm vl M L w9 (a9.out (vm, M) (by simp)) (a9.out (vl, L) (by simp)) CC.out.2.1 CC.out.1 (by omega)).mono ?_
  rintro e w10 ⟨vy, R7, rfl, c10, t7, m7, r10⟩
  have b10 : Below w.heap.size w w10 := b9.trans (c10.mono b9.size)
  have e7 : R7 = R6 := tidy_unique _ _ t7 T6.out.1 fun p => by rw [m7 p, T6.out.2 p]; by_cases h1 : p ∈ L <;> by_cases h2 : p ∈ M <;> simp [h1, h2]
  subst e7
  have a10 : Hid (AllRows w10 [(vy, R7), (vx, R7), (vcba, R5), (vabc, R5), (vba, R2), (vab, R2), (vm, M), (vl, L)]) := a9.out.cons c10 r10
  clear a9 b9 c10 t7 m7 r10
  go_wp2_with fail
  refine (minus_any vl vm L M w10 (a10.out (vl, L) (by simp)) (a10.out (vm, M) (by simp)) CC.out.1 CC.out.2.1 (by omega)).mono ?_
  rintro e w11 ⟨vp, R8, rfl, c11, t8, m8, r11⟩
  have b11 : Below w.heap.size w w11 := b10.trans (c11.mono b10.size)
  have T8 : Hid (Tidy R8 ∧ ∀ p, p ∈ R8 ↔ p ∈ L ∧ ¬ p ∈ M) := ⟨t8, fun p => by rw [m8 p]; by_cases h1 : p ∈ L <;> by_cases h2 : p ∈ M <;> simp [h1, h2]⟩
  have a11 : Hid (AllRows w11 [(vp, R8), (vy, R7), (vx, R7), (vcba, R5), (vabc, R5), (vba, R2), (vab, R2), (vm, M), (vl, L)]) := a10.out.cons c11 r11
  obtain ⟨k5, k6⟩ := sub_code (S := L) T8.out.1 (fun p hp => ((T8.out.2 p).1 hp).1) CC.out.2.2.2.1 (by omega)
  obtain ⟨k7, k8⟩ := sub_code (S := L) T6.out.1 (fun p hp => ((T6.out.2 p).1 hp).1) CC.out.2.2.2.1 (by omega)
  have K5 : Hid (tcode R8 = 0 ∧ tcode R7 = 0) := ⟨k5, k7⟩
  clear a10 b10 c11 t8 m8 r11 k5 k7
  go_wp2_with fail
  refine (union_any vp vx R8 R7 w11 (a11.out (vp, R8) (by simp)) (a11.out (vx, R7) (by simp)) K5.out.1 K5.out.2 (by omega)).mono ?_
  rintro e w12 ⟨vq, R9, rfl, c12, t9, m9, r12⟩
  have b12 : Below w.heap.size w w12 := b11.trans (c12.mono b11.size)
  have T9 : Hid (Tidy R9 ∧ ∀ p, p ∈ R9 ↔ p ∈ L) := ⟨t9, fun p => by
    have h4 := T8.out.2 p
    have h5 := T6.out.2 p
    rw [m9 p]
    by_cases h1 : p ∈ L <;> by_cases h2 : p ∈ M <;> simp [h1, h2] at h4 h5 <;> simp [h1, h4, h5]⟩
  have a12 : Hid (AllRows w12 [(vq, R9), (vp, R8), (vy, R7), (vx, R7), (vcba, R5), (vabc, R5), (vba, R2), (vab, R2), (vm, M), (vl, L)]) := a11.out.cons c12 r12
  clear a11 b11 c12 t9 m9 r12
  have htl := tidy_told vl L w12 (a12.out (vl, L) (by simp))
  rw [CC.out.1] at htl
  go_wp2_with fail
  refine htl.mono ?_
  rintro e w13 ⟨vt, ys, rfl, c13, t10, r13⟩
  have b13 : Below w.heap.size w w13 := b12.trans (c13.mono b12.size)
  have e10 : ys = R9 := tidy_unique _ _ t10.1 T9.out.1 fun p => by rw [t10.2 p, T9.out.2 p, CC.out.1]; simp
  subst e10
  have a13 : Hid (AllRows w13 [(vt, ys), (vq, ys), (vy, R7), (vx, R7), (vcba, R5), (vabc, R5), (vba, R2), (vab, R2)]) := fun x hx => by
    have h := a12.out.cons c13 r13.read
    exact h x (by simp at hx ⊢; rcases hx with h | h | h | h | h | h | h | h <;> simp [h])
  clear a12 b12 c13 t10 r13 htl
  go_wp2_with fail
  refine (alive_any w13).mono ?_
  rintro e w14 ⟨rfl, c14⟩
  have b14 : Below w.heap.size w w14 := b13.trans (c14.mono b13.size)
  have A14 : Hid (AllRows w14 [(vt, ys), (vq, ys), (vy, R7), (vx, R7), (vcba, R5), (vabc, R5), (vba, R2), (vab, R2)]) := a13.out.below c14
  go_wp2_with fail
  refine (same_any vab vba R2 w14 (A14.out (vab, R2) (by simp)) (A14.out (vba, R2) (by simp))).mono ?_
  rintro e w15 ⟨rfl, c15⟩
  go_wp2_with fail
  refine (same_any vabc vcba R5 w15 (AllRows.below A14.out c15 (vabc, R5) (by simp)) (AllRows.below A14.out c15 (vcba, R5) (by simp))).mono ?_
  rintro e w16 ⟨rfl, c16⟩
  have c26 : Below w14.heap.size w14 w16 := c15.trans (c16.mono c15.size)
  go_wp2_with fail
  refine (same_any vx vy R7 w16 (AllRows.below A14.out c26 (vx, R7) (by simp)) (AllRows.below A14.out c26 (vy, R7) (by simp))).mono ?_
  rintro e w17 ⟨rfl, c17⟩
  have c27 : Below w14.heap.size w14 w17 := c26.trans (c17.mono c26.size)
  go_wp2_with fail
  refine (same_any vq vt ys w17 (AllRows.below A14.out c27 (vq, ys) (by simp)) (AllRows.below A14.out c27 (vt, ys) (by simp))).mono ?_
  rintro e w18 ⟨rfl, c18⟩
  have c28 : Below w14.heap.size w14 w18 := c27.trans (c18.mono c27.size)
  go_wp2_with fail
  go_ret
  exact ⟨rfl, b14.trans (c28.mono b14.size)⟩
end Go.Proofs.Ytoppncaidhlenaa
