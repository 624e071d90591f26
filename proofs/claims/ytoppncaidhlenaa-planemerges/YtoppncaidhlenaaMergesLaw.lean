/- PlaneMerges: the walk of the law itself. -/
import Derived.Test.YtoppncaidhlenaaRefMerge
namespace Go.Proofs.Ytoppncaidhlenaa
open Go.RowKit Go.Lib Go.Sort

/-- the order of the answers hangs on what keep says of cells that are in one of the lists -/
theorem mg_same {k1 k2 : Bool → Bool → Bool} (h : ∀ a b, (a || b) = true → k1 a b = k2 a b) {la lb : List (Int × Int)} (ha : Tidy la) (hb : Tidy lb) : mg k1 (la.length + lb.length) la lb = mg k2 (la.length + lb.length) la lb := by
  obtain ⟨s1, s2⟩ := mg_spec k1 _ la lb ha hb (Nat.le_refl _)
  obtain ⟨r1, r2⟩ := mg_spec k2 _ la lb ha hb (Nat.le_refl _)
  refine tidy_unique _ _ s1 r1 fun p => ?_
  rw [s2 p, r2 p]
  constructor
  · rintro ⟨e, k⟩
    refine ⟨e, ?_⟩
    rw [← h]
    · exact k
    · simpa using e
  · rintro ⟨e, k⟩
    refine ⟨e, ?_⟩
    rw [h]
    · exact k
    · simpa using e
theorem mergeF_same {k1 k2 : Bool → Bool → Bool} (h : ∀ a b, (a || b) = true → k1 a b = k2 a b) {la lb : List (Int × Int)} (ha : Tidy la) (hb : Tidy lb) (tc uc : Int) : mergeF k1 tc uc la lb = mergeF k2 tc uc la lb := by
  unfold mergeF
  rw [mg_same h ha hb]

/-- an answer that is told -/
def Says (F : Int × List (Int × Int)) (w : World) (e : Ending) (w' : World) : Prop :=
  ∃ x, e = .returned (.tuple #[x, .int .i64 F.1]) ∧ Below w.heap.size w w' ∧ Row w' x F.2
theorem says_of {k1 k2 : Bool → Bool → Bool} {za zb ys ts : List (Int × Int)} {w w' : World} {e : Ending} (h : ∀ a b, (a || b) = true → k1 a b = k2 a b) (hy : Tidied za ys) (ht : Tidied zb ts) (hm : MergeOut k1 za zb w e w') : Says (mergeF k2 (tcode za) (tcode zb) ys ts) w e w' := by
  obtain ⟨u, ys', ts', h1, h2, he, hb, hr⟩ := hm
  have e1 := h1.unique hy
  have e2 := h2.unique ht
  subst e1 e2
  rw [mergeF_same h h1.1 h2.1] at he hr
  exact ⟨u, he, hb, hr⟩

/-- the three ways of keeping -/
def kU (x y : Bool) : Bool := x || y
def kB (x y : Bool) : Bool := x && y
def kM (x y : Bool) : Bool := x && !y

set_option maxHeartbeats 400000 in
theorem rkeepU_any (a b : Bool) (w : World) : Calls Try.prog 39 #[.bool a, .bool b] w fun e w' => e = .returned (.bool ((fun _ _ : Bool => true) a b)) ∧ w' = w := by
  cases a <;> cases b <;> (go_enter Try.func39, Try.ntmps39; go_wp2; go_ret; exact ⟨rfl, rfl⟩)
set_option maxHeartbeats 400000 in
theorem rkeepB_any (a b : Bool) (w : World) : Calls Try.prog 41 #[.bool a, .bool b] w fun e w' => e = .returned (.bool ((fun x y : Bool => x && y) a b)) ∧ w' = w := by
  cases a <;> cases b <;> (go_enter Try.func41, Try.ntmps41; go_wp2; go_ret; exact ⟨rfl, rfl⟩)
set_option maxHeartbeats 400000 in
theorem rkeepM_any (a b : Bool) (w : World) : Calls Try.prog 43 #[.bool a, .bool b] w fun e w' => e = .returned (.bool ((fun _ y : Bool => !y) a b)) ∧ w' = w := by
  cases a <;> cases b <;> (go_enter Try.func43, Try.ntmps43; go_wp2; go_ret; exact ⟨rfl, rfl⟩)

set_option maxHeartbeats 400000 in
theorem unionS (v u : Value) (za zb ys ts : List (Int × Int)) (w : World) (hv : Row w v za) (hu : Row w u zb) (hy : Tidied za ys) (ht : Tidied zb ts) :
    Calls Try.prog 13 #[v, u] w fun e w' => Says (mergeF kU (tcode za) (tcode zb) ys ts) w e w' := by
  have hm := (merge_any (fun x y => x || y) 37 (enters_of Try.func37 (by kernel_rfl) rfl) keepU_any v u za zb w hv hu).mono fun e w' h => says_of (k2 := kU) (by intro a b; cases a <;> cases b <;> simp [kU]) hy ht h
  clear hv hu
  generalize mergeF kU (tcode za) (tcode zb) ys ts = F at *
  go_enter Try.func13, Try.ntmps13
  go_wp2_with fail
  refine hm.mono ?_
  rintro e w1 ⟨x, rfl, h1, h2⟩
  go_wp2_with fail
  go_ret2
  exact ⟨x, rfl, h1, h2⟩

set_option maxHeartbeats 400000 in
theorem bothS (v u : Value) (za zb ys ts : List (Int × Int)) (w : World) (hv : Row w v za) (hu : Row w u zb) (hy : Tidied za ys) (ht : Tidied zb ts) :
    Calls Try.prog 15 #[v, u] w fun e w' => Says (mergeF kB (tcode za) (tcode zb) ys ts) w e w' := by
  have hm := (merge_any (fun x y => x && y) 40 (enters_of Try.func40 (by kernel_rfl) rfl) keepB_any v u za zb w hv hu).mono fun e w' h => says_of (k2 := kB) (by intro a b; cases a <;> cases b <;> simp [kB]) hy ht h
  clear hv hu
  generalize mergeF kB (tcode za) (tcode zb) ys ts = F at *
  go_enter Try.func15, Try.ntmps15
  go_wp2_with fail
  refine hm.mono ?_
  rintro e w1 ⟨x, rfl, h1, h2⟩
  go_wp2_with fail
  go_ret2
  exact ⟨x, rfl, h1, h2⟩

set_option maxHeartbeats 400000 in
theorem minusS (v u : Value) (za zb ys ts : List (Int × Int)) (w : World) (hv : Row w v za) (hu : Row w u zb) (hy : Tidied za ys) (ht : Tidied zb ts) :
    Calls Try.prog 17 #[v, u] w fun e w' => Says (mergeF kM (tcode za) (tcode zb) ys ts) w e w' := by
  have hm := (merge_any (fun x y => x && !y) 42 (enters_of Try.func42 (by kernel_rfl) rfl) keepM_any v u za zb w hv hu).mono fun e w' h => says_of (k2 := kM) (by intro a b; cases a <;> cases b <;> simp [kM]) hy ht h
  clear hv hu
  generalize mergeF kM (tcode za) (tcode zb) ys ts = F at *
  go_enter Try.func17, Try.ntmps17
  go_wp2_with fail
  refine hm.mono ?_
  rintro e w1 ⟨x, rfl, h1, h2⟩
  go_wp2_with fail
  go_ret2
  exact ⟨x, rfl, h1, h2⟩

set_option maxHeartbeats 400000 in
theorem refUnionS (v u : Value) (za zb ys ts : List (Int × Int)) (w : World) (hv : RRow w v za) (hu : RRow w u zb) (hy : Tidied za ys) (ht : Tidied zb ts) :
    Calls Try.prog 14 #[v, u] w fun e w' => Says (mergeF kU (tcode za) (tcode zb) ys ts) w e w' := by
  have hm := (refMerge_any (fun _ _ => true) 39 (enters_of Try.func39 (by kernel_rfl) rfl) rkeepU_any v u za zb w hv hu).mono fun e w' h => says_of (k2 := kU) (by intro a b; cases a <;> cases b <;> simp [kU]) hy ht h
  clear hv hu
  generalize mergeF kU (tcode za) (tcode zb) ys ts = F at *
  go_enter Try.func14, Try.ntmps14
  go_wp2_with fail
  refine hm.mono ?_
  rintro e w1 ⟨x, rfl, h1, h2⟩
  go_wp2_with fail
  go_ret2
  exact ⟨x, rfl, h1, h2⟩

set_option maxHeartbeats 400000 in
theorem refBothS (v u : Value) (za zb ys ts : List (Int × Int)) (w : World) (hv : RRow w v za) (hu : RRow w u zb) (hy : Tidied za ys) (ht : Tidied zb ts) :
    Calls Try.prog 16 #[v, u] w fun e w' => Says (mergeF kB (tcode za) (tcode zb) ys ts) w e w' := by
  have hm := (refMerge_any (fun x y => x && y) 41 (enters_of Try.func41 (by kernel_rfl) rfl) rkeepB_any v u za zb w hv hu).mono fun e w' h => says_of (k2 := kB) (by intro a b; cases a <;> cases b <;> simp [kB]) hy ht h
  clear hv hu
  generalize mergeF kB (tcode za) (tcode zb) ys ts = F at *
  go_enter Try.func16, Try.ntmps16
  go_wp2_with fail
  refine hm.mono ?_
  rintro e w1 ⟨x, rfl, h1, h2⟩
  go_wp2_with fail
  go_ret2
  exact ⟨x, rfl, h1, h2⟩

set_option maxHeartbeats 400000 in
theorem refMinusS (v u : Value) (za zb ys ts : List (Int × Int)) (w : World) (hv : RRow w v za) (hu : RRow w u zb) (hy : Tidied za ys) (ht : Tidied zb ts) :
    Calls Try.prog 18 #[v, u] w fun e w' => Says (mergeF kM (tcode za) (tcode zb) ys ts) w e w' := by
  have hm := (refMerge_any (fun _ y => !y) 43 (enters_of Try.func43 (by kernel_rfl) rfl) rkeepM_any v u za zb w hv hu).mono fun e w' h => says_of (k2 := kM) (by intro a b; cases a <;> cases b <;> simp [kM]) hy ht h
  clear hv hu
  generalize mergeF kM (tcode za) (tcode zb) ys ts = F at *
  go_enter Try.func18, Try.ntmps18
  go_wp2_with fail
  refine hm.mono ?_
  rintro e w1 ⟨x, rfl, h1, h2⟩
  go_wp2_with fail
  go_ret2
  exact ⟨x, rfl, h1, h2⟩

/-- rows, each with its list -/
def RowsIn (w : World) (l : List (Value × List (Int × Int))) : Prop := ∀ x ∈ l, Row w x.1 x.2
theorem RowsIn.below {w w' : World} {l : List (Value × List (Int × Int))} (h : RowsIn w l) (hb : Below w.heap.size w w') : RowsIn w' l := fun x hx => (h x hx).below hb
theorem RowsIn.cons {w w' : World} {l : List (Value × List (Int × Int))} {v : Value} {zs : List (Int × Int)} (h : RowsIn w l) (hb : Below w.heap.size w w') (hr : Row w' v zs) : RowsIn w' ((v, zs) :: l) := by
  intro x hx
  rcases List.mem_cons.1 hx with rfl | hx
  · exact hr
  · exact (h x hx).below hb
theorem tidied_none0 : Tidied [] [] := ⟨List.Pairwise.nil, fun p => by simp⟩
theorem tidied_11 : Tidied [(1, 0)] [(1, 0)] := ⟨List.pairwise_singleton _ _, fun p => by
  have : tcode [(1, 0)] = 0 := by decide
  rw [this]; simp⟩

set_option maxRecDepth 4000 in
set_option maxHeartbeats 4000000 in
theorem merges_any (v u : Value) (za zb : List (Int × Int)) (w : World) (hna : za.length * 16 ≤ 140737488355328) (hnb : zb.length * 16 ≤ 140737488355328) (hv : RRow w v za) (hu : RRow w u zb) :
    Calls Try.prog 4 #[v, u] w fun e w' => e = .returned (.bool true) ∧ Below w.heap.size w w' := by
  obtain ⟨ys, hy⟩ := tidied_exists za
  obtain ⟨ts, ht⟩ := tidied_exists zb
  have HV : Hid (RRow w v za ∧ RRow w u zb) := ⟨hv, hu⟩
  have ca := fun W (hb : Below w.heap.size w W) => cells_row v za W hna (hv.below hb)
  have cb := fun W (hb : Below w.heap.size w W) => cells_row u zb W hnb (hu.below hb)
  have pU := fun v u W hv hu => unionS v u za zb ys ts W hv hu hy ht
  have pB := fun v u W hv hu => bothS v u za zb ys ts W hv hu hy ht
  have pM := fun v u W hv hu => minusS v u za zb ys ts W hv hu hy ht
  have rU := fun W (hb : Below w.heap.size w W) => refUnionS v u za zb ys ts W (hv.below hb) (hu.below hb) hy ht
  have rB := fun W (hb : Below w.heap.size w W) => refBothS v u za zb ys ts W (hv.below hb) (hu.below hb) hy ht
  have rM := fun W (hb : Below w.heap.size w W) => refMinusS v u za zb ys ts W (hv.below hb) (hu.below hb) hy ht
  have pX := fun W => unionS (.slice none 0 0) (.slice (some ⟨W, 0, none⟩) 1 1) [] [(1, 0)] [] [(1, 0)]
  rw [show mergeF kU (tcode []) (tcode [(1, 0)]) [] [(1, 0)] = (0, [(1, 0)]) by decide +kernel] at pX
  generalize mergeF kU (tcode za) (tcode zb) ys ts = FU at *
  generalize mergeF kB (tcode za) (tcode zb) ys ts = FB at *
  generalize mergeF kM (tcode za) (tcode zb) ys ts = FM at *
  obtain ⟨cu, lu⟩ := FU
  obtain ⟨cb', lb⟩ := FB
  obtain ⟨cm, lm⟩ := FM
  clear hv hu hna hnb
  go_enter Try.func4, Try.ntmps4
  go_wp2_with fail
  refine (ca w (Below.refl _ _)).mono ?_
  rintro e w1 ⟨v1, rfl, b1, r1⟩
  go_wp2_with fail
  refine (cb w1 b1).mono ?_
  rintro e w2 ⟨v2, rfl, c2, r2⟩
  have b2 : Below w.heap.size w w2 := b1.trans (c2.mono b1.size)
  go_wp2_with fail
  refine (pU v1 v2 w2 (r1.below c2) r2).mono ?_
  rintro e w3 ⟨xa, rfl, c3, r3⟩
  have b3 : Below w.heap.size w w3 := b2.trans (c3.mono b2.size)
  have R3 : Hid (RowsIn w3 [(xa, lu)]) := fun x hx => by rw [List.mem_singleton.1 hx]; exact r3
  clear r1 r2 r3 c2 c3 b1 b2
  go_wp2_with fail
  refine (rU w3 b3).mono ?_
  rintro e w4 ⟨xb, rfl, c4, r4⟩
  have b4 : Below w.heap.size w w4 := b3.trans (c4.mono b3.size)
  have R4 : Hid (RowsIn w4 [(xb, lu), (xa, lu)]) := R3.out.cons c4 r4
  clear R3 r4 c4 b3 rU
  go_wp2_with fail
  refine (ca w4 b4).mono ?_
  rintro e w5 ⟨v1, rfl, c5, r1⟩
  have b5 : Below w.heap.size w w5 := b4.trans (c5.mono b4.size)
  go_wp2_with fail
  refine (cb w5 b5).mono ?_
  rintro e w6 ⟨v2, rfl, c6, r2⟩
  have b6 : Below w.heap.size w w6 := b5.trans (c6.mono b5.size)
  have R6 : Hid (RowsIn w6 [(xb, lu), (xa, lu)]) := (R4.out.below c5).below c6
  go_wp2_with fail
  refine (pB v1 v2 w6 (r1.below c6) r2).mono ?_
  rintro e w7 ⟨xc, rfl, c7, r7⟩
  have b7 : Below w.heap.size w w7 := b6.trans (c7.mono b6.size)
  have R7 : Hid (RowsIn w7 [(xc, lb), (xb, lu), (xa, lu)]) := R6.out.cons c7 r7
  clear R4 R6 r1 r2 r7 c5 c6 c7 b4 b5 b6 pB
  go_wp2_with fail
  refine (rB w7 b7).mono ?_
  rintro e w8 ⟨xd, rfl, c8, r8⟩
  have b8 : Below w.heap.size w w8 := b7.trans (c8.mono b7.size)
  have R8 : Hid (RowsIn w8 [(xd, lb), (xc, lb), (xb, lu), (xa, lu)]) := R7.out.cons c8 r8
  clear R7 r8 c8 b7 rB
  go_wp2_with fail
  refine (ca w8 b8).mono ?_
  rintro e w9 ⟨v1, rfl, c9, r1⟩
  have b9 : Below w.heap.size w w9 := b8.trans (c9.mono b8.size)
  go_wp2_with fail
  refine (cb w9 b9).mono ?_
  rintro e w10 ⟨v2, rfl, c10, r2⟩
  have b10 : Below w.heap.size w w10 := b9.trans (c10.mono b9.size)
  have R10 : Hid (RowsIn w10 [(xd, lb), (xc, lb), (xb, lu), (xa, lu)]) := (R8.out.below c9).below c10
  go_wp2_with fail
  refine (pM v1 v2 w10 (r1.below c10) r2).mono ?_
  rintro e w11 ⟨xp, rfl, c11, r11⟩
  have b11 : Below w.heap.size w w11 := b10.trans (c11.mono b10.size)
  have R11 : Hid (RowsIn w11 [(xp, lm), (xd, lb), (xc, lb), (xb, lu), (xa, lu)]) := R10.out.cons c11 r11
  clear R8 R10 r1 r2 r11 c9 c10 c11 b8 b9 b10 pM ca cb
  go_wp2_with fail
  refine (rM w11 b11).mono ?_
  rintro e w12 ⟨xq, rfl, c12, r12⟩
  have b12 : Below w.heap.size w w12 := b11.trans (c12.mono b11.size)
  have R12 : Hid (RowsIn w12 [(xq, lm), (xp, lm), (xd, lb), (xc, lb), (xb, lu), (xa, lu)]) := R11.out.cons c12 r12
  clear R11 r12 c12 b11 rM pU
  go_wp2_with fail
  refine (pX w12.heap.size _ (Or.inl ⟨rfl, rfl⟩) (one_row w12 1 0) tidied_none0 tidied_11).mono ?_
  rintro e w13 ⟨xx, rfl, c13, r13⟩
  have c12 : Below w12.heap.size w12 w13 := ((Below.refl _ _).alloc (Nat.le_refl _) _).trans (c13.mono (by simp))
  have b13 : Below w.heap.size w w13 := b12.trans (c12.mono b12.size)
  have R13 : Hid (RowsIn w13 [(xq, lm), (xp, lm), (xd, lb), (xc, lb), (xb, lu), (xa, lu)]) := R12.out.below c12
  obtain ⟨ax, cx, hx, _⟩ := r13.shape
  simp only [List.length_singleton] at hx
  subst hx
  clear R12 c12 c13 r13 b12 pX
  go_wp2_with fail
  refine (sameCells_any xa xb lu w13 (R13.out (xa, lu) (by simp)) (R13.out (xb, lu) (by simp))).mono ?_
  rintro e w14 ⟨rfl, c14⟩
  have R14 : Hid (RowsIn w14 [(xq, lm), (xp, lm), (xd, lb), (xc, lb), (xb, lu), (xa, lu)]) := R13.out.below c14
  have b14 : Below w.heap.size w w14 := b13.trans (c14.mono b13.size)
  go_wp2_with fail
  refine (sameCells_any xc xd lb w14 (R14.out (xc, lb) (by simp)) (R14.out (xd, lb) (by simp))).mono ?_
  rintro e w15 ⟨rfl, c15⟩
  have R15 : Hid (RowsIn w15 [(xq, lm), (xp, lm), (xd, lb), (xc, lb), (xb, lu), (xa, lu)]) := R14.out.below c15
  have b15 : Below w.heap.size w w15 := b14.trans (c15.mono b14.size)
  go_wp2_with fail
  refine (sameCells_any xp xq lm w15 (R15.out (xp, lm) (by simp)) (R15.out (xq, lm) (by simp))).mono ?_
  rintro e w16 ⟨rfl, c16⟩
  have b16 : Below w.heap.size w w16 := b15.trans (c16.mono b15.size)
  go_wp2_with fail
  go_ret
  exact ⟨rfl, b16⟩
end Go.Proofs.Ytoppncaidhlenaa
