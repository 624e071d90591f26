/- PlaneBack: the walk of the law itself. -/
import Derived.Test.YtoppncaidhlenabBackPure
namespace Go.Proofs.Ytoppncaidhlenab
open Go.RowKit Go.Lib Go.Sort

theorem lo_in {L : List (Int × Int)} (h0 : 0 < L.length) {f : Int × Int → Int} {a b : Int} (h : ∀ p ∈ L, a ≤ f p ∧ f p < b) : a ≤ lo (fun j => f L[j]!) (L.length - 1) ∧ lo (fun j => f L[j]!) (L.length - 1) < b := by
  obtain ⟨j, hj, e⟩ := lo_at (fun j => f L[j]!) (L.length - 1)
  rw [e]
  exact h _ (get_mem L j (by omega))
theorem hi_in {L : List (Int × Int)} (h0 : 0 < L.length) {f : Int × Int → Int} {a b : Int} (h : ∀ p ∈ L, a ≤ f p ∧ f p < b) : a ≤ hi (fun j => f L[j]!) (L.length - 1) ∧ hi (fun j => f L[j]!) (L.length - 1) < b := by
  obtain ⟨j, hj, e⟩ := hi_at (fun j => f L[j]!) (L.length - 1)
  rw [e]
  exact h _ (get_mem L j (by omega))

/-- both boxes, and how they hang together -/
theorem two_boxes {L A : List (Int × Int)} {dx dy : Int} (hx0 : 0 ≤ dx) (hx1 : dx < 549755813888) (hy0 : 0 ≤ dy) (hy1 : dy < 549755813888)
    (hq : (A.length = 0 ↔ L.length = 0) ∧ (0 < L.length →
      lo (fun j => (A[j]!).1) (A.length - 1) = lo (fun j => (L[j]!).1) (L.length - 1) + dx ∧ lo (fun j => (A[j]!).2) (A.length - 1) = lo (fun j => (L[j]!).2) (L.length - 1) + dy ∧
      hi (fun j => (A[j]!).1) (A.length - 1) = hi (fun j => (L[j]!).1) (L.length - 1) + dx ∧ hi (fun j => (A[j]!).2) (A.length - 1) = hi (fun j => (L[j]!).2) (L.length - 1) + dy))
    (hn : ∀ p ∈ L, -549755813888 ≤ p.1 ∧ p.1 < 549755813888 ∧ -549755813888 ≤ p.2 ∧ p.2 < 549755813888) :
    ∃ (p0 p1 p2 p3 q0 q1 q2 q3 : Int) (ok : Bool), boxOf (fun j => (L[j]!).1) (fun j => (L[j]!).2) L.length = .tuple #[.agg #[.int .i64 p0, .int .i64 p1, .int .i64 p2, .int .i64 p3], .bool ok] ∧
      boxOf (fun j => (A[j]!).1) (fun j => (A[j]!).2) A.length = .tuple #[.agg #[.int .i64 q0, .int .i64 q1, .int .i64 q2, .int .i64 q3], .bool ok] ∧
      (ok = true → q0 = p0 + dx ∧ q1 = p1 + dy ∧ q2 = p2 + dx ∧ q3 = p3 + dy ∧ IntKind.i64.wrap (p0 + dx) = p0 + dx ∧ IntKind.i64.wrap (p1 + dy) = p1 + dy ∧ IntKind.i64.wrap (p2 + dx) = p2 + dx ∧ IntKind.i64.wrap (p3 + dy) = p3 + dy) := by
  by_cases h0 : L.length = 0
  · rw [h0, hq.1.2 h0]
    exact ⟨_, _, _, _, _, _, _, _, false, boxOf_zero _ _, boxOf_zero _ _, fun h => by cases h⟩
  · have hp : 0 < L.length := by omega
    have ha : 0 < A.length := by
      rcases Nat.eq_zero_or_pos A.length with h | h
      · exact absurd (hq.1.1 h) h0
      · exact h
    obtain ⟨e0, e1, e2, e3⟩ := hq.2 hp
    have i0 := lo_in hp (f := fun p => p.1) (fun p h => ⟨(hn p h).1, (hn p h).2.1⟩)
    have i1 := lo_in hp (f := fun p => p.2) (fun p h => ⟨(hn p h).2.2.1, (hn p h).2.2.2⟩)
    have i2 := hi_in hp (f := fun p => p.1) (fun p h => ⟨(hn p h).1, (hn p h).2.1⟩)
    have i3 := hi_in hp (f := fun p => p.2) (fun p h => ⟨(hn p h).2.2.1, (hn p h).2.2.2⟩)
    exact ⟨_, _, _, _, _, _, _, _, true, boxOf_pos _ _ _ hp, boxOf_pos _ _ _ ha, fun _ => ⟨e0, e1, e2, e3, by rw [IntKind.wrap_i64]; omega, by rw [IntKind.wrap_i64]; omega, by rw [IntKind.wrap_i64]; omega, by rw [IntKind.wrap_i64]; omega⟩⟩

set_option maxHeartbeats 4000000 in
theorem back_any (v : Value) (zs : List (Int × Int)) (dx dy : Int) (w : World) (hv : RRow w v zs) :
    Calls Try.prog 3 #[v, .int .i64 dx, .int .i64 dy] w fun e w' => e = .returned (.bool true) ∧ Below w.heap.size w w' := by
  have hsx := fun W => spot_any dx 549755813888 W (by omega) (by omega)
  have hsy := fun W => spot_any dy 549755813888 W (by omega) (by omega)
  obtain ⟨x0, x1⟩ := spotI_bound dx 549755813888 (by omega)
  obtain ⟨y0, y1⟩ := spotI_bound dy 549755813888 (by omega)
  generalize spotI dx 549755813888 = sx at *
  generalize spotI dy 549755813888 = sy at *
  go_enter Try.func3, Try.ntmps3
  go_wp2_with fail
  refine (some_any v zs w hv).mono ?_
  rintro e w1 ⟨vl, rfl, b1, r1⟩
  clear hv
  go_wp2_with fail
  refine (hsx _).mono ?_
  rintro e w' ⟨rfl, hw⟩
  have hw2 := hw.symm
  subst hw2
  clear hw
  go_wp2_with fail
  refine (hsy _).mono ?_
  rintro e w' ⟨rfl, hw⟩
  have hw2 := hw.symm
  subst hw2
  clear hw hsx hsy
  obtain ⟨w2, hw2⟩ : ∃ w2, w2 = w1 := ⟨w1, rfl⟩
  subst hw2
  have r2 := r1
  have b2 := b1
  clear r1 b1
  go_wp2_with fail
  refine (shift_any vl (someL zs) sx sy w2 r2).mono ?_
  rintro e w3 ⟨va, ys, t3, rfl, c3, r3⟩
  obtain ⟨m1, m2, m3⟩ := moved x0 x1 y0 y1 t3
  obtain ⟨q1, q2⟩ := box_moved (L := someL zs) (ys := ys) (dx := sx) (dy := sy) (fun p => by rw [t3.2 p, someL_code]; simp)
  rw [m1] at r3
  rw [m1]
  have M : Hid (tcode (ys.map (mv sx sy)) = 0 ∧ (∀ ts, Tidied (ys.map (mv sx sy)) ts → shiftF ts (tcode (ys.map (mv sx sy))) (-sx) (-sy) = (0, ys)) ∧ Tidied (someL zs) ys) := ⟨m2, m3, t3⟩
  have HQ : Hid (((ys.map (mv sx sy)).length = 0 ↔ (someL zs).length = 0) ∧ (0 < (someL zs).length →
    lo (fun j => ((ys.map (mv sx sy))[j]!).1) ((ys.map (mv sx sy)).length - 1) = lo (fun j => ((someL zs)[j]!).1) ((someL zs).length - 1) + sx ∧
    lo (fun j => ((ys.map (mv sx sy))[j]!).2) ((ys.map (mv sx sy)).length - 1) = lo (fun j => ((someL zs)[j]!).2) ((someL zs).length - 1) + sy ∧
    hi (fun j => ((ys.map (mv sx sy))[j]!).1) ((ys.map (mv sx sy)).length - 1) = hi (fun j => ((someL zs)[j]!).1) ((someL zs).length - 1) + sx ∧
    hi (fun j => ((ys.map (mv sx sy))[j]!).2) ((ys.map (mv sx sy)).length - 1) = hi (fun j => ((someL zs)[j]!).2) ((someL zs).length - 1) + sy)) := ⟨q1, q2⟩
  have HC : Hid (tcode (someL zs) = 0) := someL_code zs
  have HN : Hid (∀ p ∈ someL zs, -549755813888 ≤ p.1 ∧ p.1 < 549755813888 ∧ -549755813888 ≤ p.2 ∧ p.2 < 549755813888) := someL_in zs
  clear m1 m2 m3 t3 q1 q2
  generalize someL zs = L at *
  have b3 : Below w.heap.size w w3 := b2.trans (c3.mono b2.size)
  have R3 : Hid (AllRows w3 [(va, ys.map (mv sx sy)), (vl, L)]) := fun x hx => by
    simp at hx
    rcases hx with rfl | rfl
    · exact r3.read
    · exact r2.below c3
  clear r2 b2 c3 r3
  have hnx : IntKind.i64.wrap (-sx) = -sx := by rw [IntKind.wrap_i64]; omega
  have hny : IntKind.i64.wrap (-sy) = -sy := by rw [IntKind.wrap_i64]; omega
  go_wp2_with fail
  refine (shift_any va (ys.map (mv sx sy)) (-sx) (-sy) w3 (R3.out (va, ys.map (mv sx sy)) (by simp))).mono ?_
  rintro e w4 ⟨vb, ts, t4, rfl, c4, r4⟩
  have m5 := M.out.2.1 ts t4
  rw [m5] at r4
  rw [m5]
  have b4 : Below w.heap.size w w4 := b3.trans (c4.mono b3.size)
  have R4 : Hid (AllRows w4 [(vb, ys), (va, ys.map (mv sx sy)), (vl, L)]) := R3.out.cons c4 r4.read
  clear m5 t4 c4 r4 b3 R3
  have htl := tidy_told vl (L) w4 (R4.out (vl, L) (by simp))
  rw [HC.out] at htl
  go_wp2_with fail
  refine htl.mono ?_
  rintro e w5 ⟨vt, us, rfl, c5, t5, r5⟩
  have e5 : us = ys := t5.unique M.out.2.2
  subst e5
  have b5 : Below w.heap.size w w5 := b4.trans (c5.mono b4.size)
  have R5 : Hid (AllRows w5 [(vt, us), (vb, us), (va, us.map (mv sx sy)), (vl, L)]) := R4.out.cons c5 r5.read
  clear t5 c5 r5 b4 R4 htl M
  go_wp2_with fail
  have hp := bounds_any vl _ _ _ w5 (Row.isRow (R5.out (vl, L) (by simp)))
  obtain ⟨p0, p1, p2, p3, q0, q1, q2, q3, ok, hP, hQ, hrel⟩ := two_boxes (L := L) (A := us.map (mv sx sy)) x0 x1 y0 y1 HQ.out HN.out
  rw [hP] at hp
  refine hp.mono ?_
  rintro e w6 ⟨rfl, c6⟩
  have b6 : Below w.heap.size w w6 := b5.trans (c6.mono b5.size)
  have R6 : Hid (AllRows w6 [(vt, us), (vb, us), (va, us.map (mv sx sy)), (vl, L)]) := R5.out.below c6
  clear hp R5 b5 c6
  have a6 : Below w6.heap.size w6 (w6.alloc (.cells #[.int .i64 p0, .int .i64 p1, .int .i64 p2, .int .i64 p3] 30)) := (Below.refl _ _).alloc (Nat.le_refl _) _
  have hq := bounds_any va _ _ _ (w6.alloc (.cells #[.int .i64 p0, .int .i64 p1, .int .i64 p2, .int .i64 p3] 30)) (Row.isRow ((R6.out (va, us.map (mv sx sy)) (by simp)).below a6))
  rw [hQ] at hq
  go_wp2_with fail
  refine hq.mono ?_
  rintro e w7 ⟨rfl, c7⟩
  have b7 : Below w.heap.size w w7 := (b6.alloc b6.size _).trans (c7.mono (by simp; have := b6.size; omega))
  have R7 : Hid (AllRows w7 [(vt, us), (vb, us), (va, us.map (mv sx sy)), (vl, L)]) := (R6.out.below a6).below c7
  have z7 : w6.heap.size < w7.heap.size := by have := c7.size; simp at this; omega
  have hc0 := fun o => c7.cell (p := ⟨w6.heap.size, o, none⟩) (by simp)
  simp only [World.cell?_alloc_new] at hc0
  have d0 := hc0 0
  have d1 := hc0 1
  have d2 := hc0 2
  have d3 := hc0 3
  simp at d0 d1 d2 d3
  clear hc0 hq R6 b6 c7 a6 HQ HC HN hP hQ
  have R8 : Hid (∀ o, AllRows (w7.alloc o) [(vt, us), (vb, us)]) := fun o x hx => (R7.out x (by simp at hx ⊢; rcases hx with h | h <;> simp [h])).below ((Below.refl _ _).alloc (Nat.le_refl _) _)
  have b8 : ∀ o, Below w.heap.size w (w7.alloc o) := fun o => b7.alloc b7.size o
  cases ok
  · go_wp2_with fail
    refine (alive_any _).mono ?_
    rintro e w9 ⟨rfl, c9⟩
    go_wp2_with fail
    refine (same_any vb vt us w9 (((R8.out _) (vb, us) (by simp)).below c9) (((R8.out _) (vt, us) (by simp)).below c9)).mono ?_
    rintro e w10 ⟨rfl, c10⟩
    go_wp2_with fail
    go_ret
    have b9 := (b8 _).trans (c9.mono (b8 _).size)
    exact ⟨rfl, b9.trans (c10.mono b9.size)⟩
  · obtain ⟨rfl, rfl, rfl, rfl, k0, k1, k2, k3⟩ := hrel rfl
    have heq := boxes_eq (p0 + sx) (p1 + sy) (p2 + sx) (p3 + sy)
    go_wp2_with fail
    refine (alive_any _).mono ?_
    rintro e w9 ⟨rfl, c9⟩
    go_wp2_with fail
    refine (same_any vb vt us w9 (((R8.out _) (vb, us) (by simp)).below c9) (((R8.out _) (vt, us) (by simp)).below c9)).mono ?_
    rintro e w10 ⟨rfl, c10⟩
    go_wp2_with fail
    go_ret
    have b9 := (b8 _).trans (c9.mono (b8 _).size)
    exact ⟨rfl, b9.trans (c10.mono b9.size)⟩
end Go.Proofs.Ytoppncaidhlenab
