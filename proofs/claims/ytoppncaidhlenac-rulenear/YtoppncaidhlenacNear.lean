/- RuleNear: the walk of the law itself. -/
import Derived.Test.YtoppncaidhlenacMoves
namespace Go.Proofs.Ytoppncaidhlenac
open Go.RowKit

theorem lo_le (f : Nat → Int) : ∀ k j, j ≤ k → lo f k ≤ f j
  | 0, j, h => by have : j = 0 := by omega
                  subst this; exact Int.le_refl _
  | k + 1, j, h => by
    have h1 := lo_le f k
    rw [lo]
    by_cases hj : j ≤ k
    · have := h1 j hj; omega
    · have : j = k + 1 := by omega
      subst this; omega
theorem lo_at (f : Nat → Int) : ∀ k, ∃ j, j ≤ k ∧ lo f k = f j
  | 0 => ⟨0, Nat.le_refl _, rfl⟩
  | k + 1 => by
    obtain ⟨j, hj, e⟩ := lo_at f k
    rw [lo]
    by_cases h : lo f k ≤ f (k + 1)
    · exact ⟨j, by omega, by rw [← e]; omega⟩
    · exact ⟨k + 1, Nat.le_refl _, by omega⟩
theorem hi_le (f : Nat → Int) : ∀ k j, j ≤ k → f j ≤ hi f k
  | 0, j, h => by have : j = 0 := by omega
                  subst this; exact Int.le_refl _
  | k + 1, j, h => by
    have h1 := hi_le f k
    rw [hi]
    by_cases hj : j ≤ k
    · have := h1 j hj; omega
    · have : j = k + 1 := by omega
      subst this; omega
theorem hi_at (f : Nat → Int) : ∀ k, ∃ j, j ≤ k ∧ hi f k = f j
  | 0 => ⟨0, Nat.le_refl _, rfl⟩
  | k + 1 => by
    obtain ⟨j, hj, e⟩ := hi_at f k
    rw [hi]
    by_cases h : f (k + 1) ≤ hi f k
    · exact ⟨j, by omega, by rw [← e]; omega⟩
    · exact ⟨k + 1, Nat.le_refl _, by omega⟩
theorem get_mem (l : List (Int × Int)) (j : Nat) (h : j < l.length) : l[j]! ∈ l := by
  rw [getElem!_pos l j h]; exact List.getElem_mem h
theorem mem_get {l : List (Int × Int)} {p : Int × Int} (h : p ∈ l) : ∃ i, i < l.length ∧ l[i]! = p := by
  obtain ⟨i, hi, e⟩ := List.getElem_of_mem h
  exact ⟨i, hi, by rw [getElem!_pos l i hi, e]⟩

theorem lo_in {L : List (Int × Int)} (h0 : 0 < L.length) {f : Int × Int → Int} {a b : Int} (h : ∀ p ∈ L, a ≤ f p ∧ f p < b) : a ≤ lo (fun j => f L[j]!) (L.length - 1) ∧ lo (fun j => f L[j]!) (L.length - 1) < b := by
  obtain ⟨j, hj, e⟩ := lo_at (fun j => f L[j]!) (L.length - 1)
  rw [e]
  exact h _ (get_mem L j (by omega))
theorem hi_in {L : List (Int × Int)} (h0 : 0 < L.length) {f : Int × Int → Int} {a b : Int} (h : ∀ p ∈ L, a ≤ f p ∧ f p < b) : a ≤ hi (fun j => f L[j]!) (L.length - 1) ∧ hi (fun j => f L[j]!) (L.length - 1) < b := by
  obtain ⟨j, hj, e⟩ := hi_at (fun j => f L[j]!) (L.length - 1)
  rw [e]
  exact h _ (get_mem L j (by omega))

/-- both boxes, and how they hang together -/
theorem near_boxes {L A : List (Int × Int)} (hA : ∀ p ∈ A, ∃ c ∈ L, c.1 - 1 ≤ p.1 ∧ p.1 ≤ c.1 + 1 ∧ c.2 - 1 ≤ p.2 ∧ p.2 ≤ c.2 + 1)
    (hn : ∀ p ∈ L, -1048576 ≤ p.1 ∧ p.1 ≤ 1048576 ∧ -1048576 ≤ p.2 ∧ p.2 ≤ 1048576) :
    ∃ (p0 p1 p2 p3 q0 q1 q2 q3 : Int) (ok is : Bool), boxOf (fun j => (L[j]!).1) (fun j => (L[j]!).2) L.length = .tuple #[.agg #[.int .i64 p0, .int .i64 p1, .int .i64 p2, .int .i64 p3], .bool ok] ∧
      boxOf (fun j => (A[j]!).1) (fun j => (A[j]!).2) A.length = .tuple #[.agg #[.int .i64 q0, .int .i64 q1, .int .i64 q2, .int .i64 q3], .bool is] ∧
      (is = true → ok = true ∧ p0 - 1 ≤ q0 ∧ p1 - 1 ≤ q1 ∧ q2 ≤ p2 + 1 ∧ q3 ≤ p3 + 1 ∧ IntKind.i64.wrap (p0 - 1) = p0 - 1 ∧ IntKind.i64.wrap (p1 - 1) = p1 - 1 ∧ IntKind.i64.wrap (p2 + 1) = p2 + 1 ∧ IntKind.i64.wrap (p3 + 1) = p3 + 1) := by
  have hl : ∃ (p0 p1 p2 p3 : Int) (ok : Bool), boxOf (fun j => (L[j]!).1) (fun j => (L[j]!).2) L.length = .tuple #[.agg #[.int .i64 p0, .int .i64 p1, .int .i64 p2, .int .i64 p3], .bool ok] := by
    by_cases h0 : L.length = 0
    · rw [h0]; exact ⟨_, _, _, _, _, boxOf_zero _ _⟩
    · exact ⟨_, _, _, _, _, boxOf_pos _ _ _ (by omega)⟩
  by_cases ha0 : A.length = 0
  · obtain ⟨p0, p1, p2, p3, ok, hp⟩ := hl
    rw [ha0]
    exact ⟨p0, p1, p2, p3, _, _, _, _, ok, false, hp, boxOf_zero _ _, fun h => by cases h⟩
  · have ha : 0 < A.length := by omega
    have hp : 0 < L.length := by
      obtain ⟨c, hc, _⟩ := hA _ (get_mem A 0 ha)
      exact List.length_pos_of_mem hc
    have i0 := lo_in hp (f := fun p => p.1) (a := -1048576) (b := 1048577) (fun p h => ⟨(hn p h).1, by have := hn p h; omega⟩)
    have i1 := lo_in hp (f := fun p => p.2) (a := -1048576) (b := 1048577) (fun p h => ⟨(hn p h).2.2.1, by have := hn p h; omega⟩)
    have i2 := hi_in hp (f := fun p => p.1) (a := -1048576) (b := 1048577) (fun p h => ⟨(hn p h).1, by have := hn p h; omega⟩)
    have i3 := hi_in hp (f := fun p => p.2) (a := -1048576) (b := 1048577) (fun p h => ⟨(hn p h).2.2.1, by have := hn p h; omega⟩)
    have key : ∀ i, i ≤ A.length - 1 → ∃ j, j ≤ L.length - 1 ∧ (L[j]!).1 - 1 ≤ (A[i]!).1 ∧ (A[i]!).1 ≤ (L[j]!).1 + 1 ∧ (L[j]!).2 - 1 ≤ (A[i]!).2 ∧ (A[i]!).2 ≤ (L[j]!).2 + 1 := fun i hi => by
      obtain ⟨c, hc, h1⟩ := hA _ (get_mem A i (by omega))
      obtain ⟨j, hj, rfl⟩ := mem_get hc
      exact ⟨j, by omega, h1⟩
    have k0 : lo (fun j => (L[j]!).1) (L.length - 1) - 1 ≤ lo (fun j => (A[j]!).1) (A.length - 1) := by
      obtain ⟨i, hi, e⟩ := lo_at (fun j => (A[j]!).1) (A.length - 1)
      obtain ⟨j, hj, h1, _⟩ := key i hi
      have := lo_le (fun j => (L[j]!).1) (L.length - 1) j hj
      rw [e]
      omega
    have k1 : lo (fun j => (L[j]!).2) (L.length - 1) - 1 ≤ lo (fun j => (A[j]!).2) (A.length - 1) := by
      obtain ⟨i, hi, e⟩ := lo_at (fun j => (A[j]!).2) (A.length - 1)
      obtain ⟨j, hj, _, _, h1, _⟩ := key i hi
      have := lo_le (fun j => (L[j]!).2) (L.length - 1) j hj
      rw [e]
      omega
    have k2 : hi (fun j => (A[j]!).1) (A.length - 1) ≤ hi (fun j => (L[j]!).1) (L.length - 1) + 1 := by
      obtain ⟨i, hi, e⟩ := hi_at (fun j => (A[j]!).1) (A.length - 1)
      obtain ⟨j, hj, _, h1, _⟩ := key i hi
      have := hi_le (fun j => (L[j]!).1) (L.length - 1) j hj
      rw [e]
      omega
    have k3 : hi (fun j => (A[j]!).2) (A.length - 1) ≤ hi (fun j => (L[j]!).2) (L.length - 1) + 1 := by
      obtain ⟨i, hi, e⟩ := hi_at (fun j => (A[j]!).2) (A.length - 1)
      obtain ⟨j, hj, _, _, _, h1⟩ := key i hi
      have := hi_le (fun j => (L[j]!).2) (L.length - 1) j hj
      rw [e]
      omega
    exact ⟨_, _, _, _, _, _, _, _, true, true, boxOf_pos _ _ _ hp, boxOf_pos _ _ _ ha, fun _ => ⟨rfl, k0, k1, k2, k3, by rw [IntKind.wrap_i64]; omega, by rw [IntKind.wrap_i64]; omega, by rw [IntKind.wrap_i64]; omega, by rw [IntKind.wrap_i64]; omega⟩⟩

set_option maxRecDepth 4000 in
set_option maxHeartbeats 4000000 in
theorem near_any (b l : Int) (v : Value) (zs : List (Int × Int)) (w : World) (hv : RRow w v zs) :
    Calls Try.prog 7 #[.agg #[.int .i64 b, .int .i64 l], v] w fun e w' => e = .returned (.bool true) ∧ Below w.heap.size w w' := by
  have hright := fun W => right_any b l W
  have hgood := right_good b l
  generalize rightB b = rb at *
  generalize spotI l 512 = rl at *
  have q0 := RuleIn.born w b l 23
  go_enter Try.func7, Try.ntmps7
  go_wp2_with fail
  refine (hright _).mono ?_
  rintro e w1 ⟨rfl, c1⟩
  have q1 := q0.go c1
  go_wp2_with fail
  refine (some_kept v zs w1 (hv.below (q1.2.2.2.2.2))).mono ?_
  rintro e w2 ⟨vl, rfl, c2, k2⟩
  have q2 := q1.go c2
  have hbase := q1.2.2.2.2.1
  have q3 := q2.set rb rl
  have k3 := (k2.setCell (a := ⟨w.heap.size, 0, none⟩) hbase (.int .i64 rb)).setCell (a := ⟨w.heap.size, 1, none⟩) hbase (.int .i64 rl)
  obtain ⟨f0, f1, g0, g1, gl, _⟩ := id q2
  have HQ : Hid (RuleIn w rb rl ((w2.setCell ⟨w.heap.size, 0, none⟩ (.int .i64 rb)).setCell ⟨w.heap.size, 1, none⟩ (.int .i64 rl)) ∧ Row ((w2.setCell ⟨w.heap.size, 0, none⟩ (.int .i64 rb)).setCell ⟨w.heap.size, 1, none⟩ (.int .i64 rl)) vl (someL zs)) := ⟨q3, k3.row⟩
  clear q0 q1 q2 q3 k2 k3 c1 c2 hright hv
  go_wp2_with fail
  generalize hw3 : (w2.setCell ⟨w.heap.size, 0, none⟩ (.int .i64 rb)).setCell ⟨w.heap.size, 1, none⟩ (.int .i64 rl) = w3 at HQ ⊢
  clear hw3 f0 f1 g0 g1 gl
  obtain ⟨f0, f1, _⟩ := HQ.out.1
  refine (next_some rb rl vl (someL zs) w3 HQ.out.2 hgood (someL_code zs)).mono ?_
  rintro e w4 ⟨va, ys, out1, ts1, ty1, n1, t1, rfl, c4, o4⟩
  have q4 := HQ.out.1.go c4
  have R4 : Hid (AllRows w4 [(va, ts1), (vl, someL zs)]) := fun x hx => by
    simp only [List.mem_cons, List.not_mem_nil, or_false] at hx
    rcases hx with rfl | rfl
    · exact o4.read
    · exact HQ.out.2.below c4
  obtain ⟨hl, hin⟩ := tidied_in ty1
  obtain ⟨cd, _⟩ := next_code (m := 1048576) hgood n1 hl (by omega) hin
  rw [cd]
  have hts : ∀ p ∈ ts1, ∃ c ∈ someL zs, c.1 - 1 ≤ p.1 ∧ p.1 ≤ c.1 + 1 ∧ c.2 - 1 ≤ p.2 ∧ p.2 ≤ c.2 + 1 := fun p hp => by
    obtain ⟨c, hc, hh⟩ := lv_key hgood ((n1.2 p).1 ((t1.2 p).1 hp).1)
    exact ⟨c, ((ty1.2 c).1 hc).1, hh⟩
  obtain ⟨p0, p1, p2, p3, q0, q1, q2, q3, ok, is, hP, hQ, hrel⟩ := near_boxes hts (someL_in zs)
  have b4 : Below w.heap.size w w4 := q4.2.2.2.2.2
  have HREL : Hid (is = true → ok = true ∧ p0 - 1 ≤ q0 ∧ p1 - 1 ≤ q1 ∧ q2 ≤ p2 + 1 ∧ q3 ≤ p3 + 1 ∧ IntKind.i64.wrap (p0 - 1) = p0 - 1 ∧ IntKind.i64.wrap (p1 - 1) = p1 - 1 ∧ IntKind.i64.wrap (p2 + 1) = p2 + 1 ∧ IntKind.i64.wrap (p3 + 1) = p3 + 1) := hrel
  have hp := bounds_any vl _ _ _ w4 (Row.isRow (R4.out (vl, someL zs) (by simp)))
  rw [hP] at hp
  clear ty1 n1 t1 hl hin cd hts q4 c4 o4 HQ f0 f1 hrel hgood hP
  go_wp2_with fail
  refine hp.mono ?_
  rintro e w5 ⟨rfl, c5⟩
  have b5 : Below w.heap.size w w5 := b4.trans (c5.mono b4.size)
  have a5 : Below w5.heap.size w5 (w5.alloc (.cells #[.int .i64 p0, .int .i64 p1, .int .i64 p2, .int .i64 p3] 45)) := (Below.refl _ _).alloc (Nat.le_refl _) _
  have hq := bounds_any va _ _ _ (w5.alloc (.cells #[.int .i64 p0, .int .i64 p1, .int .i64 p2, .int .i64 p3] 45)) (Row.isRow (((R4.out (va, ts1) (by simp)).below c5).below a5))
  rw [hQ] at hq
  clear hp R4 b4 c5 hQ a5
  go_wp2_with fail
  refine hq.mono ?_
  rintro e w6 ⟨rfl, c6⟩
  have b6 : Below w.heap.size w w6 := (b5.alloc b5.size _).trans (c6.mono (by simp; have := b5.size; omega))
  have z6 : w5.heap.size < w6.heap.size := by have := c6.size; simp at this; omega
  have hc0 := fun o => c6.cell (p := ⟨w5.heap.size, o, none⟩) (by simp)
  simp only [World.cell?_alloc_new] at hc0
  have d0 := hc0 0
  have d1 := hc0 1
  have d2 := hc0 2
  have d3 := hc0 3
  simp at d0 d1 d2 d3
  clear hc0 hq b5 c6
  go_wp2_with fail
  refine (livesOk_any _).mono ?_
  rintro e w7 ⟨rfl, c7⟩
  have z7 : w6.heap.size < w7.heap.size := by have := c7.size; simp at this; omega
  have b7 : Below w.heap.size w w7 := (b6.alloc b6.size _).trans (c7.mono (by simp; have := b6.size; omega))
  have e0 := c7.cell (p := ⟨w6.heap.size, 0, none⟩) (by simp)
  have e1 := c7.cell (p := ⟨w6.heap.size, 1, none⟩) (by simp)
  have e2 := c7.cell (p := ⟨w6.heap.size, 2, none⟩) (by simp)
  have e3 := c7.cell (p := ⟨w6.heap.size, 3, none⟩) (by simp)
  rw [World.cell?_alloc_new] at e0 e1 e2 e3
  simp at e0 e1 e2 e3
  have g0 := c7.cell (p := ⟨w5.heap.size, 0, none⟩) (by simp; omega)
  have g1 := c7.cell (p := ⟨w5.heap.size, 1, none⟩) (by simp; omega)
  have g2 := c7.cell (p := ⟨w5.heap.size, 2, none⟩) (by simp; omega)
  have g3 := c7.cell (p := ⟨w5.heap.size, 3, none⟩) (by simp; omega)
  rw [World.cell?_alloc_past _ _ _ z6] at g0 g1 g2 g3
  rw [d0] at g0
  rw [d1] at g1
  rw [d2] at g2
  rw [d3] at g3
  clear d0 d1 d2 d3 c7
  cases is
  · cases ok
    · go_wp2_with fail
      go_ret
      exact ⟨rfl, b7⟩
    · go_wp2_with fail
      go_ret
      exact ⟨rfl, b7⟩
  · obtain ⟨rfl, k0, k1, k2, k3, x0, x1, x2, x3⟩ := HREL.out rfl
    go_wp2_with fail
    go_ret
    exact ⟨rfl, b7⟩
end Go.Proofs.Ytoppncaidhlenac
