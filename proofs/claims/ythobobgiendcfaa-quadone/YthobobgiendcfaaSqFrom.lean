/- From, of any cells. -/
import Derived.Test.YthobobgiendcfaaSqBuild
namespace Go.Proofs.Ythobobgiendcfaa.A
open Go.RowKit Go.Maps

theorem lo_spec (f : Nat → Int) : ∀ n, (∀ j, j ≤ n → lo f n ≤ f j) ∧ ∃ j, j ≤ n ∧ lo f n = f j
  | 0 => ⟨fun j hj => by obtain rfl : j = 0 := (by omega); exact Int.le_refl _, 0, Nat.le_refl _, rfl⟩
  | n + 1 => by
    obtain ⟨h1, k, hk, h2⟩ := lo_spec f n
    refine ⟨fun j hj => ?_, ?_⟩
    · show min _ _ ≤ _
      rcases Nat.lt_or_ge j (n + 1) with h | h
      · have := h1 j (by omega); omega
      · obtain rfl : j = n + 1 := by omega
        omega
    · show ∃ j, j ≤ n + 1 ∧ min _ _ = _
      by_cases h : lo f n ≤ f (n + 1)
      · exact ⟨k, by omega, by rw [Int.min_eq_left h, h2]⟩
      · exact ⟨n + 1, Nat.le_refl _, Int.min_eq_right (by omega)⟩
theorem hi_spec (f : Nat → Int) : ∀ n, (∀ j, j ≤ n → f j ≤ hi f n) ∧ ∃ j, j ≤ n ∧ hi f n = f j
  | 0 => ⟨fun j hj => by obtain rfl : j = 0 := (by omega); exact Int.le_refl _, 0, Nat.le_refl _, rfl⟩
  | n + 1 => by
    obtain ⟨h1, k, hk, h2⟩ := hi_spec f n
    refine ⟨fun j hj => ?_, ?_⟩
    · show _ ≤ max _ _
      rcases Nat.lt_or_ge j (n + 1) with h | h
      · have := h1 j (by omega); omega
      · obtain rfl : j = n + 1 := by omega
        omega
    · show ∃ j, j ≤ n + 1 ∧ max _ _ = _
      by_cases h : f (n + 1) ≤ hi f n
      · exact ⟨k, by omega, by rw [Int.max_eq_left h, h2]⟩
      · exact ⟨n + 1, Nat.le_refl _, Int.max_eq_right (by omega)⟩
/-- the least box around cells -/
structure IsBox (ys : List (Int × Int)) (x0 y0 x1 y1 : Int) : Prop where
  all : ∀ p ∈ ys, x0 ≤ p.1 ∧ y0 ≤ p.2 ∧ p.1 ≤ x1 ∧ p.2 ≤ y1
  a0 : ∃ p ∈ ys, p.1 = x0
  b0 : ∃ p ∈ ys, p.2 = y0
  a1 : ∃ p ∈ ys, p.1 = x1
  b1 : ∃ p ∈ ys, p.2 = y1
theorem IsBox.unique {ys : List (Int × Int)} {x0 y0 x1 y1 u0 v0 u1 v1 : Int} (h : IsBox ys x0 y0 x1 y1) (k : IsBox ys u0 v0 u1 v1) : x0 = u0 ∧ y0 = v0 ∧ x1 = u1 ∧ y1 = v1 := by
  obtain ⟨p, hp, e0⟩ := h.a0
  obtain ⟨q, hq, e1⟩ := h.b0
  obtain ⟨r, hr, e2⟩ := h.a1
  obtain ⟨s, hs, e3⟩ := h.b1
  obtain ⟨p', hp', f0⟩ := k.a0
  obtain ⟨q', hq', f1⟩ := k.b0
  obtain ⟨r', hr', f2⟩ := k.a1
  obtain ⟨s', hs', f3⟩ := k.b1
  have := k.all p hp; have := k.all q hq; have := k.all r hr; have := k.all s hs
  have := h.all p' hp'; have := h.all q' hq'; have := h.all r' hr'; have := h.all s' hs'
  omega
theorem IsBox.same {ys zs : List (Int × Int)} {x0 y0 x1 y1 : Int} (h : IsBox ys x0 y0 x1 y1) (k : ∀ p, p ∈ ys ↔ p ∈ zs) : IsBox zs x0 y0 x1 y1 := by
  refine ⟨fun p hp => h.all p ((k p).2 hp), ?_, ?_, ?_, ?_⟩
  · obtain ⟨p, hp, e⟩ := h.a0; exact ⟨p, (k p).1 hp, e⟩
  · obtain ⟨p, hp, e⟩ := h.b0; exact ⟨p, (k p).1 hp, e⟩
  · obtain ⟨p, hp, e⟩ := h.a1; exact ⟨p, (k p).1 hp, e⟩
  · obtain ⟨p, hp, e⟩ := h.b1; exact ⟨p, (k p).1 hp, e⟩
theorem mem_at {ys : List (Int × Int)} {j : Nat} (h : j < ys.length) : ys[j]! ∈ ys := by
  rw [getElem!_pos ys j h]; exact List.getElem_mem _
theorem at_mem {ys : List (Int × Int)} {p : Int × Int} (h : p ∈ ys) : ∃ j, j < ys.length ∧ ys[j]! = p := by
  obtain ⟨j, hj, e⟩ := List.getElem_of_mem h
  exact ⟨j, hj, by rw [getElem!_pos ys j hj]; exact e⟩
/-- what Bounds tells of a list that is not empty -/
theorem box_is {ys : List (Int × Int)} (h : ys ≠ []) : IsBox ys (lo' (fun j => (ys[j]!).1) ys.length) (lo' (fun j => (ys[j]!).2) ys.length) (hi' (fun j => (ys[j]!).1) ys.length) (hi' (fun j => (ys[j]!).2) ys.length) := by
  obtain ⟨m, hm⟩ : ∃ m, ys.length = m + 1 := ⟨ys.length - 1, by have := List.length_pos_iff.2 h; omega⟩
  have e1 : ∀ f : Nat → Int, lo' f ys.length = lo f m := fun f => by rw [hm]; rfl
  have e2 : ∀ f : Nat → Int, hi' f ys.length = hi f m := fun f => by rw [hm]; rfl
  rw [e1, e1, e2, e2]
  refine ⟨fun p hp => ?_, ?_, ?_, ?_, ?_⟩
  · obtain ⟨j, hj, rfl⟩ := at_mem hp
    exact ⟨(lo_spec (fun j => (ys[j]!).1) m).1 j (by omega), (lo_spec (fun j => (ys[j]!).2) m).1 j (by omega), (hi_spec (fun j => (ys[j]!).1) m).1 j (by omega), (hi_spec (fun j => (ys[j]!).2) m).1 j (by omega)⟩
  · obtain ⟨_, j, hj, e⟩ := lo_spec (fun j => (ys[j]!).1) m; exact ⟨ys[j]!, mem_at (by omega), e.symm⟩
  · obtain ⟨_, j, hj, e⟩ := lo_spec (fun j => (ys[j]!).2) m; exact ⟨ys[j]!, mem_at (by omega), e.symm⟩
  · obtain ⟨_, j, hj, e⟩ := hi_spec (fun j => (ys[j]!).1) m; exact ⟨ys[j]!, mem_at (by omega), e.symm⟩
  · obtain ⟨_, j, hj, e⟩ := hi_spec (fun j => (ys[j]!).2) m; exact ⟨ys[j]!, mem_at (by omega), e.symm⟩

/-- a root of the level has all these places -/
def fitsLv (n : Nat) (ys : List (Int × Int)) : Prop := ∀ p ∈ ys, -(halfN n : Int) ≤ p.1 ∧ p.1 < halfN n ∧ -(halfN n : Int) ≤ p.2 ∧ p.2 < halfN n
/-- a list's box: at 0, 0 if it is empty -/
def BoxOr (ys : List (Int × Int)) (x0 y0 x1 y1 : Int) : Prop := (ys = [] ∧ x0 = 0 ∧ y0 = 0 ∧ x1 = 0 ∧ y1 = 0) ∨ IsBox ys x0 y0 x1 y1
theorem reach_fits {ys : List (Int × Int)} {x0 y0 x1 y1 : Int} (h : BoxOr ys x0 y0 x1 y1) {n : Nat} (hn : n ≤ 62) : reachB n x0 y0 x1 y1 = true ↔ fitsLv n ys := by
  have hp := (halfN_bd n hn).2
  unfold reachB fitsLv
  rw [decide_eq_true_iff]
  rcases h with ⟨rfl, rfl, rfl, rfl, rfl⟩ | h
  · constructor
    · intro _ p hp; cases hp
    · intro _; omega
  · constructor
    · intro k p hp
      have := h.all p hp
      omega
    · intro k
      obtain ⟨p, hp, e0⟩ := h.a0
      obtain ⟨q, hq, e1⟩ := h.b0
      obtain ⟨r, hr, e2⟩ := h.a1
      obtain ⟨s, hs, e3⟩ := h.b1
      have := k p hp; have := k q hq; have := k r hr; have := k s hs
      omega
/-- the least level from 2 on -/
structure LeastLv (N : Nat) (ys : List (Int × Int)) : Prop where
  two : 2 ≤ N
  fits : fitsLv N ys
  least : ∀ j, 2 ≤ j → j < N → ¬ fitsLv j ys
theorem LeastLv.unique {N M : Nat} {ys : List (Int × Int)} (h : LeastLv N ys) (k : LeastLv M ys) : N = M := by
  rcases Nat.lt_trichotomy N M with e | e | e
  · exact absurd h.fits (k.least N h.two e)
  · exact e
  · exact absurd k.fits (h.least M k.two e)
theorem least_from (ys : List (Int × Int)) : ∀ (d M : Nat), 2 ≤ M → fitsLv (M + d) ys → (∀ j, 2 ≤ j → j < M → ¬ fitsLv j ys) → ∃ N, N ≤ M + d ∧ LeastLv N ys
  | 0, M, h2, hf, hl => ⟨M, Nat.le_refl _, h2, hf, hl⟩
  | d + 1, M, h2, hf, hl => by
    by_cases h : fitsLv M ys
    · exact ⟨M, by omega, h2, h, hl⟩
    · obtain ⟨N, hN, h3⟩ := least_from ys d (M + 1) (by omega) (by rw [show M + 1 + d = M + (d + 1) by omega]; exact hf) (fun j h4 h5 => by
        rcases Nat.lt_or_ge j M with h6 | h6
        · exact hl j h4 h6
        · obtain rfl : j = M := by omega
          exact h)
      exact ⟨N, by omega, h3⟩
theorem least_exists {ys : List (Int × Int)} (h : ∀ p ∈ ys, farP p = false) : ∃ N, N ≤ 41 ∧ LeastLv N ys := by
  refine least_from ys 39 2 (by omega) (fun p hp => ?_) (fun j h1 h2 => by omega)
  have := h p hp
  have e : (halfN (2 + 39) : Int) = 1099511627776 := by decide
  rw [e]
  unfold farP farI at this
  simp only [Bool.or_eq_false_iff, decide_eq_false_iff_not] at this
  omega
theorem fits_mono {n m : Nat} {ys : List (Int × Int)} (h : fitsLv n ys) (hm : n ≤ m) : fitsLv m ys := fun p hp => by
  have hpw : halfN n ≤ halfN m := Nat.pow_le_pow_right (by omega) (by omega)
  have := h p hp
  omega
theorem tidied_far {zs ys : List (Int × Int)} (h : Tidied zs ys) : ∀ p ∈ ys, farP p = false := fun p hp => by
  obtain ⟨h1, h2⟩ := (h.2 p).1 hp
  unfold tcode at h2
  split at h2
  · omega
  · split at h2
    · omega
    · rename_i hn
      simp only [Bool.not_eq_true, List.any_eq_false] at hn
      simpa using hn p h1
theorem tidy_nodup {ys : List (Int × Int)} (h : Tidy ys) : ys.Nodup := by
  refine List.Pairwise.imp (fun {a b} hab e => ?_) h
  subst e
  unfold ahead at hab
  omega
theorem tidied_len {zs ys : List (Int × Int)} (h : Tidied zs ys) : ys.length ≤ zs.length := by
  have nd : ys.Nodup := tidy_nodup h.1
  exact nd.length_le_of_subset fun p hp => ((h.2 p).1 hp).1
end Go.Proofs.Ythobobgiendcfaa.A

namespace Go.Proofs.Ythobobgiendcfaa.A
open Go.RowKit Go.Maps

/-- what From leaves -/
def FromOut (w : World) (b t c : Nat) (F : Nat → Prop) (A : Ar) (ys : List (Int × Int)) (id : Int) (w' : World) : Prop :=
  ∃ (A' : Ar) (F' : Nat → Prop) (nn' : Nat) (N : List Int) (lv : Nat), ArAt w' b F' nn' A' ∧ (∀ k, F' k → F k ∨ w.heap.size ≤ k) ∧ Apart F w w' ∧ Inv A' ∧ Pur A' t c nn' ∧ Gain t A A' N ∧ (∀ j ∈ N, Sub A'.ths id j) ∧ LeastLv lv ys ∧ lv ≤ 41 ∧ levelF A'.ths t id = some (lv : Int) ∧ ∀ p : Int × Int, p ∈ cellsF A'.ths lv id ↔ (p.1 - (halfN lv : Int), p.2 - (halfN lv : Int)) ∈ ys

theorem from_begun {w w1 w2 w3 w4 : World} {b nn t : Nat} {F : Nat → Prop} {A : Ar} {u0 u1 u2 u3 : Value} (hA : ArAt w b F nn A) (hb1 : Below w.heap.size w w1) (hE2 : w2.heap[w1.heap.size + 1]? = some (.cells #[.int .i64 0] 3 (0, 0))) (hb2 : Below w1.heap.size w1 w2)
    (hb3 : Below (w2.alloc (.cells #[.pointer (some ⟨b, 0, none⟩), .int .i64 t, .int .i64 0, .slice (some ⟨w1.heap.size + 1, 0, none⟩) 1 1] 131)).heap.size (w2.alloc (.cells #[.pointer (some ⟨b, 0, none⟩), .int .i64 t, .int .i64 0, .slice (some ⟨w1.heap.size + 1, 0, none⟩) 1 1] 131)) w3)
    (hb4 : Below (w3.alloc (.cells #[u0, u1, u2, u3] 81)).heap.size (w3.alloc (.cells #[u0, u1, u2, u3] 81)) w4) :
    MS w4 w2.heap.size b t nn F (fun k => k = w2.heap.size ∨ k = w1.heap.size + 1) A [0] ∧ Below w.heap.size w w4 ∧ Below w1.heap.size w1 w4 ∧ w1.heap.size + 1 < w2.heap.size := by
  have s1 := hb1.size
  have l2 : w1.heap.size + 1 < w2.heap.size := (Array.getElem?_eq_some_iff.1 hE2).1
  generalize hX : w2.alloc (.cells #[.pointer (some ⟨b, 0, none⟩), .int .i64 t, .int .i64 0, .slice (some ⟨w1.heap.size + 1, 0, none⟩) 1 1] 131) = X at *
  have sX : X.heap.size = w2.heap.size + 1 := by rw [← hX]; simp
  have x0 : X.heap[w2.heap.size]? = some (.cells #[.pointer (some ⟨b, 0, none⟩), .int .i64 t, .int .i64 0, .slice (some ⟨w1.heap.size + 1, 0, none⟩) 1 1] 131 (0, 0)) := by rw [← hX]; exact heap_alloc_new w2 _
  have bX : Below w2.heap.size w2 X := by rw [← hX]; exact (Below.refl _ _).alloc (Nat.le_refl _) _
  generalize hY : w3.alloc (.cells #[u0, u1, u2, u3] 81) = Y at *
  have s3 := hb3.size
  have bY : Below w3.heap.size w3 Y := by rw [← hY]; exact (Below.refl _ _).alloc (Nat.le_refl _) _
  have sY := bY.size
  have s4 := hb4.size
  have k4 : ∀ k, k < X.heap.size → w4.heap[k]? = X.heap[k]? := fun k hk => (hb4.block k (by omega)).trans ((bY.block k (by omega)).trans (hb3.block k hk))
  have b24 : Below w2.heap.size w2 w4 := ((bX.trans (hb3.mono (by omega))).trans (bY.mono (by omega))).trans (hb4.mono (by omega))
  have b14 : Below w1.heap.size w1 w4 := hb2.trans (b24.mono (by omega))
  have b04 : Below w.heap.size w w4 := hb1.trans (b14.mono s1)
  have hflt := hA.flt
  refine ⟨⟨hA.below b04, ⟨_, HandAt.of (l := []) ((k4 _ (by omega)).trans x0), ?_, Or.inl rfl, fun k hk => ?_, fun e => ?_, fun k hk => ?_⟩, fun k hk e => ?_⟩, b04, b14, l2⟩
  · refine ⟨rfl, Or.inr ⟨w1.heap.size + 1, 1, #[.int .i64 0], rfl, Nat.zero_le _, ?_, Nat.le_refl _, by unfold maxLen; omega, rfl, rfl⟩⟩
    exact (b24.block _ l2).trans hE2
  · simp only [Value.ownBlock, Option.some.injEq] at hk
    exact Or.inr hk.symm
  · simp only [Value.ownBlock, Option.some.injEq] at e
    omega
  · rcases hk with h | h <;> omega
  · have := hflt k hk
    omega

set_option maxRecDepth 20000 in
set_option maxHeartbeats 8000000 in
theorem from_any (b nn t c : Nat) (F : Nat → Prop) (A : Ar) (v : Value) (zs ys : List (Int × Int)) (w : World) (hA : ArAt w b F nn A) (ht : t < 64) (hI : Inv A) (hrow : Row w v zs) (hc : tcode zs = 0) (hys : Tidied zs ys) (hP : Pur A t (41 * ys.length + 45 + c) nn) :
    Calls Try.prog 55 #[.pointer (some ⟨b, 0, none⟩), .int .i64 t, v] w fun x w' => ∃ id, x = .returned (.tuple #[.int .i64 id, .int .i64 0]) ∧ FromOut w b t c F A ys id w' := by
  have hT := fun W (h : Row W v zs) => tidy_told v zs W h
  rw [hc] at hT
  obtain ⟨N, hN41, hN⟩ := least_exists (tidied_far hys)
  have hlen4 : ys.length ≤ 4096 := by
    have h1 := tidied_len hys
    unfold tcode at hc
    split at hc
    · omega
    · omega
  have hN2 := hN.two
  have HROW : Hid (Row w v zs) := hrow
  clear hrow
  go_enter Try.func55, Try.ntmps55
  go_wp2_with fail
  refine (hT _ HROW.out).mono ?_
  rintro e w1 ⟨u, ys', rfl, hb1, ht1, hr1⟩
  obtain rfl : ys' = ys := ht1.unique hys
  have HU : Hid (ORow w1 w.heap.size u ys') := hr1
  have HYS : Hid (Tidied zs ys') := hys
  have HI : Hid (Inv A) := hI
  have HPU : Hid (Pur A t (41 * ys'.length + 45 + c) nn) := hP
  have HLV : Hid (LeastLv N ys') := hN
  clear hr1 ht1 hys hI hP hc hT hN
  obtain ⟨x0, y0, x1, y1, bl, hbox, hBd⟩ : ∃ x0 y0 x1 y1 bl, BoxOr ys' x0 y0 x1 y1 ∧ ∀ W, Row W u ys' → Calls Try.prog 105 #[u] W fun e w' => e = .returned (.tuple #[.agg #[.int .i64 x0, .int .i64 y0, .int .i64 x1, .int .i64 y1], .bool bl]) ∧ Below W.heap.size W w' := by
    by_cases h0 : ys' = []
    · exact ⟨0, 0, 0, 0, false, Or.inl ⟨h0, rfl, rfl, rfl, rfl⟩, fun W h => by subst h0; exact bounds_any u 0 (fun j => (([] : List (Int × Int))[j]!).1) (fun j => (([] : List (Int × Int))[j]!).2) W h.isRow⟩
    · exact ⟨_, _, _, _, _, Or.inr (box_is h0), fun W h => bounds_any u ys'.length (fun j => (ys'[j]!).1) (fun j => (ys'[j]!).2) W h.isRow⟩
  have hLL := fun W => least_any N x0 y0 x1 y1 W hN2 (by omega) ((reach_fits hbox (by omega)).2 HLV.out.fits) (fun j h1 h2 => by
    have := HLV.out.least j h1 h2
    rw [← reach_fits hbox (by omega)] at this
    simpa using this)
  go_wp2_with fail
  refine (newHand_any b t _).mono ?_
  rintro e w2 ⟨rfl, hE2, hb2⟩
  go_wp2_with fail
  refine (hBd _ ?_).mono ?_
  · have b2 : Below w1.heap.size w1 (w2.alloc (.cells #[.pointer (some ⟨b, 0, none⟩), .int .i64 t, .int .i64 0, .slice (some ⟨w1.heap.size + 1, 0, none⟩) 1 1] 131)) := hb2.alloc hb2.size _
    exact (HU.out.below b2).read
  rintro e w3 ⟨rfl, hb3⟩
  go_wp2_with fail
  refine (hLL _).mono ?_
  rintro e w4 ⟨rfl, hb4⟩
  obtain ⟨hM4, hb04, hb14, hl12⟩ := from_begun hA hb1 hE2 hb2 hb3 hb4
  have hh2 : ∀ W, Calls Try.prog 99 #[.int .i64 (N : Int)] W fun x w' => x = .returned (.int .i64 (halfN N : Int)) ∧ w' = W := fun W => half_any N W (by omega) (by omega)
  have hbd := halfN_bd N (by omega)
  obtain ⟨hf, hhf⟩ : ∃ hf : Nat, hf = halfN N := ⟨_, rfl⟩
  rw [← hhf] at hh2 hbd
  have hpow : ((2 ^ N : Nat) : Int) = (hf : Int) + hf := by
    obtain ⟨m, rfl⟩ : ∃ m, N = m + 1 := ⟨N - 1, by omega⟩
    rw [hhf, halfN_succ, Nat.pow_succ]; omega
  have hpb : (hf : Int) ≤ 1099511627776 := by
    have : halfN N ≤ halfN 41 := Nat.pow_le_pow_right (by omega) (by omega)
    have e : halfN 41 = 1099511627776 := by decide
    omega
  have hneg : IntKind.i64.wrap (-(hf : Int)) = -(hf : Int) := by rw [IntKind.wrap_i64]; omega
  have hPS : PS t A [0] (N * ys'.length + c + (45 - ([0] : List Int).length)) nn := ⟨HI.out, Emp.first _ _, by simp, HPU.out.less (by
    have := Nat.mul_le_mul_right ys'.length hN41
    simp; omega)⟩
  have hbu := build_any N w2.heap.size b t nn c (-(hf : Int)) (-(hf : Int)) (N : Int) F (fun k => k = w2.heap.size ∨ k = w1.heap.size + 1) A [0] u ys'
  have HBU : Hid (∀ W, Below w4.heap.size w4 W → Calls Try.prog 106 #[.pointer (some ⟨w2.heap.size, 0, none⟩), bareV, u, .int .i64 (N : Int), .int .i64 (-(hf : Int)), .int .i64 (-(hf : Int))] W fun e w' => ∃ id, e = .returned (.int .i64 id) ∧ BOut w4 w2.heap.size b t c N F (fun k => k = w2.heap.size ∨ k = w1.heap.size + 1) A (-(hf : Int)) (-(hf : Int)) ys' id w') := by
    intro W hW
    have hrow4 := HU.out.below hb14
    have hs := hb1.size
    refine (hbu W (by omega) rfl (hM4.below hW) hPS ht (RowL.of (hrow4.below hW).read) (fun k hk => ?_) hlen4 (fun p hp => ?_) (by omega) (by omega) (by omega) (by omega)).mono ?_
    · have hkk : w.heap.size ≤ k ∧ k < w1.heap.size := by
        rcases HU.out with ⟨_, rfl⟩ | ⟨_, b', off, c', rfl, h1, h2, _⟩
        · simp [Value.ownBlock] at hk
        · simp only [Value.ownBlock, Option.some.injEq] at hk
          omega
      refine ⟨fun e => ?_, fun e => ?_⟩
      · have := hA.flt k e; omega
      · rcases e with e | e <;> omega
    · have := HLV.out.fits p hp
      rw [← hhf] at this
      omega
    · rintro e w5 ⟨id, rfl, hB⟩
      exact ⟨id, rfl, hB.ahead hW⟩
  have HA : Hid (∀ id w6, BOut w4 w2.heap.size b t c N F (fun k => k = w2.heap.size ∨ k = w1.heap.size + 1) A (-(hf : Int)) (-(hf : Int)) ys' id w6 → ∃ v6, HandAt w6 w2.heap.size b t 0 v6) := fun id w6 hR => by
    obtain ⟨_, _, _, _, _, _, h, _⟩ := hR
    obtain ⟨v6, hv6, _⟩ := h.hand
    exact ⟨v6, hv6⟩
  have HFIN : Hid (∀ id w6, BOut w4 w2.heap.size b t c N F (fun k => k = w2.heap.size ∨ k = w1.heap.size + 1) A (-(hf : Int)) (-(hf : Int)) ys' id w6 → FromOut w b t c F A ys' id w6) := fun id w6 hR => by
    obtain ⟨A', E', F', H', nn', M, h1, h2, h3, h4, h5, h6, h7, h8⟩ := hR
    have hz4 := hb04.size
    have hs1 := hb1.size
    refine ⟨A', F', nn', M, N, h1.ar, fun k hk => ?_, ?_, h4.inv, h4.pur.less (by omega), h5, h6, HLV.out, hN41, h7, fun p => ?_⟩
    · rcases h2 k (Or.inl hk) with (e | e) | e
      · exact Or.inl e
      · exact Or.inr (by rcases e with e | e <;> omega)
      · exact Or.inr (Nat.le_trans hz4 e)
    · refine ⟨h3.os.trans hb04.os, h3.tape.trans hb04.tape, h3.output.trans hb04.output, Nat.le_trans hz4 h3.size, fun k hk hn => (h3.block k (Nat.lt_of_lt_of_le hk hz4) ?_).trans (hb04.block k hk)⟩
      rintro (e | e)
      · exact hn e
      · rcases e with e | e <;> omega
    · rw [h8, ← hhf]
      rw [show p.1 + -(hf : Int) = p.1 - (hf : Int) by omega, show p.2 + -(hf : Int) = p.2 - (hf : Int) by omega]
  have HHF : Hid (hf = halfN N) := hhf
  clear hbu hPS hM4 hhf hE2 hBd hLL hbox
  go_wp2_with fail
  refine (bare_any _).mono ?_
  rintro e w5 ⟨rfl, hb5⟩
  go_wp2_with fail
  refine (hh2 _).mono ?_
  rintro e w6 ⟨rfl, rfl⟩
  go_wp2_with fail
  refine (hh2 _).mono ?_
  rintro e w6 ⟨rfl, rfl⟩
  go_wp2_with fail
  refine (HBU.out _ hb5).mono ?_
  rintro e w6 ⟨id, rfl, hR⟩
  obtain ⟨v6, hh6⟩ := HA.out _ _ hR
  go_wp2_with fail
  refine (answer_ok _ b t _ v6 _ hh6).mono ?_
  rintro e w7 ⟨rfl, rfl⟩
  go_wp2_with fail
  go_ret2
  exact ⟨_, rfl, HFIN.out _ _ hR⟩
end Go.Proofs.Ythobobgiendcfaa.A
