/- quarters: the cells of each quarter of a square. -/
import Derived.Test.YthobobgiendcfaaArBud
import Derived.Test.YthobobgiendcfaaMg
import Derived.Test.YthobobgiendcfaaEntry
import Derived.Laws.EntriesVeiled
namespace Go.Proofs.Ythobobgiendcfaa.A
open Go.RowKit Go.Maps

theorem newHand_any (b t : Nat) (w : World) : Calls Try.prog 92 #[.pointer (some ⟨b, 0, none⟩), .int .i64 t] w fun x w' => x = .returned (.agg #[.pointer (some ⟨b, 0, none⟩), .int .i64 t, .int .i64 0, .slice (some ⟨w.heap.size + 1, 0, none⟩) 1 1]) ∧ w'.heap[w.heap.size + 1]? = some (.cells #[.int .i64 0] 3 (0, 0)) ∧ Below w.heap.size w w' := by
  go_enter Try.func92, Try.ntmps92
  go_wp2_with fail
  refine bodyPost_ret (v := .agg #[.pointer (some ⟨b, 0, none⟩), .int .i64 t, .int .i64 0, .slice (some ⟨w.heap.size + 1, 0, none⟩) 1 1]) ?_ rfl ⟨rfl, heap_alloc2_new w _ _, ?_⟩
  · simp [results, Try.results92, go_sem]
  · exact ((Below.refl _ _).alloc (Nat.le_refl _) _).alloc (by simp) _
/-- half the side of a square -/
def halfN (n : Nat) : Nat := 2 ^ (n - 1)
theorem halfN_bd (n : Nat) (h2 : n ≤ 62) : halfN n ≤ 2305843009213693952 ∧ 0 < halfN n := by
  have hp : (2 : Nat) ^ (n - 1) ≤ 2 ^ 61 := Nat.pow_le_pow_right (by omega) (by omega)
  unfold halfN
  exact ⟨by simpa using hp, Nat.two_pow_pos _⟩
theorem wrap_half (n : Nat) (h2 : n ≤ 62) : wrap64 (2 ^ (n - 1)) = (halfN n : Int) := by
  have h := halfN_bd n h2
  have e : (2 : Int) ^ (n - 1) = (halfN n : Int) := by simp [halfN]
  rw [e]
  unfold wrap64
  omega
theorem half_any (n : Nat) (w : World) (h1 : 1 ≤ n) (h2 : n ≤ 62) : Calls Try.prog 99 #[.int .i64 n] w fun x w' => x = .returned (.int .i64 (halfN n : Int)) ∧ w' = w := by
  have h3 : (0 : Int) ≤ (n : Int) - 1 := by omega
  go_enter Try.func99, Try.ntmps99
  go_wp2_with fail
  go_ret
  exact ⟨ret_i (wrap_half n h2), rfl⟩
theorem ret_b {a b : Bool} (h : a = b) : Ending.returned (.bool a) = .returned (.bool b) := by rw [h]
/-- does a root of a level have all places of a box? -/
def reachB (n : Nat) (x0 y0 x1 y1 : Int) : Bool := decide (-(halfN n : Int) ≤ x0 ∧ -(halfN n : Int) ≤ y0 ∧ x1 < halfN n ∧ y1 < halfN n)
set_option maxHeartbeats 4000000 in
theorem reaches_any (n : Nat) (x0 y0 x1 y1 : Int) (w : World) (h1 : 1 ≤ n) (h2 : n ≤ 62) : Calls Try.prog 98 #[.int .i64 n, .agg #[.int .i64 x0, .int .i64 y0, .int .i64 x1, .int .i64 y1]] w fun x w' => x = .returned (.bool (reachB n x0 y0 x1 y1)) ∧ Below w.heap.size w w' := by
  have hb := halfN_bd n h2
  have hh := fun W => half_any n W h1 h2
  have hbel : Below w.heap.size w (w.alloc (.cells #[.int .i64 x0, .int .i64 y0, .int .i64 x1, .int .i64 y1] 81)) := (Below.refl _ _).alloc (Nat.le_refl _) _
  have HR : Hid (reachB n x0 y0 x1 y1 = decide (-(halfN n : Int) ≤ x0 ∧ -(halfN n : Int) ≤ y0 ∧ x1 < halfN n ∧ y1 < halfN n)) := rfl
  obtain ⟨k, hk⟩ : ∃ k, k = halfN n := ⟨_, rfl⟩
  rw [← hk] at hb hh HR
  clear hk
  have hneg : IntKind.i64.wrap (-(k : Int)) = -(k : Int) := by rw [IntKind.wrap_i64]; omega
  by_cases c0 : -(k : Int) ≤ x0
  · by_cases c1 : -(k : Int) ≤ y0
    · by_cases c2 : x1 < (k : Int)
      · by_cases c3 : y1 < (k : Int)
        · go_enter Try.func98, Try.ntmps98
          go_wp2_with fail
          refine (hh _).mono ?_
          rintro e w1 ⟨rfl, rfl⟩
          go_wp2_with fail
          go_ret
          exact ⟨ret_b (by rw [HR.out, decide_eq_true ⟨c0, c1, c2, c3⟩]), hbel⟩
        · go_enter Try.func98, Try.ntmps98
          go_wp2_with fail
          refine (hh _).mono ?_
          rintro e w1 ⟨rfl, rfl⟩
          go_wp2_with fail
          go_ret
          refine ⟨ret_b ?_, hbel⟩
          rw [HR.out]
          simp [c0, c1, c2]
      · go_enter Try.func98, Try.ntmps98
        go_wp2_with fail
        refine (hh _).mono ?_
        rintro e w1 ⟨rfl, rfl⟩
        go_wp2_with fail
        go_ret
        exact ⟨ret_b (by rw [HR.out]; symm; apply decide_eq_false; omega), hbel⟩
    · go_enter Try.func98, Try.ntmps98
      go_wp2_with fail
      refine (hh _).mono ?_
      rintro e w1 ⟨rfl, rfl⟩
      go_wp2_with fail
      go_ret
      exact ⟨ret_b (by rw [HR.out]; symm; apply decide_eq_false; omega), hbel⟩
  · go_enter Try.func98, Try.ntmps98
    go_wp2_with fail
    refine (hh _).mono ?_
    rintro e w1 ⟨rfl, rfl⟩
    go_wp2_with fail
    go_ret
    exact ⟨ret_b (by rw [HR.out]; symm; apply decide_eq_false; omega), hbel⟩
/-- leastLevel, of a box that the least root of all reaches -/
theorem least_two (w : World) : Calls Try.prog 97 #[.agg #[.int .i64 0, .int .i64 0, .int .i64 0, .int .i64 0]] w fun x w' => x = .returned (.int .i64 2) ∧ Below w.heap.size w w' := by
  have hr : ∀ W, Calls Try.prog 98 #[.int .i64 2, .agg #[.int .i64 0, .int .i64 0, .int .i64 0, .int .i64 0]] W fun x w' => x = .returned (.bool true) ∧ Below W.heap.size W w' := fun W => reaches_any 2 0 0 0 0 W (by omega) (by omega)
  go_enter Try.func97, Try.ntmps97
  go_wp2_with fail
  refine wp_loop_rounds 1 ?_
  rw [rounds_succ]
  go_wp2_with fail
  refine (hr _).mono ?_
  rintro e w1 ⟨rfl, hb1⟩
  go_wp2_with fail
  go_ret
  have hb0 : Below w.heap.size w (w.alloc (.cells #[.int .i64 0, .int .i64 0, .int .i64 0, .int .i64 0] 81)) := (Below.refl _ _).alloc (Nat.le_refl _) _
  exact ⟨rfl, hb0.trans (hb1.mono hb0.size)⟩
theorem cells_nil (w : World) : Calls Try.prog 82 #[.slice none 0 0] w fun x w' => x = .returned (.slice none 0 0) ∧ w' = w := by
  go_enter Try.func82, Try.ntmps82
  go_wp2_with fail
  go_ret
  exact ⟨rfl, rfl⟩

/-- no ground -/
abbrev bareV : Value := .agg #[.int .i64 (-1), .int .i64 0, .int .i64 0]
theorem bare_any (w : World) : Calls Try.prog 107 #[] w fun e w' => e = .returned bareV ∧ Below w.heap.size w w' := by
  go_enter Try.func107, Try.ntmps107
  go_wp2_with fail
  refine bodyPost_ret (v := bareV) ?_ rfl ⟨rfl, ?_⟩
  · simp [results, Try.results107, go_sem]
  · repeat (first | exact Below.refl _ _ | refine Below.alloc ?_ (by simp) _ | refine Below.setCell ?_ (by simp) _)
theorem RoundOut.ahead {w0 w w' : World} {hb b n t : Nat} {F H : Nat → Prop} {s : Ar × List Int} (hb0 : Below w0.heap.size w0 w) (h : RoundOut w hb b n t F H s w') : RoundOut w0 hb b n t F H s w' := by
  obtain ⟨F', H', h1, h2, h3, h4, h5⟩ := h
  refine ⟨F', H', h1, h2, h3, fun k hk => ?_, (Apart.of hb0).trans h5 fun k hk => Or.inl hk⟩
  rcases h4 k hk with e | e
  · exact Or.inl e
  · exact Or.inr (Nat.le_trans hb0.size e)
theorem HandIn.below {w w' : World} {hb b t : Nat} {e : Int} {E : List Int} {H : Nat → Prop} (h : HandIn w hb b t e E H) (hb' : Below w.heap.size w w') : HandIn w' hb b t e E H := by
  obtain ⟨v, h1, h2, h3, h4, h5, h6⟩ := h
  exact ⟨v, h1.go (hb'.block hb (h6 hb h3)), row_other h2 fun k hk => hb'.block k (h6 k (h4 k hk)), h3, h4, h5, fun k hk => Nat.lt_of_lt_of_le (h6 k hk) hb'.size⟩

set_option maxRecDepth 20000 in
set_option maxHeartbeats 4000000 in
theorem from1_nil (hb b n t m0 k : Nat) (x y : Int) (F H : Nat → Prop) (s : Ar × List Int) (w : World) (hA : ArAt w b F n s.1) (hH : HandIn w hb b t 0 s.2 H) (hFH : ∀ k, F k → ¬ H k) (hok : ∀ i, i < k → StepOk t (emptyN t s i)) (ht : t < 64) (hn : n < 900000000) (hm0 : s.2.length = m0 + 1) (hlen : m0 + k < 1000) (level : Int) (hlev : level = ((m0 + k : Nat) : Int)) :
    Calls Try.prog 106 #[.pointer (some ⟨hb, 0, none⟩), bareV, .slice none 0 0, .int .i64 level, .int .i64 x, .int .i64 y] w fun e w' => e = .returned (.int .i64 (nth (emptyN t s k).2 (m0 + k))) ∧ RoundOut w hb b (n + k) t F H (emptyN t s k) w' := by
  have hb0 : Below w.heap.size w (w.alloc (.cells #[.int .i64 (-1), .int .i64 0, .int .i64 0] 154)) := (Below.refl _ _).alloc (Nat.le_refl _) _
  have g0 : (w.alloc (.cells #[.int .i64 (-1), .int .i64 0, .int .i64 0] 154)).cell? ⟨w.heap.size, 0, none⟩ = some (.int .i64 (-1)) := by rw [World.cell?_alloc_new]; rfl
  have hA1 := hA.below hb0
  have hH1 := hH.below hb0
  have HB0 : Hid (Below w.heap.size w (w.alloc (.cells #[.int .i64 (-1), .int .i64 0, .int .i64 0] 154))) := hb0
  generalize hw1 : w.alloc (.cells #[.int .i64 (-1), .int .i64 0, .int .i64 0] 154) = w1 at *
  have hE := fun W (hW : W = w1) => empty_any hb b n t m0 k F H s W (by rw [hW]; exact hA1) (by rw [hW]; exact hH1) hFH hok ht hn hm0 hlen level hlev
  obtain ⟨v, hh, _⟩ := hH1
  have c2 := hh.c2
  clear hlev hA1 hA hH hb0
  unfold bareV
  go_enter Try.func106, Try.ntmps106
  go_wp2_with fail
  refine (hE _ rfl).mono ?_
  rintro e w2 ⟨rfl, hR⟩
  go_wp2_with fail
  go_ret
  exact ⟨rfl, hR.ahead HB0.out⟩

/-- all steps to the least root of nothing -/
theorem steps_ok {A : Ar} {t k : Nat} (hG : Good A.ths) (hB : Bud A (k + 2)) (hq : A.cnt t + (k + 2) ≤ A.lim t) (ht : t < 64) (hk : k ≤ 40) :
    ∀ i, i ≤ k → Good (emptyN t (A, [0]) i).1.ths ∧ Bud (emptyN t (A, [0]) i).1 (k + 2 - i) ∧ (emptyN t (A, [0]) i).1.cnt t + ((k + 2 - i : Nat) : Int) ≤ (emptyN t (A, [0]) i).1.lim t ∧ Emp (emptyN t (A, [0]) i).1.ths t (emptyN t (A, [0]) i).2 ∧ (emptyN t (A, [0]) i).2.length = i + 1 ∧ StepOk t (emptyN t (A, [0]) i) ∧ (∀ u, u ≠ t → ∀ x ∈ (emptyN t (A, [0]) i).1.ths, x.mask.testBit u = true → ∃ z ∈ A.ths, z.mask.testBit u = true) := by
  have fin : ∀ (S : Ar × List Int) (j : Nat), Good S.1.ths → Bud S.1 (j + 2) → S.1.cnt t + ((j + 2 : Nat) : Int) ≤ S.1.lim t → Emp S.1.ths t S.2 → S.2.length ≤ 44 → StepOk t S := by
    rintro ⟨B, E⟩ j g bd cq em el
    simp only at g bd cq em el
    obtain ⟨m, hm, hM, _⟩ := emp_step em g el (show B.cnt t < B.lim t by omega)
    obtain ⟨m', hm', hlast⟩ := em.last
    have hl := em.lv m' _ hlast
    have hf := level_fits hl bd.young.few
    exact ⟨bd.young, ⟨by show _ ≤ E.getLast!; omega, by show E.getLast! ≤ _; omega⟩, hM.ok, fun l h => by rw [show levelF (B, E).1.ths t (B, E).2.getLast! = levelF B.ths t E.getLast! from rfl, hl] at h; cases h; omega⟩
  intro i
  induction i with
  | zero =>
    intro _
    refine ⟨hG, hB, hq, Emp.first _ _, rfl, fin (A, [0]) k hG hB hq (Emp.first _ _) (by simp), fun u _ x hx h => ⟨x, hx, h⟩⟩
  | succ i ih =>
    intro hik
    obtain ⟨g, bd, cq, em, el, so, ot⟩ := ih (by omega)
    obtain ⟨m, hm, hM, hE⟩ := emp_step em g (by omega) (by omega : (emptyN t (A, [0]) i).1.cnt t < (emptyN t (A, [0]) i).1.lim t)
    have hgr := hM.grew
    have e1 : (emptyN t (A, [0]) (i + 1)).1 = ((emptyN t (A, [0]) i).1.join t (emptyN t (A, [0]) i).2.getLast! (emptyN t (A, [0]) i).2.getLast! (emptyN t (A, [0]) i).2.getLast! (emptyN t (A, [0]) i).2.getLast!).1 := rfl
    have b2 : Bud (emptyN t (A, [0]) (i + 1)).1 (k + 2 - (i + 1)) := by
      rw [e1]
      exact (show Bud (emptyN t (A, [0]) i).1 (k + 2 - (i + 1) + 1) by rw [show k + 2 - (i + 1) + 1 = k + 2 - i by omega]; exact bd).step hgr ht
    have g2 : Good (emptyN t (A, [0]) (i + 1)).1.ths := by rw [e1]; exact hM.good
    have q2 : (emptyN t (A, [0]) (i + 1)).1.cnt t + ((k + 2 - (i + 1) : Nat) : Int) ≤ (emptyN t (A, [0]) (i + 1)).1.lim t := by
      rw [e1, hgr.lim]
      have := hgr.cnt t
      omega
    have l2 : (emptyN t (A, [0]) (i + 1)).2.length = i + 1 + 1 := by rw [emptyN_length]; simp; omega
    refine ⟨g2, b2, q2, hE, l2, fin _ (k + 2 - (i + 1) - 2) g2 (by rw [show k + 2 - (i + 1) - 2 + 2 = k + 2 - (i + 1) by omega]; exact b2) (by rw [show k + 2 - (i + 1) - 2 + 2 = k + 2 - (i + 1) by omega]; exact q2) hE (by omega), fun u hu x hx h => ?_⟩
    rw [e1] at hx
    obtain ⟨z, hz, hzb⟩ := hgr.other u hu x hx h
    exact ot u hu z hz hzb
theorem HandIn.drew {w : World} {hb b t : Nat} {e : Int} {E : List Int} {H : Nat → Prop} (h : HandIn w hb b t e E H) : HandIn w.drew hb b t e E H := by
  obtain ⟨v, h1, h2, h3⟩ := h
  exact ⟨v, h1.go rfl, row_other h2 fun _ _ => rfl, h3⟩
theorem from_facts {w w1 w2 w3 w4 : World} {b n t : Nat} {F : Nat → Prop} {A : Ar} (hA : ArAt w b F n A) (hb1 : Below w.heap.size w w1) (hE2 : w2.heap[w1.heap.size + 1]? = some (.cells #[.int .i64 0] 3 (0, 0))) (hb2 : Below w1.heap.size w1 w2)
    (hb3 : Below (w2.alloc (.cells #[.pointer (some ⟨b, 0, none⟩), .int .i64 t, .int .i64 0, .slice (some ⟨w1.heap.size + 1, 0, none⟩) 1 1] 131)).heap.size (w2.alloc (.cells #[.pointer (some ⟨b, 0, none⟩), .int .i64 t, .int .i64 0, .slice (some ⟨w1.heap.size + 1, 0, none⟩) 1 1] 131)) w3)
    (hb4 : Below (w3.alloc (.cells #[.int .i64 0, .int .i64 0, .int .i64 0, .int .i64 0] 81)).heap.size (w3.alloc (.cells #[.int .i64 0, .int .i64 0, .int .i64 0, .int .i64 0] 81)) w4) :
    ArAt w4 b F n A ∧ HandIn w4 w2.heap.size b t 0 [0] (fun k => k = w2.heap.size ∨ k = w1.heap.size + 1) ∧ (∀ k, F k → ¬ (k = w2.heap.size ∨ k = w1.heap.size + 1)) ∧ Below w.heap.size w w4 := by
  have s1 := hb1.size
  have l2 : w1.heap.size + 1 < w2.heap.size := (Array.getElem?_eq_some_iff.1 hE2).1
  generalize hX : w2.alloc (.cells #[.pointer (some ⟨b, 0, none⟩), .int .i64 t, .int .i64 0, .slice (some ⟨w1.heap.size + 1, 0, none⟩) 1 1] 131) = X at *
  have sX : X.heap.size = w2.heap.size + 1 := by rw [← hX]; simp
  have x0 : X.heap[w2.heap.size]? = some (.cells #[.pointer (some ⟨b, 0, none⟩), .int .i64 t, .int .i64 0, .slice (some ⟨w1.heap.size + 1, 0, none⟩) 1 1] 131 (0, 0)) := by rw [← hX]; exact heap_alloc_new w2 _
  have bX : Below w2.heap.size w2 X := by rw [← hX]; exact (Below.refl _ _).alloc (Nat.le_refl _) _
  generalize hY : w3.alloc (.cells #[.int .i64 0, .int .i64 0, .int .i64 0, .int .i64 0] 81) = Y at *
  have s3 := hb3.size
  have bY : Below w3.heap.size w3 Y := by rw [← hY]; exact (Below.refl _ _).alloc (Nat.le_refl _) _
  have sY := bY.size
  have s4 := hb4.size
  have k4 : ∀ k, k < X.heap.size → w4.heap[k]? = X.heap[k]? := fun k hk => (hb4.block k (by omega)).trans ((bY.block k (by omega)).trans (hb3.block k hk))
  have b24 : Below w2.heap.size w2 w4 := ((bX.trans (hb3.mono (by omega))).trans (bY.mono (by omega))).trans (hb4.mono (by omega))
  have b14 : Below w1.heap.size w1 w4 := hb2.trans (b24.mono (by omega))
  have b04 : Below w.heap.size w w4 := hb1.trans (b14.mono s1)
  have hflt := hA.flt
  refine ⟨hA.below b04, ⟨_, HandAt.of (l := []) ((k4 _ (by omega)).trans x0), ?_, Or.inl rfl, fun k hk => ?_, fun e => ?_, fun k hk => ?_⟩, fun k hk e => ?_, b04⟩
  · refine ⟨rfl, Or.inr ⟨w1.heap.size + 1, 1, #[.int .i64 0], rfl, Nat.zero_le _, ?_, Nat.le_refl _, by unfold maxLen; omega, rfl, rfl⟩⟩
    exact (b24.block _ l2).trans hE2
  · simp only [Value.ownBlock, Option.some.injEq] at hk
    exact Or.inr hk.symm
  · simp only [Value.ownBlock, Option.some.injEq] at e
    omega
  · rcases hk with h | h <;> omega
  · have := hflt k hk
    omega

set_option maxRecDepth 20000 in
set_option maxHeartbeats 8000000 in
theorem from_nil (b n t : Nat) (F : Nat → Prop) (A : Ar) (w : World) (hA : ArAt w b F n A) (ht : t < 64) (hn : n < 900000000) (hB : Bud A 10) (hG : Good A.ths) (hq : A.cnt t + 10 ≤ A.lim t) :
    Calls Try.prog 55 #[.pointer (some ⟨b, 0, none⟩), .int .i64 t, .slice none 0 0] w fun x w' => ∃ F' A' id, x = .returned (.tuple #[.int .i64 id, .int .i64 0]) ∧ ArAt w' b F' (n + 2) A' ∧ (∀ k, F' k → F k ∨ w.heap.size ≤ k) ∧ Apart F w w' ∧ Good A'.ths ∧ Bud A' 2 ∧ (∀ u, u ≠ t → ∀ x ∈ A'.ths, x.mask.testBit u = true → ∃ z ∈ A.ths, z.mask.testBit u = true) := by
  have hT := fun W => tidy_told (.slice none 0 0) [] W (Or.inl ⟨rfl, rfl⟩)
  have hBd := fun W => bounds_any (.slice none 0 0) 0 (fun _ => 0) (fun _ => 0) W (IsRow.nil W _ _)
  rw [boxOf_zero] at hBd
  go_enter Try.func55, Try.ntmps55
  go_wp2_with fail
  refine (hT _).mono ?_
  rintro e w1 ⟨u, ys, rfl, hb1, ht1, hr1⟩
  obtain rfl : ys = [] := ht1.unique ⟨List.Pairwise.nil, fun p => by simp⟩
  obtain rfl : u = .slice none 0 0 := by
    rcases hr1 with ⟨_, h⟩ | ⟨h, _⟩
    · exact h
    · exact absurd rfl h
  rw [show tcode [] = 0 from rfl]
  go_wp2_with fail
  refine (newHand_any b t _).mono ?_
  rintro e w2 ⟨rfl, hE2, hb2⟩
  go_wp2_with fail
  refine (hBd _).mono ?_
  rintro e w3 ⟨rfl, hb3⟩
  go_wp2_with fail
  refine (least_two _).mono ?_
  rintro e w4 ⟨rfl, hb4⟩
  have HF := from_facts hA hb1 hE2 hb2 hb3 hb4
  obtain ⟨hA4, hH4, hd4, hb04⟩ := HF
  have hsteps := steps_ok (A := A) (t := t) (k := 2) hG (hB.less (by omega)) (by omega) ht (by omega)
  have hf1 : ∀ W, Below w4.heap.size w4 W → ∀ x y : Int, Calls Try.prog 106 #[.pointer (some ⟨w2.heap.size, 0, none⟩), bareV, .slice none 0 0, .int .i64 2, .int .i64 x, .int .i64 y] W fun e w' => e = .returned (.int .i64 (nth (emptyN t (A, [0]) 2).2 (0 + 2))) ∧ RoundOut w4 w2.heap.size b (n + 2) t F (fun k => k = w2.heap.size ∨ k = w1.heap.size + 1) (emptyN t (A, [0]) 2) w' := fun W hW x y => (from1_nil w2.heap.size b n t 0 2 x y F (fun k => k = w2.heap.size ∨ k = w1.heap.size + 1) (A, [0]) W (hA4.below hW) (hH4.below hW) hd4 (fun i hi => (hsteps i (by omega)).2.2.2.2.2.1) ht hn rfl (by omega) 2 rfl).mono fun e w' ⟨he, hr⟩ => ⟨he, hr.ahead hW⟩
  have hh2 : ∀ W, Calls Try.prog 99 #[.int .i64 2] W fun x w' => x = .returned (.int .i64 2) ∧ w' = W := fun W => half_any 2 W (by omega) (by omega)
  obtain ⟨g2, bd2, _, _, _, _, ot2⟩ := hsteps 2 (by omega)
  generalize hS : emptyN t (A, [0]) 2 = S at *
  have HFIN : Hid (∀ w6, RoundOut w4 w2.heap.size b (n + 2) t F (fun k => k = w2.heap.size ∨ k = w1.heap.size + 1) S w6 → ∃ F' A', ArAt w6 b F' (n + 2) A' ∧ (∀ k, F' k → F k ∨ w.heap.size ≤ k) ∧ Apart F w w6 ∧ Good A'.ths ∧ Bud A' 2 ∧ (∀ u, u ≠ t → ∀ x ∈ A'.ths, x.mask.testBit u = true → ∃ z ∈ A.ths, z.mask.testBit u = true)) := fun w6 hR => by
    obtain ⟨F', H', hA6, _, _, hs6, hP6⟩ := hR
    have hsz1 := hb1.size
    have hsz2 := hb2.size
    have hz4 := hb04.size
    refine ⟨F', S.1, hA6, fun k hk => ?_, ?_, g2, bd2, ot2⟩
    · rcases hs6 k (Or.inl hk) with (e | e) | e
      · exact Or.inl e
      · exact Or.inr (by rcases e with e | e <;> omega)
      · exact Or.inr (Nat.le_trans hz4 e)
    · refine ⟨hP6.os.trans hb04.os, hP6.tape.trans hb04.tape, hP6.output.trans hb04.output, Nat.le_trans hz4 hP6.size, fun k hk hn => (hP6.block k (Nat.lt_of_lt_of_le hk hz4) ?_).trans (hb04.block k hk)⟩
      rintro (e | e)
      · exact hn e
      · rcases e with e | e <;> omega
  clear hsteps g2 bd2 ot2 hd4 hH4 hA4 hE2 hT hBd
  go_wp2_with fail
  refine (bare_any _).mono ?_
  rintro e w5 ⟨rfl, hb5⟩
  go_wp2_with fail
  refine (hh2 _).mono ?_
  rintro e w6 ⟨rfl, rfl⟩
  go_wp2_with fail
  refine (hh2 _).mono ?_
  rintro e w6 ⟨rfl, rfl⟩
  go_wp2_with fail
  refine (hf1 _ hb5 _ _).mono ?_
  rintro e w6 ⟨rfl, hR⟩
  obtain ⟨F', H', hA6, hH6, hd6, hs6, hP6⟩ := id hR
  obtain ⟨v6, hh6, hrest⟩ := hH6
  clear hA6 hd6 hs6 hP6 hrest
  go_wp2_with fail
  refine (answer_ok _ b t _ v6 _ hh6).mono ?_
  rintro e w7 ⟨rfl, rfl⟩
  go_wp2_with fail
  go_ret2
  obtain ⟨FF, AA, r1, r2, r3, r4, r5, r6⟩ := HFIN.out _ hR
  exact ⟨FF, AA, _, rfl, r1, r2, r3, r4, r5, r6⟩
end Go.Proofs.Ythobobgiendcfaa.A

namespace Go.Proofs.Ythobobgiendcfaa.A
open Go.RowKit Go.Maps

/-- counts are added up to 2^62 -/
def addF (n m : Int) : Int := if 4611686018427387904 - m < n then 4611686018427387904 else n + m
theorem add_any (n m : Int) (w : World) (hn : 0 ≤ n ∧ n ≤ 4611686018427387904) (hm : 0 ≤ m ∧ m ≤ 4611686018427387904) :
    Calls Try.prog 125 #[.int .i64 n, .int .i64 m] w fun x w' => x = .returned (.int .i64 (addF n m)) ∧ w' = w := by
  by_cases h : 4611686018427387904 - m < n
  · have HE : Hid (addF n m = 4611686018427387904) := by show _ = _; unfold addF; rw [if_pos h]
    go_enter Try.func125, Try.ntmps125
    go_wp2_with fail
    go_ret
    exact ⟨ret_i HE.out.symm, rfl⟩
  · have HE : Hid (addF n m = n + m) := by show _ = _; unfold addF; rw [if_neg h]
    go_enter Try.func125, Try.ntmps125
    go_wp2_with fail
    go_ret
    exact ⟨ret_i HE.out.symm, rfl⟩

/-! where a quarter's corner is -/
theorem corner0 (n : Nat) (w : World) (h1 : 1 ≤ n) (h2 : n ≤ 62) : Calls Try.prog 126 #[.int .i64 0, .int .i64 n] w fun x w' => x = .returned (.tuple #[.int .i64 0, .int .i64 0]) ∧ w' = w := by
  have hh := fun W => half_any n W h1 h2
  have hb := halfN_bd n h2
  generalize halfN n = k at *
  go_enter Try.func126, Try.ntmps126
  go_wp2_with fail
  refine (hh _).mono ?_
  rintro e w1 ⟨rfl, rfl⟩
  go_wp2_with fail
  refine (hh _).mono ?_
  rintro e w2 ⟨rfl, rfl⟩
  go_wp2_with fail
  go_ret2
  exact ⟨by simp, rfl⟩
theorem corner1 (n : Nat) (w : World) (h1 : 1 ≤ n) (h2 : n ≤ 62) : Calls Try.prog 126 #[.int .i64 1, .int .i64 n] w fun x w' => x = .returned (.tuple #[.int .i64 (halfN n : Int), .int .i64 0]) ∧ w' = w := by
  have hh := fun W => half_any n W h1 h2
  have hb := halfN_bd n h2
  generalize halfN n = k at *
  go_enter Try.func126, Try.ntmps126
  go_wp2_with fail
  refine (hh _).mono ?_
  rintro e w1 ⟨rfl, rfl⟩
  go_wp2_with fail
  refine (hh _).mono ?_
  rintro e w2 ⟨rfl, rfl⟩
  go_wp2_with fail
  go_ret2
  exact ⟨by simp, rfl⟩
theorem corner2 (n : Nat) (w : World) (h1 : 1 ≤ n) (h2 : n ≤ 62) : Calls Try.prog 126 #[.int .i64 2, .int .i64 n] w fun x w' => x = .returned (.tuple #[.int .i64 0, .int .i64 (halfN n : Int)]) ∧ w' = w := by
  have hh := fun W => half_any n W h1 h2
  have hb := halfN_bd n h2
  generalize halfN n = k at *
  go_enter Try.func126, Try.ntmps126
  go_wp2_with fail
  refine (hh _).mono ?_
  rintro e w1 ⟨rfl, rfl⟩
  go_wp2_with fail
  refine (hh _).mono ?_
  rintro e w2 ⟨rfl, rfl⟩
  go_wp2_with fail
  go_ret2
  exact ⟨by simp, rfl⟩
theorem corner3 (n : Nat) (w : World) (h1 : 1 ≤ n) (h2 : n ≤ 62) : Calls Try.prog 126 #[.int .i64 3, .int .i64 n] w fun x w' => x = .returned (.tuple #[.int .i64 (halfN n : Int), .int .i64 (halfN n : Int)]) ∧ w' = w := by
  have hh := fun W => half_any n W h1 h2
  have hb := halfN_bd n h2
  generalize halfN n = k at *
  go_enter Try.func126, Try.ntmps126
  go_wp2_with fail
  refine (hh _).mono ?_
  rintro e w1 ⟨rfl, rfl⟩
  go_wp2_with fail
  refine (hh _).mono ?_
  rintro e w2 ⟨rfl, rfl⟩
  go_wp2_with fail
  go_ret2
  exact ⟨by simp, rfl⟩

/-- leastLevel: the least level from 2 on of a root that reaches a box -/
theorem least_any (N : Nat) (x0 y0 x1 y1 : Int) (w : World) (h2 : 2 ≤ N) (h62 : N ≤ 62) (hN : reachB N x0 y0 x1 y1 = true) (hno : ∀ j, 2 ≤ j → j < N → reachB j x0 y0 x1 y1 = false) :
    Calls Try.prog 97 #[.agg #[.int .i64 x0, .int .i64 y0, .int .i64 x1, .int .i64 y1]] w fun x w' => x = .returned (.int .i64 N) ∧ Below w.heap.size w w' := by
  have hr := fun (j : Nat) W (h1 : 1 ≤ j) (hj : j ≤ 62) => reaches_any j x0 y0 x1 y1 W h1 hj
  have hb0 : Below w.heap.size w (w.alloc (.cells #[.int .i64 x0, .int .i64 y0, .int .i64 x1, .int .i64 y1] 81)) := (Below.refl _ _).alloc (Nat.le_refl _) _
  have hX : (w.alloc (.cells #[.int .i64 x0, .int .i64 y0, .int .i64 x1, .int .i64 y1] 81)).heap[w.heap.size]? = some (.cells #[.int .i64 x0, .int .i64 y0, .int .i64 x1, .int .i64 y1] 81 (0, 0)) := heap_alloc_new w _
  have HN : Hid (∀ i : Nat, 2 ≤ i → i ≤ N → reachB i x0 y0 x1 y1 = decide (i = N)) := fun i hi hiN => by
    by_cases e : i = N
    · subst e; rw [hN]; simp
    · rw [hno i hi (by omega)]; simp [e]
  clear hN hno
  go_enter Try.func97, Try.ntmps97
  go_wp2_with fail
  go_loopg [3] (N - 2) (fun g s3 wr => ∃ i : Nat, i + g = N ∧ 2 ≤ i ∧ s3 = .int .i64 i ∧ wr.heap[w.heap.size]? = some (.cells #[.int .i64 x0, .int .i64 y0, .int .i64 x1, .int .i64 y1] 81 (0, 0)) ∧ Below w.heap.size w wr)
  case atStart => exact ⟨2, by omega, by omega, rfl, hX, hb0⟩
  case round =>
    obtain ⟨i, hig, hi2, rfl, hXr, hbr⟩ := hrel
    have HI : Hid (i + gk = N) := hig
    have hr1 := hr i wr (by omega) (by omega)
    rw [HN.out i hi2 (by omega)] at hr1
    have hi62 : i < 100 := by omega
    have k0 := Lib.cell_of_heap hXr 0
    have k1 := Lib.cell_of_heap hXr 1
    have k2 := Lib.cell_of_heap hXr 2
    have k3 := Lib.cell_of_heap hXr 3
    have hlr : w.heap.size < wr.heap.size := (Array.getElem?_eq_some_iff.1 hXr).1
    clear hX hb0 hig hr
    by_cases e : i = N
    · have HE : Hid (i = N) := e
      rw [show decide (i = N) = true by simp [e]] at hr1
      clear e
      go_wp2_with fail
      refine hr1.mono ?_
      rintro y w1 ⟨rfl, b1⟩
      go_wp2_with fail
      go_ret
      exact ⟨ret_i (by rw [HE.out]), hbr.trans (b1.mono hbr.size)⟩
    · have HE : Hid (i ≠ N) := e
      rw [show decide (i = N) = false by simp [e]] at hr1
      clear e
      go_wp2_with fail
      refine hr1.mono ?_
      rintro y w1 ⟨rfl, b1⟩
      go_wp2_with fail
      go_roundg (gk - 1)
      case measure => have := HI.out; have := HE.out; omega
      case rel => exact ⟨i + 1, by have := HI.out; have := HE.out; omega, by omega, by go_num, (b1.block _ hlr).trans hXr, hbr.trans (b1.mono hbr.size)⟩
end Go.Proofs.Ythobobgiendcfaa.A

namespace Go.Proofs.Ythobobgiendcfaa.A
open Go.RowKit Go.Maps

/-- the quarter that a cell lies in -/
def qi (x y : Int) (c : Int × Int) : Nat := (if x ≤ c.1 then 1 else 0) + (if y ≤ c.2 then 2 else 0)
def part (x y : Int) (zs : List (Int × Int)) (i : Nat) : List (Int × Int) := zs.filter fun c => qi x y c == i
def cL (zs : List (Int × Int)) : List Value := zs.flatMap fun c => [.int .i64 c.1, .int .i64 c.2]
theorem part_snoc (x y : Int) (zs : List (Int × Int)) (c : Int × Int) (i : Nat) : part x y (zs ++ [c]) i = if qi x y c = i then part x y zs i ++ [c] else part x y zs i := by
  unfold part
  rw [List.filter_append]
  by_cases h : qi x y c = i <;> simp [h]
theorem cL_snoc (zs : List (Int × Int)) (c : Int × Int) : cL (zs ++ [c]) = cL zs ++ [.int .i64 c.1, .int .i64 c.2] := by simp [cL]
theorem part_le (x y : Int) (zs : List (Int × Int)) (i : Nat) : (part x y zs i).length ≤ zs.length := List.length_filter_le _ _

abbrev nil4 : Array Value := #[.slice none 0 0, .slice none 0 0, .slice none 0 0, .slice none 0 0]
/-- what holds midway -/
structure QS (w wr : World) (x y : Int) (zs : List (Int × Int)) (vs : Nat → Value) : Prop where
  blk : wr.heap[w.heap.size + 1]? = some (.cells #[vs 0, vs 1, vs 2, vs 3] 191 (0, 0))
  res : wr.heap[w.heap.size]? = some (.cells nil4 191 (0, 0))
  row : ∀ i, i < 4 → wr.ownsRow (w.heap.size + 2) 87 2 (vs i) (part x y zs i).length (cL (part x y zs i))
  ap : ∀ i j b, i < 4 → j < 4 → (vs i).ownBlock = some b → (vs j).ownBlock = some b → i = j
  bel : Below w.heap.size w wr
def updV (vs : Nat → Value) (i : Nat) (v : Value) : Nat → Value := fun j => if j = i then v else vs j

theorem QS.step {w wr W w5 : World} {x y : Int} {zs : List (Int × Int)} {vs : Nat → Value} {c : Int × Int} {i g5 cap5 : Nat} (h : QS w wr x y zs vs) (hi : qi x y c = i) (hi4 : i < 4) (hW : Below wr.heap.size wr W)
    (hown : w5.ownsRow (w.heap.size + 2) 87 2 (.slice (some ⟨g5, 0, none⟩) ((part x y zs i).length + 1) cap5) ((part x y zs i).length + 1) (cL (part x y zs i) ++ [.int .i64 c.1, .int .i64 c.2]))
    (hg : W.grownBy w5 (vs i).ownBlock) (hat : (vs i).ownBlock = some g5 ∨ wr.heap.size ≤ g5) :
    QS w (w5.setCell ⟨w.heap.size + 1, i, none⟩ (.slice (some ⟨g5, 0, none⟩) ((part x y zs i).length + 1) cap5)) x y (zs ++ [c]) (updV vs i (.slice (some ⟨g5, 0, none⟩) ((part x y zs i).length + 1) cap5)) := by
  have hq : w.heap.size + 1 < wr.heap.size := (Array.getElem?_eq_some_iff.1 h.blk).1
  have hlt : ∀ j, j < 4 → ∀ k, (vs j).ownBlock = some k → w.heap.size + 2 ≤ k ∧ k < wr.heap.size := fun j hj k hk => World.ownsRow.lt (h.row j hj) k hk
  have keep : ∀ k, k < wr.heap.size → (vs i).ownBlock ≠ some k → w5.heap[k]? = wr.heap[k]? := fun k hk hn => (hg.block k (Nat.lt_of_lt_of_le hk hW.size) hn.symm).trans (hW.block k hk)
  have hq5 : w5.heap[w.heap.size + 1]? = some (.cells #[vs 0, vs 1, vs 2, vs 3] 191 (0, 0)) := (keep _ hq (fun e => by have := hlt i hi4 _ e; omega)).trans h.blk
  have hset : ∀ k, k ≠ w.heap.size + 1 → (w5.setCell ⟨w.heap.size + 1, i, none⟩ (.slice (some ⟨g5, 0, none⟩) ((part x y zs i).length + 1) cap5)).heap[k]? = w5.heap[k]? := fun k hk => Below.heap_setCell _ _ _ _ hk
  refine ⟨?_, ?_, fun j hj => ?_, fun j l b hj hl h1 h2 => ?_, ?_⟩
  · have := Go.Joins.block_setCell (i := i) hq5 (.slice (some ⟨g5, 0, none⟩) ((part x y zs i).length + 1) cap5)
    rw [this]
    match i, hi4 with
    | 0, _ => rfl
    | 1, _ => rfl
    | 2, _ => rfl
    | 3, _ => rfl
  · rw [hset _ (by omega), keep _ (by omega) (fun e => by have := hlt i hi4 _ e; omega)]
    exact h.res
  · rw [part_snoc]
    by_cases e : j = i
    · subst e
      rw [if_pos hi, cL_snoc]
      simp only [updV, if_pos, List.length_append, List.length_singleton]
      refine row_other hown fun k hk => hset k ?_
      simp only [Value.ownBlock, Option.some.injEq] at hk
      subst hk
      rcases hat with h1 | h1
      · have := hlt j hj _ h1; omega
      · omega
    · rw [if_neg (fun e' => e (by omega))]
      simp only [updV, if_neg e]
      refine row_other (h.row j hj) fun k hk => ?_
      have hb := hlt j hj k hk
      rw [hset k (by omega), keep k hb.2 (fun e' => e (h.ap j i k hj hi4 hk e'))]
  · unfold updV at h1 h2
    by_cases ej : j = i
    · by_cases el : l = i
      · omega
      · rw [if_pos ej] at h1
        rw [if_neg el] at h2
        simp only [Value.ownBlock, Option.some.injEq] at h1
        subst h1
        rcases hat with h3 | h3
        · exact absurd (h.ap l i _ hl hi4 h2 h3) el
        · have := hlt l hl _ h2; omega
    · rw [if_neg ej] at h1
      by_cases el : l = i
      · rw [if_pos el] at h2
        simp only [Value.ownBlock, Option.some.injEq] at h2
        subst h2
        rcases hat with h3 | h3
        · exact absurd (h.ap j i _ hj hi4 h1 h3) ej
        · have := hlt j hj _ h1; omega
      · rw [if_neg el] at h2
        exact h.ap j l b hj hl h1 h2
  · have hb := h.bel
    refine ⟨hg.os.trans (hW.os.trans hb.os), hg.tape.trans (hW.tape.trans hb.tape), hg.output.trans (hW.output.trans hb.output), ?_, fun k hk => ?_⟩
    · have a := hg.size; have b := hW.size; have c := hb.size
      rw [size_set]
      omega
    · rw [hset k (by omega), keep k (by have := hb.size; omega) (fun e => by have := hlt i hi4 _ e; omega)]
      exact hb.block k hk
end Go.Proofs.Ythobobgiendcfaa.A
