/- What the laws of quad share. -/
import Derived.Test.YthobobgiendcfaaQuBegun
import Derived.Test.YthobobgiendcfaaSqFrom
import Derived.Test.YthobobgiendcfaaSqPeel
namespace Go.Proofs.Ythobobgiendcfaa.A
open Go.RowKit Go.Maps

/-- all steps to the least root of nothing -/
theorem steps_more {A : Ar} {t k c : Nat} (hc : 2 ≤ c) (hG : Good A.ths) (hB : Bud A (k + c)) (hq : A.cnt t + (k + c) ≤ A.lim t) (ht : t < 64) (hk : k ≤ 44) :
    ∀ i, i ≤ k → Good (emptyN t (A, [0]) i).1.ths ∧ Bud (emptyN t (A, [0]) i).1 (k + c - i) ∧ (emptyN t (A, [0]) i).1.cnt t + ((k + c - i : Nat) : Int) ≤ (emptyN t (A, [0]) i).1.lim t ∧ Emp (emptyN t (A, [0]) i).1.ths t (emptyN t (A, [0]) i).2 ∧ (emptyN t (A, [0]) i).2.length = i + 1 ∧ (i < k → StepOk t (emptyN t (A, [0]) i)) ∧ (∀ u, u ≠ t → ∀ x ∈ (emptyN t (A, [0]) i).1.ths, x.mask.testBit u = true → ∃ z ∈ A.ths, z.mask.testBit u = true) ∧ (emptyN t (A, [0]) i).1.lim = A.lim ∧ (∀ u, (emptyN t (A, [0]) i).1.cnt u ≤ A.cnt u + i) := by
  have fin : ∀ (S : Ar × List Int) (j : Nat), Good S.1.ths → Bud S.1 (j + 2) → S.1.cnt t + ((j + 2 : Nat) : Int) ≤ S.1.lim t → Emp S.1.ths t S.2 → S.2.length ≤ 44 → StepOk t S := by
    rintro ⟨B, E⟩ j g bd cq em el
    simp only at g bd cq em el
    obtain ⟨m, hm, hM, _⟩ := emp_step em g el (show B.cnt t < B.lim t by omega)
    obtain ⟨m', hm', hlast⟩ := em.last
    have hl := em.lv m' _ hlast
    have hf := level_fits hl bd.young.few
    exact ⟨bd.young, ⟨by show _ ≤ E.getLast!; omega, by show E.getLast! ≤ _; omega⟩, hM.ok, fun l h => by rw [show levelF (B, E).1.ths t (B, E).2.getLast! = levelF B.ths t E.getLast! from rfl, hl] at h; cases h; omega⟩
  intro i
  induction i with
  | zero =>
    intro _
    refine ⟨hG, hB, hq, Emp.first _ _, rfl, fun _ => fin (A, [0]) (k + c - 2) hG (by rw [show k + c - 2 + 2 = k + c by omega]; exact hB) (by rw [show k + c - 2 + 2 = k + c by omega]; exact hq) (Emp.first _ _) (by simp), fun u _ x hx h => ⟨x, hx, h⟩, rfl, fun u => by simp [emptyN]⟩
  | succ i ih =>
    intro hik
    obtain ⟨g, bd, cq, em, el, so, ot, li, cn⟩ := ih (by omega)
    obtain ⟨m, hm, hM, hE⟩ := emp_step em g (by omega) (by omega : (emptyN t (A, [0]) i).1.cnt t < (emptyN t (A, [0]) i).1.lim t)
    have hgr := hM.grew
    have e1 : (emptyN t (A, [0]) (i + 1)).1 = ((emptyN t (A, [0]) i).1.join t (emptyN t (A, [0]) i).2.getLast! (emptyN t (A, [0]) i).2.getLast! (emptyN t (A, [0]) i).2.getLast! (emptyN t (A, [0]) i).2.getLast!).1 := rfl
    have b2 : Bud (emptyN t (A, [0]) (i + 1)).1 (k + c - (i + 1)) := by
      rw [e1]
      exact (show Bud (emptyN t (A, [0]) i).1 (k + c - (i + 1) + 1) by rw [show k + c - (i + 1) + 1 = k + c - i by omega]; exact bd).step hgr ht
    have g2 : Good (emptyN t (A, [0]) (i + 1)).1.ths := by rw [e1]; exact hM.good
    have q2 : (emptyN t (A, [0]) (i + 1)).1.cnt t + ((k + c - (i + 1) : Nat) : Int) ≤ (emptyN t (A, [0]) (i + 1)).1.lim t := by
      rw [e1, hgr.lim]
      have := hgr.cnt t
      omega
    have l2 : (emptyN t (A, [0]) (i + 1)).2.length = i + 1 + 1 := by rw [emptyN_length]; simp; omega
    refine ⟨g2, b2, q2, hE, l2, fun hik2 => fin _ (k + c - (i + 1) - 2) g2 (by rw [show k + c - (i + 1) - 2 + 2 = k + c - (i + 1) by omega]; exact b2) (by rw [show k + c - (i + 1) - 2 + 2 = k + c - (i + 1) by omega]; exact q2) hE (by omega), fun u hu x hx h => ?_, by rw [e1, hgr.lim, li], fun u => by have a := (hgr.cnt u).2; have b := cn u; rw [e1]; push_cast; omega⟩
    rw [e1] at hx
    obtain ⟨z, hz, hzb⟩ := hgr.other u hu x hx h
    exact ot u hu z hz hzb
set_option maxRecDepth 20000 in
set_option maxHeartbeats 8000000 in
theorem from_nil2 (b n t c : Nat) (hc : 2 ≤ c) (F : Nat → Prop) (A : Ar) (w : World) (hA : ArAt w b F n A) (ht : t < 64) (hn : n < 900000000) (hB : Bud A (2 + c)) (hG : Good A.ths) (hq : A.cnt t + (2 + c : Nat) ≤ A.lim t) :
    Calls Try.prog 55 #[.pointer (some ⟨b, 0, none⟩), .int .i64 t, .slice none 0 0] w fun x w' => ∃ F' A' id, x = .returned (.tuple #[.int .i64 id, .int .i64 0]) ∧ ArAt w' b F' (n + 2) A' ∧ (∀ k, F' k → F k ∨ w.heap.size ≤ k) ∧ Apart F w w' ∧ Good A'.ths ∧ Bud A' c ∧ A'.lim = A.lim ∧ (∀ u, A'.cnt u ≤ A.cnt u + 2) ∧ (∀ u, u ≠ t → ∀ x ∈ A'.ths, x.mask.testBit u = true → ∃ z ∈ A.ths, z.mask.testBit u = true) := by
  have hT := fun W => tidy_told (.slice none 0 0) [] W (Or.inl ⟨rfl, rfl⟩)
  have hBd := fun W => bounds_any (.slice none 0 0) 0 (fun _ => 0) (fun _ => 0) W (IsRow.nil W _ _)
  rw [boxOf_zero] at hBd
  go_enter Try.func55, Try.ntmps55
  go_wp2_with fail
  refine (hT _).mono ?_
  rintro e w1 ⟨u, ys, rfl, hb1, ht1, hr1⟩
  obtain rfl : ys = [] := ht1.unique ⟨List.Pairwise.nil, fun p => by simp⟩
  obtain rfl : u = .slice none 0 0 := by
    rcases hr1 with ⟨_, h⟩ | ⟨h, _⟩
    · exact h
    · exact absurd rfl h
  rw [show tcode [] = 0 from rfl]
  go_wp2_with fail
  refine (newHand_any b t _).mono ?_
  rintro e w2 ⟨rfl, hE2, hb2⟩
  go_wp2_with fail
  refine (hBd _).mono ?_
  rintro e w3 ⟨rfl, hb3⟩
  go_wp2_with fail
  refine (least_two _).mono ?_
  rintro e w4 ⟨rfl, hb4⟩
  have HF := from_facts hA hb1 hE2 hb2 hb3 hb4
  obtain ⟨hA4, hH4, hd4, hb04⟩ := HF
  have hsteps := steps_more (A := A) (t := t) (k := 2) (c := c) hc hG hB hq ht (by omega)
  have hf1 : ∀ W, Below w4.heap.size w4 W → ∀ x y : Int, Calls Try.prog 106 #[.pointer (some ⟨w2.heap.size, 0, none⟩), bareV, .slice none 0 0, .int .i64 2, .int .i64 x, .int .i64 y] W fun e w' => e = .returned (.int .i64 (nth (emptyN t (A, [0]) 2).2 (0 + 2))) ∧ RoundOut w4 w2.heap.size b (n + 2) t F (fun k => k = w2.heap.size ∨ k = w1.heap.size + 1) (emptyN t (A, [0]) 2) w' := fun W hW x y => (from1_nil w2.heap.size b n t 0 2 x y F (fun k => k = w2.heap.size ∨ k = w1.heap.size + 1) (A, [0]) W (hA4.below hW) (hH4.below hW) hd4 (fun i hi => (hsteps i (by omega)).2.2.2.2.2.1 hi) ht hn rfl (by omega) 2 rfl).mono fun e w' ⟨he, hr⟩ => ⟨he, hr.ahead hW⟩
  have hh2 : ∀ W, Calls Try.prog 99 #[.int .i64 2] W fun x w' => x = .returned (.int .i64 2) ∧ w' = W := fun W => half_any 2 W (by omega) (by omega)
  obtain ⟨g2, bd2, _, _, _, _, ot2, li2, cn2⟩ := hsteps 2 (by omega)
  rw [show 2 + c - 2 = c by omega] at bd2
  generalize hS : emptyN t (A, [0]) 2 = S at *
  have HFIN : Hid (∀ w6, RoundOut w4 w2.heap.size b (n + 2) t F (fun k => k = w2.heap.size ∨ k = w1.heap.size + 1) S w6 → ∃ F' A', ArAt w6 b F' (n + 2) A' ∧ (∀ k, F' k → F k ∨ w.heap.size ≤ k) ∧ Apart F w w6 ∧ Good A'.ths ∧ Bud A' c ∧ A'.lim = A.lim ∧ (∀ u, A'.cnt u ≤ A.cnt u + 2) ∧ (∀ u, u ≠ t → ∀ x ∈ A'.ths, x.mask.testBit u = true → ∃ z ∈ A.ths, z.mask.testBit u = true)) := fun w6 hR => by
    obtain ⟨F', H', hA6, _, _, hs6, hP6⟩ := hR
    have hsz1 := hb1.size
    have hsz2 := hb2.size
    have hz4 := hb04.size
    refine ⟨F', S.1, hA6, fun k hk => ?_, ?_, g2, bd2, li2, cn2, ot2⟩
    · rcases hs6 k (Or.inl hk) with (e | e) | e
      · exact Or.inl e
      · exact Or.inr (by rcases e with e | e <;> omega)
      · exact Or.inr (Nat.le_trans hz4 e)
    · refine ⟨hP6.os.trans hb04.os, hP6.tape.trans hb04.tape, hP6.output.trans hb04.output, Nat.le_trans hz4 hP6.size, fun k hk hn => (hP6.block k (Nat.lt_of_lt_of_le hk hz4) ?_).trans (hb04.block k hk)⟩
      rintro (e | e)
      · exact hn e
      · rcases e with e | e <;> omega
  clear hsteps g2 bd2 ot2 li2 cn2 hd4 hH4 hA4 hE2 hT hBd
  go_wp2_with fail
  refine (bare_any _).mono ?_
  rintro e w5 ⟨rfl, hb5⟩
  go_wp2_with fail
  refine (hh2 _).mono ?_
  rintro e w6 ⟨rfl, rfl⟩
  go_wp2_with fail
  refine (hh2 _).mono ?_
  rintro e w6 ⟨rfl, rfl⟩
  go_wp2_with fail
  refine (hf1 _ hb5 _ _).mono ?_
  rintro e w6 ⟨rfl, hR⟩
  obtain ⟨F', H', hA6, hH6, hd6, hs6, hP6⟩ := id hR
  obtain ⟨v6, hh6, hrest⟩ := hH6
  clear hA6 hd6 hs6 hP6 hrest
  go_wp2_with fail
  refine (answer_ok _ b t _ v6 _ hh6).mono ?_
  rintro e w7 ⟨rfl, rfl⟩
  go_wp2_with fail
  go_ret2
  obtain ⟨FF, AA, r1, r2, r3, r4, r5, r6, r7, r8⟩ := HFIN.out _ hR
  exact ⟨FF, AA, _, rfl, r1, r2, r3, r4, r5, r6, r7, r8⟩

set_option maxRecDepth 20000 in
set_option maxHeartbeats 4000000 in
theorem made_nil2 (w : World) : Calls Try.prog 39 #[.slice none 0 0] w fun x w' => ∃ (b : Nat) (F : Nat → Prop) (A : Ar) (id : Int), x = .returned (.tuple #[.pointer (some ⟨b, 0, none⟩), .int .i64 id, .int .i64 0, .bool true]) ∧ ArAt w' b F 2 A ∧ Good A.ths ∧ Bud A 100 ∧ (∀ u, u < 64 → A.cnt u + 100 ≤ A.lim u) ∧ (∀ k, F k → w.heap.size ≤ k) ∧ Below w.heap.size w w' := by
  have hN := fun W => new_any 200000 W (by omega) (by omega)
  go_enter Try.func39, Try.ntmps39
  go_wp2_with fail
  refine (hN _).mono ?_
  rintro e w1 ⟨rfl, hA1, hb1⟩
  go_wp2_with fail
  refine (cells_nil _).mono ?_
  rintro e w2 ⟨rfl, hw2⟩
  rw [hw2]
  go_wp2_with fail
  have hF : ∀ (t : Int), t = 3 → Calls Try.prog 55 #[.pointer (some ⟨w.heap.size + 1, 0, none⟩), .int .i64 t, .slice none 0 0] w1 _ := fun t ht => by
    rw [ht]
    exact from_nil2 (w.heap.size + 1) 0 3 100 (by omega) _ (arNew 200000) w1 hA1 (by omega) (by omega) (bud_new 102 (by omega)) Good.nil (by show (0 : Int) + (2 + 100 : Nat) ≤ 200000; omega)
  refine (hF 3 rfl).mono ?_
  rintro e w3 ⟨F', A', id, rfl, hA3, hs3, hP3, hg3, hb3, hl3, hc3, ho3⟩
  go_wp2_with fail
  refine bodyPost_ret (v := .tuple #[.pointer (some ⟨w.heap.size + 1, 0, none⟩), .int .i64 id, .int .i64 0, .bool true]) ?_ rfl ⟨_, F', A', id, rfl, hA3, hg3, hb3, fun u hu => ?_, fun k hk => ?_, ?_⟩
  · simp [results, Try.results39, go_sem]
  · have a := hc3 u
    rw [hl3]
    have b : (arNew 200000).cnt u = 0 := rfl
    have c : (arNew 200000).lim u = 200000 := rfl
    omega
  · rcases hs3 k hk with (e | e) | e
    · exact False.elim e
    · omega
    · exact Nat.le_trans hb1.size e
  · exact ⟨hP3.os.trans hb1.os, hP3.tape.trans hb1.tape, hP3.output.trans hb1.output, Nat.le_trans hb1.size hP3.size, fun k hk => (hP3.block k (Nat.lt_of_lt_of_le hk hb1.size) (by
      rintro (e | e)
      · exact e
      · omega)).trans (hb1.block k hk)⟩

end Go.Proofs.Ythobobgiendcfaa.A

namespace Go.Proofs.Ythobobgiendcfaa.A
open Go.RowKit Go.Maps

set_option maxHeartbeats 1000000 in
/-- a copy of a list -/
theorem cells_row (v : Value) (zs : List (Int × Int)) (w : World) (h : RRow w v zs) (hn : zs.length * 16 ≤ 140737488351232) : Calls Try.prog 82 #[v] w fun e w' => ∃ u, e = .returned u ∧ Below w.heap.size w w' ∧ Row w' u zs := by
  obtain ⟨a, c, rfl, hc, hm, ha, h⟩ := h
  by_cases h0 : zs = []
  · subst h0
    cases a with
    | none =>
      obtain rfl : c = 0 := ha rfl
      refine (cells_nil w).mono ?_
      rintro e w' ⟨rfl, rfl⟩
      exact ⟨_, rfl, Below.refl _ _, Or.inl ⟨rfl, rfl⟩⟩
    | some ad =>
      refine (cells_zero ad c w).mono ?_
      rintro e w' ⟨rfl, hb⟩
      exact ⟨_, rfl, hb, Or.inl ⟨rfl, rfl⟩⟩
  · have hl : 0 < zs.length := List.length_pos_iff.2 h0
    rcases h with h | ⟨b, off, rfl, hb, hp⟩
    · omega
    · refine (cells_some b off zs.length c _ _ w (by omega) hp).mono ?_
      rintro e w' ⟨u, rfl, hb', h | ⟨g, cap, rfl, h1, h2, h3, h4, h5⟩⟩
      · omega
      · exact ⟨_, rfl, hb', Or.inr ⟨h0, g, 0, cap, rfl, h2, h3, h4, h5⟩⟩
set_option maxHeartbeats 4000000 in
/-- From, of cells that Tidy refuses -/
theorem from_bad (b t : Nat) (v : Value) (zs : List (Int × Int)) (w : World) (hrow : Row w v zs) (hc : tcode zs ≠ 0) :
    Calls Try.prog 55 #[.pointer (some ⟨b, 0, none⟩), .int .i64 t, v] w fun x w' => x = .returned (.tuple #[.int .i64 0, .int .i64 (tcode zs)]) ∧ Below w.heap.size w w' := by
  have hT := tidy_told v zs w hrow
  obtain ⟨tc, htc⟩ : ∃ tc, tc = tcode zs := ⟨_, rfl⟩
  rw [← htc] at hT hc ⊢
  have hc1 : (tc != 0) = true := by simpa using hc
  clear htc hrow
  go_enter Try.func55, Try.ntmps55
  go_wp2_with fail
  refine hT.mono ?_
  rintro e w1 ⟨u, ys, rfl, hb1, _, _⟩
  go_wp2_with fail
  go_ret2
  exact ⟨rfl, hb1⟩
theorem inv_new (room : Int) : Inv (arNew room) := ⟨Good.nil, fun i j x y h => (by simp [arNew] at h), fun u x hx => (by cases hx), fun u _ => rfl⟩
theorem pur_new (k : Nat) (hk : k < 90000) (t : Nat) : Pur (arNew 200000) t k 0 := ⟨bud_new k (by omega), by show (0 : Int) + k ≤ 200000; omega, by omega⟩

/-- what made leaves -/
def MadeOut (w : World) (b c : Nat) (ys : List (Int × Int)) (id : Int) (w' : World) : Prop :=
  ∃ (A : Ar) (F : Nat → Prop) (nn lv : Nat), ArAt w' b F nn A ∧ (∀ k, F k → w.heap.size ≤ k) ∧ Inv A ∧ Pur A 3 c nn ∧ LeastLv lv ys ∧ lv ≤ 41 ∧ levelF A.ths 3 id = some (lv : Int) ∧ ∀ p : Int × Int, p ∈ cellsF A.ths lv id ↔ (p.1 - (halfN lv : Int), p.2 - (halfN lv : Int)) ∈ ys

set_option maxRecDepth 20000 in
set_option maxHeartbeats 4000000 in
theorem made_any (v : Value) (zs ys : List (Int × Int)) (w : World) (hrow : RRow w v zs) (hlen : zs.length ≤ 300) (hys : Tidied zs ys) :
    Calls Try.prog 39 #[v] w fun x w' => ∃ (b : Nat) (id : Int), x = .returned (.tuple #[.pointer (some ⟨b, 0, none⟩), .int .i64 id, .int .i64 (tcode zs), .bool true]) ∧ Below w.heap.size w w' ∧ (tcode zs ≠ 0 → id = 0) ∧ (tcode zs = 0 → MadeOut w b 30000 ys id w') := by
  have hN := fun W => new_any 200000 W (by omega) (by omega)
  have hlen2 : zs.length * 16 ≤ 140737488351232 := by omega
  obtain ⟨a, cv, hv, _⟩ := id hrow
  have HROW : Hid (RRow w v zs) := hrow
  have hCE := fun W h => cells_row v zs W h hlen2
  have HYL : Hid (ys.length ≤ 300) := Nat.le_trans (tidied_len hys) hlen
  clear hrow hv hlen2
  go_enter Try.func39, Try.ntmps39
  go_wp2_with fail
  refine (hN _).mono ?_
  rintro e w1 ⟨rfl, hA1, hb1⟩
  go_wp2_with fail
  refine (hCE _ (RRow.below HROW.out hb1)).mono ?_
  rintro e w2 ⟨u, rfl, hb2, hr2⟩
  have b2 : Below w.heap.size w w2 := hb1.trans (hb2.mono hb1.size)
  have hA2 := hA1.below hb2
  clear hCE hN
  go_wp2_with fail
  by_cases hc : tcode zs = 0
  · have hF : ∀ (t : Int), t = 3 → Calls Try.prog 55 #[.pointer (some ⟨w.heap.size + 1, 0, none⟩), .int .i64 t, u] w2 _ := fun t ht => by
      rw [ht]
      exact from_any (w.heap.size + 1) 0 3 30000 _ (arNew 200000) u zs ys w2 hA2 (by omega) (inv_new _) hr2 hc hys (pur_new _ (by have := HYL.out; omega) 3)
    refine (hF 3 rfl).mono ?_
    rintro e w3 ⟨id, rfl, A', F', nn', N, lv, hA3, hs3, hP3, hI3, hp3, _, _, hL3, hl3, hv3, hc3⟩
    go_wp2_with fail
    refine bodyPost_ret (v := .tuple #[.pointer (some ⟨w.heap.size + 1, 0, none⟩), .int .i64 id, .int .i64 0, .bool true]) ?_ rfl ⟨_, id, by rw [hc], ?_, fun h => absurd hc h, fun _ => ⟨A', F', nn', lv, hA3, fun k hk => ?_, hI3, hp3, hL3, hl3, hv3, hc3⟩⟩
    · simp [results, Try.results39, go_sem]
    · refine ⟨hP3.os.trans b2.os, hP3.tape.trans b2.tape, hP3.output.trans b2.output, Nat.le_trans b2.size hP3.size, fun k hk => (hP3.block k (Nat.lt_of_lt_of_le hk b2.size) (by
        rintro (e | e)
        · exact e
        · omega)).trans (b2.block k hk)⟩
    · rcases hs3 k hk with (e | e) | e
      · exact False.elim e
      · omega
      · exact Nat.le_trans b2.size e
  · have hF : ∀ (t : Int), t = 3 → Calls Try.prog 55 #[.pointer (some ⟨w.heap.size + 1, 0, none⟩), .int .i64 t, u] w2 _ := fun t ht => by
      rw [ht]
      exact from_bad (w.heap.size + 1) 3 u zs w2 hr2 hc
    refine (hF 3 rfl).mono ?_
    rintro e w3 ⟨rfl, hb3⟩
    obtain ⟨tc, htc⟩ : ∃ tc, tc = tcode zs := ⟨_, rfl⟩
    have HTC : Hid (tc = tcode zs) := htc
    rw [← htc]
    clear htc
    go_wp2_with fail
    refine bodyPost_ret (v := .tuple #[.pointer (some ⟨w.heap.size + 1, 0, none⟩), .int .i64 0, .int .i64 tc, .bool true]) ?_ rfl ⟨_, 0, by rw [HTC.out], b2.trans (hb3.mono b2.size), fun _ => rfl, fun h => absurd h hc⟩
    simp [results, Try.results39, go_sem]
end Go.Proofs.Ythobobgiendcfaa.A

namespace Go.Proofs.Ythobobgiendcfaa.A
open Go.RowKit Go.Maps

/-- a list's first 300 cells -/
theorem cut_row {w : World} {a : Option Addr} {c : Nat} {zs : List (Int × Int)} (h : RRow w (.slice a zs.length c) zs) (hl : 300 < zs.length) : RRow w (.slice a 300 c) (zs.take 300) := by
  obtain ⟨a', c', e, hc, hm, ha, h⟩ := h
  simp only [Value.slice.injEq] at e
  obtain ⟨rfl, _, rfl⟩ := e
  have hlen : (zs.take 300).length = 300 := by rw [List.length_take]; omega
  refine ⟨a, c, by rw [hlen], by rw [hlen]; omega, hm, ha, ?_⟩
  rcases h with h | ⟨b, off, hb, hlt, hp⟩
  · omega
  · refine Or.inr ⟨b, off, hb, hlt, fun j hj => ?_⟩
    rw [hlen] at hj
    have := hp j (by omega)
    have e : (zs.take 300)[j]! = zs[j]! := by
      rw [getElem!_pos _ j (by rw [hlen]; exact hj), getElem!_pos zs j (by omega), List.getElem_take]
    show w.cell? _ = some (.int .i64 ((zs.take 300)[j]!).1) ∧ w.cell? _ = some (.int .i64 ((zs.take 300)[j]!).2)
    rw [e]
    exact this
theorem tidy_ins (c : Int × Int) : ∀ m : List (Int × Int), Tidy m → ∃ m', Tidy m' ∧ ∀ p, p ∈ m' ↔ p = c ∨ p ∈ m
  | [], _ => ⟨[c], List.pairwise_singleton _ _, fun p => by simp⟩
  | d :: m, h => by
    have h2 := List.pairwise_cons.1 h
    rcases ahead_or c d with e | e | e
    · refine ⟨c :: d :: m, List.pairwise_cons.2 ⟨fun q hq => ?_, h⟩, fun p => by simp⟩
      rcases List.mem_cons.1 hq with rfl | hq
      · exact e
      · exact ahead_trans e (h2.1 q hq)
    · subst e
      exact ⟨c :: m, h, fun p => by simp⟩
    · obtain ⟨m', h3, h4⟩ := tidy_ins c m h2.2
      refine ⟨d :: m', List.pairwise_cons.2 ⟨fun q hq => ?_, h3⟩, fun p => ?_⟩
      · rcases (h4 q).1 hq with rfl | hq
        · exact e
        · exact h2.1 q hq
      · rw [List.mem_cons, h4, List.mem_cons]
        constructor
        · rintro (h | h | h)
          · exact Or.inr (Or.inl h)
          · exact Or.inl h
          · exact Or.inr (Or.inr h)
        · rintro (h | h | h)
          · exact Or.inr (Or.inl h)
          · exact Or.inl h
          · exact Or.inr (Or.inr h)
theorem tidied_exists (zs : List (Int × Int)) : ∃ ys, Tidied zs ys := by
  by_cases hc : tcode zs = 0
  · have : ∀ l : List (Int × Int), ∃ m, Tidy m ∧ ∀ p, p ∈ m ↔ p ∈ l := by
      intro l
      induction l with
      | nil => exact ⟨[], List.Pairwise.nil, fun p => Iff.rfl⟩
      | cons c l ih =>
        obtain ⟨m, h1, h2⟩ := ih
        obtain ⟨m', t1, t2⟩ := tidy_ins c m h1
        exact ⟨m', t1, fun p => by rw [t2 p]; simp [h2 p]⟩
    obtain ⟨m, h1, h2⟩ := this zs
    exact ⟨m, h1, fun p => by rw [h2 p, hc]; simp⟩
  · exact ⟨[], List.Pairwise.nil, fun p => by simp [hc]⟩
/-- as many cells in the square as in the list -/
theorem made_len {l : List Th} {n : Nat} {id : Int} {ys : List (Int × Int)} (hG : Good l) (hg : glevel l id = some (n : Int)) (hT : Tidy ys) (hc : ∀ p : Int × Int, p ∈ cellsF l n id ↔ (p.1 - (halfN n : Int), p.2 - (halfN n : Int)) ∈ ys) : (cellsF l n id).length = ys.length := by
  have e : (shiftL (-(halfN n : Int)) (-(halfN n : Int)) (cellsF l n id)).length = ys.length := by
    have n1 : (shiftL (-(halfN n : Int)) (-(halfN n : Int)) (cellsF l n id)).Nodup := by
      unfold shiftL
      refine List.Pairwise.map _ (fun a b hab e => hab ?_) (cells_nodup hG n id hg)
      have e1 := congrArg Prod.fst e
      have e2 := congrArg Prod.snd e
      simp only at e1 e2
      exact Prod.ext (by omega) (by omega)
    refine List.Perm.length_eq ((List.perm_ext_iff_of_nodup n1 (tidy_nodup hT)).2 fun p => ?_)
    rw [mem_shift, hc]
    simp only
    rw [show p.1 - -(halfN n : Int) - (halfN n : Int) = p.1 by omega, show p.2 - -(halfN n : Int) - (halfN n : Int) = p.2 by omega]
  rw [shift_len] at e
  exact e
theorem made_mem {l : List Th} {n : Nat} {id : Int} {ys : List (Int × Int)} (hc : ∀ p : Int × Int, p ∈ cellsF l n id ↔ (p.1 - (halfN n : Int), p.2 - (halfN n : Int)) ∈ ys) : ∀ p, p ∈ shiftL (-(halfN n : Int)) (-(halfN n : Int)) (cellsF l n id) ↔ p ∈ ys := fun p => by
  rw [mem_shift, hc]
  simp only
  rw [show p.1 - -(halfN n : Int) - (halfN n : Int) = p.1 by omega, show p.2 - -(halfN n : Int) - (halfN n : Int) = p.2 by omega]
theorem BoxOr.same {ys zs : List (Int × Int)} {x0 y0 x1 y1 : Int} (h : BoxOr ys x0 y0 x1 y1) (k : ∀ p, p ∈ ys ↔ p ∈ zs) : BoxOr zs x0 y0 x1 y1 := by
  rcases h with ⟨rfl, h⟩ | h
  · refine Or.inl ⟨?_, h⟩
    rcases zs with _ | ⟨c, zs⟩
    · rfl
    · have := (k c).2 (by simp); cases this
  · exact Or.inr (h.same k)
/-- what Bounds tells, in these words -/
theorem refBounds_or (u : Value) (ys : List (Int × Int)) (W : World) (h : Row W u ys) : ∃ x0 y0 x1 y1, BoxOr ys x0 y0 x1 y1 ∧ Calls Try.prog 46 #[u] W fun e w' => e = .returned (.tuple #[.agg #[.int .i64 x0, .int .i64 y0, .int .i64 x1, .int .i64 y1], .bool (decide (ys ≠ []))]) ∧ Below W.heap.size W w' := by
  by_cases h0 : ys = []
  · subst h0
    exact ⟨0, 0, 0, 0, Or.inl ⟨rfl, rfl, rfl, rfl, rfl⟩, ref_any u 0 (fun j => (([] : List (Int × Int))[j]!).1) (fun j => (([] : List (Int × Int))[j]!).2) W h.isRow⟩
  · have hl : 0 < ys.length := List.length_pos_iff.2 h0
    refine ⟨_, _, _, _, Or.inr (box_is h0), ?_⟩
    have := ref_any u ys.length (fun j => (ys[j]!).1) (fun j => (ys[j]!).2) W h.isRow
    unfold boxOf at this
    rw [show decide (0 < ys.length) = decide (ys ≠ []) by simp [h0, hl]] at this
    exact this
end Go.Proofs.Ythobobgiendcfaa.A
