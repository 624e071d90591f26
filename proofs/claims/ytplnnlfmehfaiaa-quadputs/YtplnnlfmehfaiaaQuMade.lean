/- Empty squares of every level in an arena with room: the steps, From of no cells, and the laws' made. -/
import Derived.Test.YtplnnlfmehfaiaaQuRefuse
namespace Go.Proofs.Ytplnnlfmehfaiaa.A
open Go.RowKit Go.Maps

/-- an arena in which tenant 3 alone has something -/
structure Three (A : Ar) : Prop where
  good : Good A.ths
  bud : Bud A 2
  only : ∀ u, u ≠ 3 → ∀ x ∈ A.ths, x.mask.testBit u = false

theorem bud_new (k : Nat) (hk : k < 100000) : Bud (arNew 200000) k :=
  { free := rfl
    mask := fun z hz => nomatch hz
    few := by show 0 + k < 1000000; omega
    room := by show ((0 : Nat) : Int) + k < 200000; omega
    cnt := fun t _ => by show (0 : Int) ≤ 0 ∧ (0 : Int) + k < 4611686018427387904; omega
    fresh := fun t _ => by show 0 + k < 10000000; omega }

set_option maxRecDepth 20000 in
set_option maxHeartbeats 4000000 in
theorem made_nil (w : World) : Calls Try.prog 39 #[.slice none 0 0] w fun x w' => ∃ (b : Nat) (F : Nat → Prop) (A : Ar) (id : Int), x = .returned (.tuple #[.pointer (some ⟨b, 0, none⟩), .int .i64 id, .int .i64 0, .bool true]) ∧ ArAt w' b F 2 A ∧ Three A ∧ Below w.heap.size w w' := by
  have hN := fun W => new_any 200000 W (by omega) (by omega)
  go_enter Try.func39, Try.ntmps39
  go_wp2_with fail
  refine (hN _).mono ?_
  rintro e w1 ⟨rfl, hA1, hb1⟩
  go_wp2_with fail
  refine (cells_nil _).mono ?_
  rintro e w2 ⟨rfl, hw2⟩
  rw [hw2]
  go_wp2_with fail
  have hF : ∀ (t : Int), t = 3 → Calls Try.prog 55 #[.pointer (some ⟨w.heap.size + 1, 0, none⟩), .int .i64 t, .slice none 0 0] w1 _ := fun t ht => by
    rw [ht]
    exact from_nil (w.heap.size + 1) 0 3 _ (arNew 200000) w1 hA1 (by omega) (by omega) (bud_new 10 (by omega)) Good.nil (by show (0 : Int) + 10 ≤ 200000; omega)
  refine (hF 3 rfl).mono ?_
  rintro e w3 ⟨F', A', id, rfl, hA3, hs3, hP3, hg3, hb3, ho3⟩
  go_wp2_with fail
  refine bodyPost_ret (v := .tuple #[.pointer (some ⟨w.heap.size + 1, 0, none⟩), .int .i64 id, .int .i64 0, .bool true]) ?_ rfl ⟨_, F', A', id, rfl, hA3, ⟨hg3, hb3, fun u hu x hx => ?_⟩, ?_⟩
  · simp [results, Try.results39, go_sem]
  · cases hbit : x.mask.testBit u with
    | false => rfl
    | true =>
      obtain ⟨z, hz, _⟩ := ho3 u hu x hx hbit
      cases hz
  · exact ⟨hP3.os.trans hb1.os, hP3.tape.trans hb1.tape, hP3.output.trans hb1.output, Nat.le_trans hb1.size hP3.size, fun k hk => (hP3.block k (Nat.lt_of_lt_of_le hk hb1.size) (by
      rintro (e | e)
      · exact e
      · omega)).trans (hb1.block k hk)⟩

theorem strange_none {A : Ar} (h : Three A) (root : Int) (hr : 2 ≤ root) : levelF A.ths 4 root = none := by
  cases hl : levelF A.ths 4 root with
  | none => rfl
  | some m =>
    rcases level_some hl with ⟨h0, _⟩ | ⟨x, h1, _⟩
    · omega
    · obtain ⟨_, h3, h4⟩ := own_some h1
      rw [h.only 4 (by omega) x (List.mem_of_getElem? h3)] at h4
      cases h4

set_option maxRecDepth 20000 in
set_option maxHeartbeats 8000000 in
theorem strange_law (root level : Int) (w : World) (hr : Fits root) : Calls Try.prog 12 #[.int .i64 root, .int .i64 level] w fun x w' => x = .returned (.bool true) ∧ Below w.heap.size w w' := by
  have hM := fun W => made_nil W
  go_enter Try.func12, Try.ntmps12
  go_wp2_with fail
  refine (hM _).mono ?_
  rintro e w1 ⟨b, F, A, id, rfl, hA, h3, hb1⟩
  obtain ⟨R, hR⟩ : ∃ R : Int, R = if root < 2 then 100000 else root := ⟨_, rfl⟩
  have hR2 : 2 ≤ R := by rw [hR]; split <;> omega
  have hRf : Fits R := by rw [hR]; unfold Fits at *; split <;> omega
  have hn := strange_none h3 R hR2
  have hm := h3.bud.mask
  have e6 : ∀ least most : Int, levelE 0 (levelF A.ths 4 R) least most = 6 := fun least most => by rw [hn]; rfl
  have e1 : levelE 0 (levelF A.ths 4 1) 1 44 = 8 := rfl
  have e1p : levelE 0 (levelF A.ths 4 1) 2 44 = 8 := rfl
  have e0 : levelE 0 (levelF A.ths 4 0) 1 43 = 8 := rfl
  have q1 := fun W (hW : ArAt W b F 2 A) => cells_refused b 2 4 R 6 F A W hW (by omega) hm hRf (e6 1 44) (by omega)
  have q2 := fun W (hW : ArAt W b F 2 A) => count_refused b 2 4 R 6 F A W hW (by omega) hm hRf (e6 0 44) (by omega)
  have q3 := fun W (hW : ArAt W b F 2 A) => box_refused b 2 4 R 6 F A W hW (by omega) hm hRf (e6 1 44) (by omega)
  have q4 := fun W (hW : ArAt W b F 2 A) => wrap_refused b 2 4 R 6 F A W hW (by omega) hm hRf (e6 1 43) (by omega)
  have q5 := fun W (hW : ArAt W b F 2 A) => peel_refused b 2 4 R 6 F A W hW (by omega) hm hRf (e6 2 44) (by omega)
  have q6 := fun W (hW : ArAt W b F 2 A) => put_refused b 2 4 R 6 0 0 true F A W hW (by omega) hm hRf (e6 1 44) (by omega)
  have q7 := fun W (hW : ArAt W b F 2 A) => cells_refused b 2 4 1 8 F A W hW (by omega) hm ⟨by omega, by omega⟩ e1 (by omega)
  have q8 := fun W (hW : ArAt W b F 2 A) => peel_refused b 2 4 1 8 F A W hW (by omega) hm ⟨by omega, by omega⟩ e1p (by omega)
  have q9 := fun W (hW : ArAt W b F 2 A) => wrap_refused b 2 4 0 8 F A W hW (by omega) hm ⟨by omega, by omega⟩ e0 (by omega)
  clear e6 e1 e1p e0 hm hn
  by_cases hc : root < 2
  · rw [if_pos hc] at hR
    subst hR
    go_wp2_with fail
    refine (q1 _ hA).mono ?_
    rintro e v1 ⟨rfl, c1⟩
    have hA := hA.below c1
    have hb1 := hb1.trans (c1.mono hb1.size)
    go_wp2_with fail
    refine (q2 _ hA).mono ?_
    rintro e v2 ⟨rfl, c2⟩
    have hA := hA.below c2
    have hb1 := hb1.trans (c2.mono hb1.size)
    go_wp2_with fail
    refine (q3 _ hA).mono ?_
    rintro e v3 ⟨rfl, c3⟩
    have hA := hA.below c3
    have hb1 := hb1.trans (c3.mono hb1.size)
    have a4 : Below v3.heap.size v3 (v3.alloc (.cells #[.int .i64 0, .int .i64 0, .int .i64 0, .int .i64 0] 81)) := (Below.refl _ _).alloc (Nat.le_refl _) _
    have hA := hA.below a4
    have hb1 := hb1.trans (a4.mono hb1.size)
    go_wp2_with fail
    refine (q4 _ hA).mono ?_
    rintro e v4 ⟨rfl, c4⟩
    have hA := hA.below c4
    have hb1 := hb1.trans (c4.mono hb1.size)
    go_wp2_with fail
    refine (q5 _ hA).mono ?_
    rintro e v5 ⟨rfl, c5⟩
    have hA := hA.below c5
    have hb1 := hb1.trans (c5.mono hb1.size)
    go_wp2_with fail
    refine (q6 _ hA).mono ?_
    rintro e v6 ⟨rfl, c6⟩
    have hA := hA.below c6
    have hb1 := hb1.trans (c6.mono hb1.size)
    go_wp2_with fail
    refine (q7 _ hA).mono ?_
    rintro e v7 ⟨rfl, c7⟩
    have hA := hA.below c7
    have hb1 := hb1.trans (c7.mono hb1.size)
    go_wp2_with fail
    refine (q8 _ hA).mono ?_
    rintro e v8 ⟨rfl, c8⟩
    have hA := hA.below c8
    have hb1 := hb1.trans (c8.mono hb1.size)
    go_wp2_with fail
    refine (q9 _ hA).mono ?_
    rintro e v9 ⟨rfl, c9⟩
    have hA := hA.below c9
    have hb1 := hb1.trans (c9.mono hb1.size)
    go_wp2_with fail
    go_ret
    exact ⟨rfl, hb1⟩
  · rw [if_neg hc] at hR
    subst hR
    go_wp2_with fail
    refine (q1 _ hA).mono ?_
    rintro e v1 ⟨rfl, c1⟩
    have hA := hA.below c1
    have hb1 := hb1.trans (c1.mono hb1.size)
    go_wp2_with fail
    refine (q2 _ hA).mono ?_
    rintro e v2 ⟨rfl, c2⟩
    have hA := hA.below c2
    have hb1 := hb1.trans (c2.mono hb1.size)
    go_wp2_with fail
    refine (q3 _ hA).mono ?_
    rintro e v3 ⟨rfl, c3⟩
    have hA := hA.below c3
    have hb1 := hb1.trans (c3.mono hb1.size)
    have a4 : Below v3.heap.size v3 (v3.alloc (.cells #[.int .i64 0, .int .i64 0, .int .i64 0, .int .i64 0] 81)) := (Below.refl _ _).alloc (Nat.le_refl _) _
    have hA := hA.below a4
    have hb1 := hb1.trans (a4.mono hb1.size)
    go_wp2_with fail
    refine (q4 _ hA).mono ?_
    rintro e v4 ⟨rfl, c4⟩
    have hA := hA.below c4
    have hb1 := hb1.trans (c4.mono hb1.size)
    go_wp2_with fail
    refine (q5 _ hA).mono ?_
    rintro e v5 ⟨rfl, c5⟩
    have hA := hA.below c5
    have hb1 := hb1.trans (c5.mono hb1.size)
    go_wp2_with fail
    refine (q6 _ hA).mono ?_
    rintro e v6 ⟨rfl, c6⟩
    have hA := hA.below c6
    have hb1 := hb1.trans (c6.mono hb1.size)
    go_wp2_with fail
    refine (q7 _ hA).mono ?_
    rintro e v7 ⟨rfl, c7⟩
    have hA := hA.below c7
    have hb1 := hb1.trans (c7.mono hb1.size)
    go_wp2_with fail
    refine (q8 _ hA).mono ?_
    rintro e v8 ⟨rfl, c8⟩
    have hA := hA.below c8
    have hb1 := hb1.trans (c8.mono hb1.size)
    go_wp2_with fail
    refine (q9 _ hA).mono ?_
    rintro e v9 ⟨rfl, c9⟩
    have hA := hA.below c9
    have hb1 := hb1.trans (c9.mono hb1.size)
    go_wp2_with fail
    go_ret
    exact ⟨rfl, hb1⟩
end Go.Proofs.Ytplnnlfmehfaiaa.A

namespace Go.Proofs.Ytplnnlfmehfaiaa.A
open Go.RowKit Go.Maps

/-- all steps to the least root of nothing -/
theorem steps_more {A : Ar} {t k c : Nat} (hc : 2 ≤ c) (hG : Good A.ths) (hB : Bud A (k + c)) (hq : A.cnt t + (k + c) ≤ A.lim t) (ht : t < 64) (hk : k ≤ 44) :
    ∀ i, i ≤ k → Good (emptyN t (A, [0]) i).1.ths ∧ Bud (emptyN t (A, [0]) i).1 (k + c - i) ∧ (emptyN t (A, [0]) i).1.cnt t + ((k + c - i : Nat) : Int) ≤ (emptyN t (A, [0]) i).1.lim t ∧ Emp (emptyN t (A, [0]) i).1.ths t (emptyN t (A, [0]) i).2 ∧ (emptyN t (A, [0]) i).2.length = i + 1 ∧ (i < k → StepOk t (emptyN t (A, [0]) i)) ∧ (∀ u, u ≠ t → ∀ x ∈ (emptyN t (A, [0]) i).1.ths, x.mask.testBit u = true → ∃ z ∈ A.ths, z.mask.testBit u = true) ∧ (emptyN t (A, [0]) i).1.lim = A.lim ∧ (∀ u, (emptyN t (A, [0]) i).1.cnt u ≤ A.cnt u + i) := by
  have fin : ∀ (S : Ar × List Int) (j : Nat), Good S.1.ths → Bud S.1 (j + 2) → S.1.cnt t + ((j + 2 : Nat) : Int) ≤ S.1.lim t → Emp S.1.ths t S.2 → S.2.length ≤ 44 → StepOk t S := by
    rintro ⟨B, E⟩ j g bd cq em el
    simp only at g bd cq em el
    obtain ⟨m, hm, hM, _⟩ := emp_step em g el (show B.cnt t < B.lim t by omega)
    obtain ⟨m', hm', hlast⟩ := em.last
    have hl := em.lv m' _ hlast
    have hf := level_fits hl bd.young.few
    exact ⟨bd.young, ⟨by show _ ≤ E.getLast!; omega, by show E.getLast! ≤ _; omega⟩, hM.ok, fun l h => by rw [show levelF (B, E).1.ths t (B, E).2.getLast! = levelF B.ths t E.getLast! from rfl, hl] at h; cases h; omega⟩
  intro i
  induction i with
  | zero =>
    intro _
    refine ⟨hG, hB, hq, Emp.first _ _, rfl, fun _ => fin (A, [0]) (k + c - 2) hG (by rw [show k + c - 2 + 2 = k + c by omega]; exact hB) (by rw [show k + c - 2 + 2 = k + c by omega]; exact hq) (Emp.first _ _) (by simp), fun u _ x hx h => ⟨x, hx, h⟩, rfl, fun u => by simp [emptyN]⟩
  | succ i ih =>
    intro hik
    obtain ⟨g, bd, cq, em, el, so, ot, li, cn⟩ := ih (by omega)
    obtain ⟨m, hm, hM, hE⟩ := emp_step em g (by omega) (by omega : (emptyN t (A, [0]) i).1.cnt t < (emptyN t (A, [0]) i).1.lim t)
    have hgr := hM.grew
    have e1 : (emptyN t (A, [0]) (i + 1)).1 = ((emptyN t (A, [0]) i).1.join t (emptyN t (A, [0]) i).2.getLast! (emptyN t (A, [0]) i).2.getLast! (emptyN t (A, [0]) i).2.getLast! (emptyN t (A, [0]) i).2.getLast!).1 := rfl
    have b2 : Bud (emptyN t (A, [0]) (i + 1)).1 (k + c - (i + 1)) := by
      rw [e1]
      exact (show Bud (emptyN t (A, [0]) i).1 (k + c - (i + 1) + 1) by rw [show k + c - (i + 1) + 1 = k + c - i by omega]; exact bd).step hgr ht
    have g2 : Good (emptyN t (A, [0]) (i + 1)).1.ths := by rw [e1]; exact hM.good
    have q2 : (emptyN t (A, [0]) (i + 1)).1.cnt t + ((k + c - (i + 1) : Nat) : Int) ≤ (emptyN t (A, [0]) (i + 1)).1.lim t := by
      rw [e1, hgr.lim]
      have := hgr.cnt t
      omega
    have l2 : (emptyN t (A, [0]) (i + 1)).2.length = i + 1 + 1 := by rw [emptyN_length]; simp; omega
    refine ⟨g2, b2, q2, hE, l2, fun hik2 => fin _ (k + c - (i + 1) - 2) g2 (by rw [show k + c - (i + 1) - 2 + 2 = k + c - (i + 1) by omega]; exact b2) (by rw [show k + c - (i + 1) - 2 + 2 = k + c - (i + 1) by omega]; exact q2) hE (by omega), fun u hu x hx h => ?_, by rw [e1, hgr.lim, li], fun u => by have a := (hgr.cnt u).2; have b := cn u; rw [e1]; push_cast; omega⟩
    rw [e1] at hx
    obtain ⟨z, hz, hzb⟩ := hgr.other u hu x hx h
    exact ot u hu z hz hzb
set_option maxRecDepth 20000 in
set_option maxHeartbeats 8000000 in
theorem from_nil2 (b n t c : Nat) (hc : 2 ≤ c) (F : Nat → Prop) (A : Ar) (w : World) (hA : ArAt w b F n A) (ht : t < 64) (hn : n < 900000000) (hB : Bud A (2 + c)) (hG : Good A.ths) (hq : A.cnt t + (2 + c : Nat) ≤ A.lim t) :
    Calls Try.prog 55 #[.pointer (some ⟨b, 0, none⟩), .int .i64 t, .slice none 0 0] w fun x w' => ∃ F' A' id, x = .returned (.tuple #[.int .i64 id, .int .i64 0]) ∧ ArAt w' b F' (n + 2) A' ∧ (∀ k, F' k → F k ∨ w.heap.size ≤ k) ∧ Apart F w w' ∧ Good A'.ths ∧ Bud A' c ∧ A'.lim = A.lim ∧ (∀ u, A'.cnt u ≤ A.cnt u + 2) ∧ (∀ u, u ≠ t → ∀ x ∈ A'.ths, x.mask.testBit u = true → ∃ z ∈ A.ths, z.mask.testBit u = true) := by
  have hT := fun W => tidy_told (.slice none 0 0) [] W (Or.inl ⟨rfl, rfl⟩)
  have hBd := fun W => bounds_any (.slice none 0 0) 0 (fun _ => 0) (fun _ => 0) W (IsRow.nil W _ _)
  rw [boxOf_zero] at hBd
  go_enter Try.func55, Try.ntmps55
  go_wp2_with fail
  refine (hT _).mono ?_
  rintro e w1 ⟨u, ys, rfl, hb1, ht1, hr1⟩
  obtain rfl : ys = [] := ht1.unique ⟨List.Pairwise.nil, fun p => by simp⟩
  obtain rfl : u = .slice none 0 0 := by
    rcases hr1 with ⟨_, h⟩ | ⟨h, _⟩
    · exact h
    · exact absurd rfl h
  rw [show tcode [] = 0 from rfl]
  go_wp2_with fail
  refine (newHand_any b t _).mono ?_
  rintro e w2 ⟨rfl, hE2, hb2⟩
  go_wp2_with fail
  refine (hBd _).mono ?_
  rintro e w3 ⟨rfl, hb3⟩
  go_wp2_with fail
  refine (least_two _).mono ?_
  rintro e w4 ⟨rfl, hb4⟩
  have HF := from_facts hA hb1 hE2 hb2 hb3 hb4
  obtain ⟨hA4, hH4, hc4, hd4, hb04, hs4⟩ := HF
  have hsteps := steps_more (A := A) (t := t) (k := 2) (c := c) hc hG hB hq ht (by omega)
  have hf1 : ∀ x y : Int, Calls Try.prog 105 #[.slice none 0 0, .int .i64 2, .int .i64 x, .int .i64 y, .pointer (some ⟨w2.heap.size, 0, none⟩), .pointer (some ⟨w2.heap.size + 1, 0, none⟩)] w4.drew _ := fun x y => from1_nil w2.heap.size (w2.heap.size + 1) b n t 0 2 x y F (fun k => k = w2.heap.size ∨ k = w1.heap.size + 1) (A, [0]) w4.drew (hA4.below ⟨rfl, rfl, rfl, Nat.le_refl _, fun _ _ => rfl⟩) (hH4.drew) hd4 (fun i hi => (hsteps i (by omega)).2.2.2.2.2.1 hi) ht hn rfl (by omega) 2 rfl
  have hh2 : ∀ W, Calls Try.prog 99 #[.int .i64 2] W fun x w' => x = .returned (.int .i64 2) ∧ w' = W := fun W => half_any 2 W (by omega) (by omega)
  obtain ⟨g2, bd2, _, _, _, _, ot2, li2, cn2⟩ := hsteps 2 (by omega)
  rw [show 2 + c - 2 = c by omega] at bd2
  generalize hS : emptyN t (A, [0]) 2 = S at *
  have HK : Hid (∀ w6, RoundOut w4.drew w2.heap.size b (n + 2) t F (fun k => k = w2.heap.size ∨ k = w1.heap.size + 1) S w6 → w6.cell? ⟨w2.heap.size + 1, 0, none⟩ = some (.func (Fn.func 105) #[] #[.pointer (some ⟨w2.heap.size, 0, none⟩), .pointer (some ⟨w2.heap.size + 1, 0, none⟩)])) := fun w6 hR => by
    obtain ⟨_, _, _, _, _, _, hP⟩ := hR
    have hflt := hA.flt
    have hsz1 := hb1.size
    have hsz2 := hb2.size
    have l2 : w1.heap.size + 1 < w2.heap.size := (Array.getElem?_eq_some_iff.1 hE2).1
    have e : w6.heap[w2.heap.size + 1]? = w4.heap[w2.heap.size + 1]? := hP.block (w2.heap.size + 1) hs4 (by
      rintro (e | e)
      · have := hflt _ e; omega
      · omega)
    exact (World.cell?_of_block (a := ⟨w2.heap.size + 1, 0, none⟩) e).trans hc4
  have HFIN : Hid (∀ w6, RoundOut w4.drew w2.heap.size b (n + 2) t F (fun k => k = w2.heap.size ∨ k = w1.heap.size + 1) S w6 → ∃ F' A', ArAt w6 b F' (n + 2) A' ∧ (∀ k, F' k → F k ∨ w.heap.size ≤ k) ∧ Apart F w w6 ∧ Good A'.ths ∧ Bud A' c ∧ A'.lim = A.lim ∧ (∀ u, A'.cnt u ≤ A.cnt u + 2) ∧ (∀ u, u ≠ t → ∀ x ∈ A'.ths, x.mask.testBit u = true → ∃ z ∈ A.ths, z.mask.testBit u = true)) := fun w6 hR => by
    obtain ⟨F', H', hA6, _, _, hs6, hP6⟩ := hR
    have hsz1 := hb1.size
    have hsz2 := hb2.size
    have hz4 := hb04.size
    refine ⟨F', S.1, hA6, fun k hk => ?_, ?_, g2, bd2, li2, cn2, ot2⟩
    · rcases hs6 k (Or.inl hk) with (e | e) | e
      · exact Or.inl e
      · exact Or.inr (by rcases e with e | e <;> omega)
      · exact Or.inr (Nat.le_trans hz4 e)
    · refine ⟨hP6.os.trans hb04.os, hP6.tape.trans hb04.tape, hP6.output.trans hb04.output, Nat.le_trans hz4 hP6.size, fun k hk hn => (hP6.block k (Nat.lt_of_lt_of_le hk hz4) ?_).trans (hb04.block k hk)⟩
      rintro (e | e)
      · exact hn e
      · rcases e with e | e <;> omega
  clear hsteps g2 bd2 ot2 li2 cn2 hd4 hH4 hA4 hE2 hT hBd
  go_wp2_with fail
  go_region_held3 (fun w' => w'.cell? ⟨w2.heap.size + 1, 0, none⟩ = some (.func (Fn.func 105) #[] #[.pointer (some ⟨w2.heap.size, 0, none⟩), .pointer (some ⟨w2.heap.size + 1, 0, none⟩)])) (first | exact hc4 | exact HK.out _ hR) ((first | (go_at_call 99; refine (hh2 _).mono ?_; rintro e w5 ⟨rfl, rfl⟩) | (go_at_call 105; refine (hf1 _ _).mono ?_; rintro e w6 ⟨rfl, hR⟩) | (go_at_call 90; obtain ⟨F', H', hA6, hH6, hd6, hs6, hP6⟩ := id hR; obtain ⟨v6, hh6, hrest⟩ := hH6; refine (answer_ok _ b t _ v6 _ hh6).mono ?_; rintro e w7 ⟨rfl, rfl⟩)))
  all_goals
    go_wp2_with fail
    go_ret2
    obtain ⟨FF, AA, r1, r2, r3, r4, r5, r6, r7, r8⟩ := HFIN.out _ hR
    exact ⟨FF, AA, _, rfl, r1, r2, r3, r4, r5, r6, r7, r8⟩

set_option maxRecDepth 20000 in
set_option maxHeartbeats 4000000 in
theorem made_nil2 (w : World) : Calls Try.prog 39 #[.slice none 0 0] w fun x w' => ∃ (b : Nat) (F : Nat → Prop) (A : Ar) (id : Int), x = .returned (.tuple #[.pointer (some ⟨b, 0, none⟩), .int .i64 id, .int .i64 0, .bool true]) ∧ ArAt w' b F 2 A ∧ Good A.ths ∧ Bud A 100 ∧ (∀ u, u < 64 → A.cnt u + 100 ≤ A.lim u) ∧ (∀ k, F k → w.heap.size ≤ k) ∧ Below w.heap.size w w' := by
  have hN := fun W => new_any 200000 W (by omega) (by omega)
  go_enter Try.func39, Try.ntmps39
  go_wp2_with fail
  refine (hN _).mono ?_
  rintro e w1 ⟨rfl, hA1, hb1⟩
  go_wp2_with fail
  refine (cells_nil _).mono ?_
  rintro e w2 ⟨rfl, hw2⟩
  rw [hw2]
  go_wp2_with fail
  have hF : ∀ (t : Int), t = 3 → Calls Try.prog 55 #[.pointer (some ⟨w.heap.size + 1, 0, none⟩), .int .i64 t, .slice none 0 0] w1 _ := fun t ht => by
    rw [ht]
    exact from_nil2 (w.heap.size + 1) 0 3 100 (by omega) _ (arNew 200000) w1 hA1 (by omega) (by omega) (bud_new 102 (by omega)) Good.nil (by show (0 : Int) + (2 + 100 : Nat) ≤ 200000; omega)
  refine (hF 3 rfl).mono ?_
  rintro e w3 ⟨F', A', id, rfl, hA3, hs3, hP3, hg3, hb3, hl3, hc3, ho3⟩
  go_wp2_with fail
  refine bodyPost_ret (v := .tuple #[.pointer (some ⟨w.heap.size + 1, 0, none⟩), .int .i64 id, .int .i64 0, .bool true]) ?_ rfl ⟨_, F', A', id, rfl, hA3, hg3, hb3, fun u hu => ?_, fun k hk => ?_, ?_⟩
  · simp [results, Try.results39, go_sem]
  · have a := hc3 u
    rw [hl3]
    have b : (arNew 200000).cnt u = 0 := rfl
    have c : (arNew 200000).lim u = 200000 := rfl
    omega
  · rcases hs3 k hk with (e | e) | e
    · exact False.elim e
    · omega
    · exact Nat.le_trans hb1.size e
  · exact ⟨hP3.os.trans hb1.os, hP3.tape.trans hb1.tape, hP3.output.trans hb1.output, Nat.le_trans hb1.size hP3.size, fun k hk => (hP3.block k (Nat.lt_of_lt_of_le hk hb1.size) (by
      rintro (e | e)
      · exact e
      · omega)).trans (hb1.block k hk)⟩

end Go.Proofs.Ytplnnlfmehfaiaa.A
