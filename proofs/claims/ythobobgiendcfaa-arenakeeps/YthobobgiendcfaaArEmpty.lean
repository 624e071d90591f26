/- A hand's empty squares. -/
import Derived.Test.YthobobgiendcfaaArHJoin
import Derived.Deep.CutBlock
namespace Go.Proofs.Ythobobgiendcfaa.A
open Go.RowKit Go.Maps

/-- a hand with its list of empty squares; H: its blocks -/
def HandIn (w : World) (hb b t : Nat) (e : Int) (E : List Int) (H : Nat → Prop) : Prop := ∃ v, HandAt w hb b t e v ∧ IntRow w v E ∧ H hb ∧ (∀ k, v.ownBlock = some k → H k) ∧ v.ownBlock ≠ some hb ∧ ∀ k, H k → k < w.heap.size

/-- one empty square more -/
def emptyS (t : Nat) (s : Ar × List Int) : Ar × List Int := ((s.1.join t s.2.getLast! s.2.getLast! s.2.getLast! s.2.getLast!).1, s.2 ++ [(s.1.join t s.2.getLast! s.2.getLast! s.2.getLast! s.2.getLast!).2.1])
/-- a step that is made -/
structure StepOk (t : Nat) (s : Ar × List Int) : Prop where
  young : Young s.1
  fits : Fits s.2.getLast!
  ok : (s.1.join t s.2.getLast! s.2.getLast! s.2.getLast! s.2.getLast!).2.2 = 0
  lo : ∀ l, levelF s.1.ths t s.2.getLast! = some l → 0 ≤ l

/-- what a round leaves -/
def RoundOut (w : World) (hb b n t : Nat) (F H : Nat → Prop) (s : Ar × List Int) (w' : World) : Prop :=
  ∃ F' H', ArAt w' b F' n s.1 ∧ HandIn w' hb b t 0 s.2 H' ∧ (∀ k, F' k → ¬ H' k) ∧ (∀ k, F' k ∨ H' k → (F k ∨ H k) ∨ w.heap.size ≤ k) ∧ Apart (fun k => F k ∨ H k) w w'

/-- what holds behind four and join, ahead of the append -/
theorem empty_mid {w w1 w2 : World} {hb g cap : Nat} {F H : Nat → Prop} {E : List Int} (hrow : IntRow w (.slice (some ⟨g, 0, none⟩) E.length cap) E) (hFH : ∀ k, F k → ¬ H k) (hHg : H g) (hgb : g ≠ hb)
    (hb1 : Below w.drew.heap.size w.drew w1) (P2 : Apart (With F hb) w1 w2) : IntRow w2 (.slice (some ⟨g, 0, none⟩) E.length cap) E ∧ w2.heap.size ≥ w1.heap.size := by
  have hgl : g < w.heap.size := (World.ownsRow.lt hrow g rfl).2
  have hs1 : w.heap.size ≤ w1.heap.size := hb1.size
  refine ⟨row_other hrow fun k hk => ?_, P2.size⟩
  simp only [Value.ownBlock, Option.some.injEq] at hk
  subst hk
  rw [P2.block g (by omega) (by rintro (e | e); exact hFH g e hHg; exact hgb e)]
  exact hb1.block g hgl

theorem HandAt.setV {w : World} {hb b t : Nat} {e : Int} {v : Value} (h : HandAt w hb b t e v) (u : Value) : HandAt (w.setCell ⟨hb, 3, none⟩ u) hb b t e u := by
  have f : ∀ i, (w.setCell ⟨hb, 3, none⟩ u).frozen? ⟨hb, i, none⟩ = w.frozen? ⟨hb, i, none⟩ := fun i => by simp
  refine ⟨(cell_set_other (by omega)).trans h.c0, (cell_set_other (by omega)).trans h.c1, (cell_set_other (by omega)).trans h.c2, ?_, (f 2).trans h.z2, (f 3).trans h.z3⟩
  have hc := h.c3
  simp [go_sem, hc]
theorem push_old {w : World} {o : Obj} {k : Nat} (h : k < w.heap.size) : (w.alloc o).heap[k]? = w.heap[k]? := by
  show (w.heap.push o)[k]? = _
  rw [Array.getElem?_push, if_neg (by omega)]

theorem round_end {w w1 w2 w5 : World} {hb b n t m g cap g5 cap5 : Nat} {F H : Nat → Prop} {A' : Ar} {E : List Int} {id : Int} {o : Obj} (hflt : ∀ k, F k → k < w.heap.size) (hHl : ∀ k, H k → k < w.heap.size) (hFH : ∀ k, F k → ¬ H k) (hHb : H hb) (hHg : H g) (hgb : g ≠ hb) (hm : E.length = m + 1)
    (hb1 : Below w.drew.heap.size w.drew w1) (h2 : HandAt w2 hb b t 0 (.slice (some ⟨g, 0, none⟩) (m + 1) cap)) (hA2 : ArAt w2 b (More F w1 w2) n A') (P2 : Apart (With F hb) w1 w2)
    (hown5 : w5.ownsRow 0 3 1 (.slice (some ⟨g5, 0, none⟩) (m + 1 + 1) cap5) (m + 1 + 1) (E.map (Value.int .i64) ++ [.int .i64 id])) (hgrow5 : (w2.alloc o).grownBy w5 (some g)) (hat5 : some g = some g5 ∨ g5 = w2.heap.size + 1) (hlt5 : g5 < w5.heap.size) :
    RoundOut w hb b n t F H (A', E ++ [id]) (w5.setCell ⟨hb, 3, none⟩ (.slice (some ⟨g5, 0, none⟩) (m + 1 + 1) cap5)) := by
  have hs1 : w.heap.size ≤ w1.heap.size := hb1.size
  have hs2 := P2.size
  have hs5 := hgrow5.size
  have hsa : (w2.alloc o).heap.size = w2.heap.size + 1 := by simp
  rw [hsa] at hs5
  have hbl := hHl hb hHb
  have hgl := hHl g hHg
  have hg5 : g5 ≠ hb := by
    rcases hat5 with e | e
    · cases e; exact hgb
    · omega
  have k5 : ∀ k, k < w2.heap.size → k ≠ g → w5.heap[k]? = w2.heap[k]? := fun k hk hne => (hgrow5.block k (by omega) (fun e => hne (Option.some.inj e))).trans (push_old hk)
  refine ⟨More F w1 w2, fun k => H k ∨ w2.heap.size ≤ k ∧ k < w5.heap.size, ?_, ?_, ?_, ?_, ?_⟩
  · obtain ⟨r, D, hA2⟩ := hA2
    refine ⟨r, D, hA2.other (by rw [size_set]; omega) fun k hk => ?_⟩
    have hkl := hA2.flt k hk
    have hkb : k ≠ hb := fun e => by
      subst e
      rcases hk with e | e
      · exact hFH _ e hHb
      · omega
    have hkg : k ≠ g := fun e => by
      subst e
      rcases hk with e | e
      · exact hFH _ e hHg
      · omega
    rw [heap_set hkb]
    exact k5 k hkl hkg
  · have h5 : HandAt w5 hb b t 0 (.slice (some ⟨g, 0, none⟩) (m + 1) cap) := h2.go (k5 hb h2.lt (fun e => hgb e.symm))
    refine ⟨_, h5.setV _, ?_, Or.inl hHb, fun k hk => ?_, fun e => hg5 (Option.some.inj e), fun k hk => ?_⟩
    · have : IntRow w5 (.slice (some ⟨g5, 0, none⟩) (m + 1 + 1) cap5) (E ++ [id]) := by
        unfold IntRow
        rw [List.length_append, List.map_append, hm]
        exact hown5
      exact row_other this fun k hk => heap_set fun e => hg5 (by simp only [Value.ownBlock, Option.some.injEq] at hk; rw [hk, e])
    · simp only [Value.ownBlock, Option.some.injEq] at hk
      subst hk
      rcases hat5 with e | e
      · cases e; exact Or.inl hHg
      · exact Or.inr ⟨by omega, hlt5⟩
    · rw [size_set]
      rcases hk with e | e
      · have := hHl k e; omega
      · exact e.2
  · rintro k (e | e) (e' | e')
    · exact hFH k e e'
    · have := hflt k e; omega
    · have := hHl k e'; omega
    · omega
  · rintro k ((e | e) | (e | e))
    · exact Or.inl (Or.inl e)
    · exact Or.inr (by omega)
    · exact Or.inl (Or.inr e)
    · exact Or.inr (by omega)
  · have a0 : Apart (fun k => F k ∨ H k) w w1 := ⟨hb1.os, hb1.tape, hb1.output, hb1.size, fun k hk _ => hb1.block k hk⟩
    have a1 : Apart (fun k => F k ∨ H k) w1 w2 := ⟨P2.os, P2.tape, P2.output, P2.size, fun k hk hn => P2.block k hk fun e => hn (by rcases e with e | e; exact Or.inl e; exact Or.inr (by rw [e]; exact hHb))⟩
    have a2 : Apart (fun k => F k ∨ H k) w2 (w2.alloc o) := ⟨rfl, rfl, rfl, by omega, fun k hk _ => push_old hk⟩
    have a3 : Apart (fun k => F k ∨ H k) (w2.alloc o) w5 := Apart.grown hgrow5 fun k hk => by cases hk; exact Or.inr hHg
    have a4 : Apart (fun k => F k ∨ H k) w5 (w5.setCell ⟨hb, 3, none⟩ (.slice (some ⟨g5, 0, none⟩) (m + 1 + 1) cap5)) := Apart.set w5 _ (Or.inr hHb)
    exact (((a0.trans a1 fun k hk => Or.inl hk).trans a2 fun k hk => Or.inl hk).trans a3 fun k hk => Or.inl hk).trans a4 fun k hk => Or.inl hk

theorem RoundOut.trans {w w1 w2 : World} {hb b n' t : Nat} {F H F1 H1 : Nat → Prop} {s' : Ar × List Int} (hP : Apart (fun k => F k ∨ H k) w w1) (hsub : ∀ k, F1 k ∨ H1 k → (F k ∨ H k) ∨ w.heap.size ≤ k) (hlt : ∀ k, F1 k ∨ H1 k → k < w1.heap.size) (h : RoundOut w1 hb b n' t F1 H1 s' w2) : RoundOut w hb b n' t F H s' w2 := by
  obtain ⟨F', H', hA, hH, hd, hs, hP'⟩ := h
  have hz := hP.size
  refine ⟨F', H', hA, hH, hd, fun k hk => ?_, hP.trans hP' fun k hk => ?_⟩
  · rcases hs k hk with e | e
    · exact hsub k e
    · exact Or.inr (by omega)
  · rcases hsub k hk with e | e
    · exact Or.inl e
    · exact Or.inr ⟨e, hlt k hk⟩

def nth (l : List Int) (i : Nat) : Int := l[i]!
/-- the first empty squares, one behind the other -/
def emptyN (t : Nat) (s : Ar × List Int) : Nat → Ar × List Int
  | 0 => s
  | i + 1 => emptyS t (emptyN t s i)
theorem emptyN_length (t : Nat) (s : Ar × List Int) : ∀ i, (emptyN t s i).2.length = s.2.length + i
  | 0 => rfl
  | i + 1 => by
    have := emptyN_length t s i
    simp only [emptyN, emptyS, List.length_append, List.length_singleton]
    omega

set_option maxRecDepth 20000 in
set_option maxHeartbeats 20000000 in
theorem empty_any (hb b n t m0 k : Nat) (F H : Nat → Prop) (s : Ar × List Int) (w : World) (hA : ArAt w b F n s.1) (hH : HandIn w hb b t 0 s.2 H) (hFH : ∀ k, F k → ¬ H k) (hok : ∀ i, i < k → StepOk t (emptyN t s i)) (ht : t < 64) (hn : n < 900000000) (hm0 : s.2.length = m0 + 1) (hlen : m0 + k < 1000) (level : Int) (hlev : level = ((m0 + k : Nat) : Int)) :
    Calls Try.prog 95 #[.pointer (some ⟨hb, 0, none⟩), .int .i64 level] w fun e w' => e = .returned (.int .i64 (nth (emptyN t s k).2 (m0 + k))) ∧ RoundOut w hb b (n + k) t F H (emptyN t s k) w' := by
  have h0 := hH
  obtain ⟨v, hh, hrow, hHb, hHv, hvb, hHl⟩ := h0
  have hlt0 := hh.lt
  obtain ⟨a, c, hv⟩ := hrow.shape
  have c3 := hh.c3
  rw [hv, hm0] at c3
  have HL : Hid (∀ i, (emptyN t s i).2.length = m0 + 1 + i) := fun i => by rw [emptyN_length, hm0]
  have HLEV : Hid (level = ((m0 + k : Nat) : Int)) := hlev
  clear hv hrow hHv hvb hlev
  go_enter Try.func95, Try.ntmps95
  go_wp2_with fail
  go_loopg [5] k (fun g s5 wr => ∃ i : Nat, i + g = k ∧ s5 = .int .i64 ((m0 + 1 + i : Nat) : Int) ∧ RoundOut w hb b (n + i) t F H (emptyN t s i) wr)
  case atStart => exact ⟨0, by omega, rfl, ⟨F, H, hA, hH, hFH, fun k hk => Or.inl hk, Apart.refl _ _⟩⟩
  case round =>
    obtain ⟨i, hig, rfl, hR⟩ := hrel
    have HI : Hid (i + gk = k) := hig
    have hik : i ≤ k := by omega
    clear hig
    have hlE := HL.out i
    have hok0 := hok i
    have HS : Hid (emptyN t s (i + 1) = emptyS t (emptyN t s i)) := rfl
    have HEK : Hid (emptyN t s i = emptyN t s i) := rfl
    obtain ⟨S, hS⟩ : ∃ S, S = emptyN t s i := ⟨_, rfl⟩
    rw [← hS] at hR hlE hok0 HS
    have HSI : Hid (S = emptyN t s i) := hS
    clear hS
    obtain ⟨A, E⟩ := S
    simp only at hlE
    have hR0 := hR
    obtain ⟨F1, H1, hA1, hH1, hd1, hs1, hP1⟩ := hR
    simp only at hA1 hH1
    obtain ⟨m, hmm⟩ : ∃ m, m = m0 + i := ⟨_, rfl⟩
    have hm : E.length = m + 1 := by omega
    have e5 : ((m0 + 1 + i : Nat) : Int) = (m : Int) + 1 := by omega
    rw [e5]
    have HMM : Hid (m = m0 + i) := hmm
    clear hlE hmm e5
    by_cases hlt : i < k
    · have hok1 := hok0 hlt
      obtain ⟨v, h, hrow, hHb1, hHv, hvb, hHl1⟩ := hH1
      have hflt1 := hA1.flt
      obtain ⟨g, cap, hv⟩ : ∃ g c, v = .slice (some ⟨g, 0, none⟩) E.length c := by
        rcases hrow.2 with ⟨_, h2⟩ | ⟨g, cap, cur, h1, _⟩
        · omega
        · exact ⟨_, _, h1⟩
      have hF : ¬ F1 hb := fun e => hd1 hb e hHb1
      subst hv
      have hHg : H1 g := hHv g rfl
      have hgb : g ≠ hb := fun e => hvb (by rw [← e]; rfl)
      obtain ⟨q, hq⟩ : ∃ q, q = E.getLast! := ⟨_, rfl⟩
      obtain ⟨J, hJ⟩ : ∃ J, J = A.join t q q q q := ⟨_, rfl⟩
      have hJ0 : J.2.2 = 0 := by rw [hJ, hq]; exact hok1.ok
      have hf4 := fun W => four_any q W
      unfold quad4 at hf4
      have hj : ∀ W, Below wr.drew.heap.size wr.drew W → _ := fun W hW => hjoin_any hb b (n + i) t q q q q (.slice (some ⟨g, 0, none⟩) E.length cap) F1 A W (h.go (hW.block hb h.lt)) (hA1.below ⟨hW.os, hW.tape, hW.output, hW.size, hW.block⟩) hF hok1.young ht (by rw [hq]; exact hok1.fits) (by rw [hq]; exact hok1.fits) (by rw [hq]; exact hok1.fits) (by rw [hq]; exact hok1.fits) (by omega) (by rw [hq]; exact hok1.lo)
      unfold quad4 at hj
      have OW : Hid (∀ w1 w2, Below wr.drew.heap.size wr.drew w1 → Apart (With F1 hb) w1 w2 → w2.ownsRow 0 3 1 (.slice (some ⟨g, 0, none⟩) (m + 1) cap) (m + 1) (E.map (Value.int .i64)) ∧ w2.heap.size ≥ w1.heap.size) := fun w1 w2 a c => by
        have := empty_mid hrow hd1 hHg hgb a c
        unfold IntRow at this
        rw [hm] at this
        exact this
      have HEND : Hid (∀ (w1 w2 : World), Below wr.drew.heap.size wr.drew w1 → HandAt w2 hb b t J.2.2 (.slice (some ⟨g, 0, none⟩) (m + 1) cap) → Apart (With F1 hb) w1 w2 → ∀ (w5 : World) (o : Obj), (w2.alloc o).grownBy w5 (some g) → w5.cell? ⟨hb, 3, none⟩ = some (.slice (some ⟨g, 0, none⟩) (m + 1) cap) ∧ w5.frozen? ⟨hb, 3, none⟩ = false) := fun w1 w2 _ h2 _ w5 o hg => by
        have hl2 := h2.lt
        have e : w5.heap[hb]? = w2.heap[hb]? := by
          rw [hg.block hb (by simp; omega) (fun e => hgb (Option.some.inj e).symm)]
          exact push_old hl2
        have := h2.go e
        exact ⟨this.c3, this.z3⟩
      have HRE : Hid (∀ (w1 w2 w5 : World) (g5 cap5 : Nat) (o : Obj), Below wr.drew.heap.size wr.drew w1 → HandAt w2 hb b t J.2.2 (.slice (some ⟨g, 0, none⟩) (m + 1) cap) → ArAt w2 b (More F1 w1 w2) (n + i + 1) J.1 → Apart (With F1 hb) w1 w2 → w5.ownsRow 0 3 1 (.slice (some ⟨g5, 0, none⟩) (m + 1 + 1) cap5) (m + 1 + 1) (E.map (Value.int .i64) ++ [.int .i64 J.2.1]) → (w2.alloc o).grownBy w5 (some g) → (some g = some g5 ∨ g5 = w2.heap.size + 1) → g5 < w5.heap.size →
          RoundOut w hb b (n + (i + 1)) t F H (emptyN t s (i + 1)) (w5.setCell ⟨hb, 3, none⟩ (.slice (some ⟨g5, 0, none⟩) (m + 1 + 1) cap5))) := fun w1 w2 w5 g5 cap5 o a1 a2 a3 a4 a5 a6 a7 a8 => by
        rw [hJ0] at a2
        have := round_end hflt1 hHl1 hd1 hHb1 hHg hgb hm a1 a2 a3 a4 a5 a6 a7 a8
        have h9 := RoundOut.trans hP1 hs1 (fun k hk => by rcases hk with e | e; exact hflt1 k e; exact hHl1 k e) this
        rw [HS.out]
        unfold emptyS
        simp only
        rw [← hq, ← hJ]
        exact h9
      have c3 := h.c3
      have ce : wr.cell? ⟨g, m, none⟩ = some (.int .i64 q) := by
        have := World.ownsRow.cellAt hrow m (by omega)
        rw [this, hq]
        simp [hm, List.getLast!_eq_getLast?_getD, List.getLast?_eq_getElem?]
      have h3lt := h.lt
      obtain ⟨i0, hi, hz0, hz1, hz2⟩ := info_parts Try.info3
      have hwm : IntKind.i64.wrap ((m : Int) + 1 - 1) = (m : Int) := by rw [IntKind.wrap_i64]; have := HMM.out; omega
      have hwm2 : IntKind.i64.wrap (m : Int) = (m : Int) := by rw [IntKind.wrap_i64]; have := HMM.out; omega
      have hwm3 : IntKind.i64.wrap ((m : Int) + 1 + 1) = (m : Int) + 1 + 1 := by rw [IntKind.wrap_i64]; have := HMM.out; omega
      have hmi0 : (0 : Int) ≤ m := by omega
      have hmi1 : (m : Int) < (m : Int) + 1 := by omega
      have hml : m < 1000 := by have := HMM.out; omega
      have hle : (m : Int) + 1 ≤ level := by have := HMM.out; have := HLEV.out; omega
      have hdec : decide ((m : Int) + 1 ≤ level) = true := by simpa using hle
      rw [hm, ← hJ] at hj
      rw [hm] at c3
      have HQ : Hid (q = E.getLast!) := hq
      have HJ0 : Hid (J.2.2 = 0) := hJ0
      clear hok1 hok0 hrow h hq hJ hJ0 hR0 hA1 hP1 hs1 HS
      go_upto_block 1 with fail
      go_cut [] from 16 to 35 (fun wc => RoundOut w hb b (n + (i + 1)) t F H (emptyN t s (i + 1)) wc)
      case first =>
        go_wp2_with fail
        go_region_law (first | (refine step_append_lies _ (by rfl) _ _ 31 (by rfl) 0 3 i0 (.int .i64 0) 1 8 Try.underlying31 hi hz0 hz1 hz2 rfl (by decide) (.slice (some ⟨g, 0, none⟩) (m + 1) cap) (m + 1) (E.map (Value.int .i64)) (by rfl) (World.ownsRow.alloc (OW.out w1 w2 hb1 P2).1 _) ⟨w2.heap.size, 0, none⟩ 1 1 [.int .i64 J.2.1] (by rfl) rfl (cell_one_new _ _ _) (by intro u hu; simp at hu; subst hu; rfl) (by omega) (by unfold maxLen; omega) (by omega) (by omega) (w2.heap.size + 1) (by simp) ?_; intro g5 cap5 w5 hown5 hgrow5 hat5 hlt5; have q45 := HEND.out w1 w2 hb1 h2 P2 w5 _ hgrow5; have q4 := q45.1; have q5 := q45.2) | (go_simp; go_wp2_with (first | (go_at_call 94; refine (hf4 _).mono ?_; rintro e w1 ⟨rfl, hb1⟩; have c31 : w1.cell? ⟨hb, 3, none⟩ = some (.slice (some ⟨g, 0, none⟩) (m + 1) cap) := (World.cell?_of_block (a := ⟨hb, 3, none⟩) (hb1.block hb h3lt)).trans c3) | (go_at_call 96; refine (hj _ hb1).mono ?_; rintro e w2 ⟨rfl, h2, hA2, P2⟩; have c32 := h2.c3; have hlw2 := h2.lt))))
        all_goals
          go_wp2_with fail
          go_meet
          case rel => exact HRE.out w1 w2 w5 g5 cap5 _ hb1 h2 hA2 P2 hown5 hgrow5 hat5 hlt5
      case rest =>
      clear c3 ce HRE HEND OW hj
      go_wp2_with fail
      go_roundg (gk - 1)
      case measure => have := HI.out; omega
      case rel => exact ⟨i + 1, by have := HI.out; omega, by rw [show m0 + 1 + (i + 1) = m + 1 + 1 by have := HMM.out; omega]; go_num, hcut⟩
    · have hik2 : i = k := by omega
      obtain ⟨v, h, hrow, hHb1, hHv, hvb, hHl1⟩ := hH1
      obtain ⟨g, cap, hv⟩ : ∃ g c, v = .slice (some ⟨g, 0, none⟩) E.length c := by
        rcases hrow.2 with ⟨_, h2⟩ | ⟨g, cap, cur, h1, _⟩
        · omega
        · exact ⟨_, _, h1⟩
      subst hv
      have c3 := h.c3
      rw [hm] at c3
      have hE : (emptyN t s k).2 = E := by rw [← hik2, ← HSI.out]
      have ce : wr.cell? ⟨g, m, none⟩ = some (.int .i64 (nth (emptyN t s k).2 (m0 + k))) := by
        have := World.ownsRow.cellAt hrow m (by omega)
        rw [this, hE, show m0 + k = m by have := HMM.out; omega]
        unfold nth
        rw [getElem!_pos E m (by omega)]
        simp [show m < E.length by omega]
      have hle : ¬ (m : Int) + 1 ≤ level := by have := HMM.out; have := HLEV.out; omega
      have hmk : level = (m : Int) := by have := HMM.out; have := HLEV.out; omega
      have hmi0 : (0 : Int) ≤ m := by omega
      have hmi1 : (m : Int) < (m : Int) + 1 := by omega
      have HR : Hid (RoundOut w hb b (n + k) t F H (emptyN t s k) wr) := by
        show RoundOut _ _ _ _ _ _ _ _ _
        rw [← hik2, ← HSI.out]; exact hR0
      clear hE hik2 HLEV
      subst hmk
      obtain ⟨res, hres⟩ : ∃ res, res = nth (emptyN t s k).2 (m0 + k) := ⟨_, rfl⟩
      rw [← hres] at ce
      have HRES : Hid (res = nth (emptyN t s k).2 (m0 + k)) := hres
      clear hres
      go_wp2_with fail
      go_ret
      exact ⟨ret_i HRES.out, HR.out⟩
end Go.Proofs.Ythobobgiendcfaa.A
