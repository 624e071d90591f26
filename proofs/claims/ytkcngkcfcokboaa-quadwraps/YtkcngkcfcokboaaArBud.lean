/- Joins that are made: room enough, and what is made. -/
import Derived.Test.YtkcngkcfcokboaaArHJoin
import Derived.Deep.CutBlock
namespace Go.Proofs.Ytkcngkcfcokboaa.A
open Go.RowKit Go.Maps

/-- a hand with its list of empty squares; H: its blocks -/
def HandIn (w : World) (hb b t : Nat) (e : Int) (E : List Int) (H : Nat → Prop) : Prop := ∃ v, HandAt w hb b t e v ∧ IntRow w v E ∧ H hb ∧ (∀ k, v.ownBlock = some k → H k) ∧ v.ownBlock ≠ some hb ∧ ∀ k, H k → k < w.heap.size

/-- one empty square more -/
def emptyS (t : Nat) (s : Ar × List Int) : Ar × List Int := ((s.1.join t s.2.getLast! s.2.getLast! s.2.getLast! s.2.getLast!).1, s.2 ++ [(s.1.join t s.2.getLast! s.2.getLast! s.2.getLast! s.2.getLast!).2.1])
/-- a step that is made -/
structure StepOk (t : Nat) (s : Ar × List Int) : Prop where
  young : Young s.1
  fits : Fits s.2.getLast!
  ok : (s.1.join t s.2.getLast! s.2.getLast! s.2.getLast! s.2.getLast!).2.2 = 0
  lo : ∀ l, levelF s.1.ths t s.2.getLast! = some l → 0 ≤ l

/-- what a round leaves -/
def RoundOut (w : World) (hb b n t : Nat) (F H : Nat → Prop) (s : Ar × List Int) (w' : World) : Prop :=
  ∃ F' H', ArAt w' b F' n s.1 ∧ HandIn w' hb b t 0 s.2 H' ∧ (∀ k, F' k → ¬ H' k) ∧ (∀ k, F' k ∨ H' k → (F k ∨ H k) ∨ w.heap.size ≤ k) ∧ Apart (fun k => F k ∨ H k) w w'

/-- what holds behind four and join, ahead of the append -/
theorem empty_mid {w w1 w2 : World} {hb g cap : Nat} {F H : Nat → Prop} {E : List Int} (hrow : IntRow w (.slice (some ⟨g, 0, none⟩) E.length cap) E) (hFH : ∀ k, F k → ¬ H k) (hHg : H g) (hgb : g ≠ hb)
    (hb1 : Below w.drew.heap.size w.drew w1) (P2 : Apart (With F hb) w1 w2) : IntRow w2 (.slice (some ⟨g, 0, none⟩) E.length cap) E ∧ w2.heap.size ≥ w1.heap.size := by
  have hgl : g < w.heap.size := (World.ownsRow.lt hrow g rfl).2
  have hs1 : w.heap.size ≤ w1.heap.size := hb1.size
  refine ⟨row_other hrow fun k hk => ?_, P2.size⟩
  simp only [Value.ownBlock, Option.some.injEq] at hk
  subst hk
  rw [P2.block g (by omega) (by rintro (e | e); exact hFH g e hHg; exact hgb e)]
  exact hb1.block g hgl

theorem HandAt.setV {w : World} {hb b t : Nat} {e : Int} {v : Value} (h : HandAt w hb b t e v) (u : Value) : HandAt (w.setCell ⟨hb, 3, none⟩ u) hb b t e u := by
  have f : ∀ i, (w.setCell ⟨hb, 3, none⟩ u).frozen? ⟨hb, i, none⟩ = w.frozen? ⟨hb, i, none⟩ := fun i => by simp
  refine ⟨(cell_set_other (by omega)).trans h.c0, (cell_set_other (by omega)).trans h.c1, (cell_set_other (by omega)).trans h.c2, ?_, (f 2).trans h.z2, (f 3).trans h.z3⟩
  have hc := h.c3
  simp [go_sem, hc]
theorem push_old {w : World} {o : Obj} {k : Nat} (h : k < w.heap.size) : (w.alloc o).heap[k]? = w.heap[k]? := by
  show (w.heap.push o)[k]? = _
  rw [Array.getElem?_push, if_neg (by omega)]

theorem round_end {w w1 w2 w5 : World} {hb b n t m g cap g5 cap5 : Nat} {F H : Nat → Prop} {A' : Ar} {E : List Int} {id : Int} {o : Obj} (hflt : ∀ k, F k → k < w.heap.size) (hHl : ∀ k, H k → k < w.heap.size) (hFH : ∀ k, F k → ¬ H k) (hHb : H hb) (hHg : H g) (hgb : g ≠ hb) (hm : E.length = m + 1)
    (hb1 : Below w.drew.heap.size w.drew w1) (h2 : HandAt w2 hb b t 0 (.slice (some ⟨g, 0, none⟩) (m + 1) cap)) (hA2 : ArAt w2 b (More F w1 w2) n A') (P2 : Apart (With F hb) w1 w2)
    (hown5 : w5.ownsRow 0 3 1 (.slice (some ⟨g5, 0, none⟩) (m + 1 + 1) cap5) (m + 1 + 1) (E.map (Value.int .i64) ++ [.int .i64 id])) (hgrow5 : (w2.alloc o).grownBy w5 (some g)) (hat5 : some g = some g5 ∨ g5 = w2.heap.size + 1) (hlt5 : g5 < w5.heap.size) :
    RoundOut w hb b n t F H (A', E ++ [id]) (w5.setCell ⟨hb, 3, none⟩ (.slice (some ⟨g5, 0, none⟩) (m + 1 + 1) cap5)) := by
  have hs1 : w.heap.size ≤ w1.heap.size := hb1.size
  have hs2 := P2.size
  have hs5 := hgrow5.size
  have hsa : (w2.alloc o).heap.size = w2.heap.size + 1 := by simp
  rw [hsa] at hs5
  have hbl := hHl hb hHb
  have hgl := hHl g hHg
  have hg5 : g5 ≠ hb := by
    rcases hat5 with e | e
    · cases e; exact hgb
    · omega
  have k5 : ∀ k, k < w2.heap.size → k ≠ g → w5.heap[k]? = w2.heap[k]? := fun k hk hne => (hgrow5.block k (by omega) (fun e => hne (Option.some.inj e))).trans (push_old hk)
  refine ⟨More F w1 w2, fun k => H k ∨ w2.heap.size ≤ k ∧ k < w5.heap.size, ?_, ?_, ?_, ?_, ?_⟩
  · obtain ⟨r, D, hA2⟩ := hA2
    refine ⟨r, D, hA2.other (by rw [size_set]; omega) fun k hk => ?_⟩
    have hkl := hA2.flt k hk
    have hkb : k ≠ hb := fun e => by
      subst e
      rcases hk with e | e
      · exact hFH _ e hHb
      · omega
    have hkg : k ≠ g := fun e => by
      subst e
      rcases hk with e | e
      · exact hFH _ e hHg
      · omega
    rw [heap_set hkb]
    exact k5 k hkl hkg
  · have h5 : HandAt w5 hb b t 0 (.slice (some ⟨g, 0, none⟩) (m + 1) cap) := h2.go (k5 hb h2.lt (fun e => hgb e.symm))
    refine ⟨_, h5.setV _, ?_, Or.inl hHb, fun k hk => ?_, fun e => hg5 (Option.some.inj e), fun k hk => ?_⟩
    · have : IntRow w5 (.slice (some ⟨g5, 0, none⟩) (m + 1 + 1) cap5) (E ++ [id]) := by
        unfold IntRow
        rw [List.length_append, List.map_append, hm]
        exact hown5
      exact row_other this fun k hk => heap_set fun e => hg5 (by simp only [Value.ownBlock, Option.some.injEq] at hk; rw [hk, e])
    · simp only [Value.ownBlock, Option.some.injEq] at hk
      subst hk
      rcases hat5 with e | e
      · cases e; exact Or.inl hHg
      · exact Or.inr ⟨by omega, hlt5⟩
    · rw [size_set]
      rcases hk with e | e
      · have := hHl k e; omega
      · exact e.2
  · rintro k (e | e) (e' | e')
    · exact hFH k e e'
    · have := hflt k e; omega
    · have := hHl k e'; omega
    · omega
  · rintro k ((e | e) | (e | e))
    · exact Or.inl (Or.inl e)
    · exact Or.inr (by omega)
    · exact Or.inl (Or.inr e)
    · exact Or.inr (by omega)
  · have a0 : Apart (fun k => F k ∨ H k) w w1 := ⟨hb1.os, hb1.tape, hb1.output, hb1.size, fun k hk _ => hb1.block k hk⟩
    have a1 : Apart (fun k => F k ∨ H k) w1 w2 := ⟨P2.os, P2.tape, P2.output, P2.size, fun k hk hn => P2.block k hk fun e => hn (by rcases e with e | e; exact Or.inl e; exact Or.inr (by rw [e]; exact hHb))⟩
    have a2 : Apart (fun k => F k ∨ H k) w2 (w2.alloc o) := ⟨rfl, rfl, rfl, by omega, fun k hk _ => push_old hk⟩
    have a3 : Apart (fun k => F k ∨ H k) (w2.alloc o) w5 := Apart.grown hgrow5 fun k hk => by cases hk; exact Or.inr hHg
    have a4 : Apart (fun k => F k ∨ H k) w5 (w5.setCell ⟨hb, 3, none⟩ (.slice (some ⟨g5, 0, none⟩) (m + 1 + 1) cap5)) := Apart.set w5 _ (Or.inr hHb)
    exact (((a0.trans a1 fun k hk => Or.inl hk).trans a2 fun k hk => Or.inl hk).trans a3 fun k hk => Or.inl hk).trans a4 fun k hk => Or.inl hk

theorem RoundOut.trans {w w1 w2 : World} {hb b n' t : Nat} {F H F1 H1 : Nat → Prop} {s' : Ar × List Int} (hP : Apart (fun k => F k ∨ H k) w w1) (hsub : ∀ k, F1 k ∨ H1 k → (F k ∨ H k) ∨ w.heap.size ≤ k) (hlt : ∀ k, F1 k ∨ H1 k → k < w1.heap.size) (h : RoundOut w1 hb b n' t F1 H1 s' w2) : RoundOut w hb b n' t F H s' w2 := by
  obtain ⟨F', H', hA, hH, hd, hs, hP'⟩ := h
  have hz := hP.size
  refine ⟨F', H', hA, hH, hd, fun k hk => ?_, hP.trans hP' fun k hk => ?_⟩
  · rcases hs k hk with e | e
    · exact hsub k e
    · exact Or.inr (by omega)
  · rcases hsub k hk with e | e
    · exact Or.inl e
    · exact Or.inr ⟨e, hlt k hk⟩

def nth (l : List Int) (i : Nat) : Int := l[i]!
/-- the first empty squares, one behind the other -/
def emptyN (t : Nat) (s : Ar × List Int) : Nat → Ar × List Int
  | 0 => s
  | i + 1 => emptyS t (emptyN t s i)
theorem emptyN_length (t : Nat) (s : Ar × List Int) : ∀ i, (emptyN t s i).2.length = s.2.length + i
  | 0 => rfl
  | i + 1 => by
    have := emptyN_length t s i
    simp only [emptyN, emptyS, List.length_append, List.length_singleton]
    omega

set_option maxRecDepth 20000 in
set_option maxHeartbeats 20000000 in
theorem empty_any (hb b n t m0 k : Nat) (F H : Nat → Prop) (s : Ar × List Int) (w : World) (hA : ArAt w b F n s.1) (hH : HandIn w hb b t 0 s.2 H) (hFH : ∀ k, F k → ¬ H k) (hok : ∀ i, i < k → StepOk t (emptyN t s i)) (ht : t < 64) (hn : n < 900000000) (hm0 : s.2.length = m0 + 1) (hlen : m0 + k < 1000) (level : Int) (hlev : level = ((m0 + k : Nat) : Int)) :
    Calls Try.prog 95 #[.pointer (some ⟨hb, 0, none⟩), .int .i64 level] w fun e w' => e = .returned (.int .i64 (nth (emptyN t s k).2 (m0 + k))) ∧ RoundOut w hb b (n + k) t F H (emptyN t s k) w' := by
  have h0 := hH
  obtain ⟨v, hh, hrow, hHb, hHv, hvb, hHl⟩ := h0
  have hlt0 := hh.lt
  obtain ⟨a, c, hv⟩ := hrow.shape
  have c3 := hh.c3
  rw [hv, hm0] at c3
  have HL : Hid (∀ i, (emptyN t s i).2.length = m0 + 1 + i) := fun i => by rw [emptyN_length, hm0]
  have HLEV : Hid (level = ((m0 + k : Nat) : Int)) := hlev
  clear hv hrow hHv hvb hlev
  go_enter Try.func95, Try.ntmps95
  go_wp2_with fail
  go_loopg [5] k (fun g s5 wr => ∃ i : Nat, i + g = k ∧ s5 = .int .i64 ((m0 + 1 + i : Nat) : Int) ∧ RoundOut w hb b (n + i) t F H (emptyN t s i) wr)
  case atStart => exact ⟨0, by omega, rfl, ⟨F, H, hA, hH, hFH, fun k hk => Or.inl hk, Apart.refl _ _⟩⟩
  case round =>
    obtain ⟨i, hig, rfl, hR⟩ := hrel
    have HI : Hid (i + gk = k) := hig
    have hik : i ≤ k := by omega
    clear hig
    have hlE := HL.out i
    have hok0 := hok i
    have HS : Hid (emptyN t s (i + 1) = emptyS t (emptyN t s i)) := rfl
    have HEK : Hid (emptyN t s i = emptyN t s i) := rfl
    obtain ⟨S, hS⟩ : ∃ S, S = emptyN t s i := ⟨_, rfl⟩
    rw [← hS] at hR hlE hok0 HS
    have HSI : Hid (S = emptyN t s i) := hS
    clear hS
    obtain ⟨A, E⟩ := S
    simp only at hlE
    have hR0 := hR
    obtain ⟨F1, H1, hA1, hH1, hd1, hs1, hP1⟩ := hR
    simp only at hA1 hH1
    obtain ⟨m, hmm⟩ : ∃ m, m = m0 + i := ⟨_, rfl⟩
    have hm : E.length = m + 1 := by omega
    have e5 : ((m0 + 1 + i : Nat) : Int) = (m : Int) + 1 := by omega
    rw [e5]
    have HMM : Hid (m = m0 + i) := hmm
    clear hlE hmm e5
    by_cases hlt : i < k
    · have hok1 := hok0 hlt
      obtain ⟨v, h, hrow, hHb1, hHv, hvb, hHl1⟩ := hH1
      have hflt1 := hA1.flt
      obtain ⟨g, cap, hv⟩ : ∃ g c, v = .slice (some ⟨g, 0, none⟩) E.length c := by
        rcases hrow.2 with ⟨_, h2⟩ | ⟨g, cap, cur, h1, _⟩
        · omega
        · exact ⟨_, _, h1⟩
      have hF : ¬ F1 hb := fun e => hd1 hb e hHb1
      subst hv
      have hHg : H1 g := hHv g rfl
      have hgb : g ≠ hb := fun e => hvb (by rw [← e]; rfl)
      obtain ⟨q, hq⟩ : ∃ q, q = E.getLast! := ⟨_, rfl⟩
      obtain ⟨J, hJ⟩ : ∃ J, J = A.join t q q q q := ⟨_, rfl⟩
      have hJ0 : J.2.2 = 0 := by rw [hJ, hq]; exact hok1.ok
      have hf4 := fun W => four_any q W
      unfold quad4 at hf4
      have hj : ∀ W, Below wr.drew.heap.size wr.drew W → _ := fun W hW => hjoin_any hb b (n + i) t q q q q (.slice (some ⟨g, 0, none⟩) E.length cap) F1 A W (h.go (hW.block hb h.lt)) (hA1.below ⟨hW.os, hW.tape, hW.output, hW.size, hW.block⟩) hF hok1.young ht (by rw [hq]; exact hok1.fits) (by rw [hq]; exact hok1.fits) (by rw [hq]; exact hok1.fits) (by rw [hq]; exact hok1.fits) (by omega) (by rw [hq]; exact hok1.lo)
      unfold quad4 at hj
      have OW : Hid (∀ w1 w2, Below wr.drew.heap.size wr.drew w1 → Apart (With F1 hb) w1 w2 → w2.ownsRow 0 3 1 (.slice (some ⟨g, 0, none⟩) (m + 1) cap) (m + 1) (E.map (Value.int .i64)) ∧ w2.heap.size ≥ w1.heap.size) := fun w1 w2 a c => by
        have := empty_mid hrow hd1 hHg hgb a c
        unfold IntRow at this
        rw [hm] at this
        exact this
      have HEND : Hid (∀ (w1 w2 : World), Below wr.drew.heap.size wr.drew w1 → HandAt w2 hb b t J.2.2 (.slice (some ⟨g, 0, none⟩) (m + 1) cap) → Apart (With F1 hb) w1 w2 → ∀ (w5 : World) (o : Obj), (w2.alloc o).grownBy w5 (some g) → w5.cell? ⟨hb, 3, none⟩ = some (.slice (some ⟨g, 0, none⟩) (m + 1) cap) ∧ w5.frozen? ⟨hb, 3, none⟩ = false) := fun w1 w2 _ h2 _ w5 o hg => by
        have hl2 := h2.lt
        have e : w5.heap[hb]? = w2.heap[hb]? := by
          rw [hg.block hb (by simp; omega) (fun e => hgb (Option.some.inj e).symm)]
          exact push_old hl2
        have := h2.go e
        exact ⟨this.c3, this.z3⟩
      have HRE : Hid (∀ (w1 w2 w5 : World) (g5 cap5 : Nat) (o : Obj), Below wr.drew.heap.size wr.drew w1 → HandAt w2 hb b t J.2.2 (.slice (some ⟨g, 0, none⟩) (m + 1) cap) → ArAt w2 b (More F1 w1 w2) (n + i + 1) J.1 → Apart (With F1 hb) w1 w2 → w5.ownsRow 0 3 1 (.slice (some ⟨g5, 0, none⟩) (m + 1 + 1) cap5) (m + 1 + 1) (E.map (Value.int .i64) ++ [.int .i64 J.2.1]) → (w2.alloc o).grownBy w5 (some g) → (some g = some g5 ∨ g5 = w2.heap.size + 1) → g5 < w5.heap.size →
          RoundOut w hb b (n + (i + 1)) t F H (emptyN t s (i + 1)) (w5.setCell ⟨hb, 3, none⟩ (.slice (some ⟨g5, 0, none⟩) (m + 1 + 1) cap5))) := fun w1 w2 w5 g5 cap5 o a1 a2 a3 a4 a5 a6 a7 a8 => by
        rw [hJ0] at a2
        have := round_end hflt1 hHl1 hd1 hHb1 hHg hgb hm a1 a2 a3 a4 a5 a6 a7 a8
        have h9 := RoundOut.trans hP1 hs1 (fun k hk => by rcases hk with e | e; exact hflt1 k e; exact hHl1 k e) this
        rw [HS.out]
        unfold emptyS
        simp only
        rw [← hq, ← hJ]
        exact h9
      have c3 := h.c3
      have ce : wr.cell? ⟨g, m, none⟩ = some (.int .i64 q) := by
        have := World.ownsRow.cellAt hrow m (by omega)
        rw [this, hq]
        simp [hm, List.getLast!_eq_getLast?_getD, List.getLast?_eq_getElem?]
      have h3lt := h.lt
      obtain ⟨i0, hi, hz0, hz1, hz2⟩ := info_parts Try.info3
      have hwm : IntKind.i64.wrap ((m : Int) + 1 - 1) = (m : Int) := by rw [IntKind.wrap_i64]; have := HMM.out; omega
      have hwm2 : IntKind.i64.wrap (m : Int) = (m : Int) := by rw [IntKind.wrap_i64]; have := HMM.out; omega
      have hwm3 : IntKind.i64.wrap ((m : Int) + 1 + 1) = (m : Int) + 1 + 1 := by rw [IntKind.wrap_i64]; have := HMM.out; omega
      have hmi0 : (0 : Int) ≤ m := by omega
      have hmi1 : (m : Int) < (m : Int) + 1 := by omega
      have hml : m < 1000 := by have := HMM.out; omega
      have hle : (m : Int) + 1 ≤ level := by have := HMM.out; have := HLEV.out; omega
      have hdec : decide ((m : Int) + 1 ≤ level) = true := by simpa using hle
      rw [hm, ← hJ] at hj
      rw [hm] at c3
      have HQ : Hid (q = E.getLast!) := hq
      have HJ0 : Hid (J.2.2 = 0) := hJ0
      clear hok1 hok0 hrow h hq hJ hJ0 hR0 hA1 hP1 hs1 HS
      go_upto_block 1 with fail
      go_cut [] from 16 to 35 (fun wc => RoundOut w hb b (n + (i + 1)) t F H (emptyN t s (i + 1)) wc)
      case first =>
        go_wp2_with fail
        go_region_law (first | (refine step_append_lies _ (by rfl) _ _ 31 (by rfl) 0 3 i0 (.int .i64 0) 1 8 Try.underlying31 hi hz0 hz1 hz2 rfl (by decide) (.slice (some ⟨g, 0, none⟩) (m + 1) cap) (m + 1) (E.map (Value.int .i64)) (by rfl) (World.ownsRow.alloc (OW.out w1 w2 hb1 P2).1 _) ⟨w2.heap.size, 0, none⟩ 1 1 [.int .i64 J.2.1] (by rfl) rfl (cell_one_new _ _ _) (by intro u hu; simp at hu; subst hu; rfl) (by omega) (by unfold maxLen; omega) (by omega) (by omega) (w2.heap.size + 1) (by simp) ?_; intro g5 cap5 w5 hown5 hgrow5 hat5 hlt5; have q45 := HEND.out w1 w2 hb1 h2 P2 w5 _ hgrow5; have q4 := q45.1; have q5 := q45.2) | (go_simp; go_wp2_with (first | (go_at_call 94; refine (hf4 _).mono ?_; rintro e w1 ⟨rfl, hb1⟩; have c31 : w1.cell? ⟨hb, 3, none⟩ = some (.slice (some ⟨g, 0, none⟩) (m + 1) cap) := (World.cell?_of_block (a := ⟨hb, 3, none⟩) (hb1.block hb h3lt)).trans c3) | (go_at_call 96; refine (hj _ hb1).mono ?_; rintro e w2 ⟨rfl, h2, hA2, P2⟩; have c32 := h2.c3; have hlw2 := h2.lt))))
        all_goals
          go_wp2_with fail
          go_meet
          case rel => exact HRE.out w1 w2 w5 g5 cap5 _ hb1 h2 hA2 P2 hown5 hgrow5 hat5 hlt5
      case rest =>
      clear c3 ce HRE HEND OW hj
      go_wp2_with fail
      go_roundg (gk - 1)
      case measure => have := HI.out; omega
      case rel => exact ⟨i + 1, by have := HI.out; omega, by rw [show m0 + 1 + (i + 1) = m + 1 + 1 by have := HMM.out; omega]; go_num, hcut⟩
    · have hik2 : i = k := by omega
      obtain ⟨v, h, hrow, hHb1, hHv, hvb, hHl1⟩ := hH1
      obtain ⟨g, cap, hv⟩ : ∃ g c, v = .slice (some ⟨g, 0, none⟩) E.length c := by
        rcases hrow.2 with ⟨_, h2⟩ | ⟨g, cap, cur, h1, _⟩
        · omega
        · exact ⟨_, _, h1⟩
      subst hv
      have c3 := h.c3
      rw [hm] at c3
      have hE : (emptyN t s k).2 = E := by rw [← hik2, ← HSI.out]
      have ce : wr.cell? ⟨g, m, none⟩ = some (.int .i64 (nth (emptyN t s k).2 (m0 + k))) := by
        have := World.ownsRow.cellAt hrow m (by omega)
        rw [this, hE, show m0 + k = m by have := HMM.out; omega]
        unfold nth
        rw [getElem!_pos E m (by omega)]
        simp [show m < E.length by omega]
      have hle : ¬ (m : Int) + 1 ≤ level := by have := HMM.out; have := HLEV.out; omega
      have hmk : level = (m : Int) := by have := HMM.out; have := HLEV.out; omega
      have hmi0 : (0 : Int) ≤ m := by omega
      have hmi1 : (m : Int) < (m : Int) + 1 := by omega
      have HR : Hid (RoundOut w hb b (n + k) t F H (emptyN t s k) wr) := by
        show RoundOut _ _ _ _ _ _ _ _ _
        rw [← hik2, ← HSI.out]; exact hR0
      clear hE hik2 HLEV
      subst hmk
      obtain ⟨res, hres⟩ : ∃ res, res = nth (emptyN t s k).2 (m0 + k) := ⟨_, rfl⟩
      rw [← hres] at ce
      have HRES : Hid (res = nth (emptyN t s k).2 (m0 + k)) := hres
      clear hres
      go_wp2_with fail
      go_ret
      exact ⟨ret_i HRES.out, HR.out⟩
end Go.Proofs.Ytkcngkcfcokboaa.A

namespace Go.Proofs.Ytkcngkcfcokboaa.A
open Go.RowKit Go.Maps

/-- an arena's things have only become more -/
def Ext (l l' : List Th) : Prop := ∀ (j : Nat) (x : Th), l[j]? = some x → ∃ x' : Th, l'[j]? = some x' ∧ x'.key = x.key ∧ x'.lv = x.lv ∧ x'.va = x.va ∧ ∀ u, x.mask.testBit u = true → x'.mask.testBit u = true
theorem Ext.refl (l : List Th) : Ext l l := fun _ x h => ⟨x, h, rfl, rfl, rfl, fun _ h => h⟩
theorem Ext.trans {l l' l'' : List Th} (h : Ext l l') (k : Ext l' l'') : Ext l l'' := fun j x hx => by
  obtain ⟨x', h1, h2, h3, h4, h5⟩ := h j x hx
  obtain ⟨x'', k1, k2, k3, k4, k5⟩ := k j x' h1
  exact ⟨x'', k1, k2.trans h2, k3.trans h3, k4.trans h4, fun u hu => k5 u (h5 u hu)⟩

theorem own_some {l : List Th} {t : Nat} {id : Int} {x : Th} (h : ownF l t id = some x) : 2 ≤ id ∧ l[(id - 2).toNat]? = some x ∧ x.mask.testBit t = true := by
  unfold ownF at h
  split at h
  · rename_i h2
    rw [Option.filter_eq_some_iff] at h
    exact ⟨h2, h.1, h.2⟩
  · cases h
theorem own_of {l : List Th} {t : Nat} {id : Int} {x : Th} (h2 : 2 ≤ id) (h : l[(id - 2).toNat]? = some x) (hm : x.mask.testBit t = true) : ownF l t id = some x := by
  unfold ownF
  rw [if_pos h2, Option.filter_eq_some_iff]
  exact ⟨h, hm⟩
theorem own_ext {l l' : List Th} {t : Nat} {id : Int} {x : Th} (h : ownF l t id = some x) (he : Ext l l') : ∃ x', ownF l' t id = some x' ∧ x'.key = x.key ∧ x'.lv = x.lv ∧ x'.va = x.va := by
  obtain ⟨h2, h3, h4⟩ := own_some h
  obtain ⟨x', e1, e2, e3, e4, e5⟩ := he _ _ h3
  exact ⟨x', own_of h2 e1 (e5 t h4), e2, e3, e4⟩
theorem level_some {l : List Th} {t : Nat} {id m : Int} (h : levelF l t id = some m) : (id = 0 ∨ id = 1) ∧ m = 0 ∨ ∃ x, ownF l t id = some x ∧ x.k = 1 ∧ x.lv = m := by
  unfold levelF at h
  split at h
  · rename_i h0
    exact Or.inl ⟨h0, by cases h; rfl⟩
  · cases ho : ownF l t id with
    | none => rw [ho] at h; cases h
    | some x =>
      rw [ho] at h
      simp only at h
      split at h
      · rename_i hk
        exact Or.inr ⟨x, rfl, hk, by cases h; rfl⟩
      · cases h
theorem level_of {l : List Th} {t : Nat} {id : Int} {x : Th} (h : ownF l t id = some x) (hk : x.k = 1) : levelF l t id = some x.lv := by
  obtain ⟨h2, _⟩ := own_some h
  unfold levelF
  rw [if_neg (by omega), h]
  simp only
  rw [if_pos hk]
theorem key_k {x y : Th} (h : x.key = y.key) : x.k = y.k := congrArg Ky.k h
theorem level_ext {l l' : List Th} {t : Nat} {id m : Int} (h : levelF l t id = some m) (he : Ext l l') : levelF l' t id = some m := by
  rcases level_some h with ⟨h0, rfl⟩ | ⟨x, h1, h2, h3⟩
  · unfold levelF; rw [if_pos h0]
  · obtain ⟨x', e1, e2, e3, _⟩ := own_ext h1 he
    rw [level_of e1 ((key_k e2).trans h2), e3, h3]
theorem level_fits {l : List Th} {t : Nat} {id m : Int} (h : levelF l t id = some m) (hl : l.length < 1000000) : 0 ≤ id ∧ id < 1000002 := by
  rcases level_some h with ⟨h0, _⟩ | ⟨x, h1, _⟩
  · omega
  · obtain ⟨h2, h3, _⟩ := own_some h1
    have := (List.getElem?_eq_some_iff.1 h3).1
    omega

/-- a square's level, whosever it is -/
def glevel (l : List Th) (id : Int) : Option Int := if id = 0 ∨ id = 1 then some 0 else if 2 ≤ id then (match l[(id - 2).toNat]? with | some x => if x.k = 1 then some x.lv else none | none => none) else none
theorem glevel_of {l : List Th} {t : Nat} {id m : Int} (h : levelF l t id = some m) : glevel l id = some m := by
  rcases level_some h with ⟨h0, rfl⟩ | ⟨x, h1, h2, h3⟩
  · unfold glevel; rw [if_pos h0]
  · obtain ⟨g2, g3, _⟩ := own_some h1
    unfold glevel
    rw [if_neg (by omega), if_pos g2, g3]
    simp only
    rw [if_pos h2, h3]
theorem glevel_ext {l l' : List Th} {id m : Int} (h : glevel l id = some m) (he : Ext l l') : glevel l' id = some m := by
  unfold glevel at *
  split at h
  · rename_i h0; rw [if_pos h0]; exact h
  · rename_i h0
    rw [if_neg h0]
    split at h
    · rename_i h2
      rw [if_pos h2]
      cases hx : l[(id - 2).toNat]? with
      | none => rw [hx] at h; cases h
      | some x =>
        rw [hx] at h
        obtain ⟨x', e1, e2, e3, _⟩ := he _ _ hx
        rw [e1]
        simp only at h ⊢
        rw [key_k e2, e3]
        exact h
    · cases h

/-- a square's level is one more than its quarters' -/
structure Good (l : List Th) : Prop where
  lv : ∀ x ∈ l, x.k = 1 → 1 ≤ x.lv ∧ x.lv ≤ 44 ∧ glevel l x.p0 = some (x.lv - 1) ∧ glevel l x.p1 = some (x.lv - 1) ∧ glevel l x.p2 = some (x.lv - 1) ∧ glevel l x.p3 = some (x.lv - 1)
theorem Good.nil : Good [] := ⟨fun _ h => by cases h⟩

/-- what one join makes more -/
structure Grew (t : Nat) (A A' : Ar) : Prop where
  ext : Ext A.ths A'.ths
  len : A'.ths.length ≤ A.ths.length + 1
  lim : A'.lim = A.lim
  room : A'.room = A.room
  free : A'.free = A.free
  cnt : ∀ u, A.cnt u ≤ A'.cnt u ∧ A'.cnt u ≤ A.cnt u + 1
  fresh : ∀ u, (A'.fresh u).length ≤ (A.fresh u).length + 1
  mask : t < 64 → (∀ x ∈ A.ths, x.mask < 18446744073709551616) → ∀ x ∈ A'.ths, x.mask < 18446744073709551616
  other : ∀ u, u ≠ t → ∀ x' ∈ A'.ths, x'.mask.testBit u = true → ∃ x ∈ A.ths, x.mask.testBit u = true
theorem Grew.refl (t : Nat) (A : Ar) : Grew t A A := ⟨Ext.refl _, by omega, rfl, rfl, rfl, fun _ => by omega, fun _ => by omega, fun _ h => h, fun _ _ x hx h => ⟨x, hx, h⟩⟩

theorem or_lt (m t : Nat) (hm : m < 18446744073709551616) (ht : t < 64) : m ||| bitN t < 18446744073709551616 := by
  have h1 := bitN_lt t ht
  have : m ||| bitN t < 2 ^ 64 := Nat.or_lt_two_pow (by simpa using hm) (by simpa using h1)
  simpa using this
theorem or_bit (m t u : Nat) : (m ||| bitN t).testBit u = (m.testBit u || decide (t = u)) := by
  unfold bitN
  rw [Nat.testBit_or, Nat.testBit_two_pow]

theorem give_grew (A : Ar) (t i : Nat) (x : Th) (hx : A.ths[i]? = some x) : Grew t A (A.give t i x) ∧ (A.give t i x).ths.length = A.ths.length := by
  have hi : i < A.ths.length := (List.getElem?_eq_some_iff.1 hx).1
  have hget : ∀ j, (A.ths.set i { x with mask := x.mask ||| bitN t })[j]? = if i = j then some { x with mask := x.mask ||| bitN t } else A.ths[j]? := fun j => by
    rw [List.getElem?_set]
    by_cases e : i = j
    · subst e; simp [hi]
    · simp [e]
  refine ⟨⟨fun j y hy => ?_, ?_, rfl, rfl, rfl, fun u => ?_, fun u => ?_, fun ht hm y hy => ?_, fun u hu y hy hb => ?_⟩, ?_⟩
  · show ∃ x', (A.ths.set i _)[j]? = _ ∧ _
    rw [hget]
    by_cases e : i = j
    · subst e
      rw [hx] at hy; cases hy
      rw [if_pos rfl]
      exact ⟨_, rfl, rfl, rfl, rfl, fun u hu => by show (x.mask ||| bitN t).testBit u = true; rw [or_bit, hu]; rfl⟩
    · rw [if_neg e]
      exact ⟨y, hy, rfl, rfl, rfl, fun _ h => h⟩
  · show (A.ths.set i _).length ≤ _
    rw [List.length_set]; omega
  · show A.cnt u ≤ upd A.cnt t (A.cnt t + 1) u ∧ upd A.cnt t (A.cnt t + 1) u ≤ _
    by_cases e : u = t
    · subst e; rw [upd_same]; omega
    · rw [upd_other _ _ e]; omega
  · show (upd A.fresh t (A.fresh t ++ [(i : Int) + 2]) u).length ≤ _
    by_cases e : u = t
    · subst e; rw [upd_same]; simp
    · rw [upd_other _ _ e]; omega
  · have hy' : y ∈ A.ths.set i { x with mask := x.mask ||| bitN t } := hy
    rcases List.mem_or_eq_of_mem_set hy' with h | h
    · exact hm y h
    · rw [h]; exact or_lt _ _ (hm x (List.mem_of_getElem? hx)) ht
  · have hy' : y ∈ A.ths.set i { x with mask := x.mask ||| bitN t } := hy
    rcases List.mem_or_eq_of_mem_set hy' with h | h
    · exact ⟨y, h, hb⟩
    · rw [h] at hb
      refine ⟨x, List.mem_of_getElem? hx, ?_⟩
      have : (x.mask ||| bitN t).testBit u = true := hb
      rw [or_bit] at this
      have hne : ¬ t = u := fun e => hu e.symm
      simpa [hne] using this
  · show (A.ths.set i _).length = _
    rw [List.length_set]

theorem push_grew (A : Ar) (t : Nat) (x : Th) (hx : x.mask = 0) : Grew t A (({ A with ths := A.ths ++ [x] } : Ar).give t A.ths.length x) := by
  have h1 : (A.ths ++ [x])[A.ths.length]? = some x := by simp
  obtain ⟨g, gl⟩ := give_grew ({ A with ths := A.ths ++ [x] } : Ar) t A.ths.length x h1
  refine ⟨Ext.trans (fun j y hy => ?_) g.ext, ?_, g.lim, g.room, g.free, g.cnt, g.fresh, fun ht hm => g.mask ht fun y hy => ?_, fun u hu y hy hb => ?_⟩
  · refine ⟨y, ?_, rfl, rfl, rfl, fun _ h => h⟩
    show (A.ths ++ [x])[j]? = some y
    rw [List.getElem?_append_left (List.getElem?_eq_some_iff.1 hy).1]
    exact hy
  · rw [gl]; simp
  · have hy' : y ∈ A.ths ++ [x] := hy
    rw [List.mem_append] at hy'
    rcases hy' with h | h
    · exact hm y h
    · simp at h; rw [h, hx]; omega
  · obtain ⟨z, hz, hzb⟩ := g.other u hu y hy hb
    have hz' : z ∈ A.ths ++ [x] := hz
    rw [List.mem_append] at hz'
    rcases hz' with h | h
    · exact ⟨z, h, hzb⟩
    · simp at h; rw [h, hx] at hzb; simp at hzb

theorem become_grew (A : Ar) (t : Nat) (x : Th) (hx : x.mask = 0) : Grew t A (A.become t x).1 := by
  unfold Ar.become
  cases hs : spotF A.ths x.key with
  | none =>
    simp only
    split
    · exact Grew.refl t A
    · exact push_grew A t x hx
  | some i =>
    obtain ⟨hi, _⟩ := spot_lt hs
    simp only
    split
    · exact Grew.refl t A
    · split
      · exact Grew.refl t A
      · exact (give_grew A t i _ (by rw [getElem!_pos A.ths i hi]; exact List.getElem?_eq_getElem hi)).1
theorem join_grew (A : Ar) (t : Nat) (q0 q1 q2 q3 : Int) : Grew t A (A.join t q0 q1 q2 q3).1 := by
  unfold Ar.join
  split
  · exact Grew.refl t A
  · exact become_grew A t _ rfl
end Go.Proofs.Ytkcngkcfcokboaa.A

namespace Go.Proofs.Ytkcngkcfcokboaa.A
open Go.RowKit Go.Maps

/-- room for k joins more -/
structure Bud (A : Ar) (k : Nat) : Prop where
  free : A.free = []
  mask : ∀ z ∈ A.ths, z.mask < 18446744073709551616
  few : A.ths.length + k < 1000000
  room : (A.ths.length : Int) + k < A.room
  cnt : ∀ t, t < 64 → 0 ≤ A.cnt t ∧ A.cnt t + k < 4611686018427387904
  fresh : ∀ t, t < 64 → (A.fresh t).length + k < 10000000
theorem Bud.young {A : Ar} {k : Nat} (h : Bud A k) : Young A := ⟨h.free, h.mask, by have := h.few; omega, by have := h.room; omega, fun t ht => by have := h.cnt t ht; omega, fun t ht => by have := h.fresh t ht; omega⟩
theorem Bud.step {t : Nat} {A A' : Ar} {k : Nat} (h : Bud A (k + 1)) (g : Grew t A A') (ht : t < 64) : Bud A' k := by
  have h1 := g.len
  have h2 := h.few
  have h3 := h.room
  refine ⟨g.free.trans h.free, g.mask ht h.mask, by omega, by rw [g.room]; omega, fun u hu => ?_, fun u hu => ?_⟩
  · have := h.cnt u hu; have := g.cnt u; omega
  · have := h.fresh u hu; have := g.fresh u; omega
theorem Bud.less {A : Ar} {k k' : Nat} (h : Bud A k) (hk : k' ≤ k) : Bud A k' :=
  ⟨h.free, h.mask, by have := h.few; omega, by have := h.room; omega, fun t ht => by have := h.cnt t ht; omega, fun t ht => by have := h.fresh t ht; omega⟩

theorem Good.ext {l l' : List Th} (h : Good l) (he : Ext l l') (hb : ∀ x' ∈ l', (∃ x ∈ l, x'.key = x.key ∧ x'.lv = x.lv) ∨ (1 ≤ x'.lv ∧ x'.lv ≤ 44 ∧ glevel l x'.p0 = some (x'.lv - 1) ∧ glevel l x'.p1 = some (x'.lv - 1) ∧ glevel l x'.p2 = some (x'.lv - 1) ∧ glevel l x'.p3 = some (x'.lv - 1))) : Good l' := by
  refine ⟨fun x' hx' hk => ?_⟩
  have key : 1 ≤ x'.lv ∧ x'.lv ≤ 44 ∧ glevel l x'.p0 = some (x'.lv - 1) ∧ glevel l x'.p1 = some (x'.lv - 1) ∧ glevel l x'.p2 = some (x'.lv - 1) ∧ glevel l x'.p3 = some (x'.lv - 1) := by
    rcases hb x' hx' with ⟨x, hx, e1, e2⟩ | h1
    · have k0 : x'.p0 = x.p0 := congrArg Ky.p0 e1
      have k1 : x'.p1 = x.p1 := congrArg Ky.p1 e1
      have k2 : x'.p2 = x.p2 := congrArg Ky.p2 e1
      have k3 : x'.p3 = x.p3 := congrArg Ky.p3 e1
      have := h.lv x hx ((key_k e1).symm.trans hk)
      rw [k0, k1, k2, k3, e2]
      exact this
    · exact h1
  obtain ⟨a, b, c, d, e, f⟩ := key
  exact ⟨a, b, glevel_ext c he, glevel_ext d he, glevel_ext e he, glevel_ext f he⟩

/-- what a join that is made makes -/
structure Made (t : Nat) (A : Ar) (q0 q1 q2 q3 m : Int) (R : Ar × Int × Int) : Prop where
  ok : R.2.2 = 0
  grew : Grew t A R.1
  good : Good R.1.ths
  own : ∃ y, ownF R.1.ths t R.2.1 = some y ∧ y.key = ⟨1, q0, q1, q2, q3⟩ ∧ y.lv = m + 1

theorem give_own (A : Ar) (t i : Nat) (x : Th) (hx : A.ths[i]? = some x) : ownF (A.give t i x).ths t ((i : Int) + 2) = some { x with mask := x.mask ||| bitN t } := by
  have hi : i < A.ths.length := (List.getElem?_eq_some_iff.1 hx).1
  refine own_of (by omega) ?_ ?_
  · show (A.ths.set i _)[((i : Int) + 2 - 2).toNat]? = _
    rw [show ((i : Int) + 2 - 2).toNat = i by omega, List.getElem?_set]
    simp [hi]
  · show (x.mask ||| bitN t).testBit t = true
    rw [or_bit]; simp
theorem give_from (A : Ar) (t i : Nat) (x : Th) (hx : A.ths[i]? = some x) : ∀ x' ∈ (A.give t i x).ths, ∃ z ∈ A.ths, x'.key = z.key ∧ x'.lv = z.lv := by
  intro x' h
  have h' : x' ∈ A.ths.set i { x with mask := x.mask ||| bitN t } := h
  rcases List.mem_or_eq_of_mem_set h' with h1 | h1
  · exact ⟨x', h1, rfl, rfl⟩
  · exact ⟨x, List.mem_of_getElem? hx, by rw [h1]; rfl, by rw [h1]⟩

theorem join_made (A : Ar) (t : Nat) (q0 q1 q2 q3 m : Int) (hG : Good A.ths) (h0 : levelF A.ths t q0 = some m) (h1 : levelF A.ths t q1 = some m) (h2 : levelF A.ths t q2 = some m) (h3 : levelF A.ths t q3 = some m) (hm0 : 0 ≤ m) (hm : m < 44) (hq : A.cnt t < A.lim t) : Made t A q0 q1 q2 q3 m (A.join t q0 q1 q2 q3) := by
  have hJ : joinE A t q0 q1 q2 q3 = (0, m) := by
    unfold joinE
    rw [h0, h1, h2, h3, joinL4, if_pos ⟨hm, rfl, rfl, rfl⟩]
  have hg := join_grew A t q0 q1 q2 q3
  have e : A.join t q0 q1 q2 q3 = A.become t (sqTh q0 q1 q2 q3 m) := by
    unfold Ar.join
    rw [hJ]
    simp
  rw [e] at hg ⊢
  have hkey : (sqTh q0 q1 q2 q3 m).key = ⟨1, q0, q1, q2, q3⟩ := rfl
  cases hs : spotF A.ths (sqTh q0 q1 q2 q3 m).key with
  | none =>
    have eb : A.become t (sqTh q0 q1 q2 q3 m) = (({ A with ths := A.ths ++ [sqTh q0 q1 q2 q3 m] } : Ar).give t A.ths.length (sqTh q0 q1 q2 q3 m), (A.ths.length : Int) + 2, 0) := by
      unfold Ar.become
      rw [hs]
      simp only
      rw [if_neg (by omega)]
    rw [eb] at hg ⊢
    have hx : ({ A with ths := A.ths ++ [sqTh q0 q1 q2 q3 m] } : Ar).ths[A.ths.length]? = some (sqTh q0 q1 q2 q3 m) := by simp
    refine ⟨rfl, hg, hG.ext hg.ext fun x' hx' => ?_, ⟨_, give_own _ t A.ths.length _ hx, rfl, rfl⟩⟩
    obtain ⟨z, hz, z1, z2⟩ := give_from _ t A.ths.length _ hx x' hx'
    have hz' : z ∈ A.ths ++ [sqTh q0 q1 q2 q3 m] := hz
    rw [List.mem_append] at hz'
    rcases hz' with h | h
    · exact Or.inl ⟨z, h, z1, z2⟩
    · simp at h
      subst h
      have k0 : x'.p0 = q0 := congrArg Ky.p0 z1
      have k1 : x'.p1 = q1 := congrArg Ky.p1 z1
      have k2 : x'.p2 = q2 := congrArg Ky.p2 z1
      have k3 : x'.p3 = q3 := congrArg Ky.p3 z1
      have kl : x'.lv = m + 1 := z2
      refine Or.inr ⟨by omega, by omega, ?_, ?_, ?_, ?_⟩
      · rw [k0, kl, glevel_of h0]; congr 1; omega
      · rw [k1, kl, glevel_of h1]; congr 1; omega
      · rw [k2, kl, glevel_of h2]; congr 1; omega
      · rw [k3, kl, glevel_of h3]; congr 1; omega
  | some i =>
    obtain ⟨hi, hik⟩ := spot_lt hs
    have hy : A.ths[i]? = some A.ths[i]! := by rw [getElem!_pos A.ths i hi]; exact List.getElem?_eq_getElem hi
    have hmem : A.ths[i]! ∈ A.ths := List.mem_of_getElem? hy
    rw [hkey] at hik
    have hl : (A.ths[i]!).lv = m + 1 := by
      have k1 : (A.ths[i]!).k = 1 := congrArg Ky.k hik
      have k0 : (A.ths[i]!).p0 = q0 := congrArg Ky.p0 hik
      obtain ⟨_, _, g0, _⟩ := hG.lv _ hmem k1
      rw [k0, glevel_of h0] at g0
      have := Option.some.inj g0
      omega
    cases ho : (A.ths[i]!).mask.testBit t with
    | true =>
      have eb : A.become t (sqTh q0 q1 q2 q3 m) = (A, (i : Int) + 2, 0) := by
        unfold Ar.become
        rw [hs]
        simp only [ho, if_true]
      rw [eb] at hg ⊢
      exact ⟨rfl, hg, hG, ⟨A.ths[i]!, own_of (by show (2 : Int) ≤ (i : Int) + 2; omega) (by show A.ths[((i : Int) + 2 - 2).toNat]? = _; rw [show ((i : Int) + 2 - 2).toNat = i by omega]; exact hy) ho, hik, hl⟩⟩
    | false =>
      have eb : A.become t (sqTh q0 q1 q2 q3 m) = (A.give t i A.ths[i]!, (i : Int) + 2, 0) := by
        unfold Ar.become
        rw [hs]
        simp only [ho, Bool.false_eq_true, if_false]
        rw [if_neg (by omega)]
      rw [eb] at hg ⊢
      exact ⟨rfl, hg, hG.ext hg.ext fun x' hx' => Or.inl (give_from A t i _ hy x' hx'), ⟨_, give_own A t i _ hy, hik, hl⟩⟩

/-- the first empty squares of a tenant -/
structure Emp (l : List Th) (t : Nat) (E : List Int) : Prop where
  zero : E[0]? = some 0
  lv : ∀ (i : Nat) (e : Int), E[i]? = some e → levelF l t e = some (i : Int)
  parts : ∀ (i : Nat) (e e' : Int), E[i]? = some e → E[i + 1]? = some e' → ∃ y, ownF l t e' = some y ∧ y.key = ⟨1, e, e, e, e⟩
theorem Emp.first (l : List Th) (t : Nat) : Emp l t [0] := by
  refine ⟨rfl, fun i e h => ?_, fun i e e' h h' => by simp at h'⟩
  cases i with
  | zero => simp at h; subst h; rfl
  | succ i => simp at h
theorem Emp.last {l : List Th} {t : Nat} {E : List Int} (h : Emp l t E) : ∃ m, E.length = m + 1 ∧ E[m]? = some E.getLast! := by
  have h0 : 0 < E.length := (List.getElem?_eq_some_iff.1 h.zero).1
  refine ⟨E.length - 1, by omega, ?_⟩
  rw [List.getLast!_eq_getLast?_getD, List.getLast?_eq_getElem?, List.getElem?_eq_getElem (show E.length - 1 < E.length by omega)]
  rfl
/-- one empty square more -/
theorem emp_step {A : Ar} {t : Nat} {E : List Int} (h : Emp A.ths t E) (hG : Good A.ths) (hl : E.length ≤ 44) (hq : A.cnt t < A.lim t) :
    ∃ m, E.length = m + 1 ∧ Made t A E.getLast! E.getLast! E.getLast! E.getLast! m (A.join t E.getLast! E.getLast! E.getLast! E.getLast!) ∧ Emp (emptyS t (A, E)).1.ths t (emptyS t (A, E)).2 := by
  obtain ⟨m, hm, hlast⟩ := h.last
  have hlv := h.lv m _ hlast
  have hM := join_made A t _ _ _ _ m hG hlv hlv hlv hlv (by omega) (by omega) hq
  refine ⟨m, hm, hM, ?_⟩
  obtain ⟨y, hy, hyk, hyl⟩ := hM.own
  have hk1 : y.k = 1 := congrArg Ky.k hyk
  have hE : ∀ (i : Nat) (e : Int), (E ++ [(A.join t E.getLast! E.getLast! E.getLast! E.getLast!).2.1])[i]? = some e → E[i]? = some e ∨ (i = m + 1 ∧ e = (A.join t E.getLast! E.getLast! E.getLast! E.getLast!).2.1) := fun i e he => by
    rw [List.getElem?_append] at he
    split at he
    · exact Or.inl he
    · rename_i hn
      have : i - E.length = 0 := by
        rcases Nat.eq_zero_or_pos (i - E.length) with h1 | h1
        · exact h1
        · rw [List.getElem?_eq_none (by simp; omega)] at he; cases he
      rw [this] at he
      exact Or.inr ⟨by omega, (Option.some.inj he).symm⟩
  refine ⟨?_, fun i e he => ?_, fun i e e' he he' => ?_⟩
  · show (E ++ [_])[0]? = some 0
    rw [List.getElem?_append_left (by omega)]
    exact h.zero
  · rcases hE i e he with h1 | ⟨rfl, rfl⟩
    · exact level_ext (h.lv i e h1) hM.grew.ext
    · have := level_of hy hk1
      rw [hyl] at this
      exact this
  · rcases hE (i + 1) e' he' with h1 | ⟨h2, rfl⟩
    · have h3 : E[i]? = some e := by
        rcases hE i e he with h4 | ⟨h5, _⟩
        · exact h4
        · have := (List.getElem?_eq_some_iff.1 h1).1; omega
      obtain ⟨z, z1, z2⟩ := h.parts i e e' h3 h1
      obtain ⟨z', w1, w2, _⟩ := own_ext z1 hM.grew.ext
      exact ⟨z', w1, w2.trans z2⟩
    · have him : i = m := by omega
      subst him
      have h3 : e = E.getLast! := by
        rcases hE i e he with h4 | ⟨h5, _⟩
        · rw [hlast] at h4; cases h4; rfl
        · omega
      subst h3
      exact ⟨y, hy, hyk⟩
end Go.Proofs.Ytkcngkcfcokboaa.A
