/- A hand's steps, one behind the other. -/
import Derived.Test.YtplnnlfmehfaiaaSqFrom
import Derived.Test.YtplnnlfmehfaiaaSqRead
namespace Go.Proofs.Ytplnnlfmehfaiaa.A
open Go.RowKit Go.Maps

/-- an arena and a hand in memory -/
structure HS (w : World) (hb b t nn : Nat) (F H : Nat → Prop) (A : Ar) (E : List Int) : Prop where
  ar : ArAt w b F nn A
  hand : HandIn w hb b t 0 E H
  dis : ∀ k, F k → ¬ H k
/-- what a step leaves as it was -/
structure Step (w : World) (F H : Nat → Prop) (w' : World) (F' H' : Nat → Prop) : Prop where
  sub : ∀ k, F' k ∨ H' k → (F k ∨ H k) ∨ w.heap.size ≤ k
  ap : Apart (fun k => F k ∨ H k) w w'
section
variable {w w1 w2 : World} {hb b t nn : Nat} {F H F1 H1 F2 H2 : Nat → Prop} {A : Ar} {E : List Int}
theorem HS.lt (h : HS w hb b t nn F H A E) {k : Nat} (hk : F k ∨ H k) : k < w.heap.size := by
  rcases hk with hk | hk
  · exact h.ar.flt k hk
  · exact h.hand.hlt k hk
theorem HS.other (h : HS w hb b t nn F H A E) (hs : w.heap.size ≤ w1.heap.size) (hb' : ∀ k, F k ∨ H k → w1.heap[k]? = w.heap[k]?) : HS w1 hb b t nn F H A E :=
  ⟨h.ar.other hs fun k hk => hb' k (Or.inl hk), h.hand.other hs fun k hk => hb' k (Or.inr hk), h.dis⟩
theorem HS.below (h : HS w hb b t nn F H A E) (hb' : Below w.heap.size w w1) : HS w1 hb b t nn F H A E := h.other hb'.size fun k hk => hb'.block k (h.lt hk)
theorem Step.refl (w : World) (F H : Nat → Prop) : Step w F H w F H := ⟨fun _ hk => Or.inl hk, Apart.refl _ _⟩
theorem Step.of (hb' : Below w.heap.size w w1) : Step w F H w1 F H := ⟨fun _ hk => Or.inl hk, Apart.of hb'⟩
theorem Step.trans (h : Step w F H w1 F1 H1) (k : Step w1 F1 H1 w2 F2 H2) (hl : ∀ k, F1 k ∨ H1 k → k < w1.heap.size) : Step w F H w2 F2 H2 := by
  have hs := h.ap.size
  refine ⟨fun j hj => ?_, h.ap.trans k.ap fun j hj => ?_⟩
  · rcases k.sub j hj with e | e
    · exact h.sub j e
    · exact Or.inr (by omega)
  · rcases h.sub j hj with e | e
    · exact Or.inl e
    · exact Or.inr ⟨e, hl j hj⟩
/-- a block that belongs to neither stays -/
theorem Step.free (h : Step w F H w1 F1 H1) {j : Nat} (hj : j < w.heap.size) (h1 : ¬ F j) (h2 : ¬ H j) : w1.heap[j]? = w.heap[j]? ∧ ¬ F1 j ∧ ¬ H1 j ∧ j < w1.heap.size := by
  refine ⟨h.ap.block j hj (by rintro (e | e); exact h1 e; exact h2 e), fun e => ?_, fun e => ?_, Nat.lt_of_lt_of_le hj h.ap.size⟩
  · rcases h.sub j (Or.inl e) with (e | e) | e
    · exact h1 e
    · exact h2 e
    · omega
  · rcases h.sub j (Or.inr e) with (e | e) | e
    · exact h1 e
    · exact h2 e
    · omega
/-- a join of the hand's -/
theorem HS.joined {v : Value} {B : Ar} (h : HS w hb b t nn F H A E) (hrow : IntRow w v E) (hHb : H hb) (hHv : ∀ k, v.ownBlock = some k → H k) (hvb : v.ownBlock ≠ some hb)
    (h2 : HandAt w1 hb b t 0 v) (hA2 : ArAt w1 b (More F w w1) (nn + 1) B) (P2 : Apart (With F hb) w w1) : HS w1 hb b t (nn + 1) (More F w w1) H B E ∧ Step w F H w1 (More F w w1) H := by
  refine ⟨⟨hA2, ⟨v, h2, row_other hrow fun k hk => P2.block k (h.lt (Or.inr (hHv k hk))) ?_, hHb, hHv, hvb, fun k hk => Nat.lt_of_lt_of_le (h.lt (Or.inr hk)) P2.size⟩, fun k hk hk2 => ?_⟩, ⟨fun k hk => ?_, ?_⟩⟩
  · rintro (e | e)
    · exact h.dis k e (hHv k hk)
    · exact hvb (by rw [hk, e])
  · rcases hk with hk | hk
    · exact h.dis k hk hk2
    · have := h.lt (Or.inr hk2); omega
  · rcases hk with (hk | hk) | hk
    · exact Or.inl (Or.inl hk)
    · exact Or.inr hk.1
    · exact Or.inl (Or.inr hk)
  · refine ⟨P2.os, P2.tape, P2.output, P2.size, fun k hk hn => P2.block k hk ?_⟩
    rintro (e | e)
    · exact hn (Or.inl e)
    · exact hn (Or.inr (by rw [e]; exact hHb))
end

/-- hand.join of four squares of a level -/
theorem hjoin_step (hb b nn t k m : Nat) (q0 q1 q2 q3 : Int) (F H : Nat → Prop) (A : Ar) (E : List Int) (w : World) (hS : HS w hb b t nn F H A E) (hP : PS t A E (k + 1) nn) (ht : t < 64) (h0 : levelF A.ths t q0 = some (m : Int)) (h1 : levelF A.ths t q1 = some (m : Int)) (h2 : levelF A.ths t q2 = some (m : Int)) (h3 : levelF A.ths t q3 = some (m : Int)) (hm : m < 44) :
    Calls Try.prog 96 #[.pointer (some ⟨hb, 0, none⟩), .agg #[.int .i64 q0, .int .i64 q1, .int .i64 q2, .int .i64 q3]] w fun x w' => ∃ (id : Int) (B : Ar) (F' : Nat → Prop) (N : List Int), x = .returned (.int .i64 id) ∧ HS w' hb b t (nn + 1) F' H B E ∧ Step w F H w' F' H ∧ PS t B E k (nn + 1) ∧ Joins t A q0 q1 q2 q3 m B id N := by
  obtain ⟨v, hand, hrow, hHb, hHv, hvb, _⟩ := id hS.hand
  have hY := hP.pur.bud.young
  have hnn := hP.pur.nn
  have fit : ∀ {id : Int}, levelF A.ths t id = some (m : Int) → Fits id := fun h => by
    have := level_fits h hY.few
    exact ⟨by omega, by omega⟩
  obtain ⟨N, hJ, hz, hPu⟩ := joins_any A t k nn q0 q1 q2 q3 m hP.inv ht hP.pur h0 h1 h2 h3 hm
  have HJ := hjoin_any hb b nn t q0 q1 q2 q3 v F A w hand hS.ar (fun e => hS.dis hb e hHb) hY ht (fit h0) (fit h1) (fit h2) (fit h3) (by omega) (fun l hl => by rw [h0] at hl; cases hl; omega)
  unfold quad4 at HJ
  rw [hz] at HJ
  refine HJ.mono ?_
  rintro e w9 ⟨rfl, hand9, hA9, P9⟩
  obtain ⟨j1, j2⟩ := hS.joined hrow hHb hHv hvb hand9 hA9 P9
  exact ⟨_, _, _, N, rfl, j1, j2, ⟨hJ.inv, emp_ext hP.emp hJ.gain.ext, hP.len, hPu⟩, hJ⟩

/-- hand.empty -/
theorem hempty_step (hb b nn t c n : Nat) (F H : Nat → Prop) (A : Ar) (E : List Int) (w : World) (level : Int) (hlev : level = (n : Int)) (hn : n ≤ 44) (hS : HS w hb b t nn F H A E) (hP : PS t A E (c + (45 - E.length)) nn) (ht : t < 64) :
    Calls Try.prog 95 #[.pointer (some ⟨hb, 0, none⟩), .int .i64 level] w fun x w' => ∃ (id : Int) (B : Ar) (E' : List Int) (F' H' : Nat → Prop) (nn' : Nat) (N : List Int), x = .returned (.int .i64 id) ∧ HS w' hb b t nn' F' H' B E' ∧ Step w F H w' F' H' ∧ PS t B E' (c + (45 - E'.length)) nn' ∧ Gain t A B N ∧ levelF B.ths t id = some (n : Int) ∧ cellsF B.ths n id = [] ∧ (∀ j ∈ N, Sub B.ths id j) := by
  have hpos := hP.pos
  rcases Nat.lt_or_ge n E.length with hlt | hge
  · have hi : E[n]? = some E[n] := List.getElem?_eq_getElem hlt
    refine (empty_there hb b t n E H _ w hS.hand hi level hlev).mono ?_
    rintro e w' ⟨rfl, rfl⟩
    exact ⟨_, A, E, F, H, nn, [], rfl, hS, Step.refl _ _ _, hP, Gain.refl t A, hP.emp.lv n _ hi, emp_cells hP.emp n _ hi, fun _ hj => (by cases hj)⟩
  · obtain ⟨m0, hm0⟩ : ∃ m0, E.length = m0 + 1 := ⟨E.length - 1, by omega⟩
    obtain ⟨k, hk⟩ : ∃ k, n = m0 + k := ⟨n - m0, by omega⟩
    have hnn := hP.pur.nn
    obtain ⟨s1, s2, ⟨N, g, gN⟩, s4⟩ := ps_empties (k := c + (45 - (E.length + k))) ht k (hP.less (by omega)) (by omega)
    have hl := emptyN_length t (A, E) k
    simp only at hl
    refine (empty_any hb b nn t m0 k F H (A, E) w hS.ar hS.hand hS.dis s1 ht (by omega) hm0 (by omega) level (by rw [hlev, hk])).mono ?_
    rintro e w' ⟨rfl, F', H', hA', hH', hd', hs', hP'⟩
    have hid : (emptyN t (A, E) k).2[n]? = some (nth (emptyN t (A, E) k).2 (m0 + k)) := by
      unfold nth
      rw [hk, getElem!_pos _ (m0 + k) (by rw [hl]; omega)]
      exact List.getElem?_eq_getElem _
    refine ⟨_, (emptyN t (A, E) k).1, (emptyN t (A, E) k).2, F', H', nn + k, N, rfl, ⟨hA', hH', hd'⟩, ⟨hs', hP'⟩, ?_, g, s2.emp.lv n _ hid, emp_cells s2.emp n _ hid, fun j hj => ?_⟩
    · rw [hl]; exact s2
    · obtain ⟨i, hi, he⟩ := gN j hj
      exact emp_sub s2.emp he (n - i) _ (by rw [show i + (n - i) = n by omega]; exact hid)

theorem HS.grown {w w1 : World} {hb b t nn : Nat} {F H : Nat → Prop} {A : Ar} {E : List Int} {v : Value} (h : HS w hb b t nn F H A E) (hrow : IntRow w v E) (hHb : H hb) (hHv : ∀ k, v.ownBlock = some k → H k) (hvb : v.ownBlock ≠ some hb) (h2 : HandAt w1 hb b t 0 v) (hg : w.grownBy w1 (some hb)) : HS w1 hb b t nn F H A E ∧ Step w F H w1 F H := by
  refine ⟨⟨h.ar.other hg.size fun k hk => hg.block k (h.lt (Or.inl hk)) (fun e => h.dis k hk (by cases e; exact hHb)), ⟨v, h2, row_other hrow fun k hk => hg.block k (h.lt (Or.inr (hHv k hk))) (fun e => hvb (by cases e; exact hk)), hHb, hHv, hvb, fun k hk => Nat.lt_of_lt_of_le (h.lt (Or.inr hk)) hg.size⟩, h.dis⟩, ⟨fun k hk => Or.inl hk, ⟨hg.os, hg.tape, hg.output, hg.size, fun k hk hn => hg.block k hk (fun e => hn (Or.inr (by cases e; exact hHb)))⟩⟩⟩
/-- hand.kids of an own square -/
theorem hkids_step (hb b nn t : Nat) (id : Int) (x : Th) (F H : Nat → Prop) (A : Ar) (E : List Int) (w : World) (hS : HS w hb b t nn F H A E) (ht : t < 64) (hm : ∀ x ∈ A.ths, x.mask < 18446744073709551616) (hr : Fits id) (hx : squareF A.ths t id = some x) :
    Calls Try.prog 93 #[.pointer (some ⟨hb, 0, none⟩), .int .i64 id] w fun e w' => e = .returned (.agg #[.int .i64 x.p0, .int .i64 x.p1, .int .i64 x.p2, .int .i64 x.p3]) ∧ HS w' hb b t nn F H A E ∧ Step w F H w' F H := by
  have hh := hS.hand
  obtain ⟨v, hand, hrow, hHb, hHv, hvb, _⟩ := hh
  refine (handKids_any hb b nn t id x v F A w hand hS.ar ht hm hr hx).mono ?_
  rintro e w1 ⟨rfl, h2, hg, _⟩
  obtain ⟨a, b⟩ := hS.grown hrow hHb hHv hvb h2 hg
  exact ⟨rfl, a, b⟩
/-- hand.level of a root whose level is within -/
theorem hlevel_step (hb b nn t : Nat) (root least most l : Int) (F H : Nat → Prop) (A : Ar) (E : List Int) (w : World) (hS : HS w hb b t nn F H A E) (ht : t < 64) (hm : ∀ x ∈ A.ths, x.mask < 18446744073709551616) (hr : Fits root) (hl : levelF A.ths t root = some l) (hlo : least ≤ l) (hhi : l ≤ most) :
    Calls Try.prog 86 #[.pointer (some ⟨hb, 0, none⟩), .int .i64 root, .int .i64 least, .int .i64 most] w fun x w' => x = .returned (.int .i64 l) ∧ HS w' hb b t nn F H A E ∧ Step w F H w' F H := by
  obtain ⟨v, hand, hrow, hHb, hHv, hvb, _⟩ := id hS.hand
  refine (handLevel_ok hb b nn t root least most l v F A w hand hS.ar (fun e => hS.dis hb e hHb) ht hm hr hl hlo hhi).mono ?_
  rintro e w1 ⟨rfl, h2, hg, _⟩
  obtain ⟨a, b⟩ := hS.grown hrow hHb hHv hvb h2 hg
  exact ⟨rfl, a, b⟩
/-- a new hand in its block -/
theorem HS.born {w w1 : World} {b nn t : Nat} {F : Nat → Prop} {A : Ar} (hA : ArAt w b F nn A) (hE : w1.heap[w.heap.size + 1]? = some (.cells #[.int .i64 0] 3 (0, 0))) (hb1 : Below w.heap.size w w1) :
    HS (w1.alloc (.cells #[.pointer (some ⟨b, 0, none⟩), .int .i64 t, .int .i64 0, .slice (some ⟨w.heap.size + 1, 0, none⟩) 1 1] 131)) w1.heap.size b t nn F (fun k => k = w1.heap.size ∨ k = w.heap.size + 1) A [0] ∧ Below w.heap.size w (w1.alloc (.cells #[.pointer (some ⟨b, 0, none⟩), .int .i64 t, .int .i64 0, .slice (some ⟨w.heap.size + 1, 0, none⟩) 1 1] 131)) := by
  have l2 : w.heap.size + 1 < w1.heap.size := (Array.getElem?_eq_some_iff.1 hE).1
  have b2 : Below w.heap.size w (w1.alloc (.cells #[.pointer (some ⟨b, 0, none⟩), .int .i64 t, .int .i64 0, .slice (some ⟨w.heap.size + 1, 0, none⟩) 1 1] 131)) := hb1.alloc hb1.size _
  have hX := heap_alloc_new w1 (.cells #[.pointer (some ⟨b, 0, none⟩), .int .i64 t, .int .i64 0, .slice (some ⟨w.heap.size + 1, 0, none⟩) 1 1] 131)
  have hflt := hA.flt
  refine ⟨⟨hA.below b2, ⟨_, HandAt.of (l := []) hX, ⟨rfl, Or.inr ⟨w.heap.size + 1, 1, #[.int .i64 0], rfl, Nat.zero_le _, (push_old l2).trans hE, Nat.le_refl _, by unfold maxLen; omega, rfl, rfl⟩⟩, Or.inl rfl, fun k hk => ?_, fun e => ?_, fun k hk => ?_⟩, fun k hk e => ?_⟩, b2⟩
  · simp only [Value.ownBlock, Option.some.injEq] at hk
    exact Or.inr hk.symm
  · simp only [Value.ownBlock, Option.some.injEq] at e
    omega
  · have hs : (w1.alloc (.cells #[.pointer (some ⟨b, 0, none⟩), .int .i64 t, .int .i64 0, .slice (some ⟨w.heap.size + 1, 0, none⟩) 1 1] 131)).heap.size = w1.heap.size + 1 := by simp
    rcases hk with h | h <;> omega
  · have := hflt k hk
    rcases e with e | e <;> omega
end Go.Proofs.Ytplnnlfmehfaiaa.A
