/- The closure that builds a square of cells. -/
import Derived.Test.YthobobgiendcfaaSqFour
namespace Go.Proofs.Ythobobgiendcfaa.A
open Go.RowKit Go.Maps

/-- hand.empty where the square is known already -/
theorem empty_there (hb b t m : Nat) (E : List Int) (H : Nat → Prop) (e0 : Int) (w : World) (h : HandIn w hb b t 0 E H) (hi : E[m]? = some e0) (level : Int) (hlev : level = (m : Int)) :
    Calls Try.prog 95 #[.pointer (some ⟨hb, 0, none⟩), .int .i64 level] w fun e w' => e = .returned (.int .i64 e0) ∧ w' = w := by
  obtain ⟨v, h1, hrow, _⟩ := h
  have hlt := (List.getElem?_eq_some_iff.1 hi).1
  obtain ⟨g, cap, hv⟩ : ∃ g c, v = .slice (some ⟨g, 0, none⟩) E.length c := by
    rcases hrow.2 with ⟨_, h2⟩ | ⟨g, cap, cur, h1, _⟩
    · omega
    · exact ⟨_, _, h1⟩
  subst hv
  have c3 := h1.c3
  have ce : w.cell? ⟨g, m, none⟩ = some (.int .i64 e0) := by
    rw [World.ownsRow.cellAt hrow m (by omega), List.getElem?_map, hi]
    rfl
  have hn : ¬ (E.length : Int) ≤ level := by omega
  have hd : decide ((E.length : Int) ≤ level) = false := by simpa using hn
  have hm0 : (0 : Int) ≤ m := by omega
  have hm1 : (m : Int) < (E.length : Int) := by omega
  generalize E.length = len at *
  subst hlev
  go_enter Try.func95, Try.ntmps95
  go_wp2_with fail
  refine wp_loop_rounds 1 ?_
  rw [rounds_succ]
  go_wp2_with fail
  go_ret
  exact ⟨rfl, rfl⟩

/-- what the closure is asked -/
def BSpec (n : Nat) : Prop := ∀ (hb b t nn c : Nat) (x y level : Int) (F H : Nat → Prop) (A : Ar) (E : List Int) (v : Value) (zs : List (Int × Int)) (w : World), n ≤ 44 → level = (n : Int) → MS w hb b t nn F H A E → PS t A E (n * zs.length + c + (45 - E.length)) nn → t < 64 → RowL w v zs → (∀ k, v.ownBlock = some k → ¬ F k ∧ ¬ H k) → zs.length ≤ 4096 →
  (∀ p ∈ zs, x ≤ p.1 ∧ p.1 < x + ((2 ^ n : Nat) : Int) ∧ y ≤ p.2 ∧ p.2 < y + ((2 ^ n : Nat) : Int)) → -1152921504606846976 ≤ x → x + ((2 ^ n : Nat) : Int) ≤ 1152921504606846976 → -1152921504606846976 ≤ y → y + ((2 ^ n : Nat) : Int) ≤ 1152921504606846976 →
  Calls Try.prog 106 #[.pointer (some ⟨hb, 0, none⟩), bareV, v, .int .i64 level, .int .i64 x, .int .i64 y] w fun e w' => ∃ id, e = .returned (.int .i64 id) ∧ BOut w hb b t c n F H A x y zs id w'

theorem build_nil (hb b t nn c n : Nat) (x y level : Int) (F H : Nat → Prop) (A : Ar) (E : List Int) (a : Option Addr) (cp : Nat) (w : World) (hn : n ≤ 44) (hlev : level = (n : Int)) (hM : MS w hb b t nn F H A E) (hP : PS t A E (c + (45 - E.length)) nn) (ht : t < 64) :
    Calls Try.prog 106 #[.pointer (some ⟨hb, 0, none⟩), bareV, .slice a 0 cp, .int .i64 level, .int .i64 x, .int .i64 y] w fun e w' => ∃ id, e = .returned (.int .i64 id) ∧ BOut w hb b t c n F H A x y [] id w' := by
  have hpos := hP.pos
  have key : ∀ w, MS w hb b t nn F H A E → Calls Try.prog 95 #[.pointer (some ⟨hb, 0, none⟩), .int .i64 level] w fun e w' => ∃ id, e = .returned (.int .i64 id) ∧ BOut w hb b t c n F H A x y [] id w' := by
    clear hM
    intro w hM
    rcases Nat.lt_or_ge n E.length with hlt | hge
    · have hi : E[n]? = some E[n] := List.getElem?_eq_getElem hlt
      refine (empty_there hb b t n E H _ w hM.hand hi level hlev).mono ?_
      rintro e w' ⟨rfl, rfl⟩
      exact ⟨_, rfl, A, E, F, H, nn, [], hM, fun k hk => Or.inl hk, Apart.refl _ _, hP, Gain.refl t A, fun _ hj => (by cases hj), hP.emp.lv n _ hi, fun p => by rw [emp_cells hP.emp n _ hi]; simp⟩
    · obtain ⟨m0, hm0⟩ : ∃ m0, E.length = m0 + 1 := ⟨E.length - 1, by omega⟩
      obtain ⟨k, hk⟩ : ∃ k, n = m0 + k := ⟨n - m0, by omega⟩
      have hnn := hP.pur.nn
      obtain ⟨s1, s2, ⟨N, g, gN⟩, s4⟩ := ps_empties (k := c + (45 - (E.length + k))) ht k (hP.less (by omega)) (by omega)
      have hl := emptyN_length t (A, E) k
      simp only at hl
      refine (empty_any hb b nn t m0 k F H (A, E) w hM.ar hM.hand hM.dis s1 ht (by omega) hm0 (by omega) level (by rw [hlev, hk])).mono ?_
      rintro e w' ⟨rfl, F', H', hA', hH', hd', hs', hP'⟩
      have hid : (emptyN t (A, E) k).2[n]? = some (nth (emptyN t (A, E) k).2 (m0 + k)) := by
        unfold nth
        rw [hk, getElem!_pos _ (m0 + k) (by rw [hl]; omega)]
        exact List.getElem?_eq_getElem _
      refine ⟨_, rfl, (emptyN t (A, E) k).1, (emptyN t (A, E) k).2, F', H', nn + k, N, ⟨hA', hH', hd'⟩, hs', hP', ?_, g, fun j hj => ?_, s2.emp.lv n _ hid, fun p => by rw [emp_cells s2.emp n _ hid]; simp⟩
      · rw [hl]; exact s2
      · obtain ⟨i, hi, he⟩ := gN j hj
        exact emp_sub s2.emp he (n - i) _ (by rw [show i + (n - i) = n by omega]; exact hid)
  have hb0 : Below w.heap.size w (w.alloc (.cells #[.int .i64 (-1), .int .i64 0, .int .i64 0] 154)) := (Below.refl _ _).alloc (Nat.le_refl _) _
  have g0 : (w.alloc (.cells #[.int .i64 (-1), .int .i64 0, .int .i64 0] 154)).cell? ⟨w.heap.size, 0, none⟩ = some (.int .i64 (-1)) := by rw [World.cell?_alloc_new]; rfl
  have hM1 := hM.below hb0
  have HB0 : Hid (Below w.heap.size w (w.alloc (.cells #[.int .i64 (-1), .int .i64 0, .int .i64 0] 154))) := hb0
  generalize hw1 : w.alloc (.cells #[.int .i64 (-1), .int .i64 0, .int .i64 0] 154) = w1 at *
  have key1 := key w1 hM1
  obtain ⟨v, hh, _⟩ := hM1.hand
  have c2 := hh.c2
  clear hlev key hM hM1 hb0
  unfold bareV
  go_enter Try.func106, Try.ntmps106
  go_wp2_with fail
  refine key1.mono ?_
  rintro e w2 ⟨id, rfl, hR⟩
  go_wp2_with fail
  go_ret
  exact ⟨id, rfl, hR.ahead HB0.out⟩

theorem build_one (hb b t nn c : Nat) (x y : Int) (F H : Nat → Prop) (A : Ar) (E : List Int) (v : Value) (zs : List (Int × Int)) (w : World) (hM : MS w hb b t nn F H A E) (hP : PS t A E (c + (45 - E.length)) nn) (hrow : RowL w v zs) (h0 : zs ≠ []) (hin : ∀ p ∈ zs, x ≤ p.1 ∧ p.1 < x + 1 ∧ y ≤ p.2 ∧ p.2 < y + 1) :
    Calls Try.prog 106 #[.pointer (some ⟨hb, 0, none⟩), bareV, v, .int .i64 0, .int .i64 x, .int .i64 y] w fun e w' => ∃ id, e = .returned (.int .i64 id) ∧ BOut w hb b t c 0 F H A x y zs id w' := by
  have fin : ∀ w, MS w hb b t nn F H A E → BOut w hb b t c 0 F H A x y zs 1 w := by
    intro w hM
    refine ⟨A, E, F, H, nn, [], hM, fun k hk => Or.inl hk, Apart.refl _ _, hP, Gain.refl t A, fun _ hj => (by cases hj), rfl, fun p => ?_⟩
    obtain ⟨p0, hp0⟩ := List.exists_mem_of_ne_nil zs h0
    have e0 := hin p0 hp0
    have : p ∈ cellsF A.ths 0 1 ↔ p = (0, 0) := by simp [cellsF]
    rw [this]
    constructor
    · rintro rfl
      have : p0 = (0 + x, 0 + y) := Prod.ext (by show p0.1 = 0 + x; omega) (by show p0.2 = 0 + y; omega)
      rw [← this]; exact hp0
    · intro h
      have := hin _ h
      simp only at this
      exact Prod.ext (by show p.1 = 0; omega) (by show p.2 = 0; omega)
  obtain ⟨a, cp, rfl, _⟩ := hrow
  have hb0 : Below w.heap.size w (w.alloc (.cells #[.int .i64 (-1), .int .i64 0, .int .i64 0] 154)) := (Below.refl _ _).alloc (Nat.le_refl _) _
  have g0 : (w.alloc (.cells #[.int .i64 (-1), .int .i64 0, .int .i64 0] 154)).cell? ⟨w.heap.size, 0, none⟩ = some (.int .i64 (-1)) := by rw [World.cell?_alloc_new]; rfl
  have hM1 := hM.below hb0
  have HF : Hid (BOut w hb b t c 0 F H A x y zs 1 (w.alloc (.cells #[.int .i64 (-1), .int .i64 0, .int .i64 0] 154))) := (fin _ hM1).ahead hb0
  generalize hw1 : w.alloc (.cells #[.int .i64 (-1), .int .i64 0, .int .i64 0] 154) = w1 at *
  obtain ⟨v, hh, _⟩ := hM1.hand
  have c2 := hh.c2
  have hl0 : 0 < zs.length := List.length_pos_iff.2 h0
  have hl1 : ((zs.length : Int) == 0) = false := by simp; omega
  generalize zs.length = len at *
  clear hM hM1 hb0 fin
  unfold bareV
  go_enter Try.func106, Try.ntmps106
  go_wp2_with fail
  go_ret
  exact ⟨1, rfl, HF.out⟩
end Go.Proofs.Ythobobgiendcfaa.A

namespace Go.Proofs.Ythobobgiendcfaa.A
open Go.RowKit Go.Maps

theorem Try.ix0 (a b c d : Value) (w : World) : (Instr.index 191 (.agg #[a, b, c, d]) (.int .i64 0)).run Try.prog w = .ok a w := by kernel_rfl
theorem Try.ix1 (a b c d : Value) (w : World) : (Instr.index 191 (.agg #[a, b, c, d]) (.int .i64 1)).run Try.prog w = .ok b w := by kernel_rfl
theorem Try.ix2 (a b c d : Value) (w : World) : (Instr.index 191 (.agg #[a, b, c, d]) (.int .i64 2)).run Try.prog w = .ok c w := by kernel_rfl
theorem Try.ix3 (a b c d : Value) (w : World) : (Instr.index 191 (.agg #[a, b, c, d]) (.int .i64 3)).run Try.prog w = .ok d w := by kernel_rfl

/-- the parts' rows, in a block list behind the four numbers -/
theorem RS.born {w w1 : World} {hb b t nn : Nat} {F H : Nat → Prop} {A : Ar} {E : List Int} {vs : Nat → Value} {ps : Nat → List (Int × Int)} (hM : MS w hb b t nn F H A E) (hb1 : Below (w.alloc (.cells #[.int .i64 0, .int .i64 0, .int .i64 0, .int .i64 0] 35)).heap.size (w.alloc (.cells #[.int .i64 0, .int .i64 0, .int .i64 0, .int .i64 0] 35)) w1)
    (hrows : ∀ i, i < 4 → w1.ownsRow ((w.alloc (.cells #[.int .i64 0, .int .i64 0, .int .i64 0, .int .i64 0] 35)).heap.size + 2) 87 2 (vs i) (ps i).length (cL (ps i))) : RS w w1 hb b t nn F H F H A E 0 0 0 0 vs ps := by
  have b0 : Below w.heap.size w (w.alloc (.cells #[.int .i64 0, .int .i64 0, .int .i64 0, .int .i64 0] 35)) := (Below.refl _ _).alloc (Nat.le_refl _) _
  have b1 : Below w.heap.size w w1 := b0.trans (hb1.mono b0.size)
  have hs : (w.alloc (.cells #[.int .i64 0, .int .i64 0, .int .i64 0, .int .i64 0] 35)).heap.size = w.heap.size + 1 := by simp
  refine ⟨hM.below b1, fun k hk => Or.inl hk, Apart.of b1, ?_, fun k hk => hM.lt hk, fun i hi => ⟨row_of_own (hrows i hi), fun k hk => ?_⟩⟩
  · exact (hb1.block _ (by omega)).trans (heap_alloc_new w _)
  · obtain ⟨h1, h2⟩ := World.ownsRow.lt (hrows i hi) k hk
    rw [hs] at h1
    refine ⟨by omega, h2, fun e => ?_, fun e => ?_⟩
    · have := hM.lt (Or.inl e); omega
    · have := hM.lt (Or.inr e); omega

theorem RS.joined {w W w' : World} {hb b t nn : Nat} {F H F4 H4 : Nat → Prop} {A4 B : Ar} {E4 : List Int} {q0 q1 q2 q3 : Int} {vs : Nat → Value} {ps : Nat → List (Int × Int)} {v : Value} (R : RS w W hb b t nn F H F4 H4 A4 E4 q0 q1 q2 q3 vs ps) (hrow : IntRow W v E4) (hHb : H4 hb) (hHv : ∀ k, v.ownBlock = some k → H4 k) (hvb : v.ownBlock ≠ some hb)
    (h2 : HandAt w' hb b t 0 v) (hA2 : ArAt w' b (More F4 W w') (nn + 1) B) (P2 : Apart (With F4 hb) W w') : MS w' hb b t (nn + 1) (More F4 W w') H4 B E4 ∧ (∀ k, More F4 W w' k ∨ H4 k → (F k ∨ H k) ∨ w.heap.size ≤ k) ∧ Apart (fun k => F k ∨ H k) w w' := by
  have hsz := R.ap.size
  refine ⟨⟨hA2, ⟨v, h2, row_other hrow fun k hk => P2.block k (R.ms.lt (Or.inr (hHv k hk))) ?_, hHb, hHv, hvb, fun k hk => Nat.lt_of_lt_of_le (R.ms.lt (Or.inr hk)) P2.size⟩, fun k hk hk2 => ?_⟩, fun k hk => ?_, ?_⟩
  · rintro (e | e)
    · exact R.ms.dis k e (hHv k hk)
    · exact hvb (by rw [hk, e])
  · rcases hk with hk | hk
    · exact R.ms.dis k hk hk2
    · have := R.ms.lt (Or.inr hk2); omega
  · rcases hk with (hk | hk) | hk
    · rcases R.sub k (Or.inl hk) with h | h
      · exact Or.inl h
      · exact Or.inr (by omega)
    · exact Or.inr (by omega)
    · rcases R.sub k (Or.inr hk) with h | h
      · exact Or.inl h
      · exact Or.inr (by omega)
  · refine R.ap.trans P2 fun k hk => ?_
    have hk' : F4 k ∨ H4 k := by
      rcases hk with hk | rfl
      · exact Or.inl hk
      · exact Or.inr hHb
    rcases R.sub k hk' with h | h
    · exact Or.inl h
    · exact Or.inr ⟨by omega, R.ms.lt hk'⟩
theorem parts_in {x y h : Int} {zs : List (Int × Int)} (hin : ∀ p ∈ zs, x ≤ p.1 ∧ p.1 < x + (h + h) ∧ y ≤ p.2 ∧ p.2 < y + (h + h)) :
    (∀ p ∈ part (x + h) (y + h) zs 0, x ≤ p.1 ∧ p.1 < x + h ∧ y ≤ p.2 ∧ p.2 < y + h) ∧ (∀ p ∈ part (x + h) (y + h) zs 1, x + h ≤ p.1 ∧ p.1 < x + h + h ∧ y ≤ p.2 ∧ p.2 < y + h) ∧ (∀ p ∈ part (x + h) (y + h) zs 2, x ≤ p.1 ∧ p.1 < x + h ∧ y + h ≤ p.2 ∧ p.2 < y + h + h) ∧ (∀ p ∈ part (x + h) (y + h) zs 3, x + h ≤ p.1 ∧ p.1 < x + h + h ∧ y + h ≤ p.2 ∧ p.2 < y + h + h) := by
  refine ⟨fun p hp => ?_, fun p hp => ?_, fun p hp => ?_, fun p hp => ?_⟩ <;> (rw [mem_part] at hp; have h1 := hin p hp.1; have h2 := qi_cases (x + h) (y + h) p; have h3 := hp.2)
  · have := h2.1.1 h3; omega
  · have := h2.2.1.1 h3; omega
  · have := h2.2.2.1.1 h3; omega
  · have := h2.2.2.2.1 h3; omega

/-- four times no ground -/
abbrev bare4 : Value := .agg #[.int .i64 (-1), .int .i64 0, .int .i64 0, .int .i64 (-1), .int .i64 0, .int .i64 0, .int .i64 (-1), .int .i64 0, .int .i64 0, .int .i64 (-1), .int .i64 0, .int .i64 0]
set_option linter.unusedSimpArgs false in
set_option maxRecDepth 20000 in
set_option maxHeartbeats 4000000 in
theorem below_bare (hb : Nat) (w : World) : Calls Try.prog 129 #[.pointer (some ⟨hb, 0, none⟩), bareV] w fun e w' => e = .returned bare4 ∧ Below w.heap.size w w' := by
  have hbr := fun W => bare_any W
  unfold bareV at hbr ⊢
  have hb0 : Below w.heap.size w (w.alloc (.cells #[.int .i64 (-1), .int .i64 0, .int .i64 0] 154)) := (Below.refl _ _).alloc (Nat.le_refl _) _
  have hb1 : Below w.heap.size w ((w.alloc (.cells #[.int .i64 (-1), .int .i64 0, .int .i64 0] 154)).alloc (.cells #[.int .i64 0, .int .i64 0, .int .i64 0, .int .i64 0, .int .i64 0, .int .i64 0, .int .i64 0, .int .i64 0, .int .i64 0, .int .i64 0, .int .i64 0, .int .i64 0] 182)) := hb0.alloc hb0.size _
  have x0 : ((w.alloc (.cells #[.int .i64 (-1), .int .i64 0, .int .i64 0] 154)).alloc (.cells #[.int .i64 0, .int .i64 0, .int .i64 0, .int .i64 0, .int .i64 0, .int .i64 0, .int .i64 0, .int .i64 0, .int .i64 0, .int .i64 0, .int .i64 0, .int .i64 0] 182)).heap[w.heap.size]? = some (.cells #[.int .i64 (-1), .int .i64 0, .int .i64 0] 154 (0, 0)) := heap_alloc2_old w _ _
  have x1 : ((w.alloc (.cells #[.int .i64 (-1), .int .i64 0, .int .i64 0] 154)).alloc (.cells #[.int .i64 0, .int .i64 0, .int .i64 0, .int .i64 0, .int .i64 0, .int .i64 0, .int .i64 0, .int .i64 0, .int .i64 0, .int .i64 0, .int .i64 0, .int .i64 0] 182)).heap[w.heap.size + 1]? = some (.cells #[.int .i64 0, .int .i64 0, .int .i64 0, .int .i64 0, .int .i64 0, .int .i64 0, .int .i64 0, .int .i64 0, .int .i64 0, .int .i64 0, .int .i64 0, .int .i64 0] 182 (0, 0)) := heap_alloc2_new w _ _
  go_enter Try.func129, Try.ntmps129
  go_wp2_with fail
  generalize ((w.alloc (.cells #[.int .i64 (-1), .int .i64 0, .int .i64 0] 154)).alloc (.cells #[.int .i64 0, .int .i64 0, .int .i64 0, .int .i64 0, .int .i64 0, .int .i64 0, .int .i64 0, .int .i64 0, .int .i64 0, .int .i64 0, .int .i64 0, .int .i64 0] 182)) = v0 at *
  have l1 : w.heap.size + 1 < v0.heap.size := (Array.getElem?_eq_some_iff.1 x1).1
  refine (hbr _).mono ?_
  rintro e v1 ⟨rfl, b1⟩
  go_wp2_with fail
  refine (hbr _).mono ?_
  rintro e v2 ⟨rfl, b2⟩
  go_wp2_with fail
  refine (hbr _).mono ?_
  rintro e v3 ⟨rfl, b3⟩
  go_wp2_with fail
  refine (hbr _).mono ?_
  rintro e v4 ⟨rfl, b4⟩
  have b04 : Below v0.heap.size v0 v4 := ((b1.trans (b2.mono b1.size)).trans (b3.mono (Nat.le_trans b1.size b2.size))).trans (b4.mono (Nat.le_trans (Nat.le_trans b1.size b2.size) b3.size))
  have y0 := (b04.block _ (by omega)).trans x0
  have y1 := (b04.block _ l1).trans x1
  have b5 : Below v4.heap.size v4 (v4.alloc (.cells #[.int .i64 (-1), .int .i64 0, .int .i64 0, .int .i64 (-1), .int .i64 0, .int .i64 0, .int .i64 (-1), .int .i64 0, .int .i64 0, .int .i64 (-1), .int .i64 0, .int .i64 0] 182)) := (Below.refl _ _).alloc (Nat.le_refl _) _
  have y2 : (v4.alloc (.cells #[.int .i64 (-1), .int .i64 0, .int .i64 0, .int .i64 (-1), .int .i64 0, .int .i64 0, .int .i64 (-1), .int .i64 0, .int .i64 0, .int .i64 (-1), .int .i64 0, .int .i64 0] 182)).heap[v4.heap.size]? = some (.cells #[.int .i64 (-1), .int .i64 0, .int .i64 0, .int .i64 (-1), .int .i64 0, .int .i64 0, .int .i64 (-1), .int .i64 0, .int .i64 0, .int .i64 (-1), .int .i64 0, .int .i64 0] 182 (0, 0)) := heap_alloc_new v4 _
  have l4 : w.heap.size + 1 < v4.heap.size := Nat.lt_of_lt_of_le l1 b04.size
  generalize hv5 : v4.alloc (.cells #[.int .i64 (-1), .int .i64 0, .int .i64 0, .int .i64 (-1), .int .i64 0, .int .i64 0, .int .i64 (-1), .int .i64 0, .int .i64 0, .int .i64 (-1), .int .i64 0, .int .i64 0] 182) = v5 at *
  have u0 := (b5.block _ (by omega)).trans y0
  have u1 := (b5.block _ l4).trans y1
  have hb4 := hb1.trans (b04.mono hb1.size)
  have HB5 : Hid (Below w.heap.size w v5) := hb4.trans (b5.mono hb4.size)
  have HLE : Hid (w.heap.size ≤ w.heap.size + 1) := Nat.le_succ _
  have HLE4 : Hid (w.heap.size ≤ v4.heap.size) := by show _ ≤ _; omega
  have g0 : v5.cell? ⟨w.heap.size, 0, none⟩ = some (.int .i64 (-1)) := by rw [Lib.cell_of_heap u0]; rfl
  have g2 : v5.cell? ⟨w.heap.size, 2, none⟩ = some (.int .i64 0) := by rw [Lib.cell_of_heap u0]; rfl
  have q0 : v5.cell? ⟨w.heap.size + 1, 0, none⟩ = some (.int .i64 0) := by rw [Lib.cell_of_heap u1]; rfl
  have z0 : v5.frozen? ⟨w.heap.size + 1, 0, none⟩ = false := Lib.frozen_of_heap u1 0
  have r0 : v5.cell? ⟨v4.heap.size, 0, none⟩ = some (.int .i64 (-1)) := by rw [Lib.cell_of_heap y2]; rfl
  have q1 : v5.cell? ⟨w.heap.size + 1, 1, none⟩ = some (.int .i64 0) := by rw [Lib.cell_of_heap u1]; rfl
  have z1 : v5.frozen? ⟨w.heap.size + 1, 1, none⟩ = false := Lib.frozen_of_heap u1 1
  have r1 : v5.cell? ⟨v4.heap.size, 1, none⟩ = some (.int .i64 0) := by rw [Lib.cell_of_heap y2]; rfl
  have q2 : v5.cell? ⟨w.heap.size + 1, 2, none⟩ = some (.int .i64 0) := by rw [Lib.cell_of_heap u1]; rfl
  have z2 : v5.frozen? ⟨w.heap.size + 1, 2, none⟩ = false := Lib.frozen_of_heap u1 2
  have r2 : v5.cell? ⟨v4.heap.size, 2, none⟩ = some (.int .i64 0) := by rw [Lib.cell_of_heap y2]; rfl
  have q3 : v5.cell? ⟨w.heap.size + 1, 3, none⟩ = some (.int .i64 0) := by rw [Lib.cell_of_heap u1]; rfl
  have z3 : v5.frozen? ⟨w.heap.size + 1, 3, none⟩ = false := Lib.frozen_of_heap u1 3
  have r3 : v5.cell? ⟨v4.heap.size, 3, none⟩ = some (.int .i64 (-1)) := by rw [Lib.cell_of_heap y2]; rfl
  have q4 : v5.cell? ⟨w.heap.size + 1, 4, none⟩ = some (.int .i64 0) := by rw [Lib.cell_of_heap u1]; rfl
  have z4 : v5.frozen? ⟨w.heap.size + 1, 4, none⟩ = false := Lib.frozen_of_heap u1 4
  have r4 : v5.cell? ⟨v4.heap.size, 4, none⟩ = some (.int .i64 0) := by rw [Lib.cell_of_heap y2]; rfl
  have q5 : v5.cell? ⟨w.heap.size + 1, 5, none⟩ = some (.int .i64 0) := by rw [Lib.cell_of_heap u1]; rfl
  have z5 : v5.frozen? ⟨w.heap.size + 1, 5, none⟩ = false := Lib.frozen_of_heap u1 5
  have r5 : v5.cell? ⟨v4.heap.size, 5, none⟩ = some (.int .i64 0) := by rw [Lib.cell_of_heap y2]; rfl
  have q6 : v5.cell? ⟨w.heap.size + 1, 6, none⟩ = some (.int .i64 0) := by rw [Lib.cell_of_heap u1]; rfl
  have z6 : v5.frozen? ⟨w.heap.size + 1, 6, none⟩ = false := Lib.frozen_of_heap u1 6
  have r6 : v5.cell? ⟨v4.heap.size, 6, none⟩ = some (.int .i64 (-1)) := by rw [Lib.cell_of_heap y2]; rfl
  have q7 : v5.cell? ⟨w.heap.size + 1, 7, none⟩ = some (.int .i64 0) := by rw [Lib.cell_of_heap u1]; rfl
  have z7 : v5.frozen? ⟨w.heap.size + 1, 7, none⟩ = false := Lib.frozen_of_heap u1 7
  have r7 : v5.cell? ⟨v4.heap.size, 7, none⟩ = some (.int .i64 0) := by rw [Lib.cell_of_heap y2]; rfl
  have q8 : v5.cell? ⟨w.heap.size + 1, 8, none⟩ = some (.int .i64 0) := by rw [Lib.cell_of_heap u1]; rfl
  have z8 : v5.frozen? ⟨w.heap.size + 1, 8, none⟩ = false := Lib.frozen_of_heap u1 8
  have r8 : v5.cell? ⟨v4.heap.size, 8, none⟩ = some (.int .i64 0) := by rw [Lib.cell_of_heap y2]; rfl
  have q9 : v5.cell? ⟨w.heap.size + 1, 9, none⟩ = some (.int .i64 0) := by rw [Lib.cell_of_heap u1]; rfl
  have z9 : v5.frozen? ⟨w.heap.size + 1, 9, none⟩ = false := Lib.frozen_of_heap u1 9
  have r9 : v5.cell? ⟨v4.heap.size, 9, none⟩ = some (.int .i64 (-1)) := by rw [Lib.cell_of_heap y2]; rfl
  have q10 : v5.cell? ⟨w.heap.size + 1, 10, none⟩ = some (.int .i64 0) := by rw [Lib.cell_of_heap u1]; rfl
  have z10 : v5.frozen? ⟨w.heap.size + 1, 10, none⟩ = false := Lib.frozen_of_heap u1 10
  have r10 : v5.cell? ⟨v4.heap.size, 10, none⟩ = some (.int .i64 0) := by rw [Lib.cell_of_heap y2]; rfl
  have q11 : v5.cell? ⟨w.heap.size + 1, 11, none⟩ = some (.int .i64 0) := by rw [Lib.cell_of_heap u1]; rfl
  have z11 : v5.frozen? ⟨w.heap.size + 1, 11, none⟩ = false := Lib.frozen_of_heap u1 11
  have r11 : v5.cell? ⟨v4.heap.size, 11, none⟩ = some (.int .i64 0) := by rw [Lib.cell_of_heap y2]; rfl
  have f0 : v5.frozen? ⟨v4.heap.size, 0, none⟩ = false := Lib.frozen_of_heap y2 0
  have f1 : v5.frozen? ⟨v4.heap.size, 1, none⟩ = false := Lib.frozen_of_heap y2 1
  have f2 : v5.frozen? ⟨v4.heap.size, 2, none⟩ = false := Lib.frozen_of_heap y2 2
  have f3 : v5.frozen? ⟨v4.heap.size, 3, none⟩ = false := Lib.frozen_of_heap y2 3
  have f4 : v5.frozen? ⟨v4.heap.size, 4, none⟩ = false := Lib.frozen_of_heap y2 4
  have f5 : v5.frozen? ⟨v4.heap.size, 5, none⟩ = false := Lib.frozen_of_heap y2 5
  have f6 : v5.frozen? ⟨v4.heap.size, 6, none⟩ = false := Lib.frozen_of_heap y2 6
  have f7 : v5.frozen? ⟨v4.heap.size, 7, none⟩ = false := Lib.frozen_of_heap y2 7
  have f8 : v5.frozen? ⟨v4.heap.size, 8, none⟩ = false := Lib.frozen_of_heap y2 8
  have f9 : v5.frozen? ⟨v4.heap.size, 9, none⟩ = false := Lib.frozen_of_heap y2 9
  have f10 : v5.frozen? ⟨v4.heap.size, 10, none⟩ = false := Lib.frozen_of_heap y2 10
  have f11 : v5.frozen? ⟨v4.heap.size, 11, none⟩ = false := Lib.frozen_of_heap y2 11
  clear hbr b1 b2 b3 b4 b04 x0 x1 y0 y1 y2 u0 u1 b5 hb0 hb1 hb4 l1
  have hne : v4.heap.size ≠ w.heap.size + 1 := by omega
  go_wp2_with fail
  refine bodyPost_ret (v := bare4) ?_ rfl ⟨rfl, ?_⟩
  · simp [results, Try.results129, go_sem, hne, hne.symm, q0, q1, q2, q3, q4, q5, q6, q7, q8, q9, q10, q11]
  · repeat (first | refine Below.setCell ?_ HLE.out _ | refine Below.setCell ?_ HLE4.out _)
    exact HB5.out

set_option maxRecDepth 20000 in
set_option maxHeartbeats 8000000 in
theorem lit_step (n : Nat) (ih : BSpec n) (hb b t nn c : Nat) (x y level : Int) (F H : Nat → Prop) (A : Ar) (E : List Int) (vb off cp : Nat) (zs : List (Int × Int)) (w : World) (hn : n < 44) (hlev : level = ((n + 1 : Nat) : Int)) (hM : MS w hb b t nn F H A E) (hP : PS t A E ((n + 1) * zs.length + c + (45 - E.length)) nn) (ht : t < 64) (hvl : vb < w.heap.size) (hold : HoldsR w vb off zs) (hz : zs ≠ []) (hlen : zs.length ≤ 4096)
    (hin : ∀ p ∈ zs, x ≤ p.1 ∧ p.1 < x + ((2 ^ (n + 1) : Nat) : Int) ∧ y ≤ p.2 ∧ p.2 < y + ((2 ^ (n + 1) : Nat) : Int)) (hx0 : -1152921504606846976 ≤ x) (hx1 : x + ((2 ^ (n + 1) : Nat) : Int) ≤ 1152921504606846976) (hy0 : -1152921504606846976 ≤ y) (hy1 : y + ((2 ^ (n + 1) : Nat) : Int) ≤ 1152921504606846976) :
    Calls Try.prog 128 #[.pointer (some ⟨hb, 0, none⟩), bare4, .slice (some ⟨vb, off, none⟩) zs.length cp, .int .i64 level, .int .i64 x, .int .i64 y] w fun e w' => ∃ id, e = .returned (.int .i64 id) ∧ BOut w hb b t c (n + 1) F H A x y zs id w' := by
  have hbP : Below w.heap.size w (w.alloc (.cells #[.int .i64 (-1), .int .i64 0, .int .i64 0, .int .i64 (-1), .int .i64 0, .int .i64 0, .int .i64 (-1), .int .i64 0, .int .i64 0, .int .i64 (-1), .int .i64 0, .int .i64 0] 182)) := (Below.refl _ _).alloc (Nat.le_refl _) _
  have hxP : (w.alloc (.cells #[.int .i64 (-1), .int .i64 0, .int .i64 0, .int .i64 (-1), .int .i64 0, .int .i64 0, .int .i64 (-1), .int .i64 0, .int .i64 0, .int .i64 (-1), .int .i64 0, .int .i64 0] 182)).heap[w.heap.size]? = some (.cells #[.int .i64 (-1), .int .i64 0, .int .i64 0, .int .i64 (-1), .int .i64 0, .int .i64 0, .int .i64 (-1), .int .i64 0, .int .i64 0, .int .i64 (-1), .int .i64 0, .int .i64 0] 182 (0, 0)) := heap_alloc_new w _
  generalize hwp : w.alloc (.cells #[.int .i64 (-1), .int .i64 0, .int .i64 0, .int .i64 (-1), .int .i64 0, .int .i64 0, .int .i64 (-1), .int .i64 0, .int .i64 0, .int .i64 (-1), .int .i64 0, .int .i64 0] 182) = wp at *
  have HBP : Hid (Below w.heap.size w wp) := hbP
  have HPC : Hid (∀ W, Apart (fun k => F k ∨ H k) wp W → ∀ i, i < 4 → W.cell? ⟨w.heap.size, 3 * i, none⟩ = some (.int .i64 (-1)) ∧ W.cell? ⟨w.heap.size, 3 * i + 1, none⟩ = some (.int .i64 0) ∧ W.cell? ⟨w.heap.size, 3 * i + 2, none⟩ = some (.int .i64 0)) := fun W hW i hi => by
    have h1 : W.heap[w.heap.size]? = some (.cells #[.int .i64 (-1), .int .i64 0, .int .i64 0, .int .i64 (-1), .int .i64 0, .int .i64 0, .int .i64 (-1), .int .i64 0, .int .i64 0, .int .i64 (-1), .int .i64 0, .int .i64 0] 182 (0, 0)) := (hW.block _ (Array.getElem?_eq_some_iff.1 hxP).1 (fun e => by have := hM.lt e; omega)).trans hxP
    rw [Lib.cell_of_heap h1, Lib.cell_of_heap h1, Lib.cell_of_heap h1]
    have h2 : i = 0 ∨ i = 1 ∨ i = 2 ∨ i = 3 := by omega
    rcases h2 with rfl | rfl | rfl | rfl <;> exact ⟨rfl, rfl, rfl⟩
  have hM := hM.below hbP
  have hold : HoldsR wp vb off zs := fun j hj => by
    obtain ⟨a1, a2⟩ := hold j hj
    exact ⟨(World.cell?_of_block (a := ⟨vb, off + j * 2, none⟩) (hbP.block vb hvl)).trans a1, (World.cell?_of_block (a := ⟨vb, off + j * 2 + 1, none⟩) (hbP.block vb hvl)).trans a2⟩
  have hvl : vb < wp.heap.size := Nat.lt_of_lt_of_le hvl hbP.size
  have hh : ∀ W, Calls Try.prog 99 #[.int .i64 level] W fun x wp' => x = .returned (.int .i64 ((2 ^ n : Nat) : Int)) ∧ wp' = W := fun W => by rw [hlev]; exact half_any (n + 1) W (by omega) (by omega)
  have k0 : ∀ W, Calls Try.prog 126 #[.int .i64 0, .int .i64 level] W fun x wp' => x = .returned (.tuple #[.int .i64 0, .int .i64 0]) ∧ wp' = W := fun W => by rw [hlev]; exact corner0 (n + 1) W (by omega) (by omega)
  have k1 : ∀ W, Calls Try.prog 126 #[.int .i64 1, .int .i64 level] W fun x wp' => x = .returned (.tuple #[.int .i64 ((2 ^ n : Nat) : Int), .int .i64 0]) ∧ wp' = W := fun W => by rw [hlev]; exact corner1 (n + 1) W (by omega) (by omega)
  have k2 : ∀ W, Calls Try.prog 126 #[.int .i64 2, .int .i64 level] W fun x wp' => x = .returned (.tuple #[.int .i64 0, .int .i64 ((2 ^ n : Nat) : Int)]) ∧ wp' = W := fun W => by rw [hlev]; exact corner2 (n + 1) W (by omega) (by omega)
  have k3 : ∀ W, Calls Try.prog 126 #[.int .i64 3, .int .i64 level] W fun x wp' => x = .returned (.tuple #[.int .i64 ((2 ^ n : Nat) : Int), .int .i64 ((2 ^ n : Nat) : Int)]) ∧ wp' = W := fun W => by rw [hlev]; exact corner3 (n + 1) W (by omega) (by omega)
  have hpow : ((2 ^ (n + 1) : Nat) : Int) = ((2 ^ n : Nat) : Int) + ((2 ^ n : Nat) : Int) := by rw [Nat.pow_succ]; omega
  have hpos : (0 : Int) < ((2 ^ n : Nat) : Int) := by have := Nat.two_pow_pos n; omega
  have hb0 : Below wp.heap.size wp (wp.alloc (.cells #[.int .i64 0, .int .i64 0, .int .i64 0, .int .i64 0] 35)) := (Below.refl _ _).alloc (Nat.le_refl _) _
  have hq := fun (X Y : Int) (q : Nat) => quarters_some vb off cp zs X Y ((wp.alloc (.cells #[.int .i64 0, .int .i64 0, .int .i64 0, .int .i64 0] 35)).drewN q) (Nat.lt_of_lt_of_le hvl hb0.size) hlen (fun j hj => by
    obtain ⟨a1, a2⟩ := hold j hj
    exact ⟨(World.cell?_of_block (a := ⟨vb, off + j * 2, none⟩) (hb0.block vb hvl)).trans a1, (World.cell?_of_block (a := ⟨vb, off + j * 2 + 1, none⟩) (hb0.block vb hvl)).trans a2⟩)
  have hl0 : 0 < zs.length := List.length_pos_iff.2 hz
  have hl1 : ((zs.length : Int) == 0) = false := by simp; omega
  have hlv0 : (level == 0) = false := by simp; omega
  have hlv1 : 1 ≤ level ∧ level ≤ 44 := by omega
  have HLEN : Hid (zs.length = zs.length) := rfl
  obtain ⟨hf, hhf⟩ : ∃ hf, hf = ((2 ^ n : Nat) : Int) := ⟨_, rfl⟩
  rw [← hhf] at hh k1 k2 k3 hpow hpos
  rw [hpow] at hx1 hy1
  have HLEV : Hid (level = ((n + 1 : Nat) : Int)) := hlev
  have HHF : Hid (hf = ((2 ^ n : Nat) : Int)) := hhf
  have HM : Hid (MS wp hb b t nn F H A E) := hM
  have HP : Hid (PS t A E ((n + 1) * zs.length + c + (45 - E.length)) nn) := hP
  have HIN : Hid (∀ p ∈ zs, x ≤ p.1 ∧ p.1 < x + ((2 ^ (n + 1) : Nat) : Int) ∧ y ≤ p.2 ∧ p.2 < y + ((2 ^ (n + 1) : Nat) : Int)) := hin
  have HPOW : Hid (((2 ^ (n + 1) : Nat) : Int) = hf + hf) := hpow
  clear hlev hhf hM hP hin hpow hold hbP hxP hvl
  unfold bare4
  go_enter Try.func128, Try.ntmps128
  go_wp2_with fail
  refine (hh _).mono ?_
  rintro e w1 ⟨rfl, rfl⟩
  go_wp2_with fail
  refine (hh _).mono ?_
  rintro e w1 ⟨rfl, rfl⟩
  go_wp2_with fail
  refine (hq (x + hf) (y + hf) 0).mono ?_
  rintro e w1 ⟨vs, rfl, hrows, hb1⟩
  have R := RS.born HM.out hb1 hrows
  have i0 := Try.ix0 (vs 0) (vs 1) (vs 2) (vs 3)
  have i1 := Try.ix1 (vs 0) (vs 1) (vs 2) (vs 3)
  have i2 := Try.ix2 (vs 0) (vs 1) (vs 2) (vs 3)
  have i3 := Try.ix3 (vs 0) (vs 1) (vs 2) (vs 3)
  have HQR : Hid (∀ i, i < 4 → _) := hrows
  clear hrows hq hh
  obtain ⟨⟨d0, d1, d2, d3⟩, ⟨z0, z1, z2, z3⟩⟩ := R.cells
  go_wp2_with fail
  have HPS : Hid (_ ∧ _ ∧ _ ∧ _) := parts_in (h := hf) (by intro p hp; have := HIN.out p hp; rw [HPOW.out] at this; exact this)
  have hplen := parts_len (x + hf) (y + hf) zs
  have hle := fun i => part_le (x + hf) (y + hf) zs i
  obtain ⟨ps, hps⟩ : ∃ ps, ps = part (x + hf) (y + hf) zs := ⟨_, rfl⟩
  have HPART : Hid (ps = part (x + hf) (y + hf) zs) := hps
  have HLEN4 : Hid ((ps 0).length + (ps 1).length + (ps 2).length + (ps 3).length = zs.length) := by show _ = _; rw [hps]; exact hplen
  have hle0 := fun i => (show (ps i).length ≤ 4096 by rw [hps]; exact Nat.le_trans (hle i) hlen)
  have R0 : RS wp w1 hb b t nn F H F H A E 0 0 0 0 vs ps := by rw [hps]; exact R
  rw [← hps] at HPS
  clear R hps hplen hle
  have HN : Hid (n * (ps 0).length + n * (ps 1).length + n * (ps 2).length + n * (ps 3).length = n * zs.length) := by
    show _ = _
    rw [← HLEN4.out, Nat.mul_add, Nat.mul_add, Nat.mul_add]
  have P0 : PS t A E (n * (ps 0).length + (n * (ps 1).length + n * (ps 2).length + n * (ps 3).length + c + 1) + (45 - E.length)) nn := HP.out.less (by
    have h1 := HN.out
    have h2 : (n + 1) * zs.length = n * zs.length + zs.length := by rw [Nat.add_mul, Nat.one_mul]
    omega)
  have HIH : Hid (∀ (nn c : Nat) (x y : Int) (F H : Nat → Prop) (A : Ar) (E : List Int) (v : Value) (zs : List (Int × Int)) (wp : World), MS wp hb b t nn F H A E → PS t A E (n * zs.length + c + (45 - E.length)) nn → RowL wp v zs → (∀ k, v.ownBlock = some k → ¬ F k ∧ ¬ H k) → zs.length ≤ 4096 → (∀ p ∈ zs, x ≤ p.1 ∧ p.1 < x + hf ∧ y ≤ p.2 ∧ p.2 < y + hf) → -1152921504606846976 ≤ x → x + hf ≤ 1152921504606846976 → -1152921504606846976 ≤ y → y + hf ≤ 1152921504606846976 →
      Calls Try.prog 106 #[.pointer (some ⟨hb, 0, none⟩), bareV, v, .int .i64 (level - 1), .int .i64 x, .int .i64 y] wp fun e wp' => ∃ id, e = .returned (.int .i64 id) ∧ BOut wp hb b t c n F H A x y zs id wp') := by
    intro nn c x y F H A E v zs wp a1 a2 a3 a4 a5 a6 a7 a8 a9 a10
    have hl := HLEV.out
    rw [HHF.out] at a6 a8 a10
    exact ih hb b t nn c x y (level - 1) F H A E v zs wp (by omega) (by omega) a1 a2 ht a3 a4 a5 a6 a7 a8 a9 a10
  clear ih
  obtain ⟨p0, p1, p2⟩ : w1.cell? ⟨w.heap.size, 0, none⟩ = some (.int .i64 (-1)) ∧ w1.cell? ⟨w.heap.size, 1, none⟩ = some (.int .i64 0) ∧ w1.cell? ⟨w.heap.size, 2, none⟩ = some (.int .i64 0) := HPC.out _ R0.ap 0 (by omega)
  refine wp_loop_rounds 5 ?_
  rw [rounds_succ]
  go_wp2_with fail
  refine (k0 _).mono ?_
  rintro e wk ⟨rfl, rfl⟩
  go_wp2_with fail
  refine (HIH.out nn (n * (ps 1).length + n * (ps 2).length + n * (ps 3).length + c + 1) x y F H A E (vs 0) (ps 0) _ R0.ms P0 (R0.rows 0 (by omega)).1 (fun k hk => ⟨((R0.rows 0 (by omega)).2 k hk).2.2.1, ((R0.rows 0 (by omega)).2 k hk).2.2.2⟩) (hle0 0) HPS.out.1 (by omega) (by omega) (by omega) (by omega)).mono ?_
  rintro e v1 ⟨id0, rfl, hB⟩
  obtain ⟨A1, E1, F1, H1, nn1, N0, R1, P1, g0, s0, l0, m0⟩ := R0.built hB
  clear hB
  clear d0 d1 d2 d3 z0 z1 z2 z3
  obtain ⟨⟨d0, d1, d2, d3⟩, ⟨z0, z1, z2, z3⟩⟩ := R1.cells
  go_wp2_with fail
  have R1 := R1.set0 id0
  generalize v1.setCell ⟨wp.heap.size, 0, none⟩ (.int .i64 id0) = V1 at *
  clear d0 d1 d2 d3 z0 z1 z2 z3
  obtain ⟨⟨d0, d1, d2, d3⟩, ⟨z0, z1, z2, z3⟩⟩ := R1.cells
  clear p0 p1 p2
  obtain ⟨p0, p1, p2⟩ : V1.cell? ⟨w.heap.size, 3, none⟩ = some (.int .i64 (-1)) ∧ V1.cell? ⟨w.heap.size, 4, none⟩ = some (.int .i64 0) ∧ V1.cell? ⟨w.heap.size, 5, none⟩ = some (.int .i64 0) := HPC.out _ R1.ap 1 (by omega)
  have P1 : PS t A1 E1 (n * (ps 1).length + (n * (ps 2).length + n * (ps 3).length + c + 1) + (45 - E1.length)) nn1 := P1.less (by omega)
  rw [rounds_succ]
  go_wp2_with fail
  refine (k1 _).mono ?_
  rintro e wk ⟨rfl, rfl⟩
  go_wp2_with fail
  refine (HIH.out nn1 (n * (ps 2).length + n * (ps 3).length + c + 1) (x + hf) y F1 H1 A1 E1 (vs 1) (ps 1) _ R1.ms P1 (R1.rows 1 (by omega)).1 (fun k hk => ⟨((R1.rows 1 (by omega)).2 k hk).2.2.1, ((R1.rows 1 (by omega)).2 k hk).2.2.2⟩) (hle0 1) HPS.out.2.1 (by omega) (by omega) (by omega) (by omega)).mono ?_
  rintro e v2 ⟨id1, rfl, hB⟩
  obtain ⟨A2, E2, F2, H2, nn2, N1, R2, P2, g1, s1, l1, m1⟩ := R1.built hB
  clear hB
  clear d0 d1 d2 d3 z0 z1 z2 z3
  obtain ⟨⟨d0, d1, d2, d3⟩, ⟨z0, z1, z2, z3⟩⟩ := R2.cells
  go_wp2_with fail
  have R2 := R2.set1 id1
  generalize v2.setCell ⟨wp.heap.size, 1, none⟩ (.int .i64 id1) = V2 at *
  clear d0 d1 d2 d3 z0 z1 z2 z3
  obtain ⟨⟨d0, d1, d2, d3⟩, ⟨z0, z1, z2, z3⟩⟩ := R2.cells
  clear p0 p1 p2
  obtain ⟨p0, p1, p2⟩ : V2.cell? ⟨w.heap.size, 6, none⟩ = some (.int .i64 (-1)) ∧ V2.cell? ⟨w.heap.size, 7, none⟩ = some (.int .i64 0) ∧ V2.cell? ⟨w.heap.size, 8, none⟩ = some (.int .i64 0) := HPC.out _ R2.ap 2 (by omega)
  have P2 : PS t A2 E2 (n * (ps 2).length + (n * (ps 3).length + c + 1) + (45 - E2.length)) nn2 := P2.less (by omega)
  rw [rounds_succ]
  go_wp2_with fail
  refine (k2 _).mono ?_
  rintro e wk ⟨rfl, rfl⟩
  go_wp2_with fail
  refine (HIH.out nn2 (n * (ps 3).length + c + 1) x (y + hf) F2 H2 A2 E2 (vs 2) (ps 2) _ R2.ms P2 (R2.rows 2 (by omega)).1 (fun k hk => ⟨((R2.rows 2 (by omega)).2 k hk).2.2.1, ((R2.rows 2 (by omega)).2 k hk).2.2.2⟩) (hle0 2) HPS.out.2.2.1 (by omega) (by omega) (by omega) (by omega)).mono ?_
  rintro e v3 ⟨id2, rfl, hB⟩
  obtain ⟨A3, E3, F3, H3, nn3, N2, R3, P3, g2, s2, l2, m2⟩ := R2.built hB
  clear hB
  clear d0 d1 d2 d3 z0 z1 z2 z3
  obtain ⟨⟨d0, d1, d2, d3⟩, ⟨z0, z1, z2, z3⟩⟩ := R3.cells
  go_wp2_with fail
  have R3 := R3.set2 id2
  generalize v3.setCell ⟨wp.heap.size, 2, none⟩ (.int .i64 id2) = V3 at *
  clear d0 d1 d2 d3 z0 z1 z2 z3
  obtain ⟨⟨d0, d1, d2, d3⟩, ⟨z0, z1, z2, z3⟩⟩ := R3.cells
  clear p0 p1 p2
  obtain ⟨p0, p1, p2⟩ : V3.cell? ⟨w.heap.size, 9, none⟩ = some (.int .i64 (-1)) ∧ V3.cell? ⟨w.heap.size, 10, none⟩ = some (.int .i64 0) ∧ V3.cell? ⟨w.heap.size, 11, none⟩ = some (.int .i64 0) := HPC.out _ R3.ap 3 (by omega)
  have P3 : PS t A3 E3 (n * (ps 3).length + (c + 1) + (45 - E3.length)) nn3 := P3.less (by omega)
  rw [rounds_succ]
  go_wp2_with fail
  refine (k3 _).mono ?_
  rintro e wk ⟨rfl, rfl⟩
  go_wp2_with fail
  refine (HIH.out nn3 (c + 1) (x + hf) (y + hf) F3 H3 A3 E3 (vs 3) (ps 3) _ R3.ms P3 (R3.rows 3 (by omega)).1 (fun k hk => ⟨((R3.rows 3 (by omega)).2 k hk).2.2.1, ((R3.rows 3 (by omega)).2 k hk).2.2.2⟩) (hle0 3) HPS.out.2.2.2 (by omega) (by omega) (by omega) (by omega)).mono ?_
  rintro e v4 ⟨id3, rfl, hB⟩
  obtain ⟨A4, E4, F4, H4, nn4, N3, R4, P4, g3, s3, l3, m3⟩ := R3.built hB
  clear hB
  clear d0 d1 d2 d3 z0 z1 z2 z3
  obtain ⟨⟨d0, d1, d2, d3⟩, ⟨z0, z1, z2, z3⟩⟩ := R4.cells
  go_wp2_with fail
  have R4 := R4.set3 id3
  generalize v4.setCell ⟨wp.heap.size, 3, none⟩ (.int .i64 id3) = V4 at *
  clear d0 d1 d2 d3 z0 z1 z2 z3
  obtain ⟨⟨d0, d1, d2, d3⟩, ⟨z0, z1, z2, z3⟩⟩ := R4.cells
  rw [rounds_succ]
  go_wp2_with fail
  rw [HPART.out] at m0 m1 m2 m3
  have hfour := four_done (c := c) (nn := nn4) (X := x + hf) (Y := y + hf) (zs := zs) hn ht g0 g1 g2 g3 s0 s1 s2 s3 l0 l1 l2 l3 m0 (by rw [← HHF.out]; exact m1) (by rw [← HHF.out]; exact m2) (by rw [← HHF.out]; exact m3) P1.inv P2.inv P3.inv (P4.less (by omega))
  obtain ⟨f1, f2, ⟨N, f3, f4⟩, f5, f6, f7, f8, f9, f10⟩ := hfour
  obtain ⟨v4, hand4, hrow4, hHb4, hHv4, hvb4, _⟩ := id R4.ms.hand
  have hY := P4.pur.bud.young
  have fit : ∀ {id : Int}, levelF A4.ths t id = some (n : Int) → Fits id := fun h => by
    have := level_fits h hY.few
    exact ⟨by omega, by omega⟩
  have hnn4 := P4.pur.nn
  have HJ := hjoin_any hb b nn4 t id0 id1 id2 id3 v4 F4 A4 V4 hand4 R4.ms.ar (fun e => R4.ms.dis hb e hHb4) hY ht (fit f7) (fit f8) (fit f9) (fit f10) (by omega) (fun l hl => by rw [f7] at hl; cases hl; omega)
  unfold quad4 at HJ
  rw [f1] at HJ
  refine HJ.mono ?_
  rintro e w9 ⟨rfl, hand9, hA9, P9⟩
  obtain ⟨j1, j2, j3⟩ := R4.joined hrow4 hHb4 hHv4 hvb4 hand9 hA9 P9
  go_wp2_with fail
  go_ret
  exact ⟨_, rfl, BOut.ahead HBP.out ⟨_, E4, _, H4, nn4 + 1, N, j1, j2, j3, f2, f3, f4, f5, f6⟩⟩

set_option maxRecDepth 20000 in
set_option maxHeartbeats 4000000 in
theorem build_step (n : Nat) (ih : BSpec n) (hb b t nn c : Nat) (x y level : Int) (F H : Nat → Prop) (A : Ar) (E : List Int) (vb off cp : Nat) (zs : List (Int × Int)) (w : World) (hn : n < 44) (hlev : level = ((n + 1 : Nat) : Int)) (hM : MS w hb b t nn F H A E) (hP : PS t A E ((n + 1) * zs.length + c + (45 - E.length)) nn) (ht : t < 64) (hvl : vb < w.heap.size) (hold : HoldsR w vb off zs) (hz : zs ≠ []) (hlen : zs.length ≤ 4096)
    (hin : ∀ p ∈ zs, x ≤ p.1 ∧ p.1 < x + ((2 ^ (n + 1) : Nat) : Int) ∧ y ≤ p.2 ∧ p.2 < y + ((2 ^ (n + 1) : Nat) : Int)) (hx0 : -1152921504606846976 ≤ x) (hx1 : x + ((2 ^ (n + 1) : Nat) : Int) ≤ 1152921504606846976) (hy0 : -1152921504606846976 ≤ y) (hy1 : y + ((2 ^ (n + 1) : Nat) : Int) ≤ 1152921504606846976) :
    Calls Try.prog 106 #[.pointer (some ⟨hb, 0, none⟩), bareV, .slice (some ⟨vb, off, none⟩) zs.length cp, .int .i64 level, .int .i64 x, .int .i64 y] w fun e w' => ∃ id, e = .returned (.int .i64 id) ∧ BOut w hb b t c (n + 1) F H A x y zs id w' := by
  have hb0 : Below w.heap.size w (w.alloc (.cells #[.int .i64 (-1), .int .i64 0, .int .i64 0] 154)) := (Below.refl _ _).alloc (Nat.le_refl _) _
  have g0 : (w.alloc (.cells #[.int .i64 (-1), .int .i64 0, .int .i64 0] 154)).cell? ⟨w.heap.size, 0, none⟩ = some (.int .i64 (-1)) := by rw [World.cell?_alloc_new]; rfl
  have g1 : (w.alloc (.cells #[.int .i64 (-1), .int .i64 0, .int .i64 0] 154)).cell? ⟨w.heap.size, 1, none⟩ = some (.int .i64 0) := by rw [World.cell?_alloc_new]; rfl
  have g2 : (w.alloc (.cells #[.int .i64 (-1), .int .i64 0, .int .i64 0] 154)).cell? ⟨w.heap.size, 2, none⟩ = some (.int .i64 0) := by rw [World.cell?_alloc_new]; rfl
  generalize hw1 : w.alloc (.cells #[.int .i64 (-1), .int .i64 0, .int .i64 0] 154) = w1 at *
  have hM1 := hM.below hb0
  have HL : Hid (∀ W, Below w1.heap.size w1 W → Calls Try.prog 128 #[.pointer (some ⟨hb, 0, none⟩), bare4, .slice (some ⟨vb, off, none⟩) zs.length cp, .int .i64 level, .int .i64 x, .int .i64 y] W fun e w' => ∃ id, e = .returned (.int .i64 id) ∧ BOut w hb b t c (n + 1) F H A x y zs id w') := fun W hW => by
    have hbW : Below w.heap.size w W := hb0.trans (hW.mono hb0.size)
    refine (lit_step n ih hb b t nn c x y level F H A E vb off cp zs W hn hlev (hM.below hbW) hP ht (Nat.lt_of_lt_of_le hvl hbW.size) (fun j hj => ?_) hz hlen hin hx0 hx1 hy0 hy1).mono fun e w' ⟨id, he, hR⟩ => ⟨id, he, hR.ahead hbW⟩
    obtain ⟨a1, a2⟩ := hold j hj
    exact ⟨(World.cell?_of_block (a := ⟨vb, off + j * 2, none⟩) (hbW.block vb hvl)).trans a1, (World.cell?_of_block (a := ⟨vb, off + j * 2 + 1, none⟩) (hbW.block vb hvl)).trans a2⟩
  obtain ⟨v, hh, _⟩ := hM1.hand
  have c2 := hh.c2
  have hl0 : 0 < zs.length := List.length_pos_iff.2 hz
  have hl1 : ((zs.length : Int) == 0) = false := by simp; omega
  have hlv0 : (level == 0) = false := by simp; omega
  have hbb := fun W => below_bare hb W
  unfold bareV at hbb ⊢
  clear hlev hM hM1 hP hin hold ih hb0
  generalize zs.length = len at *
  go_enter Try.func106, Try.ntmps106
  go_wp2_with fail
  refine (hbb _).mono ?_
  rintro e w2 ⟨rfl, hb2⟩
  go_wp2_with fail
  refine (HL.out _ hb2).mono ?_
  rintro e w3 ⟨id, rfl, hR⟩
  go_wp2_with fail
  go_ret
  exact ⟨id, rfl, hR⟩

/-- the closure builds the square of the cells -/
theorem build_any : ∀ n, BSpec n
  | 0 => by
    intro hb b t nn c x y level F H A E v zs w hn hlev hM hP ht hrow hvb hlen hin _ _ _ _
    subst hlev
    by_cases h0 : zs = []
    · subst h0
      obtain ⟨a, cp, rfl, _⟩ := hrow
      exact build_nil hb b t nn c 0 x y 0 F H A E a cp w (by omega) rfl hM (hP.less (by omega)) ht
    · exact build_one hb b t nn c x y F H A E v zs w hM (hP.less (by omega)) hrow h0 (by simpa using hin)
  | n + 1 => by
    intro hb b t nn c x y level F H A E v zs w hn hlev hM hP ht hrow hvb hlen hin hx0 hx1 hy0 hy1
    by_cases h0 : zs = []
    · subst h0
      obtain ⟨a, cp, rfl, _⟩ := hrow
      exact build_nil hb b t nn c (n + 1) x y level F H A E a cp w hn hlev hM (hP.less (by omega)) ht
    · obtain ⟨a, cp, rfl, h | ⟨vb, off, rfl, hvl, hold⟩⟩ := hrow
      · exact absurd h h0
      · exact build_step n (build_any n) hb b t nn c x y level F H A E vb off cp zs w (by omega) hlev hM hP ht hvl hold h0 hlen hin hx0 hx1 hy0 hy1
end Go.Proofs.Ythobobgiendcfaa.A
