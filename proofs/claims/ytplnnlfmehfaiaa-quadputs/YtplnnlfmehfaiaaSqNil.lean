/- The closure that builds, of no cells, and of one place. -/
import Derived.Test.YtplnnlfmehfaiaaSqFour
namespace Go.Proofs.Ytplnnlfmehfaiaa.A
open Go.RowKit Go.Maps

/-- hand.empty where the square is known already -/
theorem empty_there (hb b t m : Nat) (E : List Int) (H : Nat → Prop) (e0 : Int) (w : World) (h : HandIn w hb b t 0 E H) (hi : E[m]? = some e0) (level : Int) (hlev : level = (m : Int)) :
    Calls Try.prog 95 #[.pointer (some ⟨hb, 0, none⟩), .int .i64 level] w fun e w' => e = .returned (.int .i64 e0) ∧ w' = w := by
  obtain ⟨v, h1, hrow, _⟩ := h
  have hlt := (List.getElem?_eq_some_iff.1 hi).1
  obtain ⟨g, cap, hv⟩ : ∃ g c, v = .slice (some ⟨g, 0, none⟩) E.length c := by
    rcases hrow.2 with ⟨_, h2⟩ | ⟨g, cap, cur, h1, _⟩
    · omega
    · exact ⟨_, _, h1⟩
  subst hv
  have c3 := h1.c3
  have ce : w.cell? ⟨g, m, none⟩ = some (.int .i64 e0) := by
    rw [World.ownsRow.cellAt hrow m (by omega), List.getElem?_map, hi]
    rfl
  have hn : ¬ (E.length : Int) ≤ level := by omega
  have hd : decide ((E.length : Int) ≤ level) = false := by simpa using hn
  have hm0 : (0 : Int) ≤ m := by omega
  have hm1 : (m : Int) < (E.length : Int) := by omega
  generalize E.length = len at *
  subst hlev
  go_enter Try.func95, Try.ntmps95
  go_wp2_with fail
  refine wp_loop_rounds 1 ?_
  rw [rounds_succ]
  go_wp2_with fail
  go_ret
  exact ⟨rfl, rfl⟩

/-- what the closure is asked -/
def BSpec (n : Nat) : Prop := ∀ (hb fb b t nn c : Nat) (x y level : Int) (F H : Nat → Prop) (A : Ar) (E : List Int) (v : Value) (zs : List (Int × Int)) (w : World), n ≤ 44 → level = (n : Int) → MS w hb fb b t nn F H A E → PS t A E (n * zs.length + c + (45 - E.length)) nn → t < 64 → RowL w v zs → (∀ k, v.ownBlock = some k → ¬ F k ∧ ¬ H k) → zs.length ≤ 4096 →
  (∀ p ∈ zs, x ≤ p.1 ∧ p.1 < x + ((2 ^ n : Nat) : Int) ∧ y ≤ p.2 ∧ p.2 < y + ((2 ^ n : Nat) : Int)) → -1152921504606846976 ≤ x → x + ((2 ^ n : Nat) : Int) ≤ 1152921504606846976 → -1152921504606846976 ≤ y → y + ((2 ^ n : Nat) : Int) ≤ 1152921504606846976 →
  Calls Try.prog 105 #[v, .int .i64 level, .int .i64 x, .int .i64 y, .pointer (some ⟨hb, 0, none⟩), .pointer (some ⟨fb, 0, none⟩)] w fun e w' => ∃ id, e = .returned (.int .i64 id) ∧ BOut w hb fb b t c n F H A x y zs id w'

theorem build_nil (hb fb b t nn c n : Nat) (x y level : Int) (F H : Nat → Prop) (A : Ar) (E : List Int) (a : Option Addr) (cp : Nat) (w : World) (hn : n ≤ 44) (hlev : level = (n : Int)) (hM : MS w hb fb b t nn F H A E) (hP : PS t A E (c + (45 - E.length)) nn) (ht : t < 64) :
    Calls Try.prog 105 #[.slice a 0 cp, .int .i64 level, .int .i64 x, .int .i64 y, .pointer (some ⟨hb, 0, none⟩), .pointer (some ⟨fb, 0, none⟩)] w fun e w' => ∃ id, e = .returned (.int .i64 id) ∧ BOut w hb fb b t c n F H A x y [] id w' := by
  have hpos := hP.pos
  have key : Calls Try.prog 95 #[.pointer (some ⟨hb, 0, none⟩), .int .i64 level] w fun e w' => ∃ id, e = .returned (.int .i64 id) ∧ BOut w hb fb b t c n F H A x y [] id w' := by
    rcases Nat.lt_or_ge n E.length with hlt | hge
    · have hi : E[n]? = some E[n] := List.getElem?_eq_getElem hlt
      refine (empty_there hb b t n E H _ w hM.hand hi level hlev).mono ?_
      rintro e w' ⟨rfl, rfl⟩
      exact ⟨_, rfl, A, E, F, H, nn, [], hM, fun k hk => Or.inl hk, Apart.refl _ _, hP, Gain.refl t A, fun _ hj => (by cases hj), hP.emp.lv n _ hi, fun p => by rw [emp_cells hP.emp n _ hi]; simp⟩
    · obtain ⟨m0, hm0⟩ : ∃ m0, E.length = m0 + 1 := ⟨E.length - 1, by omega⟩
      obtain ⟨k, hk⟩ : ∃ k, n = m0 + k := ⟨n - m0, by omega⟩
      have hnn := hP.pur.nn
      obtain ⟨s1, s2, ⟨N, g, gN⟩, s4⟩ := ps_empties (k := c + (45 - (E.length + k))) ht k (hP.less (by omega)) (by omega)
      have hl := emptyN_length t (A, E) k
      simp only at hl
      refine (empty_any hb b nn t m0 k F H (A, E) w hM.ar hM.hand hM.dis s1 ht (by omega) hm0 (by omega) level (by rw [hlev, hk])).mono ?_
      rintro e w' ⟨rfl, F', H', hA', hH', hd', hs', hP'⟩
      have hid : (emptyN t (A, E) k).2[n]? = some (nth (emptyN t (A, E) k).2 (m0 + k)) := by
        unfold nth
        rw [hk, getElem!_pos _ (m0 + k) (by rw [hl]; omega)]
        exact List.getElem?_eq_getElem _
      have hfl := hM.fblt
      refine ⟨_, rfl, (emptyN t (A, E) k).1, (emptyN t (A, E) k).2, F', H', nn + k, N, ⟨hA', hH', hd', ?_, fun e => ?_, fun e => ?_⟩, hs', hP', ?_, g, fun j hj => ?_, s2.emp.lv n _ hid, fun p => by rw [emp_cells s2.emp n _ hid]; simp⟩
      · refine (World.cell?_of_block (a := ⟨fb, 0, none⟩) (hP'.block fb hfl ?_)).trans hM.fn
        rintro (e | e)
        · exact hM.nF e
        · exact hM.nH e
      · rcases hs' fb (Or.inl e) with (h | h) | h
        · exact hM.nF h
        · exact hM.nH h
        · omega
      · rcases hs' fb (Or.inr e) with (h | h) | h
        · exact hM.nF h
        · exact hM.nH h
        · omega
      · rw [hl]; exact s2
      · obtain ⟨i, hi, he⟩ := gN j hj
        exact emp_sub s2.emp he (n - i) _ (by rw [show i + (n - i) = n by omega]; exact hid)
  have hM2 := hM
  obtain ⟨v, hh, _⟩ := hM.hand
  have c2 := hh.c2
  clear hlev
  go_enter Try.func105, Try.ntmps105
  go_wp2_with fail
  refine key.mono ?_
  rintro e w1 ⟨id, rfl, hR⟩
  go_wp2_with fail
  go_ret
  exact ⟨id, rfl, hR⟩

theorem build_one (hb fb b t nn c : Nat) (x y : Int) (F H : Nat → Prop) (A : Ar) (E : List Int) (v : Value) (zs : List (Int × Int)) (w : World) (hM : MS w hb fb b t nn F H A E) (hP : PS t A E (c + (45 - E.length)) nn) (hrow : RowL w v zs) (h0 : zs ≠ []) (hin : ∀ p ∈ zs, x ≤ p.1 ∧ p.1 < x + 1 ∧ y ≤ p.2 ∧ p.2 < y + 1) :
    Calls Try.prog 105 #[v, .int .i64 0, .int .i64 x, .int .i64 y, .pointer (some ⟨hb, 0, none⟩), .pointer (some ⟨fb, 0, none⟩)] w fun e w' => ∃ id, e = .returned (.int .i64 id) ∧ BOut w hb fb b t c 0 F H A x y zs id w' := by
  have fin : BOut w hb fb b t c 0 F H A x y zs 1 w := by
    refine ⟨A, E, F, H, nn, [], hM, fun k hk => Or.inl hk, Apart.refl _ _, hP, Gain.refl t A, fun _ hj => (by cases hj), rfl, fun p => ?_⟩
    obtain ⟨p0, hp0⟩ := List.exists_mem_of_ne_nil zs h0
    have e0 := hin p0 hp0
    have : p ∈ cellsF A.ths 0 1 ↔ p = (0, 0) := by simp [cellsF]
    rw [this]
    constructor
    · rintro rfl
      have : p0 = (0 + x, 0 + y) := Prod.ext (by show p0.1 = 0 + x; omega) (by show p0.2 = 0 + y; omega)
      rw [← this]; exact hp0
    · intro h
      have := hin _ h
      simp only at this
      exact Prod.ext (by show p.1 = 0; omega) (by show p.2 = 0; omega)
  obtain ⟨a, cp, rfl, _⟩ := hrow
  obtain ⟨v, hh, _⟩ := hM.hand
  have c2 := hh.c2
  have hl0 : 0 < zs.length := List.length_pos_iff.2 h0
  have hl1 : ((zs.length : Int) == 0) = false := by simp; omega
  generalize zs.length = len at *
  go_enter Try.func105, Try.ntmps105
  go_wp2_with fail
  go_ret
  exact ⟨1, rfl, fin⟩
end Go.Proofs.Ytplnnlfmehfaiaa.A
