/- rule.Read: the rule of a text. -/
import Derived.Test.YtpldnhlancjlnaaDoorText
import Derived.Test.YtpldnhlancjlnaaDoorRead
namespace Go.Proofs.YtpldnhlancjlnaaDoor
open Go.RowKit

/-- a rule in its block, free to be written -/
def RuleIn (w : World) (x y : Int) (wr : World) : Prop :=
  wr.cell? ⟨w.heap.size, 0, none⟩ = some (.int .i64 x) ∧ wr.cell? ⟨w.heap.size, 1, none⟩ = some (.int .i64 y) ∧ wr.frozen? ⟨w.heap.size, 0, none⟩ = false ∧ wr.frozen? ⟨w.heap.size, 1, none⟩ = false ∧ w.heap.size < wr.heap.size ∧ Below w.heap.size w wr
theorem RuleIn.born (w : World) (x y : Int) (t : TypeId) : RuleIn w x y (w.alloc (.cells #[.int .i64 x, .int .i64 y] t)) :=
  ⟨by rw [World.cell?_alloc_new]; rfl, by rw [World.cell?_alloc_new]; rfl, by simp [World.frozen?_alloc_new], by simp [World.frozen?_alloc_new], by simp, (Below.refl _ _).alloc (Nat.le_refl _) _⟩
theorem RuleIn.go {w w1 w2 : World} {x y : Int} (h : RuleIn w x y w1) (hb : Below w1.heap.size w1 w2) : RuleIn w x y w2 := by
  obtain ⟨h1, h2, h3, h4, h5, h6⟩ := h
  refine ⟨(hb.cell (p := ⟨w.heap.size, 0, none⟩) h5).trans h1, (hb.cell (p := ⟨w.heap.size, 1, none⟩) h5).trans h2, ?_, ?_, Nat.lt_of_lt_of_le h5 hb.size, h6.trans (hb.mono (Nat.le_of_lt h5))⟩
  · rw [hb.frozen (p := ⟨w.heap.size, 0, none⟩) h5]; exact h3
  · rw [hb.frozen (p := ⟨w.heap.size, 1, none⟩) h5]; exact h4
theorem RuleIn.set {w w1 : World} {x y : Int} (h : RuleIn w x y w1) (x' y' : Int) : RuleIn w x' y' ((w1.setCell ⟨w.heap.size, 0, none⟩ (.int .i64 x')).setCell ⟨w.heap.size, 1, none⟩ (.int .i64 y')) := by
  obtain ⟨h1, h2, h3, h4, h5, h6⟩ := h
  have s1 : (w1.setCell ⟨w.heap.size, 0, none⟩ (.int .i64 x')).cell? ⟨w.heap.size, 1, none⟩ = some (.int .i64 y) := by rw [World.cell?_setCell_other _ _ _ _ (by simp)]; exact h2
  refine ⟨?_, World.cell?_setCell_same _ _ _ s1, ?_, ?_, by simpa [World.setCell] using h5, (h6.setCell (Nat.le_refl _) _).setCell (Nat.le_refl _) _⟩
  · rw [World.cell?_setCell_other _ _ _ _ (by simp)]; exact World.cell?_setCell_same _ _ _ h1
  · rw [World.frozen?_setCell, World.frozen?_setCell]; exact h3
  · rw [World.frozen?_setCell, World.frozen?_setCell]; exact h4
theorem below_drewN' (w : World) (q : Nat) : Below w.heap.size w (w.drewN q) := ⟨rfl, rfl, rfl, Nat.le_refl _, fun _ _ => rfl⟩
end Go.Proofs.YtpldnhlancjlnaaDoor

namespace Go.Proofs.YtpldnhlancjlnaaDoor
open Go.RowKit

/-- what Read answers: both sets, and the error -/
def readF (L : List UInt8) : Int × Int × Int :=
  let c := Lib.cut (Lib.trimPrefix L [66]) [47, 83]
  if Lib.hasPrefix L [66] && c.2.2 && (numF 0 c.1).isSome && (numF 0 c.2.1).isSome then
    (if hasB ((numF 0 c.1).getD 0) 0 then (0, 0, 4) else ((numF 0 c.1).getD 0, (numF 0 c.2.1).getD 0, 0))
  else (0, 0, 2)

theorem trim_length (L : List UInt8) : (Lib.trimPrefix L [66]).length ≤ L.length := by
  unfold Lib.trimPrefix
  split
  · rw [List.length_drop]; omega
  · omega
theorem cut_length (L sep : List UInt8) : (Lib.cut L sep).1.length ≤ L.length ∧ (Lib.cut L sep).2.1.length ≤ L.length := by
  unfold Lib.cut
  split
  · simp only [List.length_take, List.length_drop]; omega
  · simp

theorem cell_lt {w : World} {a : Addr} {v : Value} (h : w.cell? a = some v) : a.block < w.heap.size := by
  rcases Nat.lt_or_ge a.block w.heap.size with h' | h'
  · exact h'
  · simp [World.cell?, Array.getElem?_eq_none h'] at h

set_option linter.unusedSimpArgs false in
set_option maxRecDepth 4000 in
set_option maxHeartbeats 2000000 in
theorem read_any (s : ByteArray) (m : Int) (w : World) (hs : s.size < 4294967281) (hm : w.cell? ⟨0, 0, none⟩ = some (.int .i64 m)) :
    Calls Tryd.prog 57 #[.string s] w fun e w' => e = .returned (.tuple #[.agg #[.int .i64 (readF s.data.toList).1, .int .i64 (readF s.data.toList).2.1], .int .i64 (readF s.data.toList).2.2]) ∧ Below w.heap.size w w' := by
  obtain ⟨L, hL⟩ : ∃ L, L = s.data.toList := ⟨_, rfl⟩
  have hsl : L.length < 4294967281 := by rw [hL, ← Lib.size_eq]; exact hs
  have hcp := fun W => Any.strings_CutPrefix Tryd.cutPrefix s ⟨#[66]⟩ W
  have hct := fun W (h : W.cell? ⟨0, 0, none⟩ = some (.int .i64 m)) => Any.strings_Cut Tryd.cutStr ⟨(Lib.trimPrefix L [66]).toArray⟩ ⟨#[47, 83]⟩ m W (by have := trim_length L; show (Lib.trimPrefix L [66]).toArray.size < _; rw [List.size_toArray]; omega) h
  have hrf : readF L = readF L := rfl
  rw [← hL] at hcp ⊢
  have e1 : (⟨#[66]⟩ : ByteArray).data.toList = [66] := rfl
  have e2 : (⟨#[47, 83]⟩ : ByteArray).data.toList = [47, 83] := rfl
  have e3 : (⟨(Lib.trimPrefix L [66]).toArray⟩ : ByteArray).data.toList = Lib.trimPrefix L [66] := rfl
  rw [e1] at hcp
  simp only [e2, e3] at hct
  have hl1 := trim_length L
  obtain ⟨hl2, hl3⟩ := cut_length (Lib.trimPrefix L [66]) [47, 83]
  have hrd : readF L = (if Lib.hasPrefix L [66] && (Lib.cut (Lib.trimPrefix L [66]) [47, 83]).2.2 && (numF 0 (Lib.cut (Lib.trimPrefix L [66]) [47, 83]).1).isSome && (numF 0 (Lib.cut (Lib.trimPrefix L [66]) [47, 83]).2.1).isSome then
    (if hasB ((numF 0 (Lib.cut (Lib.trimPrefix L [66]) [47, 83]).1).getD 0) 0 then (0, 0, 4) else ((numF 0 (Lib.cut (Lib.trimPrefix L [66]) [47, 83]).1).getD 0, (numF 0 (Lib.cut (Lib.trimPrefix L [66]) [47, 83]).2.1).getD 0, 0)) else (0, 0, 2)) := rfl
  generalize Lib.hasPrefix L [66] = begun at *
  generalize Lib.trimPrefix L [66] = S1 at *
  generalize Lib.cut S1 [47, 83] = C at *
  obtain ⟨c1, c2, c3⟩ := C
  simp only at hct hl2 hl3 hrd
  have hn1 := fun W => numbers_any ⟨c1.toArray⟩ W (by show c1.toArray.size ≤ _; rw [List.size_toArray]; omega)
  have hn2 := fun W => numbers_any ⟨c2.toArray⟩ W (by show c2.toArray.size ≤ _; rw [List.size_toArray]; omega)
  have e4 : (⟨c1.toArray⟩ : ByteArray).data.toList = c1 := rfl
  have e5 : (⟨c2.toArray⟩ : ByteArray).data.toList = c2 := rfl
  simp only [e4] at hn1
  simp only [e5] at hn2
  have hhas := fun W => has_any ((numF 0 c1).getD 0) 0 W (by omega)
  generalize (numF 0 c1).getD 0 = x1 at *
  generalize (numF 0 c1).isSome = o1 at *
  generalize (numF 0 c2).getD 0 = x2 at *
  generalize (numF 0 c2).isSome = o2 at *
  generalize readF L = R at *
  clear e1 e2 e3 e4 e5 hrf hl1 hl2 hl3 hsl hs
  go_enter Tryd.func57, Tryd.ntmps57
  go_wp2_with fail
  refine (hcp _).mono ?_
  rintro e w1 ⟨rfl, hw⟩
  have hw2 := hw.symm
  subst hw2
  clear hw
  have h0 : 0 < w.heap.size := cell_lt hm
  have q0 := RuleIn.born w 0 0 24
  have hm1 : (w.alloc (.cells #[.int .i64 0, .int .i64 0] 24)).cell? ⟨0, 0, none⟩ = some (.int .i64 m) := by rw [World.cell?_alloc_past _ _ _ h0]; exact hm
  go_wp2_with fail
  refine (hct _ hm1).mono ?_
  rintro e w2 ⟨rfl, dn, hw⟩
  have c2 : Below (w.alloc (.cells #[.int .i64 0, .int .i64 0] 24)).heap.size (w.alloc (.cells #[.int .i64 0, .int .i64 0] 24)) w2 := by rw [hw]; exact below_drewN' _ _
  have q2 := q0.go c2
  clear hw c2 q0 hcp hct hm1
  go_wp2_with fail
  refine (hn1 _).mono ?_
  rintro e w3 ⟨rfl, c3⟩
  have q3 := q2.go c3
  clear q2
  go_wp2_with fail
  refine (hn2 _).mono ?_
  rintro e w4 ⟨rfl, c4⟩
  have q4 := q3.go c4
  clear q3 c3 c4
  obtain ⟨f0, f1, g0, g1, gl, b4⟩ := id q4
  cases begun
  · simp only [Bool.false_and, Bool.false_eq_true, if_false] at hrd
    go_wp2_with fail
    obtain ⟨SA, SB, _⟩ := q4.set 0 0
    refine bodyPost_ret (v := .tuple #[.agg #[.int .i64 0, .int .i64 0], .int .i64 2]) ?_ rfl ⟨by rw [hrd], ?_⟩
    · simp [results, Tryd.results57, go_sem, SA, SB]
    · exact (q4.set 0 0).2.2.2.2.2
  cases c3
  · simp only [Bool.and_false, Bool.false_and, Bool.false_eq_true, if_false] at hrd
    go_wp2_with fail
    obtain ⟨SA, SB, _⟩ := q4.set 0 0
    refine bodyPost_ret (v := .tuple #[.agg #[.int .i64 0, .int .i64 0], .int .i64 2]) ?_ rfl ⟨by rw [hrd], ?_⟩
    · simp [results, Tryd.results57, go_sem, SA, SB]
    · exact (q4.set 0 0).2.2.2.2.2
  cases o1
  · simp only [Bool.and_false, Bool.false_and, Bool.false_eq_true, if_false] at hrd
    go_wp2_with fail
    obtain ⟨SA, SB, _⟩ := q4.set 0 0
    refine bodyPost_ret (v := .tuple #[.agg #[.int .i64 0, .int .i64 0], .int .i64 2]) ?_ rfl ⟨by rw [hrd], ?_⟩
    · simp [results, Tryd.results57, go_sem, SA, SB]
    · exact (q4.set 0 0).2.2.2.2.2
  cases o2
  · simp only [Bool.and_false, Bool.false_eq_true, if_false] at hrd
    go_wp2_with fail
    obtain ⟨SA, SB, _⟩ := q4.set 0 0
    refine bodyPost_ret (v := .tuple #[.agg #[.int .i64 0, .int .i64 0], .int .i64 2]) ?_ rfl ⟨by rw [hrd], ?_⟩
    · simp [results, Tryd.results57, go_sem, SA, SB]
    · exact (q4.set 0 0).2.2.2.2.2
  simp only [Bool.and_self, if_true] at hrd
  cases hh : hasB x1 0
  · rw [hh, if_neg (by simp)] at hrd
    rw [hh] at hhas
    go_wp2_with fail
    refine (hhas _).mono ?_
    rintro e w5 ⟨rfl, hw⟩
    have hw2 := hw.symm
    subst hw2
    clear hw
    go_wp2_with fail
    obtain ⟨SA, SB, _⟩ := q4.set x1 x2
    refine bodyPost_ret (v := .tuple #[.agg #[.int .i64 x1, .int .i64 x2], .int .i64 0]) ?_ rfl ⟨by rw [hrd], ?_⟩
    · simp [results, Tryd.results57, go_sem, SA, SB]
    · exact (q4.set x1 x2).2.2.2.2.2
  · rw [hh, if_pos rfl] at hrd
    rw [hh] at hhas
    go_wp2_with fail
    refine (hhas _).mono ?_
    rintro e w5 ⟨rfl, hw⟩
    have hw2 := hw.symm
    subst hw2
    clear hw
    go_wp2_with fail
    obtain ⟨SA, SB, _⟩ := q4.set 0 0
    refine bodyPost_ret (v := .tuple #[.agg #[.int .i64 0, .int .i64 0], .int .i64 4]) ?_ rfl ⟨by rw [hrd], ?_⟩
    · simp [results, Tryd.results57, go_sem, SA, SB]
    · exact (q4.set 0 0).2.2.2.2.2
end Go.Proofs.YtpldnhlancjlnaaDoor
