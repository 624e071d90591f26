/- Steps, of a good rule and of a number of steps that is one. -/
import Derived.Test.YtofbcngcblleaaaGreatLpStepsW
namespace Go.Proofs.YtofbcngcblleaaaGreat.A
open Go.RowKit Go.Maps Go.Proofs.YtofbcngcblleaaaGreat.L

variable {w w1 : World} {o : Nat → Nat} {lb b t : Nat} {rb rl e : Int} {A A' : Ar} {q : Nat → Int} {g : Gr} {PR : (Bool → Nat → Bool) → Int → Prop}
/-- a good rule: its numbers, and that nothing is born of nothing -/
theorem goodR_of (h : goodB rb rl = true) : 0 ≤ rb ∧ rb ≤ 511 ∧ lifeR rb rl false 0 = false := by
  unfold goodB withinB at h
  simp only [Bool.and_eq_true, decide_eq_true_eq, Bool.not_eq_true'] at h
  refine ⟨h.1.1.1, by omega, ?_⟩
  unfold lifeR livesB
  rw [if_neg (by decide)]
  simp only [Bool.false_eq_true, if_false]
  exact h.2
set_option maxRecDepth 20000 in
set_option maxHeartbeats 4000000 in
theorem Steps_rel (hA : ArL w o b A) (hst : NxSt PR t q A) (ht : t < 64) (hgood : goodB rb rl = true) (hP : PR (lifeR rb rl) (rnum rb rl)) (id : Int) (m : Nat) (hm1 : 1 ≤ m) (hm : m ≤ 32) (hrt : Rt A t m id g) (n : Nat) (hn : n ≤ 1073741824)
    (hbig : ∀ s, s ≤ n → ∀ A' m' x', NxSt PR t q A' → Rt A' t m' x' (iter (lifeR rb rl) s g) → m' ≤ 34 → (cellsF A'.ths (m' + 1) x').length < 4611686018427387904) :
    Calls Tryz.prog 17 #[.pointer (some ⟨b, 0, none⟩), .int .i64 t, .agg #[.int .i64 rb, .int .i64 rl], .int .i64 id, .int .i64 n] w fun r w' => ∃ x e', r = .returned (.tuple #[.int .i64 x, .int .i64 e']) ∧ ∃ A' o', ArL w' o' b A' ∧ Ch (fun l => l = 1) o w o' w' ∧ NxSt PR t q A' ∧ StepsR PR rb rl t q A A' g n x e' := by
  obtain ⟨g1, g2, g3⟩ := goodR_of hgood
  have hb0 : Below w.heap.size w (w.alloc (.cells #[.int .i64 rb, .int .i64 rl] 23)) := (Below.refl _ _).alloc (Nat.le_refl _) _
  have hx0 : (w.alloc (.cells #[.int .i64 rb, .int .i64 rl] 23)).heap[w.heap.size]? = some (.cells #[.int .i64 rb, .int .i64 rl] 23 (0, 0)) := heap_alloc_new w _
  have hs0 : w.heap.size < (w.alloc (.cells #[.int .i64 rb, .int .i64 rl] 23)).heap.size := by simp
  generalize hw0 : w.alloc (.cells #[.int .i64 rb, .int .i64 rl] 23) = w0 at *
  have hgd := fun W => good_any rb rl W
  rw [hgood] at hgd
  have hlev : ∀ W, Below w.heap.size w W → Calls Tryz.prog 30 #[.pointer (some ⟨b, 0, none⟩), .int .i64 t, .int .i64 id] W fun e w' => e = .returned (.tuple #[.int .i64 ((m + 1 : Nat) : Int), .int .i64 0]) ∧ Below W.heap.size W w' := fun W hW => by
    obtain ⟨F, hF, _⟩ := hA
    have hflt := hF.flt
    have := LevelP_any b t F id A W (hF.other hW.size fun k hk => hW.block k (hflt k hk)) hst.s ht (lev_fits hst.s hrt.lev)
    have hl : levelF A.ths t id = some ((m + 1 : Nat) : Int) := by rw [levelF_V]; exact hrt.lev
    rw [hl] at this
    exact this
  have hstp : ∀ W, Below w.heap.size w W → Calls Tryz.prog 31 #[.pointer (some ⟨b, 0, none⟩), .int .i64 t, .agg #[.int .i64 rb, .int .i64 rl], .int .i64 id, .int .i64 n] W fun r w' => ∃ x e', r = .returned (.tuple #[.int .i64 x, .int .i64 e']) ∧ ∃ A' o', ArL w' o' b A' ∧ Ch (fun l => l = 1) o w o' w' ∧ NxSt PR t q A' ∧ StepsR PR rb rl t q A A' g n x e' := fun W hW => by
    have c : Ch (fun l => l = 1) o w (ext o w.heap.size 0) W := Ch.ofBelow hW 0
    have cA : ArL W (ext o w.heap.size 0) b A := hA.ch (L := fun _ => False) (Ch.ofBelow hW 0) fun h => h
    refine (steps_rel cA hst ht ⟨g1, hP⟩ g2 g3 id m hm1 hm hrt n (by omega) hbig).mono ?_
    rintro r w' ⟨x, e', rfl, A', o', a1, a2, a3, a4⟩
    exact ⟨x, e', rfl, A', o', a1, c.trans a2, a3, a4⟩
  have HST : Hid (∀ W, Below w.heap.size w W → Calls Tryz.prog 31 #[.pointer (some ⟨b, 0, none⟩), .int .i64 t, .agg #[.int .i64 rb, .int .i64 rl], .int .i64 id, .int .i64 n] W fun r w' => ∃ x e', r = .returned (.tuple #[.int .i64 x, .int .i64 e']) ∧ ∃ A' o', ArL w' o' b A' ∧ Ch (fun l => l = 1) o w o' w' ∧ NxSt PR t q A' ∧ StepsR PR rb rl t q A A' g n x e') := hstp
  have c0 : w0.cell? ⟨w.heap.size, 0, none⟩ = some (.int .i64 rb) := by rw [Lib.cell_of_heap hx0]; rfl
  have c1 : w0.cell? ⟨w.heap.size, 1, none⟩ = some (.int .i64 rl) := by rw [Lib.cell_of_heap hx0]; rfl
  have hnn : 0 ≤ (n : Int) ∧ (n : Int) ≤ 1073741824 := by omega
  have hn0 : ¬ (n : Int) < 0 := by omega
  have hn1 : ¬ (n : Int) > 1073741824 := by omega
  have HKEEP : Hid (∀ W, Below w0.heap.size w0 W → W.cell? ⟨w.heap.size, 0, none⟩ = some (.int .i64 rb) ∧ W.cell? ⟨w.heap.size, 1, none⟩ = some (.int .i64 rl)) := fun W hW => by
    have := (hW.block w.heap.size hs0).trans hx0
    rw [Lib.cell_of_heap this, Lib.cell_of_heap this]
    exact ⟨rfl, rfl⟩
  have HB0 : Hid (Below w.heap.size w w0) := hb0
  have hlm : (2 : Int) ≤ ((m + 1 : Nat) : Int) := by omega
  obtain ⟨LV, hLV⟩ : ∃ L : Int, L = ((m + 1 : Nat) : Int) := ⟨_, rfl⟩
  rw [← hLV] at hlev hlm
  clear hA hst hrt hstp hbig hb0 hx0 hm1 hm hn g1 g2 g3 hgood hP hLV hs0
  go_enter Tryz.func17, Tryz.ntmps17
  go_wp2_with fail
  refine (hgd _).mono ?_
  rintro r w1 ⟨rfl, b1⟩
  obtain ⟨d0, d1⟩ := HKEEP.out _ b1
  have hl1 := hlev w1 (HB0.out.trans (b1.mono HB0.out.size))
  go_wp2_with fail
  refine hl1.mono ?_
  rintro r w2 ⟨rfl, b2⟩
  have b12 := b1.trans (b2.mono b1.size)
  obtain ⟨d20, d21⟩ := HKEEP.out _ b12
  have hs2 := HST.out w2 (HB0.out.trans (b12.mono HB0.out.size))
  go_wp2_with fail
  refine hs2.mono ?_
  rintro r w3 ⟨x, e', rfl, HO⟩
  have HOO : Hid (∃ A' o', ArL w3 o' b A' ∧ Ch (fun l => l = 1) o w o' w3 ∧ NxSt PR t q A' ∧ StepsR PR rb rl t q A A' g n x e') := HO
  clear HO hs2
  go_wp2_with fail
  go_ret2
  exact ⟨x, e', rfl, HOO.out⟩
end Go.Proofs.YtofbcngcblleaaaGreat.A
