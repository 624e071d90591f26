/- Steps. -/
import Derived.Test.YtofbcngcblleaaaGreatLpLeap
import Derived.Test.YtofbcngcblleaaaGreatLpBack
import Derived.Test.YtofbcngcblleaaaGreatLpGood
namespace Go.Proofs.YtofbcngcblleaaaGreat.A
open Go.RowKit Go.Maps Go.Proofs.YtofbcngcblleaaaGreat.L

variable {w w1 : World} {o : Nat → Nat} {lb b t : Nat} {rb rl e : Int} {A A' : Ar} {q : Nat → Int} {g : Gr} {PR : (Bool → Nat → Bool) → Int → Prop} {S : Item → Prop}
def lin (o : Nat → Nat) (s h : Nat) : Nat → Nat := fun k => if k < s then (if o k = 1 then 1 else 0) else if k = h then 2 else 0
theorem LS.born (hA : ArL w o b A) (hb1 : Below w.heap.size w w1) :
    LS (w1.alloc (.cells #[.pointer (some ⟨b, 0, none⟩), .int .i64 t, .int .i64 rb, .int .i64 rl, .int .i64 0] 103)) (lin o w.heap.size w1.heap.size) w1.heap.size b t rb rl 0 A ∧ Below w.heap.size w (w1.alloc (.cells #[.pointer (some ⟨b, 0, none⟩), .int .i64 t, .int .i64 rb, .int .i64 rl, .int .i64 0] 103)) := by
  have b2 : Below w.heap.size w (w1.alloc (.cells #[.pointer (some ⟨b, 0, none⟩), .int .i64 t, .int .i64 rb, .int .i64 rl, .int .i64 0] 103)) := hb1.alloc hb1.size _
  have hs := hb1.size
  obtain ⟨F, hF, hF1⟩ := hA
  have hflt := hF.flt
  refine ⟨⟨heap_alloc_new w1 _, ?_, F, hF.other b2.size fun k hk => b2.block k (hflt k hk), fun k hk => ?_⟩, b2⟩
  · unfold lin
    rw [if_neg (by omega), if_pos rfl]
  · unfold lin
    rw [if_pos (hflt k hk), if_pos (hF1 k hk)]
theorem lp_out {h : Nat} {w9 : World} {o9 : Nat → Nat} (hb1 : Below w.heap.size w w1) (hc : Ch AL (lin o w.heap.size h) w1 o9 w9) (hA : ArL w9 o9 b A) : ArL w9 (hout o o9 w.heap.size) b A ∧ Ch (fun l => l = 1) o w (hout o o9 w.heap.size) w9 := by
  have hs := hb1.size
  refine ⟨?_, hc.os.trans hb1.os, hc.tape.trans hb1.tape, hc.output.trans hb1.output, Nat.le_trans hs hc.size, fun k hk => by unfold hout; rw [if_pos hk], fun k hk hn => ?_⟩
  · obtain ⟨F, h1, h2⟩ := hA
    refine ⟨F, h1, fun k hk => ?_⟩
    have h3 := h2 k hk
    unfold hout
    split
    · rename_i hlt
      have h4 := hc.lab k (by omega)
      unfold lin at h4
      rw [if_pos hlt, h3] at h4
      split at h4
      · assumption
      · cases h4
    · first | rfl | rw [if_pos h3]
  · refine (hc.block k (by omega) ?_).trans (hb1.block k hk)
    unfold lin AL
    rw [if_pos hk, if_neg hn]
    omega
/-- what is made on the way of n steps -/
def WayD (R : Bool → Nat → Bool) (rn : Int) (S : Item → Prop) (g : Gr) (n i : Nat) (it : Item) : Prop := ∃ j, j < i ∧ n / 2 ^ j % 2 = 1 ∧ LeapD R rn S (iter R (n % 2 ^ j) g) j it
def StepsD (R : Bool → Nat → Bool) (rn : Int) (S : Item → Prop) (g : Gr) (n : Nat) (it : Item) : Prop := WayD R rn S g n 31 it ∨ PeelP (iter R n g) it
/-- what n steps leave -/
def StepsR (PR : (Bool → Nat → Bool) → Int → Prop) (rb rl : Int) (t : Nat) (q : Nat → Int) (A A' : Ar) (g : Gr) (n : Nat) (x e' : Int) : Prop :=
  (Er e' ∧ x = 0 ∧ (∀ u, view A' u = view A u) ∧ ∃ A1, NxSt PR t q A1 ∧ Gx t A A1 0 e' (StepsD (lifeR rb rl) (rnum rb rl) (Has (view A t)) g n)) ∨ (e' = 0 ∧ Gx t A A' 0 0 (StepsD (lifeR rb rl) (rnum rb rl) (Has (view A t)) g n) ∧ ∃ N, LeastG (N + 1) (iter (lifeR rb rl) n g) ∧ Rt A' t N x (iter (lifeR rb rl) n g))
/-- what is known from leap to leap -/
structure SG (PR : (Bool → Nat → Bool) → Int → Prop) (rb rl : Int) (t : Nat) (q : Nat → Int) (A0 A : Ar) (e : Int) (m n i : Nat) (g : Gr) (x : Int) : Prop where
  st : NxSt PR t q A
  gx : Gx t A0 A 0 e (WayD (lifeR rb rl) (rnum rb rl) (Has (view A0 t)) g n i)
  er : e = 0 ∨ Er e
  rt : e = 0 → ∃ m', 1 ≤ m' ∧ m' ≤ max m i + 2 ∧ Rt A t m' x (iter (lifeR rb rl) (n % 2 ^ i) g)
  cl : e = 0 → Cl (lifeR rb rl) (rnum rb rl) (Has (view A0 t)) (view A t)
theorem least_le {N M : Nat} (h : LeastG N g) (hM : 1 ≤ M) (hf : ∀ X Y, g X Y = true → -(2 ^ M) ≤ X ∧ X < 2 ^ M ∧ -(2 ^ M) ≤ Y ∧ Y < 2 ^ M) : N ≤ M + 1 := by
  rcases Nat.lt_or_ge (M + 1) N with h1 | h1
  · exact absurd hf (h.least (M + 1) (by omega) h1)
  · exact h1
theorem bit_one {n i : Nat} (h : n / 2 ^ i % 2 = 1) : n % 2 ^ (i + 1) = n % 2 ^ i + 2 ^ i := by
  rw [Nat.pow_succ, Nat.mod_mul, h, Nat.mul_one]
theorem bit_zero {n i : Nat} (h : n / 2 ^ i % 2 = 0) : n % 2 ^ (i + 1) = n % 2 ^ i := by
  rw [Nat.pow_succ, Nat.mod_mul, h, Nat.mul_zero, Nat.add_zero]
theorem SG.skip {A0 : Ar} {m n i : Nat} {x : Int} (h : SG PR rb rl t q A0 A e m n i g x) (hb : n / 2 ^ i % 2 = 0) : SG PR rb rl t q A0 A e m n (i + 1) g x := by
  refine ⟨h.st, h.gx.eqv (fun _ it => ⟨fun ⟨j, h1, h2⟩ => ⟨j, by omega, h2⟩, fun ⟨j, h1, h2, h3⟩ => ?_⟩) (.inl rfl), h.er, fun e0 => ?_, h.cl⟩
  · rcases Nat.lt_or_ge j i with h4 | h4
    · exact ⟨j, h4, h2, h3⟩
    · have : j = i := by omega
      subst this
      omega
  · obtain ⟨m', a1, a2, a3⟩ := h.rt e0
    rw [bit_zero hb]
    exact ⟨m', a1, by omega, a3⟩
theorem SG.leap {A0 A2 : Ar} {m n i m' : Nat} {x y e2 : Int} (h : SG PR rb rl t q A0 A e m n i g x) (ht : t < 64) (hb : n / 2 ^ i % 2 = 1) (hR : lifeR rb rl false 0 = false) (hm : 1 ≤ m) (hg : ∀ X Y, g X Y = true → -(2 ^ m) ≤ X ∧ X < 2 ^ m ∧ -(2 ^ m) ≤ Y ∧ Y < 2 ^ m)
    (s2 : NxSt PR t q A2) (g2 : Gx t A A2 e e2 (LeapD (lifeR rb rl) (rnum rb rl) (Has (view A0 t)) (iter (lifeR rb rl) (n % 2 ^ i) g) i)) (d2 : Er e2 ∨ (e2 = 0 ∧ e = 0 ∧ LeapG rb rl (Has (view A0 t)) t m' i (iter (lifeR rb rl) (n % 2 ^ i) g) y A2)) : SG PR rb rl t q A0 A2 e2 m n (i + 1) g y := by
  refine ⟨s2, Gx.seq h.st ht h.er h.gx g2 (fun it ⟨j, h1, h2⟩ => ⟨j, by omega, h2⟩) (fun _ _ it hi => ⟨i, by omega, hb, hi⟩) (fun _ _ _ it ⟨j, h1, h2, h3⟩ => ?_), ?_, fun e0 => ?_, fun e0 => ?_⟩
  · rcases Nat.lt_or_ge j i with h4 | h4
    · exact .inl ⟨j, h4, h2, h3⟩
    · have : j = i := by omega
      subst this
      exact .inr h3
  · rcases d2 with d | d; exact .inr d; exact .inl d.1
  · rcases d2 with d | ⟨_, _, ⟨n0, a1, a2, a3⟩, _⟩
    · first | exact absurd e0 d.ne | exact absurd d e0.ne
    · rw [bit_one hb, ← iter_add]
      refine ⟨max (n0 + 1) (i + 1), by omega, ?_, a3⟩
      have h5 : n0 + 1 ≤ max m i + 1 + 1 := least_le a2 (by omega) fun X Y hg' => by
        have h6 := spread hR hg (n % 2 ^ i) X Y hg'
        have h7 : n % 2 ^ i < 2 ^ i := Nat.mod_lt _ (Nat.pow_pos (by omega))
        have p0 := two_pow (max m i)
        have p1 : 2 ^ m ≤ 2 ^ (max m i) := Nat.pow_le_pow_right (by omega) (by omega)
        have p2 : 2 ^ i ≤ 2 ^ (max m i) := Nat.pow_le_pow_right (by omega) (by omega)
        rw [← powI m] at h6
        rw [← powI (max m i + 1)]
        omega
      omega
  · rcases d2 with d | ⟨_, _, _, d⟩
    · first | exact absurd e0 d.ne | exact absurd d e0.ne
    · exact d
end Go.Proofs.YtofbcngcblleaaaGreat.A
