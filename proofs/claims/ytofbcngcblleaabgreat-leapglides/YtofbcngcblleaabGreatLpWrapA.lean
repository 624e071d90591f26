/- Toward Wrap over any arena: what a wrapped square shows. -/
import Derived.Test.YtofbcngcblleaabGreatLpEmpty
import Derived.Test.YtofbcngcblleaabGreatLpGood
import Derived.Test.YtofbcngcblleaabGreatQuCount
namespace Go.Proofs.YtofbcngcblleaabGreat.A
open Go.RowKit Go.Maps Go.Proofs.YtofbcngcblleaabGreat.L
variable {w w1 w2 W : World} {o o1 o2 : Nat → Nat} {hb b t : Nat} {e : Int} {v : Value} {A A0 A' : Ar} {PR : (Bool → Nat → Bool) → Int → Prop} {q : Nat → Int} {E : List Int}
theorem AtP.ar {F : Nat → Prop} (h : AtP w b F A) : ∃ L, ArAt w b F (liveN A.ths) { A with free := L } := by
  obtain ⟨L, r, D, h1, _⟩ := h
  exact ⟨L, r, D, h1⟩
theorem HE.grown {e' : Int} (h : HA w o hb b t e v A) (hr : IntRow w v E) (h4 : ∀ k, v.ownBlock = some k → o k = 4) (h1 : HandAt w1 hb b t e' v) (g : w.grownBy w1 (some hb)) : HE w1 (ext o w.heap.size 0) hb b t e' E A ∧ Ch HM o w (ext o w.heap.size 0) w1 := by
  obtain ⟨a1, a2⟩ := h.grown h1 g
  refine ⟨⟨v, a1, row_other hr fun k hk => ?_, fun k hk => ?_⟩, a2.mono HL_HM⟩
  · exact g.block k (World.ownsRow.lt hr k hk).2 fun e => by
      have x1 := h4 k hk
      have x2 := h.lab
      cases e
      omega
  · rw [ext_old (World.ownsRow.lt hr k hk).2]
    exact h4 k hk
theorem HE.kp {e' : Int} (hr : IntRow w v E) (h4 : ∀ k, v.ownBlock = some k → o k = 4) (k : HKp o w hb b t e' v A' w1) : ∃ o', HE w1 o' hb b t e' E A' ∧ Ch HM o w o' w1 := by
  obtain ⟨o', a1, a2⟩ := k
  have x : ∀ k, v.ownBlock = some k → w1.heap[k]? = w.heap[k]? ∧ o' k = 4 := fun k hk => a2.at (World.ownsRow.lt hr k hk).2 (h4 k hk) (by unfold HL; omega)
  exact ⟨o', ⟨v, a1, row_other hr fun k hk => (x k hk).1, fun k hk => (x k hk).2⟩, a2.mono HL_HM⟩
theorem HE.ch {L : Nat → Prop} (h : HE w o hb b t e E A) (k : Ch L o w o1 w1) (hn : ∀ l, L l → ¬ HM l) : HE w1 o1 hb b t e E A := by
  obtain ⟨v, a1, a2, a3⟩ := h
  have x : ∀ i, v.ownBlock = some i → w1.heap[i]? = w.heap[i]? ∧ o1 i = 4 := fun i hi => k.at (World.ownsRow.lt a2 i hi).2 (a3 i hi) fun e => hn 4 e (.inr (.inr rfl))
  exact ⟨v, a1.ch k fun l hl hh => hn l hl (HL_HM l hh), row_other a2 fun i hi => (x i hi).1, fun i hi => (x i hi).2⟩
theorem HE.below (h : HE w o hb b t e E A) (k : Below w.heap.size w w1) : HE w1 (ext o w.heap.size 0) hb b t e E A := h.ch (L := fun _ => False) (Ch.ofBelow k 0) fun _ h => h.elim
theorem hdJoin_he (h : HE w o hb b t e E A) (hst : NxSt PR t q A) (ht : t < 64) (he : e = 0 ∨ Er e) (n : Nat) (hn : n < 44) (q0 q1 q2 q3 : Int) (hl : e = 0 → levV (view A t).V q0 = some (n : Int) ∧ levV (view A t).V q1 = some (n : Int) ∧ levV (view A t).V q2 = some (n : Int) ∧ levV (view A t).V q3 = some (n : Int)) :
    Calls Tryz.prog 54 #[.pointer (some ⟨hb, 0, none⟩), quad4 q0 q1 q2 q3] w fun r w' => ∃ x, r = .returned (.int .i64 x) ∧ ∃ e' A' o', HE w' o' hb b t e' E A' ∧ Ch HM o w o' w' ∧ NxSt PR t q A' ∧ Gx t A A' e e' (joinD (QV (view A t)) n q0 q1 q2 q3) ∧ (Er e' ∨ (e' = 0 ∧ e = 0 ∧ QV (view A' t) x = some (q0, q1, q2, q3) ∧ levV (view A' t).V x = some ((n + 1 : Nat) : Int))) := by
  obtain ⟨v, a1, a2, a3⟩ := h
  refine (hdJoin_rel a1 hst ht he n hn q0 q1 q2 q3 hl).mono ?_
  rintro r w' ⟨x, rfl, e', A', k, s, g, d⟩
  obtain ⟨o', b1, b2⟩ := HE.kp a2 a3 k
  exact ⟨x, rfl, e', A', o', b1, b2, s, g, d⟩
theorem hdLevel_he (h : HE w o hb b t 0 E A) (hst : NxSt PR t q A) (ht : t < 64) (id : Int) (n : Nat) (least most : Int) (hl : levV (view A t).V id = some (n : Int)) (h1 : least ≤ n) (h2 : (n : Int) ≤ most) :
    Calls Tryz.prog 88 #[.pointer (some ⟨hb, 0, none⟩), .int .i64 id, .int .i64 least, .int .i64 most] w fun r w' => r = .returned (.int .i64 (n : Int)) ∧ ∃ o', HE w' o' hb b t 0 E A ∧ Ch HM o w o' w' := by
  obtain ⟨v, a1, a2, a3⟩ := h
  obtain ⟨F, hF, hF1⟩ := a1.ar
  obtain ⟨L, hat⟩ := hF.ar
  refine (handLevel_ok hb b _ t id least most n v F _ w a1.hand hat (fun f => by have := hF1 _ f; have := a1.lab; omega) ht hst.s.mask (lev_fits hst.s hl) (by rw [levelF_V]; exact hl) h1 h2).mono ?_
  rintro r w' ⟨rfl, b1, b2, _⟩
  obtain ⟨c1, c2⟩ := HE.grown a1 a2 a3 b1 b2
  exact ⟨rfl, _, c1, c2⟩
theorem hdKids_he (h : HE w o hb b t 0 E A) (hst : NxSt PR t q A) (ht : t < 64) (id : Int) (hid : Fits id) (k0 k1 k2 k3 : Int) (hq : QV (view A t) id = some (k0, k1, k2, k3)) :
    Calls Tryz.prog 58 #[.pointer (some ⟨hb, 0, none⟩), .int .i64 id] w fun r w' => r = .returned (quad4 k0 k1 k2 k3) ∧ ∃ o', HE w' o' hb b t 0 E A ∧ Ch HM o w o' w' := by
  obtain ⟨x, hx, hk⟩ := square_QV hq
  simp only [Prod.mk.injEq] at hk
  obtain ⟨rfl, rfl, rfl, rfl⟩ := hk
  obtain ⟨v, a1, a2, a3⟩ := h
  obtain ⟨F, hF, hF1⟩ := a1.ar
  obtain ⟨L, hat⟩ := hF.ar
  refine (handKids_any hb b _ t id x v F _ w a1.hand hat ht hst.s.mask hid hx).mono ?_
  rintro r w' ⟨rfl, b1, b2, _⟩
  obtain ⟨c1, c2⟩ := HE.grown a1 a2 a3 b1 b2
  exact ⟨rfl, _, c1, c2⟩
def hin (o : Nat → Nat) (s r h : Nat) : Nat → Nat := fun k => if k < s then (if o k = 1 then 1 else 0) else if k = r then 4 else if k = h then 3 else 0
def hout (o o9 : Nat → Nat) (s : Nat) : Nat → Nat := fun k => if k < s then o k else if o9 k = 1 then 1 else 0
theorem HE.born (hA : ArL w o b A) (hE : w1.heap[w.heap.size + 1]? = some (.cells #[.int .i64 0] 3 (0, 0))) (hb1 : Below w.heap.size w w1) :
    HE (w1.alloc (.cells #[.pointer (some ⟨b, 0, none⟩), .int .i64 t, .int .i64 0, .slice (some ⟨w.heap.size + 1, 0, none⟩) 1 1] 46)) (hin o w.heap.size (w.heap.size + 1) w1.heap.size) w1.heap.size b t 0 [0] A ∧ Below w.heap.size w (w1.alloc (.cells #[.pointer (some ⟨b, 0, none⟩), .int .i64 t, .int .i64 0, .slice (some ⟨w.heap.size + 1, 0, none⟩) 1 1] 46)) := by
  have l2 : w.heap.size + 1 < w1.heap.size := (Array.getElem?_eq_some_iff.1 hE).1
  have b2 : Below w.heap.size w (w1.alloc (.cells #[.pointer (some ⟨b, 0, none⟩), .int .i64 t, .int .i64 0, .slice (some ⟨w.heap.size + 1, 0, none⟩) 1 1] 46)) := hb1.alloc hb1.size _
  have hX := heap_alloc_new w1 (.cells #[.pointer (some ⟨b, 0, none⟩), .int .i64 t, .int .i64 0, .slice (some ⟨w.heap.size + 1, 0, none⟩) 1 1] 46)
  obtain ⟨F, hF, hF1⟩ := hA
  have hflt := hF.flt
  refine ⟨⟨_, ⟨HandAt.of (l := []) hX, ?_, F, hF.other b2.size fun k hk => b2.block k (hflt k hk), fun k hk => ?_⟩, ⟨rfl, Or.inr ⟨w.heap.size + 1, 1, #[.int .i64 0], rfl, Nat.zero_le _, (push_old l2).trans hE, Nat.le_refl _, by unfold maxLen; omega, rfl, rfl⟩⟩, fun k hk => ?_⟩, b2⟩
  · unfold hin
    rw [if_neg (by omega), if_neg (by omega), if_pos rfl]
  · unfold hin
    rw [if_pos (hflt k hk), if_pos (hF1 k hk)]
  · simp only [Value.ownBlock, Option.some.injEq] at hk
    subst hk
    unfold hin
    rw [if_neg (by omega), if_pos rfl]
theorem hand_out {r h : Nat} {w9 : World} {o9 : Nat → Nat} (hb1 : Below w.heap.size w w1) (hc : Ch HM (hin o w.heap.size r h) w1 o9 w9) (hA : ArL w9 o9 b A) : ArL w9 (hout o o9 w.heap.size) b A ∧ Ch (fun l => l = 1) o w (hout o o9 w.heap.size) w9 := by
  have hs := hb1.size
  refine ⟨?_, hc.os.trans hb1.os, hc.tape.trans hb1.tape, hc.output.trans hb1.output, Nat.le_trans hs hc.size, fun k hk => by unfold hout; rw [if_pos hk], fun k hk hn => ?_⟩
  · obtain ⟨F, h1, h2⟩ := hA
    refine ⟨F, h1, fun k hk => ?_⟩
    have h3 := h2 k hk
    unfold hout
    split
    · rename_i hlt
      have h4 := hc.lab k (by omega)
      unfold hin at h4
      rw [if_pos hlt, h3] at h4
      split at h4
      · assumption
      · cases h4
    · first | rfl | rw [if_pos h3]
  · refine (hc.block k (by omega) ?_).trans (hb1.block k hk)
    unfold hin HM
    rw [if_pos hk, if_neg hn]
    omega
def JOk (A : Ar) (t m : Nat) (k : Nat → Int) (p : Nat) (j : Int) : Prop := levV (view A t).V j = some ((m + 1 : Nat) : Int) ∧ ∃ y, levV (view A t).V y = some (m : Int) ∧ EmpS (QV (view A t)) m y ∧ QV (view A t) j = some (if p = 0 then (y, y, y, k 0) else if p = 1 then (y, y, k 1, y) else if p = 2 then (y, k 2, y, y) else (k 3, y, y, y))
theorem JOk.go {m p : Nat} {k : Nat → Int} {j : Int} (h : JOk A t m k p j) (hst : NxSt PR t q A) (ht : t < 64) (g : Goes1 t A A') : JOk A' t m k p j := by
  obtain ⟨h1, y, h2, h3, h4⟩ := h
  exact ⟨g.sees.lev h1, y, g.sees.lev h2, h3.go (isSq_of_lev (hst.g.wel t ht) hst.p _ _ h2) g, g.sees.ext _ _ h4⟩
def WrapS (Q : Qs4) (m : Nat) (id x : Int) : Prop := ∀ (g : Gr) (a b : Int), Shows Q (m + 1) id g a b → (∀ X Y, g X Y = true → a ≤ X ∧ X < a + 2 ^ (m + 1) ∧ b ≤ Y ∧ Y < b + 2 ^ (m + 1)) → Shows Q (m + 2) x g (a - 2 ^ m) (b - 2 ^ m)
theorem emp_off {Q : Qs4} {n : Nat} {y : Int} {g : Gr} {a b : Int} (h : EmpS Q n y) (hg : ∀ X Y : Int, a ≤ X → X < a + 2 ^ n → b ≤ Y → Y < b + 2 ^ n → g X Y = false) : Shows Q n y g a b := fun x z hx hz => by
  have hI := powI n
  rw [h x z hx hz, hg (a + x) (b + z) (by omega) (by omega) (by omega) (by omega)]
theorem wrap_shows {m : Nat} {id x : Int} {k j : Nat → Int} (hk : QV (view A t) id = some (k 0, k 1, k 2, k 3)) (hj : ∀ p, p < 4 → JOk A t m k p (j p)) (hx : QV (view A t) x = some (j 0, j 1, j 2, j 3)) : WrapS (QV (view A t)) m id x := by
  intro g a b hs hg
  obtain ⟨s0, s1, s2, s3⟩ := shows_kids hk hs
  have off : ∀ X Y : Int, (X < a ∨ a + 2 ^ (m + 1) ≤ X ∨ Y < b ∨ b + 2 ^ (m + 1) ≤ Y) → g X Y = false := fun X Y h => by
    cases hgv : g X Y with
    | false => rfl
    | true => have := hg X Y hgv; omega
  obtain ⟨_, y0, _, e0, q0⟩ := hj 0 (by omega)
  obtain ⟨_, y1, _, e1, q1⟩ := hj 1 (by omega)
  obtain ⟨_, y2, _, e2, q2⟩ := hj 2 (by omega)
  obtain ⟨_, y3, _, e3, q3⟩ := hj 3 (by omega)
  simp only [if_true, Nat.one_ne_zero, if_false, show ¬ (2 = 0) by decide, show ¬ (2 = 1) by decide, show ¬ (3 = 0) by decide, show ¬ (3 = 1) by decide, show ¬ (3 = 2) by decide] at q0 q1 q2 q3
  have h2 := two_powI m
  have hp : (0 : Int) < 2 ^ m := by have := powI m; have : 0 < 2 ^ m := Nat.pow_pos (by omega); omega
  have mv : ∀ {n : Nat} {i : Int} {a1 b1 a2 b2 : Int}, Shows (QV (view A t)) n i g a1 b1 → a1 = a2 → b1 = b2 → Shows (QV (view A t)) n i g a2 b2 := fun h e1 e2 => by subst e1 e2; exact h
  refine shows_join hx (shows_join q0 (emp_off e0 ?_) (emp_off e0 ?_) (emp_off e0 ?_) (mv s0 ?_ ?_)) (shows_join q1 (emp_off e1 ?_) (emp_off e1 ?_) (mv s1 ?_ ?_) (emp_off e1 ?_)) (shows_join q2 (emp_off e2 ?_) (mv s2 ?_ ?_) (emp_off e2 ?_) (emp_off e2 ?_)) (shows_join q3 (mv s3 ?_ ?_) (emp_off e3 ?_) (emp_off e3 ?_) (emp_off e3 ?_))
  all_goals first
    | (intro X Y a1 a2 a3 a4; exact off X Y (by omega))
    | omega
def ctr (m : Nat) (P : Gr) : Gr := fun x y => P (x + 2 ^ m) (y + 2 ^ m)
theorem ctr_shows {Q : Qs4} {m : Nat} {id : Int} : Shows Q (m + 1) id (ctr m (picQ Q (m + 1) id)) (-(2 ^ m)) (-(2 ^ m)) := fun x y hx hy => by
  have h := shows_pic (Q := Q) (n := m + 1) (id := id) x y hx hy
  rw [h]
  unfold ctr
  congr 1 <;> omega
theorem ctr_out {Q : Qs4} {m : Nat} {id X Y : Int} (h : ¬ (-(2 ^ m) ≤ X ∧ X < 2 ^ m ∧ -(2 ^ m) ≤ Y ∧ Y < 2 ^ m)) : ctr m (picQ Q (m + 1) id) X Y = false := by
  have hp := two_powI m
  unfold ctr picQ pic
  rw [if_neg (by omega)]
def QP (m : Nat) (G : Gr) (r : Nat) : Gr := pic G (if r % 2 = 0 then -(2 ^ (m + 1)) else 0) (if r / 2 = 0 then -(2 ^ (m + 1)) else 0) (m + 1)
def WQD (m : Nat) (G : Gr) (c : Nat) (i : Item) : Prop := (0 < c ∧ empD m i) ∨ ∃ r, r < c ∧ i = .sq (m + 1) (QP m G r)
def WrapD (m : Nat) (G : Gr) (i : Item) : Prop := WQD m G 4 i ∨ i = .sq (m + 2) (pic G (-(2 ^ (m + 1))) (-(2 ^ (m + 1))) (m + 2))
theorem quarter_pic {Q : Qs4} {m r : Nat} {y : Int} {k : Nat → Int} {G : Gr} (hr : r < 4) (he : EmpS Q m y) (hg : ∀ X Y : Int, ¬ (-(2 ^ m) ≤ X ∧ X < 2 ^ m ∧ -(2 ^ m) ≤ Y ∧ Y < 2 ^ m) → G X Y = false) (h0 : Shows Q m (k 0) G (-(2 ^ m)) (-(2 ^ m))) (h1 : Shows Q m (k 1) G 0 (-(2 ^ m))) (h2 : Shows Q m (k 2) G (-(2 ^ m)) 0) (h3 : Shows Q m (k 3) G 0 0) :
    joinPic m (picQ Q m (if r = 3 then k r else y)) (picQ Q m (if r = 2 then k r else y)) (picQ Q m (if r = 1 then k r else y)) (picQ Q m (if r = 0 then k r else y)) = QP m G r := by
  have hp := two_powI m
  have hq : (0 : Int) < 2 ^ m := by have := powI m; have : 0 < 2 ^ m := Nat.pow_pos (by omega); omega
  have key : ∀ (i : Int) (a b a' b' : Int), Shows Q m i G a b → a = a' → b = b' → Shows Q m i G a' b' := fun i a b a' b' h e1 e2 => by subst e1 e2; exact h
  unfold QP
  have hr' : r = 0 ∨ r = 1 ∨ r = 2 ∨ r = 3 := by omega
  rcases hr' with rfl | rfl | rfl | rfl
  · simp only [Nat.zero_mod, Nat.zero_div, if_true, show ¬ (0 = 3) by decide, show ¬ (0 = 2) by decide, show ¬ (0 = 1) by decide, if_false]
    refine join_pic (emp_off he ?_) (emp_off he ?_) (emp_off he ?_) (key _ _ _ _ _ h0 ?_ ?_)
    all_goals first | (intro X Y a1 a2 a3 a4; exact hg X Y (by omega)) | omega
  · simp only [show 1 % 2 = 1 by decide, show 1 / 2 = 0 by decide, if_true, show ¬ (1 = 3) by decide, show ¬ (1 = 2) by decide, show ¬ (1 = 0) by decide, if_false]
    refine join_pic (emp_off he ?_) (emp_off he ?_) (key _ _ _ _ _ h1 ?_ ?_) (emp_off he ?_)
    all_goals first | (intro X Y a1 a2 a3 a4; exact hg X Y (by omega)) | omega
  · simp only [show 2 % 2 = 0 by decide, show 2 / 2 = 1 by decide, if_true, show ¬ (2 = 3) by decide, show ¬ (2 = 1) by decide, show ¬ (2 = 0) by decide, show ¬ (1 = 0) by decide, if_false]
    refine join_pic (emp_off he ?_) (key _ _ _ _ _ h2 ?_ ?_) (emp_off he ?_) (emp_off he ?_)
    all_goals first | (intro X Y a1 a2 a3 a4; exact hg X Y (by omega)) | omega
  · simp only [show 3 % 2 = 1 by decide, show 3 / 2 = 1 by decide, if_true, show ¬ (3 = 2) by decide, show ¬ (3 = 1) by decide, show ¬ (3 = 0) by decide, show ¬ (1 = 0) by decide, if_false]
    refine join_pic (key _ _ _ _ _ h3 ?_ ?_) (emp_off he ?_) (emp_off he ?_) (emp_off he ?_)
    all_goals first | (intro X Y a1 a2 a3 a4; exact hg X Y (by omega)) | omega
theorem quarters_later {m : Nat} {id : Int} {k : Nat → Int} (hst : NxSt PR t q A) (ht : t < 64) (_hl : levV (view A t).V id = some ((m + 1 : Nat) : Int)) (hk : QV (view A t) id = some (k 0, k 1, k 2, k 3)) (hkl : ∀ i, i < 4 → levV (view A t).V (k i) = some (m : Int)) (g : Goes1 t A A') :
    Shows (QV (view A' t)) m (k 0) (ctr m (picQ (QV (view A t)) (m + 1) id)) (-(2 ^ m)) (-(2 ^ m)) ∧ Shows (QV (view A' t)) m (k 1) (ctr m (picQ (QV (view A t)) (m + 1) id)) 0 (-(2 ^ m)) ∧ Shows (QV (view A' t)) m (k 2) (ctr m (picQ (QV (view A t)) (m + 1) id)) (-(2 ^ m)) 0 ∧ Shows (QV (view A' t)) m (k 3) (ctr m (picQ (QV (view A t)) (m + 1) id)) 0 0 := by
  obtain ⟨s0, s1, s2, s3⟩ := shows_kids hk (ctr_shows (Q := QV (view A t)) (m := m) (id := id))
  have sq := fun i hi => isSq_of_lev (hst.g.wel t ht) hst.p m _ (hkl i hi)
  have hx := g.sees.ext
  rw [Int.add_left_neg] at s1 s2 s3
  exact ⟨s0.ext (sq 0 (by omega)) hx, s1.ext (sq 1 (by omega)) hx, s2.ext (sq 2 (by omega)) hx, s3.ext (sq 3 (by omega)) hx⟩
structure WI (o1 : Nat → Nat) (W : World) (hb b t : Nat) (e : Int) (E : List Int) (A : Ar) (qb : Nat) (j : Nat → Int) (w : World) (o : Nat → Nat) : Prop where
  he : HE w o hb b t e E A
  ch : Ch HM o1 W o w
  q : Q4 w qb (j 0) (j 1) (j 2) (j 3)
  lab : o qb = 0
  new : W.heap.size ≤ qb
section
variable {qb : Nat} {j : Nat → Int}
theorem WI.step {e' : Int} {E' : List Int} (h : WI o1 W hb b t e E A qb j w o) (h1 : HE w2 o2 hb b t e' E' A') (k : Ch HM o w o2 w2) : WI o1 W hb b t e' E' A' qb j w2 o2 :=
  ⟨h1, h.ch.trans k, (k.at h.q.lt h.lab (by unfold HM; omega)).1.trans h.q, (k.at h.q.lt h.lab (by unfold HM; omega)).2, h.new⟩
theorem WI.below (h : WI o1 W hb b t e E A qb j w o) (k : Below w.heap.size w w1) : WI o1 W hb b t e E A qb j w1 (ext o w.heap.size 0) := h.step (h.he.below k) (Ch.ofBelow k 0)
theorem WI.set {j' : Nat → Int} (h : WI o1 W hb b t e E A qb j w o) (i : Nat) (x : Int) (hq : Q4 (w.setCell ⟨qb, i, none⟩ (.int .i64 x)) qb (j' 0) (j' 1) (j' 2) (j' 3)) : WI o1 W hb b t e E A qb j' (w.setCell ⟨qb, i, none⟩ (.int .i64 x)) o := by
  refine ⟨h.he.ch (Ch.set (L := fun l => l = 0) o w ⟨qb, i, none⟩ _ h.lab) (fun l hl => by unfold HM; omega), ?_, hq, h.lab, h.new⟩
  exact ⟨h.ch.os, h.ch.tape, h.ch.output, by simpa [World.setCell] using h.ch.size, h.ch.lab, fun k hk hn => (Below.heap_setCell _ _ _ _ (by have := h.new; show k ≠ qb; omega)).trans (h.ch.block k hk hn)⟩
end
structure WGh (PR : (Bool → Nat → Bool) → Int → Prop) (t : Nat) (q : Nat → Int) (A0 A : Ar) (e : Int) (E : List Int) (m : Nat) (id : Int) (k : Nat → Int) (i : Nat) (j : Nat → Int) : Prop where
  st : NxSt PR t q A
  gx : Gx t A0 A 0 e (WQD m (ctr m (picQ (QV (view A0 t)) (m + 1) id)) i)
  er : e = 0 ∨ Er e
  len : 1 ≤ E.length ∧ E.length ≤ 45
  em : e = 0 → EOk A t E
  jk : e = 0 → ∀ p, p < i → JOk A t m k p (j p)
theorem WGh.go {m i : Nat} {id : Int} {k j : Nat → Int} {A0 : Ar} (h : WGh PR t q A0 A e E m id k i j) : Goes1 t A0 A := h.gx.toGoes1
def putW (g : Nat → Int) (k : Nat) (x : Int) : Nat → Int := fun p => if p = k then x else g p
theorem WGh.step {m i : Nat} {id : Int} {k j : Nat → Int} {e1 e2 y x : Int} {E1 : List Int} {A0 A1 A2 : Ar} (h : WGh PR t q A0 A e E m id k i j) (ht : t < 64) (hi : i < 4) (st0 : NxSt PR t q A0) (hl : levV (view A0 t).V id = some ((m + 1 : Nat) : Int)) (hk : QV (view A0 t) id = some (k 0, k 1, k 2, k 3)) (hkl : ∀ i, i < 4 → levV (view A0 t).V (k i) = some (m : Int)) (st1 : NxSt PR t q A1) (g1 : Gx t A A1 e e1 (empD m)) (l1 : 1 ≤ E1.length ∧ E1.length ≤ 45) (he1 : e1 = 0 ∨ Er e1) (h1 : e1 = 0 → e = 0 ∧ EOk A1 t E1 ∧ levV (view A1 t).V y = some (m : Int) ∧ EmpS (QV (view A1 t)) m y)
    (st2 : NxSt PR t q A2) (g2 : Gx t A1 A2 e1 e2 (joinD (QV (view A1 t)) m (if i = 3 then k i else y) (if i = 2 then k i else y) (if i = 1 then k i else y) (if i = 0 then k i else y))) (h2 : Er e2 ∨ (e2 = 0 ∧ e1 = 0 ∧ QV (view A2 t) x = some (if i = 0 then (y, y, y, k 0) else if i = 1 then (y, y, k 1, y) else if i = 2 then (y, k 2, y, y) else (k 3, y, y, y)) ∧ levV (view A2 t).V x = some ((m + 1 : Nat) : Int))) : WGh PR t q A0 A2 e2 E1 m id k (i + 1) (putW j i x) := by
  have hG : ∀ X Y : Int, ¬ (-(2 ^ m) ≤ X ∧ X < 2 ^ m ∧ -(2 ^ m) ≤ Y ∧ Y < 2 ^ m) → ctr m (picQ (QV (view A0 t)) (m + 1) id) X Y = false := fun X Y h => ctr_out h
  obtain ⟨s0, s1, s2, s3⟩ := quarters_later st0 ht hl hk hkl (h.go.trans g1.toGoes1)
  have hq : e1 = 0 → ∀ it, joinD (QV (view A1 t)) m (if i = 3 then k i else y) (if i = 2 then k i else y) (if i = 1 then k i else y) (if i = 0 then k i else y) it ↔ it = .sq (m + 1) (QP m (ctr m (picQ (QV (view A0 t)) (m + 1) id)) i) := fun e0 it => by
    unfold joinD
    rw [quarter_pic hi (h1 e0).2.2.2 hG s0 s1 s2 s3]
  have q1 : Gx t A0 A1 0 e1 (fun it => empD m it ∨ WQD m (ctr m (picQ (QV (view A0 t)) (m + 1) id)) i it) := Gx.seq h.st ht h.er h.gx g1 (fun it h => .inr h) (fun _ _ it h => .inl h) (fun _ _ _ it h => h.symm)
  have q2 : Gx t A0 A2 0 e2 (WQD m (ctr m (picQ (QV (view A0 t)) (m + 1) id)) (i + 1)) := by
    refine Gx.seq st1 ht he1 q1 g2 (fun it h => ?_) (fun e0 _ it h => ?_) (fun _ e0 _ it h => ?_)
    · rcases h with h | h | ⟨r, r1, r2⟩
      · exact .inl ⟨by omega, h⟩
      · exact .inl ⟨by omega, h.2⟩
      · exact .inr ⟨r, by omega, r2⟩
    · exact .inr ⟨i, by omega, (hq e0 it).1 h⟩
    · rcases h with h | ⟨r, r1, r2⟩
      · exact .inl (.inl h.2)
      · rcases Nat.lt_or_ge r i with h3 | h3
        · exact .inl (.inr (.inr ⟨r, h3, r2⟩))
        · have : r = i := by omega
          subst this
          exact .inr ((hq e0 it).2 r2)
  refine ⟨st2, q2, ?_, l1, fun e0 => ?_, fun e0 p hp => ?_⟩
  · rcases h2 with h2 | h2; exact .inr h2; exact .inl h2.1
  all_goals
    rcases h2 with h2 | ⟨_, b1, b2, b3⟩
    · first | exact absurd h2 e0.ne | exact absurd e0 h2.ne
    obtain ⟨c1, c2, c3, c4⟩ := h1 b1
  · exact c2.go st1 ht g2.toGoes1
  · by_cases hpi : p = i
    · subst hpi
      unfold putW
      rw [if_pos rfl]
      exact ⟨b3, y, g2.sees.lev c3, c4.go (isSq_of_lev (st1.g.wel t ht) st1.p _ _ c3) g2.toGoes1, b2⟩
    · unfold putW
      rw [if_neg hpi]
      exact (h.jk c1 p (by omega)).go h.st ht (g1.toGoes1.trans g2.toGoes1)
theorem jok_pic {m p : Nat} {id y0 : Int} {k : Nat → Int} {A0 : Ar} (hp : p < 4) (st0 : NxSt PR t q A0) (ht : t < 64) (hl : levV (view A0 t).V id = some ((m + 1 : Nat) : Int)) (hk : QV (view A0 t) id = some (k 0, k 1, k 2, k 3)) (hkl : ∀ i, i < 4 → levV (view A0 t).V (k i) = some (m : Int)) (g : Goes1 t A0 A) (h : JOk A t m k p y0) : picQ (QV (view A t)) (m + 1) y0 = QP m (ctr m (picQ (QV (view A0 t)) (m + 1) id)) p := by
  obtain ⟨_, y, _, e, hq⟩ := h
  obtain ⟨s0, s1, s2, s3⟩ := quarters_later st0 ht hl hk hkl g
  rw [← quarter_pic hp e (fun X Y h => ctr_out h) s0 s1 s2 s3]
  rw [← join_picQ hq]
  have hp' : p = 0 ∨ p = 1 ∨ p = 2 ∨ p = 3 := by omega
  rcases hp' with rfl | rfl | rfl | rfl <;> rfl
theorem quarters_join {m : Nat} {G : Gr} : joinPic (m + 1) (QP m G 0) (QP m G 1) (QP m G 2) (QP m G 3) = pic G (-(2 ^ (m + 1))) (-(2 ^ (m + 1))) (m + 2) := by
  rw [← pic_join (n := m + 1), Int.add_left_neg]
  rfl
end Go.Proofs.YtofbcngcblleaabGreat.A
