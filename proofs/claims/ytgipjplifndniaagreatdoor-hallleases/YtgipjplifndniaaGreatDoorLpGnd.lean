/- Squares of cells over a ground: what they show, and what is made on the way. -/
import Derived.Test.YtgipjplifndniaaGreatDoorLpEmpty
import Derived.Test.YtgipjplifndniaaGreatDoorLpWide
import Derived.Test.YtgipjplifndniaaGreatDoorLpOpenA
import Derived.Test.YtgipjplifndniaaGreatDoorSqBox
namespace Go.Proofs.YtgipjplifndniaaGreatDoor.A
open Go.RowKit Go.Maps Go.Proofs.YtgipjplifndniaaGreatDoor.L

variable {w w1 w2 W : World} {o o1 o2 : Nat → Nat} {hb b t : Nat} {e : Int} {v : Value} {A A0 A' : Ar} {PR : (Bool → Nat → Bool) → Int → Prop} {q : Nat → Int} {E : List Int}
theorem AtP.ar {F : Nat → Prop} (h : AtP w b F A) : ∃ L, ArAt w b F (liveN A.ths) { A with free := L } := by
  obtain ⟨L, r, D, h1, _⟩ := h
  exact ⟨L, r, D, h1⟩
theorem HE.grown {e' : Int} (h : HA w o hb b t e v A) (hr : IntRow w v E) (h4 : ∀ k, v.ownBlock = some k → o k = 4) (h1 : HandAt w1 hb b t e' v) (g : w.grownBy w1 (some hb)) : HE w1 (ext o w.heap.size 0) hb b t e' E A ∧ Ch HM o w (ext o w.heap.size 0) w1 := by
  obtain ⟨a1, a2⟩ := h.grown h1 g
  refine ⟨⟨v, a1, row_other hr fun k hk => ?_, fun k hk => ?_⟩, a2.mono HL_HM⟩
  · exact g.block k (World.ownsRow.lt hr k hk).2 fun e => by
      have x1 := h4 k hk
      have x2 := h.lab
      cases e
      omega
  · rw [ext_old (World.ownsRow.lt hr k hk).2]
    exact h4 k hk
theorem HE.kp {e' : Int} (hr : IntRow w v E) (h4 : ∀ k, v.ownBlock = some k → o k = 4) (k : HKp o w hb b t e' v A' w1) : ∃ o', HE w1 o' hb b t e' E A' ∧ Ch HM o w o' w1 := by
  obtain ⟨o', a1, a2⟩ := k
  have x : ∀ k, v.ownBlock = some k → w1.heap[k]? = w.heap[k]? ∧ o' k = 4 := fun k hk => a2.at (World.ownsRow.lt hr k hk).2 (h4 k hk) (by unfold HL; omega)
  exact ⟨o', ⟨v, a1, row_other hr fun k hk => (x k hk).1, fun k hk => (x k hk).2⟩, a2.mono HL_HM⟩
theorem HE.ch {L : Nat → Prop} (h : HE w o hb b t e E A) (k : Ch L o w o1 w1) (hn : ∀ l, L l → ¬ HM l) : HE w1 o1 hb b t e E A := by
  obtain ⟨v, a1, a2, a3⟩ := h
  have x : ∀ i, v.ownBlock = some i → w1.heap[i]? = w.heap[i]? ∧ o1 i = 4 := fun i hi => k.at (World.ownsRow.lt a2 i hi).2 (a3 i hi) fun e => hn 4 e (.inr (.inr rfl))
  exact ⟨v, a1.ch k fun l hl hh => hn l hl (HL_HM l hh), row_other a2 fun i hi => (x i hi).1, fun i hi => (x i hi).2⟩
theorem HE.below (h : HE w o hb b t e E A) (k : Below w.heap.size w w1) : HE w1 (ext o w.heap.size 0) hb b t e E A := h.ch (L := fun _ => False) (Ch.ofBelow k 0) fun _ h => h.elim
theorem hdJoin_he (h : HE w o hb b t e E A) (hst : NxSt PR t q A) (ht : t < 64) (he : e = 0 ∨ Er e) (n : Nat) (hn : n < 44) (q0 q1 q2 q3 : Int) (hl : e = 0 → levV (view A t).V q0 = some (n : Int) ∧ levV (view A t).V q1 = some (n : Int) ∧ levV (view A t).V q2 = some (n : Int) ∧ levV (view A t).V q3 = some (n : Int)) :
    Calls Tryz.prog 133 #[.pointer (some ⟨hb, 0, none⟩), quad4 q0 q1 q2 q3] w fun r w' => ∃ x, r = .returned (.int .i64 x) ∧ ∃ e' A' o', HE w' o' hb b t e' E A' ∧ Ch HM o w o' w' ∧ NxSt PR t q A' ∧ Gx t A A' e e' (joinD (QV (view A t)) n q0 q1 q2 q3) ∧ (Er e' ∨ (e' = 0 ∧ e = 0 ∧ QV (view A' t) x = some (q0, q1, q2, q3) ∧ levV (view A' t).V x = some ((n + 1 : Nat) : Int))) := by
  obtain ⟨v, a1, a2, a3⟩ := h
  refine (hdJoin_rel a1 hst ht he n hn q0 q1 q2 q3 hl).mono ?_
  rintro r w' ⟨x, rfl, e', A', k, s, g, d⟩
  obtain ⟨o', b1, b2⟩ := HE.kp a2 a3 k
  exact ⟨x, rfl, e', A', o', b1, b2, s, g, d⟩
theorem hdLevel_he (h : HE w o hb b t 0 E A) (hst : NxSt PR t q A) (ht : t < 64) (id : Int) (n : Nat) (least most : Int) (hl : levV (view A t).V id = some (n : Int)) (h1 : least ≤ n) (h2 : (n : Int) ≤ most) :
    Calls Tryz.prog 103 #[.pointer (some ⟨hb, 0, none⟩), .int .i64 id, .int .i64 least, .int .i64 most] w fun r w' => r = .returned (.int .i64 (n : Int)) ∧ ∃ o', HE w' o' hb b t 0 E A ∧ Ch HM o w o' w' := by
  obtain ⟨v, a1, a2, a3⟩ := h
  obtain ⟨F, hF, hF1⟩ := a1.ar
  obtain ⟨L, hat⟩ := hF.ar
  refine (handLevel_ok hb b _ t id least most n v F _ w a1.hand hat (fun f => by have := hF1 _ f; have := a1.lab; omega) ht hst.s.mask (lev_fits hst.s hl) (by rw [levelF_V]; exact hl) h1 h2).mono ?_
  rintro r w' ⟨rfl, b1, b2, _⟩
  obtain ⟨c1, c2⟩ := HE.grown a1 a2 a3 b1 b2
  exact ⟨rfl, _, c1, c2⟩
theorem hdKids_he (h : HE w o hb b t 0 E A) (hst : NxSt PR t q A) (ht : t < 64) (id : Int) (hid : Fits id) (k0 k1 k2 k3 : Int) (hq : QV (view A t) id = some (k0, k1, k2, k3)) :
    Calls Tryz.prog 104 #[.pointer (some ⟨hb, 0, none⟩), .int .i64 id] w fun r w' => r = .returned (quad4 k0 k1 k2 k3) ∧ ∃ o', HE w' o' hb b t 0 E A ∧ Ch HM o w o' w' := by
  obtain ⟨x, hx, hk⟩ := square_QV hq
  simp only [Prod.mk.injEq] at hk
  obtain ⟨rfl, rfl, rfl, rfl⟩ := hk
  obtain ⟨v, a1, a2, a3⟩ := h
  obtain ⟨F, hF, hF1⟩ := a1.ar
  obtain ⟨L, hat⟩ := hF.ar
  refine (handKids_any hb b _ t id x v F _ w a1.hand hat ht hst.s.mask hid hx).mono ?_
  rintro r w' ⟨rfl, b1, b2, _⟩
  obtain ⟨c1, c2⟩ := HE.grown a1 a2 a3 b1 b2
  exact ⟨rfl, _, c1, c2⟩
def hin (o : Nat → Nat) (s r h : Nat) : Nat → Nat := fun k => if k < s then (if o k = 1 then 1 else 0) else if k = r then 4 else if k = h then 3 else 0
def hout (o o9 : Nat → Nat) (s : Nat) : Nat → Nat := fun k => if k < s then o k else if o9 k = 1 then 1 else 0
theorem HE.born (hA : ArL w o b A) (hE : w1.heap[w.heap.size + 1]? = some (.cells #[.int .i64 0] 3 (0, 0))) (hb1 : Below w.heap.size w w1) :
    HE (w1.alloc (.cells #[.pointer (some ⟨b, 0, none⟩), .int .i64 t, .int .i64 0, .slice (some ⟨w.heap.size + 1, 0, none⟩) 1 1] 143)) (hin o w.heap.size (w.heap.size + 1) w1.heap.size) w1.heap.size b t 0 [0] A ∧ Below w.heap.size w (w1.alloc (.cells #[.pointer (some ⟨b, 0, none⟩), .int .i64 t, .int .i64 0, .slice (some ⟨w.heap.size + 1, 0, none⟩) 1 1] 143)) := by
  have l2 : w.heap.size + 1 < w1.heap.size := (Array.getElem?_eq_some_iff.1 hE).1
  have b2 : Below w.heap.size w (w1.alloc (.cells #[.pointer (some ⟨b, 0, none⟩), .int .i64 t, .int .i64 0, .slice (some ⟨w.heap.size + 1, 0, none⟩) 1 1] 143)) := hb1.alloc hb1.size _
  have hX := heap_alloc_new w1 (.cells #[.pointer (some ⟨b, 0, none⟩), .int .i64 t, .int .i64 0, .slice (some ⟨w.heap.size + 1, 0, none⟩) 1 1] 143)
  obtain ⟨F, hF, hF1⟩ := hA
  have hflt := hF.flt
  refine ⟨⟨_, ⟨HandAt.of (l := []) hX, ?_, F, hF.other b2.size fun k hk => b2.block k (hflt k hk), fun k hk => ?_⟩, ⟨rfl, Or.inr ⟨w.heap.size + 1, 1, #[.int .i64 0], rfl, Nat.zero_le _, (push_old l2).trans hE, Nat.le_refl _, by unfold maxLen; omega, rfl, rfl⟩⟩, fun k hk => ?_⟩, b2⟩
  · unfold hin
    rw [if_neg (by omega), if_neg (by omega), if_pos rfl]
  · unfold hin
    rw [if_pos (hflt k hk), if_pos (hF1 k hk)]
  · simp only [Value.ownBlock, Option.some.injEq] at hk
    subst hk
    unfold hin
    rw [if_neg (by omega), if_pos rfl]
theorem hand_out {r h : Nat} {w9 : World} {o9 : Nat → Nat} (hb1 : Below w.heap.size w w1) (hc : Ch HM (hin o w.heap.size r h) w1 o9 w9) (hA : ArL w9 o9 b A) : ArL w9 (hout o o9 w.heap.size) b A ∧ Ch (fun l => l = 1) o w (hout o o9 w.heap.size) w9 := by
  have hs := hb1.size
  refine ⟨?_, hc.os.trans hb1.os, hc.tape.trans hb1.tape, hc.output.trans hb1.output, Nat.le_trans hs hc.size, fun k hk => by unfold hout; rw [if_pos hk], fun k hk hn => ?_⟩
  · obtain ⟨F, h1, h2⟩ := hA
    refine ⟨F, h1, fun k hk => ?_⟩
    have h3 := h2 k hk
    unfold hout
    split
    · rename_i hlt
      have h4 := hc.lab k (by omega)
      unfold hin at h4
      rw [if_pos hlt, h3] at h4
      split at h4
      · assumption
      · cases h4
    · first | rfl | rw [if_pos h3]
  · refine (hc.block k (by omega) ?_).trans (hb1.block k hk)
    unfold hin HM
    rw [if_pos hk, if_neg hn]
    omega
def JOk (A : Ar) (t m : Nat) (k : Nat → Int) (p : Nat) (j : Int) : Prop := levV (view A t).V j = some ((m + 1 : Nat) : Int) ∧ ∃ y, levV (view A t).V y = some (m : Int) ∧ EmpS (QV (view A t)) m y ∧ QV (view A t) j = some (if p = 0 then (y, y, y, k 0) else if p = 1 then (y, y, k 1, y) else if p = 2 then (y, k 2, y, y) else (k 3, y, y, y))
def ctr (m : Nat) (P : Gr) : Gr := fun x y => P (x + 2 ^ m) (y + 2 ^ m)
def QP (m : Nat) (G : Gr) (r : Nat) : Gr := pic G (if r % 2 = 0 then -(2 ^ (m + 1)) else 0) (if r / 2 = 0 then -(2 ^ (m + 1)) else 0) (m + 1)
def WQD (m : Nat) (G : Gr) (c : Nat) (i : Item) : Prop := (0 < c ∧ empD m i) ∨ ∃ r, r < c ∧ i = .sq (m + 1) (QP m G r)
structure WI (o1 : Nat → Nat) (W : World) (hb b t : Nat) (e : Int) (E : List Int) (A : Ar) (qb : Nat) (j : Nat → Int) (w : World) (o : Nat → Nat) : Prop where
  he : HE w o hb b t e E A
  ch : Ch HM o1 W o w
  q : Q4 w qb (j 0) (j 1) (j 2) (j 3)
  lab : o qb = 0
  new : W.heap.size ≤ qb
section
variable {qb : Nat} {j : Nat → Int}
theorem WI.step {e' : Int} {E' : List Int} (h : WI o1 W hb b t e E A qb j w o) (h1 : HE w2 o2 hb b t e' E' A') (k : Ch HM o w o2 w2) : WI o1 W hb b t e' E' A' qb j w2 o2 :=
  ⟨h1, h.ch.trans k, (k.at h.q.lt h.lab (by unfold HM; omega)).1.trans h.q, (k.at h.q.lt h.lab (by unfold HM; omega)).2, h.new⟩
theorem WI.set {j' : Nat → Int} (h : WI o1 W hb b t e E A qb j w o) (i : Nat) (x : Int) (hq : Q4 (w.setCell ⟨qb, i, none⟩ (.int .i64 x)) qb (j' 0) (j' 1) (j' 2) (j' 3)) : WI o1 W hb b t e E A qb j' (w.setCell ⟨qb, i, none⟩ (.int .i64 x)) o := by
  refine ⟨h.he.ch (Ch.set (L := fun l => l = 0) o w ⟨qb, i, none⟩ _ h.lab) (fun l hl => by unfold HM; omega), ?_, hq, h.lab, h.new⟩
  exact ⟨h.ch.os, h.ch.tape, h.ch.output, by simpa [World.setCell] using h.ch.size, h.ch.lab, fun k hk hn => (Below.heap_setCell _ _ _ _ (by have := h.new; show k ≠ qb; omega)).trans (h.ch.block k hk hn)⟩
end
structure WGh (PR : (Bool → Nat → Bool) → Int → Prop) (t : Nat) (q : Nat → Int) (A0 A : Ar) (e : Int) (E : List Int) (m : Nat) (id : Int) (k : Nat → Int) (i : Nat) (j : Nat → Int) : Prop where
  st : NxSt PR t q A
  gx : Gx t A0 A 0 e (WQD m (ctr m (picQ (QV (view A0 t)) (m + 1) id)) i)
  er : e = 0 ∨ Er e
  len : 1 ≤ E.length ∧ E.length ≤ 45
  em : e = 0 → EOk A t E
  jk : e = 0 → ∀ p, p < i → JOk A t m k p (j p)
def putW (g : Nat → Int) (k : Nat) (x : Int) : Nat → Int := fun p => if p = k then x else g p
end Go.Proofs.YtgipjplifndniaaGreatDoor.A

namespace Go.Proofs.YtgipjplifndniaaGreatDoor.A
open Go.RowKit Go.Maps Go.Proofs.YtgipjplifndniaaGreatDoor.L

variable {w w1 w2 : World} {o o1 o2 : Nat → Nat} {hb b t : Nat} {e : Int} {A A' : Ar} {PR : (Bool → Nat → Bool) → Int → Prop} {q : Nat → Int} {E : List Int}
inductive Gd where
  | no
  | here (P : Gr)
  | dn (c : Nat) (g : Gd)
  | four (f : Nat → Gd)
def qpic (n : Nat) (P : Gr) (r : Nat) : Gr := pic P ((r % 2 : Nat) * 2 ^ n) ((r / 2 : Nat) * 2 ^ n) n
def Gd.sub (n : Nat) : Gd → Nat → Gd
  | .no, _ => .no
  | .here P, r => .here (qpic n P r)
  | .dn c g, r => if r = c then g else .no
  | .four f, r => f r
def Gd.flat : Gd → Prop
  | .dn _ _ => False
  | .four _ => False
  | _ => True
def Gd.show : Nat → Gd → Gr
  | _, .no => noP
  | n, .here P => pic P 0 0 n
  | 0, .dn _ _ => noP
  | 0, .four _ => noP
  | n + 1, .four f => joinPic n ((f 0).show n) ((f 1).show n) ((f 2).show n) ((f 3).show n)
  | n + 1, .dn c g => joinPic n (if 0 = c then g.show n else noP) (if 1 = c then g.show n else noP) (if 2 = c then g.show n else noP) (if 3 = c then g.show n else noP)
def litP (n : Nat) (g : Gd) (zs : List (Int × Int)) (x y : Int) : Gr := fun X Y => g.show n X Y || decide ((x + X, y + Y) ∈ zs)
theorem no_show (n : Nat) : Gd.show n .no = noP := by cases n <;> rfl
theorem here_show (n : Nat) (P : Gr) : Gd.show n (.here P) = pic P 0 0 n := by cases n <;> rfl
theorem joinPic_no (n : Nat) : joinPic n noP noP noP noP = noP := by
  funext x y
  unfold joinPic noP
  split <;> split <;> rfl
theorem pic_pic {P : Gr} {a b : Int} {n : Nat} : pic (pic P a b n) 0 0 n = pic P a b n := by
  refine pic_agr fun x y hx hy => ?_
  rw [Int.zero_add, Int.zero_add, pic_at x y hx hy]
theorem show_join (n : Nat) (g : Gd) : joinPic n ((g.sub n 0).show n) ((g.sub n 1).show n) ((g.sub n 2).show n) ((g.sub n 3).show n) = g.show (n + 1) := by
  cases g with
  | no => simp only [Gd.sub, no_show, joinPic_no]
  | here P =>
    simp only [Gd.sub, here_show, qpic, pic_pic]
    have h := pic_join (n := n) (g := P) (a := 0) (b := 0)
    rw [← h]
    simp
  | dn c g =>
    have key : ∀ r, (Gd.sub n (.dn c g) r).show n = if r = c then g.show n else noP := fun r => by
      unfold Gd.sub
      simp only
      split
      · rfl
      · exact no_show n
    rw [key, key, key, key]
    rfl
  | four f => rfl
theorem litP_join (n : Nat) (g : Gd) (zs : List (Int × Int)) (x y : Int) :
    joinPic n (litP n (g.sub n 0) (part (x + 2 ^ n) (y + 2 ^ n) zs 0) x y) (litP n (g.sub n 1) (part (x + 2 ^ n) (y + 2 ^ n) zs 1) (x + 2 ^ n) y) (litP n (g.sub n 2) (part (x + 2 ^ n) (y + 2 ^ n) zs 2) x (y + 2 ^ n)) (litP n (g.sub n 3) (part (x + 2 ^ n) (y + 2 ^ n) zs 3) (x + 2 ^ n) (y + 2 ^ n)) = litP (n + 1) g zs x y := by
  have hs := show_join n g
  funext X Y
  have hs' := congrFun (congrFun hs X) Y
  have hm : ∀ (i : Nat) (p : Int × Int), decide (p ∈ part (x + 2 ^ n) (y + 2 ^ n) zs i) = (decide (p ∈ zs) && decide (qi (x + 2 ^ n) (y + 2 ^ n) p = i)) := fun i p => by
    rw [← Bool.decide_and]
    exact decide_eq_decide.2 mem_part
  unfold joinPic at hs' ⊢
  unfold litP
  rw [← hs']
  simp only [hm]
  by_cases hx : X < 2 ^ n <;> by_cases hy : Y < 2 ^ n <;> simp only [hx, hy, if_true, if_false]
  · have := (qi_cases (x + 2 ^ n) (y + 2 ^ n) (x + X, y + Y)).1.2 ⟨by show x + X < _; omega, by show y + Y < _; omega⟩
    rw [this]
    simp
  · rw [show y + 2 ^ n + (Y - 2 ^ n) = y + Y by omega]
    have := (qi_cases (x + 2 ^ n) (y + 2 ^ n) (x + X, y + Y)).2.2.1.2 ⟨by show x + X < _; omega, by show _ ≤ y + Y; omega⟩
    rw [this]
    simp
  · rw [show x + 2 ^ n + (X - 2 ^ n) = x + X by omega]
    have := (qi_cases (x + 2 ^ n) (y + 2 ^ n) (x + X, y + Y)).2.1.2 ⟨by show _ ≤ x + X; omega, by show y + Y < _; omega⟩
    rw [this]
    simp
  · rw [show y + 2 ^ n + (Y - 2 ^ n) = y + Y by omega, show x + 2 ^ n + (X - 2 ^ n) = x + X by omega]
    have := (qi_cases (x + 2 ^ n) (y + 2 ^ n) (x + X, y + Y)).2.2.2.2 ⟨by show _ ≤ x + X; omega, by show _ ≤ y + Y; omega⟩
    rw [this]
    simp
def GOk (v : Vw) : Gd → Nat → Int → Int → Int → Prop
  | .no, _, id, c, d => id = -1 ∧ c = 0 ∧ d = 0
  | .here P, n, id, _, d => d = 0 ∧ 0 ≤ id ∧ levV v.V id = some (n : Int) ∧ picQ (QV v) n id = P
  | .dn c' g, n, id, c, d => ∃ m, n = m + 1 ∧ c = (c' : Int) ∧ c' < 4 ∧ 1 ≤ d ∧ d ≤ 44 ∧ 0 ≤ id ∧ GOk v g m id c (d - 1)
  | .four _, _, _, _, _ => False
def qx (n : Nat) (x : Int) (r : Nat) : Int := x + (r % 2 : Nat) * 2 ^ n
def qy (n : Nat) (y : Int) (r : Nat) : Int := y + (r / 2 : Nat) * 2 ^ n
def SqD : Nat → Gd → List (Int × Int) → Int → Int → Item → Prop
  | 0, _, _, _, _, _ => False
  | n + 1, g, zs, x, y, i => (zs = [] ∧ g = .no ∧ empD (n + 1) i) ∨ (¬ (zs = [] ∧ g.flat) ∧ (i = .sq (n + 1) (litP (n + 1) g zs x y) ∨ ∃ r, r < 4 ∧ SqD n (g.sub n r) (part (x + 2 ^ n) (y + 2 ^ n) zs r) (qx n x r) (qy n y r) i))
def QrD (n : Nat) (g : Gd) (zs : List (Int × Int)) (x y : Int) (c : Nat) (i : Item) : Prop := ∃ r, r < c ∧ SqD n (g.sub n r) (part (x + 2 ^ n) (y + 2 ^ n) zs r) (qx n x r) (qy n y r) i
def LitD (n : Nat) (g : Gd) (zs : List (Int × Int)) (x y : Int) (i : Item) : Prop := i = .sq (n + 1) (litP (n + 1) g zs x y) ∨ QrD n g zs x y 4 i
theorem sqD_lit {n : Nat} {g : Gd} {zs : List (Int × Int)} {x y : Int} (h : ¬ (zs = [] ∧ g.flat)) (i : Item) : LitD n g zs x y i ↔ SqD (n + 1) g zs x y i := by
  constructor
  · exact fun k => .inr ⟨h, k⟩
  · rintro (⟨h1, h2, _⟩ | ⟨_, k⟩)
    · exact absurd ⟨h1, by rw [h2]; trivial⟩ h
    · exact k
theorem sqD_nil {n : Nat} {x y : Int} (i : Item) : empD n i ↔ SqD n .no [] x y i := by
  cases n with
  | zero => exact ⟨fun ⟨_, h1, h2, _⟩ => by omega, fun h => h.elim⟩
  | succ n =>
    constructor
    · exact fun k => .inl ⟨rfl, rfl, k⟩
    · rintro (⟨_, _, k⟩ | ⟨h, _⟩)
      · exact k
      · exact absurd ⟨rfl, trivial⟩ h
theorem litP_nil (n : Nat) (x y : Int) : litP n .no [] x y = noP := by
  funext X Y
  unfold litP
  rw [no_show]
  simp [noP]
theorem litP_one {Q : Qs4} {g : Gd} {zs : List (Int × Int)} {x y : Int} (h0 : zs ≠ []) (hin : ∀ p ∈ zs, x ≤ p.1 ∧ p.1 < x + 1 ∧ y ≤ p.2 ∧ p.2 < y + 1) : picQ Q 0 1 = litP 0 g zs x y := by
  obtain ⟨p0, hp0⟩ := List.exists_mem_of_ne_nil zs h0
  have e0 := hin p0 hp0
  have hg : ∀ X Y : Int, ¬ (X = 0 ∧ Y = 0) → g.show 0 X Y = false := fun X Y h => by
    cases g with
    | no => rfl
    | here P =>
      rw [here_show]
      unfold pic
      rw [if_neg (by simp; omega)]
    | dn c g => rfl
    | four f => rfl
  funext X Y
  unfold litP
  by_cases h : X = 0 ∧ Y = 0
  · obtain ⟨rfl, rfl⟩ := h
    have hp : (x + 0, y + 0) ∈ zs := by
      have : p0 = (x + 0, y + 0) := Prod.ext (by show p0.1 = x + 0; omega) (by show p0.2 = y + 0; omega)
      rw [← this]; exact hp0
    rw [decide_eq_true hp, Bool.or_true]
    unfold picQ pic
    rw [if_pos (by simp)]
    rfl
  · rw [hg X Y h]
    have hn : ¬ (x + X, y + Y) ∈ zs := fun hm => by
      have := hin _ hm
      simp only at this
      omega
    rw [decide_eq_false hn]
    unfold picQ pic
    rw [if_neg (by simp; omega)]
    rfl
structure LI (oB : Nat → Nat) (WB : World) (hb b t : Nat) (e : Int) (E : List Int) (A : Ar) (qb : Nat) (j : Nat → Int) (o1 : Nat → Nat) (w1 : World) (w : World) (o : Nat → Nat) : Prop extends WI oB WB hb b t e E A qb j w o where
  sz : w1.heap.size ≤ w.heap.size
  kept : ∀ k, k < w1.heap.size → o1 k = 0 → k ≠ qb → w.heap[k]? = w1.heap[k]? ∧ o k = 0
section
variable {qb : Nat} {j : Nat → Int} {oB : Nat → Nat} {WB : World}
theorem LI.step {e' : Int} {E' : List Int} (h : LI oB WB hb b t e E A qb j o1 w1 w o) (h1 : HE w2 o2 hb b t e' E' A') (k : Ch HM o w o2 w2) : LI oB WB hb b t e' E' A' qb j o1 w1 w2 o2 :=
  ⟨h.toWI.step h1 k, Nat.le_trans h.sz k.size, fun i hi h0 hn => by
    obtain ⟨a1, a2⟩ := h.kept i hi h0 hn
    have := k.at (Nat.lt_of_lt_of_le hi h.sz) a2 (by unfold HM; omega)
    exact ⟨this.1.trans a1, this.2⟩⟩
theorem LI.set {j' : Nat → Int} (h : LI oB WB hb b t e E A qb j o1 w1 w o) (i : Nat) (x : Int) (hq : Q4 (w.setCell ⟨qb, i, none⟩ (.int .i64 x)) qb (j' 0) (j' 1) (j' 2) (j' 3)) : LI oB WB hb b t e E A qb j' o1 w1 (w.setCell ⟨qb, i, none⟩ (.int .i64 x)) o :=
  ⟨h.toWI.set i x hq, by rw [size_set]; exact h.sz, fun k hk h0 hn => ⟨(Below.heap_setCell _ _ _ _ hn).trans (h.kept k hk h0 hn).1, (h.kept k hk h0 hn).2⟩⟩
theorem LI.row {v : Value} {zs : List (Int × Int)} (h : LI oB WB hb b t e E A qb j o1 w1 w o) (hr : RowL w1 v zs) (hl : ∀ k, v.ownBlock = some k → o1 k = 0 ∧ k ≠ qb ∧ k < w1.heap.size) : RowL w v zs ∧ ∀ k, v.ownBlock = some k → o k = 0 :=
  ⟨hr.other h.sz fun k hk => (h.kept k (hl k hk).2.2 (hl k hk).1 (hl k hk).2.1).1, fun k hk => (h.kept k (hl k hk).2.2 (hl k hk).1 (hl k hk).2.1).2⟩
end
structure LGh (PR : (Bool → Nat → Bool) → Int → Prop) (t : Nat) (q : Nat → Int) (A0 A : Ar) (e0 e : Int) (E : List Int) (n : Nat) (g : Gd) (zs : List (Int × Int)) (x y : Int) (i : Nat) (j : Nat → Int) : Prop where
  st : NxSt PR t q A
  gx : Gx t A0 A e0 e (QrD n g zs x y i)
  er : e = 0 ∨ Er e
  len : 1 ≤ E.length ∧ E.length ≤ 45
  em : e = 0 → e0 = 0 ∧ EOk A t E
  jk : e = 0 → ∀ p, p < i → levV (view A t).V (j p) = some (n : Int) ∧ picQ (QV (view A t)) n (j p) = litP n (g.sub n p) (part (x + 2 ^ n) (y + 2 ^ n) zs p) (qx n x p) (qy n y p)
def SqOut (PR : (Bool → Nat → Bool) → Int → Prop) (t : Nat) (q : Nat → Int) (A A' : Ar) (e e' : Int) (E' : List Int) (n : Nat) (g : Gd) (zs : List (Int × Int)) (x y : Int) (D : Item → Prop) (k : Int) : Prop :=
  NxSt PR t q A' ∧ Gx t A A' e e' D ∧ (1 ≤ E'.length ∧ E'.length ≤ 45) ∧ (e' = 0 ∨ Er e') ∧ (e' = 0 → e = 0 ∧ EOk A' t E' ∧ levV (view A' t).V k = some (n : Int) ∧ picQ (QV (view A' t)) n k = litP n g zs x y)
theorem LGh.start {n : Nat} {g : Gd} {zs : List (Int × Int)} {x y : Int} {j : Nat → Int} (hst : NxSt PR t q A) (he : e = 0 ∨ Er e) (hl : 1 ≤ E.length ∧ E.length ≤ 45) (hE : e = 0 → EOk A t E) : LGh PR t q A A e e E n g zs x y 0 j :=
  ⟨hst, (Gx.nil t A).eqv (fun _ i => ⟨fun h => h.elim, fun ⟨_, h, _⟩ => by omega⟩) he, he, hl, fun e0 => ⟨e0, hE e0⟩, fun _ p hp => by omega⟩
theorem LGh.step {A0 A2 : Ar} {e0 e2 k : Int} {E2 : List Int} {n i : Nat} {g : Gd} {zs : List (Int × Int)} {x y : Int} {j : Nat → Int} (h : LGh PR t q A0 A e0 e E n g zs x y i j) (ht : t < 64) (hs : SqOut PR t q A A2 e e2 E2 n (g.sub n i) (part (x + 2 ^ n) (y + 2 ^ n) zs i) (qx n x i) (qy n y i) (SqD n (g.sub n i) (part (x + 2 ^ n) (y + 2 ^ n) zs i) (qx n x i) (qy n y i)) k) : LGh PR t q A0 A2 e0 e2 E2 n g zs x y (i + 1) (putW j i k) := by
  obtain ⟨s1, s2, s3, s4, s5⟩ := hs
  refine ⟨s1, Gx.seq h.st ht h.er h.gx s2 (fun it ⟨r, r1, r2⟩ => ⟨r, by omega, r2⟩) (fun _ _ it hi => ⟨i, by omega, hi⟩) (fun _ _ _ it ⟨r, r1, r2⟩ => ?_), s4, s3, fun e0 => ?_, fun e0 p hp => ?_⟩
  · rcases Nat.lt_or_ge r i with h1 | h1
    · exact .inl ⟨r, h1, r2⟩
    · have : r = i := by omega
      subst this
      exact .inr r2
  · obtain ⟨a1, a2, _⟩ := s5 e0
    exact ⟨(h.em a1).1, a2⟩
  · obtain ⟨a1, a2, a3, a4⟩ := s5 e0
    by_cases hpi : p = i
    · subst hpi
      unfold putW
      rw [if_pos rfl]
      exact ⟨a3, a4⟩
    · unfold putW
      rw [if_neg hpi]
      obtain ⟨b1, b2⟩ := h.jk a1 p (by omega)
      exact ⟨s2.sees.lev b1, (picQ_ext s2.sees.ext (isSq_of_lev (h.st.g.wel t ht) h.st.p _ _ b1)).trans b2⟩
theorem LGh.done {A0 A2 : Ar} {e0 e2 k : Int} {n : Nat} {g : Gd} {zs : List (Int × Int)} {x y : Int} {j : Nat → Int} (h : LGh PR t q A0 A e0 e E n g zs x y 4 j) (ht : t < 64) (s2 : NxSt PR t q A2) (g2 : Gx t A A2 e e2 (joinD (QV (view A t)) n (j 0) (j 1) (j 2) (j 3))) (d2 : Er e2 ∨ (e2 = 0 ∧ e = 0 ∧ QV (view A2 t) k = some (j 0, j 1, j 2, j 3) ∧ levV (view A2 t).V k = some ((n + 1 : Nat) : Int))) : SqOut PR t q A0 A2 e0 e2 E (n + 1) g zs x y (LitD n g zs x y) k := by
  have hx : ∀ r : Nat, qx n x r = x + (r % 2 : Nat) * 2 ^ n := fun _ => rfl
  have hjp : e = 0 → joinPic n (picQ (QV (view A t)) n (j 0)) (picQ (QV (view A t)) n (j 1)) (picQ (QV (view A t)) n (j 2)) (picQ (QV (view A t)) n (j 3)) = litP (n + 1) g zs x y := fun e0 => by
    rw [(h.jk e0 0 (by omega)).2, (h.jk e0 1 (by omega)).2, (h.jk e0 2 (by omega)).2, (h.jk e0 3 (by omega)).2]
    have := litP_join n g zs x y
    rw [← this]
    simp [qx, qy]
  refine ⟨s2, Gx.seq h.st ht h.er h.gx g2 (fun it hi => .inr hi) (fun e0 _ it hi => ?_) (fun _ e0 _ it hi => ?_), h.len, ?_, fun e0 => ?_⟩
  · unfold joinD at hi
    rw [hjp e0] at hi
    exact .inl hi
  · rcases hi with hi | hi
    · refine .inr ?_
      unfold joinD
      rw [hjp e0]
      exact hi
    · exact .inl hi
  · rcases d2 with d | d; exact .inr d; exact .inl d.1
  · rcases d2 with d | ⟨_, d1, d3, d4⟩
    · first | exact absurd e0 d.ne | exact absurd d e0.ne
    · obtain ⟨m1, m2⟩ := h.em d1
      refine ⟨m1, m2.go h.st ht g2.toGoes1, d4, ?_⟩
      have hp : ∀ p, p < 4 → picQ (QV (view A2 t)) n (j p) = picQ (QV (view A t)) n (j p) := fun p hp => picQ_ext g2.sees.ext (isSq_of_lev (h.st.g.wel t ht) h.st.p _ _ (h.jk d1 p hp).1)
      rw [← join_picQ d3]
      simp only
      rw [hp 0 (by omega), hp 1 (by omega), hp 2 (by omega), hp 3 (by omega)]
      exact hjp d1
end Go.Proofs.YtgipjplifndniaaGreatDoor.A
