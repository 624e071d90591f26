/- Squares of cells over a ground: what they show, and what is made on the way. -/
import Derived.Test.YtofbcngcblleaabGreatLpWrapA
import Derived.Test.YtofbcngcblleaabGreatSqBox
namespace Go.Proofs.YtofbcngcblleaabGreat.A
open Go.RowKit Go.Maps Go.Proofs.YtofbcngcblleaabGreat.L
variable {w w1 w2 : World} {o o1 o2 : Nat → Nat} {hb b t : Nat} {e : Int} {A A' : Ar} {PR : (Bool → Nat → Bool) → Int → Prop} {q : Nat → Int} {E : List Int}
inductive Gd where
  | no
  | here (P : Gr)
  | dn (c : Nat) (g : Gd)
def qpic (n : Nat) (P : Gr) (r : Nat) : Gr := pic P ((r % 2 : Nat) * 2 ^ n) ((r / 2 : Nat) * 2 ^ n) n
def Gd.sub (n : Nat) : Gd → Nat → Gd
  | .no, _ => .no
  | .here P, r => .here (qpic n P r)
  | .dn c g, r => if r = c then g else .no
def Gd.flat : Gd → Prop
  | .dn _ _ => False
  | _ => True
def Gd.show : Nat → Gd → Gr
  | _, .no => noP
  | n, .here P => pic P 0 0 n
  | 0, .dn _ _ => noP
  | n + 1, .dn c g => joinPic n (if 0 = c then g.show n else noP) (if 1 = c then g.show n else noP) (if 2 = c then g.show n else noP) (if 3 = c then g.show n else noP)
def litP (n : Nat) (g : Gd) (zs : List (Int × Int)) (x y : Int) : Gr := fun X Y => g.show n X Y || decide ((x + X, y + Y) ∈ zs)
theorem no_show (n : Nat) : Gd.show n .no = noP := by cases n <;> rfl
theorem here_show (n : Nat) (P : Gr) : Gd.show n (.here P) = pic P 0 0 n := by cases n <;> rfl
theorem joinPic_no (n : Nat) : joinPic n noP noP noP noP = noP := by
  funext x y
  unfold joinPic noP
  split <;> split <;> rfl
theorem pic_pic {P : Gr} {a b : Int} {n : Nat} : pic (pic P a b n) 0 0 n = pic P a b n := by
  refine pic_agr fun x y hx hy => ?_
  rw [Int.zero_add, Int.zero_add, pic_at x y hx hy]
theorem show_join (n : Nat) (g : Gd) : joinPic n ((g.sub n 0).show n) ((g.sub n 1).show n) ((g.sub n 2).show n) ((g.sub n 3).show n) = g.show (n + 1) := by
  cases g with
  | no => simp only [Gd.sub, no_show, joinPic_no]
  | here P =>
    simp only [Gd.sub, here_show, qpic, pic_pic]
    have h := pic_join (n := n) (g := P) (a := 0) (b := 0)
    rw [← h]
    simp
  | dn c g =>
    have key : ∀ r, (Gd.sub n (.dn c g) r).show n = if r = c then g.show n else noP := fun r => by
      unfold Gd.sub
      simp only
      split
      · rfl
      · exact no_show n
    rw [key, key, key, key]
    rfl
theorem litP_join (n : Nat) (g : Gd) (zs : List (Int × Int)) (x y : Int) :
    joinPic n (litP n (g.sub n 0) (part (x + 2 ^ n) (y + 2 ^ n) zs 0) x y) (litP n (g.sub n 1) (part (x + 2 ^ n) (y + 2 ^ n) zs 1) (x + 2 ^ n) y) (litP n (g.sub n 2) (part (x + 2 ^ n) (y + 2 ^ n) zs 2) x (y + 2 ^ n)) (litP n (g.sub n 3) (part (x + 2 ^ n) (y + 2 ^ n) zs 3) (x + 2 ^ n) (y + 2 ^ n)) = litP (n + 1) g zs x y := by
  have hs := show_join n g
  funext X Y
  have hs' := congrFun (congrFun hs X) Y
  have hm : ∀ (i : Nat) (p : Int × Int), decide (p ∈ part (x + 2 ^ n) (y + 2 ^ n) zs i) = (decide (p ∈ zs) && decide (qi (x + 2 ^ n) (y + 2 ^ n) p = i)) := fun i p => by
    rw [← Bool.decide_and]
    exact decide_eq_decide.2 mem_part
  unfold joinPic at hs' ⊢
  unfold litP
  rw [← hs']
  simp only [hm]
  by_cases hx : X < 2 ^ n <;> by_cases hy : Y < 2 ^ n <;> simp only [hx, hy, if_true, if_false]
  · have := (qi_cases (x + 2 ^ n) (y + 2 ^ n) (x + X, y + Y)).1.2 ⟨by show x + X < _; omega, by show y + Y < _; omega⟩
    rw [this]
    simp
  · rw [show y + 2 ^ n + (Y - 2 ^ n) = y + Y by omega]
    have := (qi_cases (x + 2 ^ n) (y + 2 ^ n) (x + X, y + Y)).2.2.1.2 ⟨by show x + X < _; omega, by show _ ≤ y + Y; omega⟩
    rw [this]
    simp
  · rw [show x + 2 ^ n + (X - 2 ^ n) = x + X by omega]
    have := (qi_cases (x + 2 ^ n) (y + 2 ^ n) (x + X, y + Y)).2.1.2 ⟨by show _ ≤ x + X; omega, by show y + Y < _; omega⟩
    rw [this]
    simp
  · rw [show y + 2 ^ n + (Y - 2 ^ n) = y + Y by omega, show x + 2 ^ n + (X - 2 ^ n) = x + X by omega]
    have := (qi_cases (x + 2 ^ n) (y + 2 ^ n) (x + X, y + Y)).2.2.2.2 ⟨by show _ ≤ x + X; omega, by show _ ≤ y + Y; omega⟩
    rw [this]
    simp
def GOk (v : Vw) : Gd → Nat → Int → Int → Int → Prop
  | .no, _, id, _, d => id = -1 ∧ d = 0
  | .here P, n, id, _, d => d = 0 ∧ 0 ≤ id ∧ levV v.V id = some (n : Int) ∧ picQ (QV v) n id = P
  | .dn c' g, n, id, c, d => ∃ m, n = m + 1 ∧ c = (c' : Int) ∧ c' < 4 ∧ 1 ≤ d ∧ d ≤ 44 ∧ 0 ≤ id ∧ GOk v g m id c (d - 1)
def qx (n : Nat) (x : Int) (r : Nat) : Int := x + (r % 2 : Nat) * 2 ^ n
def qy (n : Nat) (y : Int) (r : Nat) : Int := y + (r / 2 : Nat) * 2 ^ n
def SqD : Nat → Gd → List (Int × Int) → Int → Int → Item → Prop
  | 0, _, _, _, _, _ => False
  | n + 1, g, zs, x, y, i => (zs = [] ∧ g = .no ∧ empD (n + 1) i) ∨ (¬ (zs = [] ∧ g.flat) ∧ (i = .sq (n + 1) (litP (n + 1) g zs x y) ∨ ∃ r, r < 4 ∧ SqD n (g.sub n r) (part (x + 2 ^ n) (y + 2 ^ n) zs r) (qx n x r) (qy n y r) i))
def QrD (n : Nat) (g : Gd) (zs : List (Int × Int)) (x y : Int) (c : Nat) (i : Item) : Prop := ∃ r, r < c ∧ SqD n (g.sub n r) (part (x + 2 ^ n) (y + 2 ^ n) zs r) (qx n x r) (qy n y r) i
def LitD (n : Nat) (g : Gd) (zs : List (Int × Int)) (x y : Int) (i : Item) : Prop := i = .sq (n + 1) (litP (n + 1) g zs x y) ∨ QrD n g zs x y 4 i
theorem sqD_lit {n : Nat} {g : Gd} {zs : List (Int × Int)} {x y : Int} (h : ¬ (zs = [] ∧ g.flat)) (i : Item) : LitD n g zs x y i ↔ SqD (n + 1) g zs x y i := by
  constructor
  · exact fun k => .inr ⟨h, k⟩
  · rintro (⟨h1, h2, _⟩ | ⟨_, k⟩)
    · exact absurd ⟨h1, by rw [h2]; trivial⟩ h
    · exact k
theorem sqD_nil {n : Nat} {x y : Int} (i : Item) : empD n i ↔ SqD n .no [] x y i := by
  cases n with
  | zero => exact ⟨fun ⟨_, h1, h2, _⟩ => by omega, fun h => h.elim⟩
  | succ n =>
    constructor
    · exact fun k => .inl ⟨rfl, rfl, k⟩
    · rintro (⟨_, _, k⟩ | ⟨h, _⟩)
      · exact k
      · exact absurd ⟨rfl, trivial⟩ h
theorem litP_nil (n : Nat) (x y : Int) : litP n .no [] x y = noP := by
  funext X Y
  unfold litP
  rw [no_show]
  simp [noP]
theorem litP_one {Q : Qs4} {g : Gd} {zs : List (Int × Int)} {x y : Int} (h0 : zs ≠ []) (hin : ∀ p ∈ zs, x ≤ p.1 ∧ p.1 < x + 1 ∧ y ≤ p.2 ∧ p.2 < y + 1) : picQ Q 0 1 = litP 0 g zs x y := by
  obtain ⟨p0, hp0⟩ := List.exists_mem_of_ne_nil zs h0
  have e0 := hin p0 hp0
  have hg : ∀ X Y : Int, ¬ (X = 0 ∧ Y = 0) → g.show 0 X Y = false := fun X Y h => by
    cases g with
    | no => rfl
    | here P =>
      rw [here_show]
      unfold pic
      rw [if_neg (by simp; omega)]
    | dn c g => rfl
  funext X Y
  unfold litP
  by_cases h : X = 0 ∧ Y = 0
  · obtain ⟨rfl, rfl⟩ := h
    have hp : (x + 0, y + 0) ∈ zs := by
      have : p0 = (x + 0, y + 0) := Prod.ext (by show p0.1 = x + 0; omega) (by show p0.2 = y + 0; omega)
      rw [← this]; exact hp0
    rw [decide_eq_true hp, Bool.or_true]
    unfold picQ pic
    rw [if_pos (by simp)]
    rfl
  · rw [hg X Y h]
    have hn : ¬ (x + X, y + Y) ∈ zs := fun hm => by
      have := hin _ hm
      simp only at this
      omega
    rw [decide_eq_false hn]
    unfold picQ pic
    rw [if_neg (by simp; omega)]
    rfl
structure LI (oB : Nat → Nat) (WB : World) (hb b t : Nat) (e : Int) (E : List Int) (A : Ar) (qb : Nat) (j : Nat → Int) (o1 : Nat → Nat) (w1 : World) (w : World) (o : Nat → Nat) : Prop extends WI oB WB hb b t e E A qb j w o where
  sz : w1.heap.size ≤ w.heap.size
  kept : ∀ k, k < w1.heap.size → o1 k = 0 → k ≠ qb → w.heap[k]? = w1.heap[k]? ∧ o k = 0
section
variable {qb : Nat} {j : Nat → Int} {oB : Nat → Nat} {WB : World}
theorem LI.step {e' : Int} {E' : List Int} (h : LI oB WB hb b t e E A qb j o1 w1 w o) (h1 : HE w2 o2 hb b t e' E' A') (k : Ch HM o w o2 w2) : LI oB WB hb b t e' E' A' qb j o1 w1 w2 o2 :=
  ⟨h.toWI.step h1 k, Nat.le_trans h.sz k.size, fun i hi h0 hn => by
    obtain ⟨a1, a2⟩ := h.kept i hi h0 hn
    have := k.at (Nat.lt_of_lt_of_le hi h.sz) a2 (by unfold HM; omega)
    exact ⟨this.1.trans a1, this.2⟩⟩
theorem LI.set {j' : Nat → Int} (h : LI oB WB hb b t e E A qb j o1 w1 w o) (i : Nat) (x : Int) (hq : Q4 (w.setCell ⟨qb, i, none⟩ (.int .i64 x)) qb (j' 0) (j' 1) (j' 2) (j' 3)) : LI oB WB hb b t e E A qb j' o1 w1 (w.setCell ⟨qb, i, none⟩ (.int .i64 x)) o :=
  ⟨h.toWI.set i x hq, by rw [size_set]; exact h.sz, fun k hk h0 hn => ⟨(Below.heap_setCell _ _ _ _ hn).trans (h.kept k hk h0 hn).1, (h.kept k hk h0 hn).2⟩⟩
theorem LI.row {v : Value} {zs : List (Int × Int)} (h : LI oB WB hb b t e E A qb j o1 w1 w o) (hr : RowL w1 v zs) (hl : ∀ k, v.ownBlock = some k → o1 k = 0 ∧ k ≠ qb ∧ k < w1.heap.size) : RowL w v zs ∧ ∀ k, v.ownBlock = some k → o k = 0 :=
  ⟨hr.other h.sz fun k hk => (h.kept k (hl k hk).2.2 (hl k hk).1 (hl k hk).2.1).1, fun k hk => (h.kept k (hl k hk).2.2 (hl k hk).1 (hl k hk).2.1).2⟩
end
structure LGh (PR : (Bool → Nat → Bool) → Int → Prop) (t : Nat) (q : Nat → Int) (A0 A : Ar) (e0 e : Int) (E : List Int) (n : Nat) (g : Gd) (zs : List (Int × Int)) (x y : Int) (i : Nat) (j : Nat → Int) : Prop where
  st : NxSt PR t q A
  gx : Gx t A0 A e0 e (QrD n g zs x y i)
  er : e = 0 ∨ Er e
  len : 1 ≤ E.length ∧ E.length ≤ 45
  em : e = 0 → e0 = 0 ∧ EOk A t E
  jk : e = 0 → ∀ p, p < i → levV (view A t).V (j p) = some (n : Int) ∧ picQ (QV (view A t)) n (j p) = litP n (g.sub n p) (part (x + 2 ^ n) (y + 2 ^ n) zs p) (qx n x p) (qy n y p)
def SqOut (PR : (Bool → Nat → Bool) → Int → Prop) (t : Nat) (q : Nat → Int) (A A' : Ar) (e e' : Int) (E' : List Int) (n : Nat) (g : Gd) (zs : List (Int × Int)) (x y : Int) (D : Item → Prop) (k : Int) : Prop :=
  NxSt PR t q A' ∧ Gx t A A' e e' D ∧ (1 ≤ E'.length ∧ E'.length ≤ 45) ∧ (e' = 0 ∨ Er e') ∧ (e' = 0 → e = 0 ∧ EOk A' t E' ∧ levV (view A' t).V k = some (n : Int) ∧ picQ (QV (view A' t)) n k = litP n g zs x y)
theorem LGh.start {n : Nat} {g : Gd} {zs : List (Int × Int)} {x y : Int} {j : Nat → Int} (hst : NxSt PR t q A) (he : e = 0 ∨ Er e) (hl : 1 ≤ E.length ∧ E.length ≤ 45) (hE : e = 0 → EOk A t E) : LGh PR t q A A e e E n g zs x y 0 j :=
  ⟨hst, (Gx.nil t A).eqv (fun _ i => ⟨fun h => h.elim, fun ⟨_, h, _⟩ => by omega⟩) he, he, hl, fun e0 => ⟨e0, hE e0⟩, fun _ p hp => by omega⟩
theorem LGh.step {A0 A2 : Ar} {e0 e2 k : Int} {E2 : List Int} {n i : Nat} {g : Gd} {zs : List (Int × Int)} {x y : Int} {j : Nat → Int} (h : LGh PR t q A0 A e0 e E n g zs x y i j) (ht : t < 64) (hs : SqOut PR t q A A2 e e2 E2 n (g.sub n i) (part (x + 2 ^ n) (y + 2 ^ n) zs i) (qx n x i) (qy n y i) (SqD n (g.sub n i) (part (x + 2 ^ n) (y + 2 ^ n) zs i) (qx n x i) (qy n y i)) k) : LGh PR t q A0 A2 e0 e2 E2 n g zs x y (i + 1) (putW j i k) := by
  obtain ⟨s1, s2, s3, s4, s5⟩ := hs
  refine ⟨s1, Gx.seq h.st ht h.er h.gx s2 (fun it ⟨r, r1, r2⟩ => ⟨r, by omega, r2⟩) (fun _ _ it hi => ⟨i, by omega, hi⟩) (fun _ _ _ it ⟨r, r1, r2⟩ => ?_), s4, s3, fun e0 => ?_, fun e0 p hp => ?_⟩
  · rcases Nat.lt_or_ge r i with h1 | h1
    · exact .inl ⟨r, h1, r2⟩
    · have : r = i := by omega
      subst this
      exact .inr r2
  · obtain ⟨a1, a2, _⟩ := s5 e0
    exact ⟨(h.em a1).1, a2⟩
  · obtain ⟨a1, a2, a3, a4⟩ := s5 e0
    by_cases hpi : p = i
    · subst hpi
      unfold putW
      rw [if_pos rfl]
      exact ⟨a3, a4⟩
    · unfold putW
      rw [if_neg hpi]
      obtain ⟨b1, b2⟩ := h.jk a1 p (by omega)
      exact ⟨s2.sees.lev b1, (picQ_ext s2.sees.ext (isSq_of_lev (h.st.g.wel t ht) h.st.p _ _ b1)).trans b2⟩
theorem LGh.done {A0 A2 : Ar} {e0 e2 k : Int} {n : Nat} {g : Gd} {zs : List (Int × Int)} {x y : Int} {j : Nat → Int} (h : LGh PR t q A0 A e0 e E n g zs x y 4 j) (ht : t < 64) (s2 : NxSt PR t q A2) (g2 : Gx t A A2 e e2 (joinD (QV (view A t)) n (j 0) (j 1) (j 2) (j 3))) (d2 : Er e2 ∨ (e2 = 0 ∧ e = 0 ∧ QV (view A2 t) k = some (j 0, j 1, j 2, j 3) ∧ levV (view A2 t).V k = some ((n + 1 : Nat) : Int))) : SqOut PR t q A0 A2 e0 e2 E (n + 1) g zs x y (LitD n g zs x y) k := by
  have hx : ∀ r : Nat, qx n x r = x + (r % 2 : Nat) * 2 ^ n := fun _ => rfl
  have hjp : e = 0 → joinPic n (picQ (QV (view A t)) n (j 0)) (picQ (QV (view A t)) n (j 1)) (picQ (QV (view A t)) n (j 2)) (picQ (QV (view A t)) n (j 3)) = litP (n + 1) g zs x y := fun e0 => by
    rw [(h.jk e0 0 (by omega)).2, (h.jk e0 1 (by omega)).2, (h.jk e0 2 (by omega)).2, (h.jk e0 3 (by omega)).2]
    have := litP_join n g zs x y
    rw [← this]
    simp [qx, qy]
  refine ⟨s2, Gx.seq h.st ht h.er h.gx g2 (fun it hi => .inr hi) (fun e0 _ it hi => ?_) (fun _ e0 _ it hi => ?_), h.len, ?_, fun e0 => ?_⟩
  · unfold joinD at hi
    rw [hjp e0] at hi
    exact .inl hi
  · rcases hi with hi | hi
    · refine .inr ?_
      unfold joinD
      rw [hjp e0]
      exact hi
    · exact .inl hi
  · rcases d2 with d | d; exact .inr d; exact .inl d.1
  · rcases d2 with d | ⟨_, d1, d3, d4⟩
    · first | exact absurd e0 d.ne | exact absurd d e0.ne
    · obtain ⟨m1, m2⟩ := h.em d1
      refine ⟨m1, m2.go h.st ht g2.toGoes1, d4, ?_⟩
      have hp : ∀ p, p < 4 → picQ (QV (view A2 t)) n (j p) = picQ (QV (view A t)) n (j p) := fun p hp => picQ_ext g2.sees.ext (isSq_of_lev (h.st.g.wel t ht) h.st.p _ _ (h.jk d1 p hp).1)
      rw [← join_picQ d3]
      simp only
      rw [hp 0 (by omega), hp 1 (by omega), hp 2 (by omega), hp 3 (by omega)]
      exact hjp d1
end Go.Proofs.YtofbcngcblleaabGreat.A
