/- What find's nine and four squares mean. -/
import Derived.Test.YtofbcngcblleaabGreatLpFind0
namespace Go.Proofs.YtofbcngcblleaabGreat.A
open Go.RowKit Go.Proofs.YtofbcngcblleaabGreat.L
variable {w w1 W : World} {o o1 : Nat → Nat} {lb b t : Nat} {rb rl e : Int} {A A0 A1 A2 : Ar} {q : Nat → Int} {PR : (Bool → Nat → Bool) → Int → Prop} {S : Item → Prop}
theorem nine_at {R : Bool → Nat → Bool} {Q0 Q1 Q2 : Qs4} {m j x y : Nat} {id v1 v2 : Int} {f : Nat → Int} (hs : IsSq Q0 (m + 3) id) (hf : ∀ x y, x < 4 → y < 4 → At R Q0 (m + 3) id (m + 1) (f (4 * y + x)) 0 (0 + x * 2 ^ (m + 1)) (0 + y * 2 ^ (m + 1))) (e1 : L.Ext Q0 Q1) (e2 : L.Ext Q1 Q2) (hx : x < 3) (hy : y < 3)
    (hq : Q1 v1 = some (f (4 * y + x), f (4 * y + x + 1), f (4 * y + 4 + x), f (4 * y + 4 + x + 1))) (hn : Nx R Q2 m v1 j v2) : At R Q2 (m + 3) id (m + 1) v2 (2 ^ j) (2 ^ m + x * 2 ^ (m + 1)) (2 ^ m + y * 2 ^ (m + 1)) := by
  have h1 := At.window (R := R) (Q := Q2) (n0 := m + 3) (id0 := id) (k := m + 1) (T := 0) (dx := 0) (dy := 0) (P := fun u v => f (4 * v + u)) (x := x) (y := y) (id := v1) (e2 _ _ hq) fun u v a1 a2 a3 a4 => (hf u v (by omega) (by omega)).ext hs (e1.trans e2)
  exact (h1.next hn).to (by omega) (by omega) (by omega)
theorem four_full {R : Bool → Nat → Bool} {Q1 Q2 : Qs4} {m j x y : Nat} {id v1 v2 : Int} {g : Nat → Int} (hs : IsSq Q1 (m + 3) id) (hg : ∀ x y, x < 3 → y < 3 → At R Q1 (m + 3) id (m + 1) (g (3 * y + x)) (2 ^ j) (2 ^ m + x * 2 ^ (m + 1)) (2 ^ m + y * 2 ^ (m + 1))) (e2 : L.Ext Q1 Q2) (hx : x < 2) (hy : y < 2)
    (hq : Q1 v1 = some (g (3 * y + x), g (3 * y + x + 1), g (3 * y + 3 + x), g (3 * y + 3 + x + 1))) (hn : Nx R Q2 m v1 j v2) : At R Q2 (m + 3) id (m + 1) v2 (2 ^ (j + 1)) (2 ^ (m + 1) + x * 2 ^ (m + 1)) (2 ^ (m + 1) + y * 2 ^ (m + 1)) := by
  have h1 := At.window (R := R) (Q := Q2) (n0 := m + 3) (id0 := id) (k := m + 1) (T := 2 ^ j) (dx := 2 ^ m) (dy := 2 ^ m) (P := fun u v => g (3 * v + u)) (x := x) (y := y) (id := v1) (e2 _ _ hq) fun u v a1 a2 a3 a4 => (hg u v (by omega) (by omega)).ext hs e2
  refine (h1.next hn).to ?_ ?_ (by rw [two_pow])
  all_goals
    rw [two_powI]
    omega
theorem four_part {R : Bool → Nat → Bool} {Q2 : Qs4} {m j x y : Nat} {id v : Int} {g : Nat → Int} (hg : ∀ x y, x < 3 → y < 3 → At R Q2 (m + 3) id (m + 1) (g (3 * y + x)) (2 ^ j) (2 ^ m + x * 2 ^ (m + 1)) (2 ^ m + y * 2 ^ (m + 1))) (hx : x < 2) (hy : y < 2) {k0 k1 k2 k3 : Int × Int × Int × Int}
    (q0 : Q2 (g (3 * y + x)) = some k0) (q1 : Q2 (g (3 * y + x + 1)) = some k1) (q2 : Q2 (g (3 * y + 3 + x)) = some k2) (q3 : Q2 (g (3 * y + 3 + x + 1)) = some k3) (hv : Q2 v = some (k0.2.2.2, k1.2.2.1, k2.2.1, k3.1)) : At R Q2 (m + 3) id (m + 1) v (2 ^ j) (2 ^ (m + 1) + x * 2 ^ (m + 1)) (2 ^ (m + 1) + y * 2 ^ (m + 1)) := by
  have a0 := (hg x y (by omega) (by omega)).kid q0 3 (by omega)
  have a1 := (hg (x + 1) y (by omega) (by omega)).kid (by rw [show 3 * y + (x + 1) = 3 * y + x + 1 by omega]; exact q1) 2 (by omega)
  have a2 := (hg x (y + 1) (by omega) (by omega)).kid (by rw [show 3 * (y + 1) + x = 3 * y + 3 + x by omega]; exact q2) 1 (by omega)
  have a3 := (hg (x + 1) (y + 1) (by omega) (by omega)).kid (by rw [show 3 * (y + 1) + (x + 1) = 3 * y + 3 + x + 1 by omega]; exact q3) 0 (by omega)
  have hp := two_powI m
  refine At.join hv (a0.to ?_ ?_ rfl) (a1.to ?_ ?_ rfl) (a2.to ?_ ?_ rfl) (a3.to ?_ ?_ rfl)
  all_goals
    simp only [Int.natCast_add, Int.add_mul, Int.natCast_one, Int.one_mul, hp]
    generalize (2 : Int) ^ m = p
    simp
    generalize (x : Int) * (p + p) = px
    generalize (y : Int) * (p + p) = py
    omega
theorem four_nx {R : Bool → Nat → Bool} {Q : Qs4} {m j : Nat} {id v : Int} {h : Nat → Int} (hh : ∀ x y, x < 2 → y < 2 → At R Q (m + 3) id (m + 1) (h (2 * y + x)) (2 ^ j) (2 ^ (m + 1) + x * 2 ^ (m + 1)) (2 ^ (m + 1) + y * 2 ^ (m + 1))) (hv : Q v = some (h 0, h 1, h 2, h 3)) : Nx R Q (m + 1) id j v := by
  have h1 := At.window (R := R) (Q := Q) (n0 := m + 3) (id0 := id) (k := m + 1) (T := 2 ^ j) (dx := 2 ^ (m + 1)) (dy := 2 ^ (m + 1)) (P := fun u v => h (2 * v + u)) (x := 0) (y := 0) (id := v) hv fun u v a1 a2 a3 a4 => hh u v (by omega) (by omega)
  exact Nx.of (h1.to (by simp) (by simp) rfl)
def Nv (g : Nat → Int) : Array Value := #[.int .i64 (g 0), .int .i64 (g 1), .int .i64 (g 2), .int .i64 (g 3), .int .i64 (g 4), .int .i64 (g 5), .int .i64 (g 6), .int .i64 (g 7), .int .i64 (g 8)]
def N9 (w : World) (nb : Nat) (g : Nat → Int) : Prop := w.heap[nb]? = some (.cells (Nv g) 152 (0, 0))
theorem N9.lt {nb : Nat} {g : Nat → Int} (h : N9 w nb g) : nb < w.heap.size := (Array.getElem?_eq_some_iff.1 h).1
theorem N9.cell {nb : Nat} {g : Nat → Int} (h : N9 w nb g) (p : Nat) (hp : p < 9) : w.cell? ⟨nb, p, none⟩ = some (.int .i64 (g p)) := by
  have h1 : p = 0 ∨ p = 1 ∨ p = 2 ∨ p = 3 ∨ p = 4 ∨ p = 5 ∨ p = 6 ∨ p = 7 ∨ p = 8 := by omega
  rcases h1 with rfl | rfl | rfl | rfl | rfl | rfl | rfl | rfl | rfl <;> exact Lib.cell_of_heap h _
theorem N9.fz {nb : Nat} {g : Nat → Int} (h : N9 w nb g) (p : Nat) : w.frozen? ⟨nb, p, none⟩ = false := Lib.frozen_of_heap h p
def putN (g : Nat → Int) (k : Nat) (v : Int) : Nat → Int := fun p => if p = k then v else g p
theorem putN_eq (g : Nat → Int) (k : Nat) (v : Int) : putN g k v k = v := if_pos rfl
theorem putN_ne {g : Nat → Int} {k p : Nat} {v : Int} (h : p ≠ k) : putN g k v p = g p := if_neg h
section
variable {pb nb qb : Nat} {f g h : Nat → Int}
structure NI (o1 : Nat → Nat) (W : World) (lb b t : Nat) (rb rl e : Int) (A : Ar) (pb nb : Nat) (f g : Nat → Int) (w : World) (o : Nat → Nat) : Prop where
  ls : LS w o lb b t rb rl e A
  ch : Ch AL o1 W o w
  p : G16 w pb f
  n : N9 w nb g
  lp : o pb = 0
  ln : o nb = 0
  np : W.heap.size ≤ pb
  nn : W.heap.size ≤ nb
  ne : pb ≠ nb
theorem NI.kp {e' : Int} {A' : Ar} (h : NI o1 W lb b t rb rl e A pb nb f g w o) (k : Kp o w lb b t rb rl e' A' w1) : ∃ o', NI o1 W lb b t rb rl e' A' pb nb f g w1 o' := by
  obtain ⟨o', h1, h2⟩ := k
  have x := h2.at h.p.lt h.lp (by unfold AL; omega)
  have y := h2.at h.n.lt h.ln (by unfold AL; omega)
  exact ⟨o', h1, h.ch.trans h2, x.1.trans h.p, y.1.trans h.n, x.2, y.2, h.np, h.nn, h.ne⟩
theorem NI.below (h : NI o1 W lb b t rb rl e A pb nb f g w o) (hb : Below w.heap.size w w1) : NI o1 W lb b t rb rl e A pb nb f g w1 (ext o w.heap.size 0) :=
  ⟨h.ls.below hb, h.ch.trans (Ch.ofBelow hb 0), (hb.block pb h.p.lt).trans h.p, (hb.block nb h.n.lt).trans h.n, by rw [ext_old h.p.lt]; exact h.lp, by rw [ext_old h.n.lt]; exact h.ln, h.np, h.nn, h.ne⟩
theorem NI.set {g' : Nat → Int} (h : NI o1 W lb b t rb rl e A pb nb f g w o) (i : Nat) (v : Int) (hq : N9 (w.setCell ⟨nb, i, none⟩ (.int .i64 v)) nb g') : NI o1 W lb b t rb rl e A pb nb f g' (w.setCell ⟨nb, i, none⟩ (.int .i64 v)) o := by
  refine ⟨h.ls.ch (Ch.set (L := fun l => l = 0) o w ⟨nb, i, none⟩ _ h.ln) (fun l hl => by unfold AL; omega), ?_, (Below.heap_setCell _ _ _ _ h.ne).trans h.p, hq, h.lp, h.ln, h.np, h.nn, h.ne⟩
  exact ⟨h.ch.os, h.ch.tape, h.ch.output, by simpa [World.setCell] using h.ch.size, h.ch.lab, fun k hk hn => (Below.heap_setCell _ _ _ _ (by have := h.nn; show k ≠ nb; omega)).trans (h.ch.block k hk hn)⟩
structure FI (o1 : Nat → Nat) (W : World) (lb b t : Nat) (rb rl e : Int) (A : Ar) (nb qb : Nat) (g h : Nat → Int) (w : World) (o : Nat → Nat) : Prop where
  ls : LS w o lb b t rb rl e A
  ch : Ch AL o1 W o w
  n : N9 w nb g
  q : Q4 w qb (h 0) (h 1) (h 2) (h 3)
  ln : o nb = 0
  lq : o qb = 0
  nn : W.heap.size ≤ nb
  nq : W.heap.size ≤ qb
  ne : nb ≠ qb
theorem FI.kp {e' : Int} {A' : Ar} (h0 : FI o1 W lb b t rb rl e A nb qb g h w o) (k : Kp o w lb b t rb rl e' A' w1) : ∃ o', FI o1 W lb b t rb rl e' A' nb qb g h w1 o' := by
  obtain ⟨o', h1, h2⟩ := k
  have x := h2.at h0.n.lt h0.ln (by unfold AL; omega)
  have y := h2.at h0.q.lt h0.lq (by unfold AL; omega)
  exact ⟨o', h1, h0.ch.trans h2, x.1.trans h0.n, y.1.trans h0.q, x.2, y.2, h0.nn, h0.nq, h0.ne⟩
theorem FI.below (h0 : FI o1 W lb b t rb rl e A nb qb g h w o) (hb : Below w.heap.size w w1) : FI o1 W lb b t rb rl e A nb qb g h w1 (ext o w.heap.size 0) :=
  ⟨h0.ls.below hb, h0.ch.trans (Ch.ofBelow hb 0), (hb.block nb h0.n.lt).trans h0.n, (hb.block qb h0.q.lt).trans h0.q, by rw [ext_old h0.n.lt]; exact h0.ln, by rw [ext_old h0.q.lt]; exact h0.lq, h0.nn, h0.nq, h0.ne⟩
theorem FI.set {h' : Nat → Int} (h0 : FI o1 W lb b t rb rl e A nb qb g h w o) (i : Nat) (v : Int) (hq : Q4 (w.setCell ⟨qb, i, none⟩ (.int .i64 v)) qb (h' 0) (h' 1) (h' 2) (h' 3)) : FI o1 W lb b t rb rl e A nb qb g h' (w.setCell ⟨qb, i, none⟩ (.int .i64 v)) o := by
  refine ⟨h0.ls.ch (Ch.set (L := fun l => l = 0) o w ⟨qb, i, none⟩ _ h0.lq) (fun l hl => by unfold AL; omega), ?_, (Below.heap_setCell _ _ _ _ h0.ne).trans h0.n, hq, h0.ln, h0.lq, h0.nn, h0.nq, h0.ne⟩
  exact ⟨h0.ch.os, h0.ch.tape, h0.ch.output, by simpa [World.setCell] using h0.ch.size, h0.ch.lab, fun k hk hn => (Below.heap_setCell _ _ _ _ (by have := h0.nq; show k ≠ qb; omega)).trans (h0.ch.block k hk hn)⟩
structure PG (rb rl : Int) (t : Nat) (A0 : Ar) (id : Int) (m : Nat) (f : Nat → Int) : Prop where
  sq : IsSq (QV (view A0 t)) (m + 3) id
  pt : ∀ x y, x < 4 → y < 4 → At (lifeR rb rl) (QV (view A0 t)) (m + 3) id (m + 1) (f (4 * y + x)) 0 (0 + x * 2 ^ (m + 1)) (0 + y * 2 ^ (m + 1))
  lev : ∀ p, p < 16 → levV (view A0 t).V (f p) = some ((m + 1 : Nat) : Int)
def N1 (rb rl : Int) (t : Nat) (A : Ar) (id : Int) (m j : Nat) (g : Nat → Int) (p : Nat) : Prop := At (lifeR rb rl) (QV (view A t)) (m + 3) id (m + 1) (g p) (2 ^ j) (2 ^ m + (p % 3 : Nat) * 2 ^ (m + 1)) (2 ^ m + (p / 3 : Nat) * 2 ^ (m + 1)) ∧ levV (view A t).V (g p) = some ((m + 1 : Nat) : Int)
theorem N1.go {id : Int} {m j p : Nat} {A' : Ar} (h : N1 rb rl t A id m j g p) (hs : IsSq (QV (view A t)) (m + 3) id) (k : Goes1 t A A') : N1 rb rl t A' id m j g p := ⟨h.1.ext hs k.sees.ext, k.sees.lev h.2⟩
def F1 (rb rl : Int) (t : Nat) (A : Ar) (id : Int) (m j : Nat) (h : Nat → Int) (p : Nat) : Prop := At (lifeR rb rl) (QV (view A t)) (m + 3) id (m + 1) (h p) (2 ^ j) (2 ^ (m + 1) + (p % 2 : Nat) * 2 ^ (m + 1)) (2 ^ (m + 1) + (p / 2 : Nat) * 2 ^ (m + 1)) ∧ levV (view A t).V (h p) = some ((m + 1 : Nat) : Int)
theorem F1.go {id : Int} {m j p : Nat} {A' : Ar} (h0 : F1 rb rl t A id m j h p) (hs : IsSq (QV (view A t)) (m + 3) id) (k : Goes1 t A A') : F1 rb rl t A' id m j h p := ⟨h0.1.ext hs k.sees.ext, k.sees.lev h0.2⟩
structure NG (PR : (Bool → Nat → Bool) → Int → Prop) (S : Item → Prop) (rb rl : Int) (t : Nat) (q : Nat → Int) (A0 A : Ar) (e : Int) (id : Int) (m j k : Nat) (g : Nat → Int) : Prop where
  st : NxSt PR t q A
  gx : Gx t A0 A 0 e (D9 (lifeR rb rl) (rnum rb rl) S m (picQ (QV (view A0 t)) (m + 3) id) j k)
  er : e = 0 ∨ Er e
  nine : e = 0 → ∀ p, p < k → N1 rb rl t A id m j g p
  cl : e = 0 → Cl (lifeR rb rl) (rnum rb rl) S (view A t)
structure FG (PR : (Bool → Nat → Bool) → Int → Prop) (S : Item → Prop) (rb rl : Int) (t : Nat) (q : Nat → Int) (A0 A : Ar) (e : Int) (id : Int) (m j jj k : Nat) (g h : Nat → Int) : Prop where
  st : NxSt PR t q A
  gx : Gx t A0 A 0 e (fun i => D9 (lifeR rb rl) (rnum rb rl) S m (picQ (QV (view A0 t)) (m + 3) id) j 9 i ∨ ∃ r, r < k ∧ F4 (lifeR rb rl) (rnum rb rl) S m (picQ (QV (view A0 t)) (m + 3) id) j jj r i)
  er : e = 0 ∨ Er e
  nine : e = 0 → ∀ p, p < 9 → N1 rb rl t A id m j g p
  four : e = 0 → ∀ p, p < k → F1 rb rl t A id m jj h p
  cl : e = 0 → Cl (lifeR rb rl) (rnum rb rl) S (view A t)
theorem NG.go {id : Int} {m j k : Nat} (h : NG PR S rb rl t q A0 A e id m j k g) : Goes1 t A0 A := h.gx.toGoes1
theorem FG.go {id : Int} {m j jj k : Nat} (h0 : FG PR S rb rl t q A0 A e id m j jj k g h) : Goes1 t A0 A := h0.gx.toGoes1
theorem NG.zero {id : Int} {m j : Nat} (hst : NxSt PR t q A) (hcl : Cl (lifeR rb rl) (rnum rb rl) S (view A t)) : NG PR S rb rl t q A A 0 id m j 0 (fun _ => 0) :=
  ⟨hst, (Gx.nil t A).eqv (fun _ i => ⟨fun h => h.elim, fun ⟨_, h, _⟩ => by omega⟩) (.inl rfl), .inl rfl, fun _ p hp => by omega, fun _ => hcl⟩
variable {id v1 v2 e1 e2 : Int} {m j jj k : Nat}
theorem N1.put {p : Nat} (h : N1 rb rl t A id m j g p) (hp : p ≠ k) {v : Int} : N1 rb rl t A id m j (putN g k v) p := by
  unfold N1
  rw [putN_ne hp]
  exact h
theorem F1.put {p : Nat} (h0 : F1 rb rl t A id m j h p) (hp : p ≠ k) {v : Int} : F1 rb rl t A id m j (putN h k v) p := by
  unfold F1
  rw [putN_ne hp]
  exact h0
theorem nine_pic (hP : PG rb rl t A0 id m f) (hx : L.Ext (QV (view A0 t)) (QV (view A t))) (x y : Nat) (hx3 : x < 3) (hy3 : y < 3) : joinPic (m + 1) (picQ (QV (view A t)) (m + 1) (f (4 * y + x))) (picQ (QV (view A t)) (m + 1) (f (4 * y + x + 1))) (picQ (QV (view A t)) (m + 1) (f (4 * y + 4 + x))) (picQ (QV (view A t)) (m + 1) (f (4 * y + 4 + x + 1))) = W9 m (picQ (QV (view A0 t)) (m + 3) id) (3 * y + x) := by
  have hs : Shows (QV (view A t)) (m + 3) id (picQ (QV (view A0 t)) (m + 3) id) 0 0 := shows_pic.ext hP.sq hx
  have h0 := ((hP.pt x y (by omega) (by omega)).ext hP.sq hx).2 _ _ _ hs
  have h1 := ((hP.pt (x + 1) y (by omega) (by omega)).ext hP.sq hx).2 _ _ _ hs
  have h2 := ((hP.pt x (y + 1) (by omega) (by omega)).ext hP.sq hx).2 _ _ _ hs
  have h3 := ((hP.pt (x + 1) (y + 1) (by omega) (by omega)).ext hP.sq hx).2 _ _ _ hs
  rw [show 4 * y + (x + 1) = 4 * y + x + 1 by omega] at h1
  rw [show 4 * (y + 1) + x = 4 * y + 4 + x by omega] at h2
  rw [show 4 * (y + 1) + (x + 1) = 4 * y + 4 + x + 1 by omega] at h3
  unfold W9
  rw [show (3 * y + x) % 3 = x by omega, show (3 * y + x) / 3 = y by omega]
  have key : ∀ (i : Int) (a b a' b' : Int), Shows (QV (view A t)) (m + 1) i (iter (lifeR rb rl) 0 (picQ (QV (view A0 t)) (m + 3) id)) a b → a = a' → b = b' → Shows (QV (view A t)) (m + 1) i (picQ (QV (view A0 t)) (m + 3) id) a' b' := fun i a b a' b' h e1 e2 => by subst e1 e2; exact h
  refine join_pic (key _ _ _ _ _ h0 ?_ ?_) (key _ _ _ _ _ h1 ?_ ?_) (key _ _ _ _ _ h2 ?_ ?_) (key _ _ _ _ _ h3 ?_ ?_)
  all_goals
    try simp only [Int.natCast_add, Int.add_mul, Int.natCast_one, Int.one_mul]
    omega
theorem NG.step (hP : PG rb rl t A0 id m f) (hN : NG PR S rb rl t q A0 A e id m j k g) (ht : t < 64) (x y : Nat) (hx : x < 3) (hy : y < 3) (hk : k = 3 * y + x) (st1 : NxSt PR t q A1) (g1 : Gx t A A1 e e1 (joinD (QV (view A t)) (m + 1) (f (4 * y + x)) (f (4 * y + x + 1)) (f (4 * y + 4 + x)) (f (4 * y + 4 + x + 1)))) (h1 : Er e1 ∨ (e1 = 0 ∧ e = 0 ∧ QV (view A1 t) v1 = some (f (4 * y + x), f (4 * y + x + 1), f (4 * y + 4 + x), f (4 * y + 4 + x + 1)) ∧ levV (view A1 t).V v1 = some ((m + 1 + 1 : Nat) : Int)))
    (st2 : NxSt PR t q A2) (g2 : Gx t A1 A2 e1 e2 (Dem (lifeR rb rl) (rnum rb rl) S m (picQ (QV (view A1 t)) (m + 2) v1) j)) (h2 : Er e2 ∨ (e2 = 0 ∧ e1 = 0 ∧ Nx (lifeR rb rl) (QV (view A2 t)) m v1 j v2 ∧ levV (view A2 t).V v2 = some ((m + 1 : Nat) : Int) ∧ Cl (lifeR rb rl) (rnum rb rl) S (view A2 t))) : NG PR S rb rl t q A0 A2 e2 id m j (k + 1) (putN g k v2) := by
  have p1 := nine_pic hP hN.go.sees.ext x y hx hy
  have p2 := nine_pic hP (hN.go.trans g1.toGoes1).sees.ext x y hx hy
  rw [← hk] at p1 p2
  have er1 : e1 = 0 ∨ Er e1 := by rcases h1 with h | h; exact .inr h; exact .inl h.1
  have q1 : Gx t A0 A1 0 e1 (fun i => D9 (lifeR rb rl) (rnum rb rl) S m (picQ (QV (view A0 t)) (m + 3) id) j k i ∨ i = .sq (m + 2) (W9 m (picQ (QV (view A0 t)) (m + 3) id) k)) :=
    Gx.seq hN.st ht hN.er hN.gx g1 (fun i h => .inl h) (fun _ _ i h => .inr (by unfold joinD at h; rw [p1] at h; exact h)) (fun _ _ _ i h => by
      rcases h with h | h
      · exact .inl h
      · exact .inr (by unfold joinD; rw [p1]; exact h))
  have q2 : Gx t A0 A2 0 e2 (D9 (lifeR rb rl) (rnum rb rl) S m (picQ (QV (view A0 t)) (m + 3) id) j (k + 1)) := by
    have pv : e1 = 0 → picQ (QV (view A1 t)) (m + 2) v1 = W9 m (picQ (QV (view A0 t)) (m + 3) id) k := fun e0 => by
      rcases h1 with h1 | ⟨_, _, hq, _⟩
      · first | exact absurd h1 e0.ne | exact absurd e0 h1.ne
      · rw [← join_picQ hq]; exact p2
    refine Gx.seq st1 ht er1 q1 g2 (fun i h => ?_) (fun e0 _ i h => ?_) (fun _ e0 _ i h => ?_)
    · rcases h with ⟨r, hr, h⟩ | h
      · exact ⟨r, by omega, h⟩
      · exact ⟨k, by omega, .inl h⟩
    · rw [pv e0] at h
      exact ⟨k, by omega, .inr h⟩
    · obtain ⟨r, hr, h⟩ := h
      rw [pv e0]
      by_cases hrk : r = k
      · subst hrk
        rcases h with h | h
        · exact .inl (.inr h)
        · exact .inr h
      · exact .inl (.inl ⟨r, by omega, h⟩)
  have g1' := g1.toGoes1
  have g2' := g2.toGoes1
  refine ⟨st2, q2, ?_, fun he2 p hp => ?_, fun he2 => ?_⟩
  · rcases h2 with h2 | ⟨h2, _⟩
    · exact .inr h2
    · exact .inl h2
  · rcases h2 with h2 | ⟨_, he1, hn, hl, _⟩
    · first | exact absurd h2 he2.ne | exact absurd he2 h2.ne
    · rcases h1 with h1 | ⟨_, he, hq, _⟩
      · first | exact absurd h1 he1.ne | exact absurd he1 h1.ne
      · by_cases hpk : p = k
        · subst hpk
          unfold N1
          rw [putN_eq]
          refine ⟨?_, hl⟩
          rw [show p % 3 = x by omega, show p / 3 = y by omega]
          exact nine_at hP.sq hP.pt ((hN.go.trans g1').sees.ext) g2'.sees.ext hx hy hq hn
        · exact ((hN.nine he p (by omega)).go (hP.sq.ext hN.go.sees.ext) (g1'.trans g2')).put hpk
  · rcases h2 with h2 | ⟨_, _, _, _, hc⟩
    · first | exact absurd h2 he2.ne | exact absurd he2 h2.ne
    · exact hc
theorem N1.at (h : ∀ p, p < 9 → N1 rb rl t A id m j g p) : ∀ x y, x < 3 → y < 3 → At (lifeR rb rl) (QV (view A t)) (m + 3) id (m + 1) (g (3 * y + x)) (2 ^ j) (2 ^ m + x * 2 ^ (m + 1)) (2 ^ m + y * 2 ^ (m + 1)) := fun x y hx hy => by
  have := (h (3 * y + x) (by omega)).1
  rw [show (3 * y + x) % 3 = x by omega, show (3 * y + x) / 3 = y by omega] at this
  exact this
theorem FG.ofNG (hN : NG PR S rb rl t q A0 A e id m j 9 g) (h : Nat → Int) : FG PR S rb rl t q A0 A e id m j jj 0 g h :=
  ⟨hN.st, hN.gx.eqv (fun _ i => ⟨fun h => .inl h, fun h => by rcases h with h | ⟨_, h, _⟩; exact h; omega⟩) (.inl rfl), hN.er, hN.nine, fun _ p hp => (by omega), hN.cl⟩
theorem four_pic (hs0 : IsSq (QV (view A0 t)) (m + 3) id) (hx : L.Ext (QV (view A0 t)) (QV (view A t))) (h9 : ∀ p, p < 9 → N1 rb rl t A id m j g p) (x y : Nat) (hx2 : x < 2) (hy2 : y < 2) : joinPic (m + 1) (picQ (QV (view A t)) (m + 1) (g (3 * y + x))) (picQ (QV (view A t)) (m + 1) (g (3 * y + x + 1))) (picQ (QV (view A t)) (m + 1) (g (3 * y + 3 + x))) (picQ (QV (view A t)) (m + 1) (g (3 * y + 3 + x + 1))) = W4 (lifeR rb rl) m j (picQ (QV (view A0 t)) (m + 3) id) (2 * y + x) := by
  have hs : Shows (QV (view A t)) (m + 3) id (picQ (QV (view A0 t)) (m + 3) id) 0 0 := shows_pic.ext hs0 hx
  have h0 := (N1.at h9 x y (by omega) (by omega)).2 _ _ _ hs
  have h1 := (N1.at h9 (x + 1) y (by omega) (by omega)).2 _ _ _ hs
  have h2 := (N1.at h9 x (y + 1) (by omega) (by omega)).2 _ _ _ hs
  have h3 := (N1.at h9 (x + 1) (y + 1) (by omega) (by omega)).2 _ _ _ hs
  rw [show 3 * y + (x + 1) = 3 * y + x + 1 by omega] at h1
  rw [show 3 * (y + 1) + x = 3 * y + 3 + x by omega] at h2
  rw [show 3 * (y + 1) + (x + 1) = 3 * y + 3 + x + 1 by omega] at h3
  unfold W4
  rw [show (2 * y + x) % 2 = x by omega, show (2 * y + x) / 2 = y by omega]
  refine join_pic (shows_mv h0 ?_ ?_) (shows_mv h1 ?_ ?_) (shows_mv h2 ?_ ?_) (shows_mv h3 ?_ ?_)
  all_goals
    try simp only [Int.natCast_add, Int.add_mul, Int.natCast_one, Int.one_mul]
    omega
theorem FG.full (hs : IsSq (QV (view A0 t)) (m + 3) id) (hF : FG PR S rb rl t q A0 A e id m j (j + 1) k g h) (ht : t < 64) (x y : Nat) (hx : x < 2) (hy : y < 2) (hk : k = 2 * y + x) (st1 : NxSt PR t q A1) (g1 : Gx t A A1 e e1 (joinD (QV (view A t)) (m + 1) (g (3 * y + x)) (g (3 * y + x + 1)) (g (3 * y + 3 + x)) (g (3 * y + 3 + x + 1)))) (h1 : Er e1 ∨ (e1 = 0 ∧ e = 0 ∧ QV (view A1 t) v1 = some (g (3 * y + x), g (3 * y + x + 1), g (3 * y + 3 + x), g (3 * y + 3 + x + 1)) ∧ levV (view A1 t).V v1 = some ((m + 1 + 1 : Nat) : Int)))
    (st2 : NxSt PR t q A2) (g2 : Gx t A1 A2 e1 e2 (Dem (lifeR rb rl) (rnum rb rl) S m (picQ (QV (view A1 t)) (m + 2) v1) j)) (h2 : Er e2 ∨ (e2 = 0 ∧ e1 = 0 ∧ Nx (lifeR rb rl) (QV (view A2 t)) m v1 j v2 ∧ levV (view A2 t).V v2 = some ((m + 1 : Nat) : Int) ∧ Cl (lifeR rb rl) (rnum rb rl) S (view A2 t))) : FG PR S rb rl t q A0 A2 e2 id m j (j + 1) (k + 1) g (putN h k v2) := by
  have hs1 := hs.ext hF.go.sees.ext
  have g1' := g1.toGoes1
  have g2' := g2.toGoes1
  have er1 : e1 = 0 ∨ Er e1 := by rcases h1 with h | h; exact .inr h; exact .inl h.1
  have hjj : ¬ j + 1 = j := by omega
  have p1 : e = 0 → _ := fun e0 => four_pic hs hF.go.sees.ext (hF.nine e0) x y hx hy
  have p2 : e = 0 → _ := fun e0 => four_pic hs (hF.go.trans g1').sees.ext (fun p hp => (hF.nine e0 p hp).go hs1 g1') x y hx hy
  rw [← hk] at p1 p2
  have q1 : Gx t A0 A1 0 e1 (fun i => (D9 (lifeR rb rl) (rnum rb rl) S m (picQ (QV (view A0 t)) (m + 3) id) j 9 i ∨ ∃ r, r < k ∧ F4 (lifeR rb rl) (rnum rb rl) S m (picQ (QV (view A0 t)) (m + 3) id) j (j + 1) r i) ∨ i = .sq (m + 2) (W4 (lifeR rb rl) m j (picQ (QV (view A0 t)) (m + 3) id) k)) :=
    Gx.seq hF.st ht hF.er hF.gx g1 (fun i h => .inl h) (fun e0 _ i h => .inr (by unfold joinD at h; rw [p1 e0] at h; exact h)) (fun _ e0 _ i h => by
      rcases h with h | h
      · exact .inl h
      · exact .inr (by unfold joinD; rw [p1 e0]; exact h))
  have q2 : Gx t A0 A2 0 e2 (fun i => D9 (lifeR rb rl) (rnum rb rl) S m (picQ (QV (view A0 t)) (m + 3) id) j 9 i ∨ ∃ r, r < k + 1 ∧ F4 (lifeR rb rl) (rnum rb rl) S m (picQ (QV (view A0 t)) (m + 3) id) j (j + 1) r i) := by
    have pv : e1 = 0 → picQ (QV (view A1 t)) (m + 2) v1 = W4 (lifeR rb rl) m j (picQ (QV (view A0 t)) (m + 3) id) k := fun e0 => by
      rcases h1 with h1 | ⟨_, e0', hq, _⟩
      · first | exact absurd h1 e0.ne | exact absurd e0 h1.ne
      · rw [← join_picQ hq]; exact p2 e0'
    have hF4 : ∀ r i, F4 (lifeR rb rl) (rnum rb rl) S m (picQ (QV (view A0 t)) (m + 3) id) j (j + 1) r i ↔ (i = .sq (m + 2) (W4 (lifeR rb rl) m j (picQ (QV (view A0 t)) (m + 3) id) r) ∨ Dem (lifeR rb rl) (rnum rb rl) S m (W4 (lifeR rb rl) m j (picQ (QV (view A0 t)) (m + 3) id) r) j i) := fun r i => by unfold F4; rw [if_neg hjj]
    refine Gx.seq st1 ht er1 q1 g2 (fun i h => ?_) (fun e0 _ i h => ?_) (fun _ e0 _ i h => ?_)
    · rcases h with (h | ⟨r, hr, h⟩) | h
      · exact .inl h
      · exact .inr ⟨r, by omega, h⟩
      · exact .inr ⟨k, by omega, (hF4 k i).2 (.inl h)⟩
    · rw [pv e0] at h
      exact .inr ⟨k, by omega, (hF4 k i).2 (.inr h)⟩
    · rcases h with h | ⟨r, hr, h⟩
      · exact .inl (.inl (.inl h))
      · rw [pv e0]
        by_cases hrk : r = k
        · subst hrk
          rcases (hF4 r i).1 h with h | h
          · exact .inl (.inr h)
          · exact .inr h
        · exact .inl (.inl (.inr ⟨r, by omega, h⟩))
  refine ⟨st2, q2, ?_, fun he2 p hp => ?_, fun he2 p hp => ?_, fun he2 => ?_⟩
  · rcases h2 with h2 | ⟨h2, _⟩
    · exact .inr h2
    · exact .inl h2
  all_goals
    rcases h2 with h2 | ⟨_, he1, hn, hl, hc⟩
    · first | exact absurd h2 he2.ne | exact absurd he2 h2.ne
    rcases h1 with h1 | ⟨_, he, hq, _⟩
    · first | exact absurd h1 he1.ne | exact absurd he1 h1.ne
  · exact (hF.nine he p hp).go hs1 (g1'.trans g2')
  · by_cases hpk : p = k
    · subst hpk
      unfold F1
      rw [putN_eq]
      refine ⟨?_, hl⟩
      rw [show p % 2 = x by omega, show p / 2 = y by omega]
      exact four_full (hs1.ext g1'.sees.ext) (N1.at fun p hp => (hF.nine he p hp).go hs1 g1') g2'.sees.ext hx hy hq hn
    · exact ((hF.four he p (by omega)).go hs1 (g1'.trans g2')).put hpk
  · exact hc
theorem mid_pic (hs0 : IsSq (QV (view A0 t)) (m + 3) id) (hx : L.Ext (QV (view A0 t)) (QV (view A t))) (h9 : ∀ p, p < 9 → N1 rb rl t A id m j g p) (x y : Nat) (hx2 : x < 2) (hy2 : y < 2) {k0 k1 k2 k3 : Int × Int × Int × Int}
    (q0 : QV (view A t) (g (3 * y + x)) = some k0) (q1 : QV (view A t) (g (3 * y + x + 1)) = some k1) (q2 : QV (view A t) (g (3 * y + 3 + x)) = some k2) (q3 : QV (view A t) (g (3 * y + 3 + x + 1)) = some k3) : joinPic m (picQ (QV (view A t)) m k0.2.2.2) (picQ (QV (view A t)) m k1.2.2.1) (picQ (QV (view A t)) m k2.2.1) (picQ (QV (view A t)) m k3.1) = M4 (lifeR rb rl) m j (picQ (QV (view A0 t)) (m + 3) id) (2 * y + x) := by
  have hs : Shows (QV (view A t)) (m + 3) id (picQ (QV (view A0 t)) (m + 3) id) 0 0 := shows_pic.ext hs0 hx
  have a0 := ((N1.at h9 x y (by omega) (by omega)).kid q0 3 (by omega)).2 _ _ _ hs
  have a1 := ((N1.at h9 (x + 1) y (by omega) (by omega)).kid (by rw [show 3 * y + (x + 1) = 3 * y + x + 1 by omega]; exact q1) 2 (by omega)).2 _ _ _ hs
  have a2 := ((N1.at h9 x (y + 1) (by omega) (by omega)).kid (by rw [show 3 * (y + 1) + x = 3 * y + 3 + x by omega]; exact q2) 1 (by omega)).2 _ _ _ hs
  have a3 := ((N1.at h9 (x + 1) (y + 1) (by omega) (by omega)).kid (by rw [show 3 * (y + 1) + (x + 1) = 3 * y + 3 + x + 1 by omega]; exact q3) 0 (by omega)).2 _ _ _ hs
  have hp := two_powI m
  unfold M4
  rw [show (2 * y + x) % 2 = x by omega, show (2 * y + x) / 2 = y by omega]
  refine join_pic (shows_mv a0 ?_ ?_) (shows_mv a1 ?_ ?_) (shows_mv a2 ?_ ?_) (shows_mv a3 ?_ ?_)
  all_goals
    simp only [Int.natCast_add, Int.add_mul, Int.natCast_one, Int.one_mul, hp]
    generalize (2 : Int) ^ m = p
    simp
    generalize (x : Int) * (p + p) = px
    generalize (y : Int) * (p + p) = py
    omega
theorem FG.part (hs : IsSq (QV (view A0 t)) (m + 3) id) (hF : FG PR S rb rl t q A0 A e id m j j k g h) (ht : t < 64) (x y : Nat) (hx : x < 2) (hy : y < 2) (hk : k = 2 * y + x) (st2 : NxSt PR t q A2) (g2 : Gx t A A2 e e2 (midD (QV (view A t)) m (g (3 * y + x)) (g (3 * y + x + 1)) (g (3 * y + 3 + x)) (g (3 * y + 3 + x + 1))))
    (h2 : Er e2 ∨ (e2 = 0 ∧ e = 0 ∧ (∃ k0 k1 k2 k3, QV (view A2 t) (g (3 * y + x)) = some k0 ∧ QV (view A2 t) (g (3 * y + x + 1)) = some k1 ∧ QV (view A2 t) (g (3 * y + 3 + x)) = some k2 ∧ QV (view A2 t) (g (3 * y + 3 + x + 1)) = some k3 ∧ QV (view A2 t) v2 = some (k0.2.2.2, k1.2.2.1, k2.2.1, k3.1)) ∧ levV (view A2 t).V v2 = some ((m + 1 : Nat) : Int))) : FG PR S rb rl t q A0 A2 e2 id m j j (k + 1) g (putN h k v2) := by
  have hs1 := hs.ext hF.go.sees.ext
  have g2' := g2.toGoes1
  have hw := hF.st.g.wel t ht
  have hM : e = 0 → ∀ i, midD (QV (view A t)) m (g (3 * y + x)) (g (3 * y + x + 1)) (g (3 * y + 3 + x)) (g (3 * y + 3 + x + 1)) i ↔ F4 (lifeR rb rl) (rnum rb rl) S m (picQ (QV (view A0 t)) (m + 3) id) j j k i := fun e0 i => by
    have h9 := hF.nine e0
    unfold F4
    rw [if_pos rfl, hk]
    constructor
    · rintro ⟨k0, k1, k2, k3, c0, c1, c2, c3, c4⟩
      unfold joinD at c4
      rw [mid_pic hs hF.go.sees.ext h9 x y hx hy c0 c1 c2 c3] at c4
      exact c4
    · intro hi
      obtain ⟨r0, c0, _⟩ := kids_lev hw (h9 (3 * y + x) (by omega)).2
      obtain ⟨r1, c1, _⟩ := kids_lev hw (h9 (3 * y + x + 1) (by omega)).2
      obtain ⟨r2, c2, _⟩ := kids_lev hw (h9 (3 * y + 3 + x) (by omega)).2
      obtain ⟨r3, c3, _⟩ := kids_lev hw (h9 (3 * y + 3 + x + 1) (by omega)).2
      refine ⟨_, _, _, _, c0, c1, c2, c3, ?_⟩
      unfold joinD
      rw [mid_pic hs hF.go.sees.ext h9 x y hx hy c0 c1 c2 c3]
      exact hi
  have q2 : Gx t A0 A2 0 e2 (fun i => D9 (lifeR rb rl) (rnum rb rl) S m (picQ (QV (view A0 t)) (m + 3) id) j 9 i ∨ ∃ r, r < k + 1 ∧ F4 (lifeR rb rl) (rnum rb rl) S m (picQ (QV (view A0 t)) (m + 3) id) j j r i) := by
    refine Gx.seq hF.st ht hF.er hF.gx g2 (fun i h => ?_) (fun e0 _ i h => .inr ⟨k, by omega, (hM e0 i).1 h⟩) (fun _ e0 _ i h => ?_)
    · rcases h with h | ⟨r, hr, h⟩
      · exact .inl h
      · exact .inr ⟨r, by omega, h⟩
    · rcases h with h | ⟨r, hr, h⟩
      · exact .inl (.inl h)
      · by_cases hrk : r = k
        · subst hrk
          exact .inr ((hM e0 i).2 h)
        · exact .inl (.inr ⟨r, by omega, h⟩)
  refine ⟨st2, q2, ?_, fun he2 p hp => ?_, fun he2 p hp => ?_, fun he2 => ?_⟩
  · rcases h2 with h2 | ⟨h2, _⟩
    · exact .inr h2
    · exact .inl h2
  all_goals
    rcases h2 with h2 | ⟨_, he, ⟨k0, k1, k2, k3, c0, c1, c2, c3, c4⟩, hl⟩
    · first | exact absurd h2 he2.ne | exact absurd he2 h2.ne
  · exact (hF.nine he p hp).go hs1 g2'
  · by_cases hpk : p = k
    · subst hpk
      unfold F1
      rw [putN_eq]
      refine ⟨?_, hl⟩
      rw [show p % 2 = x by omega, show p / 2 = y by omega]
      exact four_part (N1.at fun p hp => (hF.nine he p hp).go hs1 g2') hx hy c0 c1 c2 c3 c4
    · exact ((hF.four he p (by omega)).go hs1 g2').put hpk
  · exact (hF.cl he).more hF.st ht g2 fun i ⟨_, _, _, _, _, _, _, _, hi⟩ => joinD_sq i hi
theorem FG.done (hs : IsSq (QV (view A0 t)) (m + 3) id) (hF : FG PR S rb rl t q A0 A e id m j jj 4 g h) (g2 : Goes1 t A A2) (he : e = 0) (hq : QV (view A2 t) v2 = some (h 0, h 1, h 2, h 3)) : Nx (lifeR rb rl) (QV (view A2 t)) (m + 1) id jj v2 := by
  have hs1 := hs.ext hF.go.sees.ext
  refine four_nx (h := h) (fun x y hx hy => ?_) hq
  have := ((hF.four he (2 * y + x) (by omega)).go hs1 g2).1
  rw [show (2 * y + x) % 2 = x by omega, show (2 * y + x) / 2 = y by omega] at this
  exact this
theorem FG.fin (hs : IsSq (QV (view A0 t)) (m + 3) id) (hF : FG PR S rb rl t q A0 A e id m j jj 4 g h) (ht : t < 64) (hj : j = jf m jj) (g2 : Gx t A A2 e e2 (joinD (QV (view A t)) (m + 1) (h 0) (h 1) (h 2) (h 3))) : Gx t A0 A2 0 e2 (FindD (lifeR rb rl) (rnum rb rl) S (m + 1) (picQ (QV (view A0 t)) (m + 3) id) jj) := by
  have hM : e = 0 → joinPic (m + 1) (picQ (QV (view A t)) (m + 1) (h 0)) (picQ (QV (view A t)) (m + 1) (h 1)) (picQ (QV (view A t)) (m + 1) (h 2)) (picQ (QV (view A t)) (m + 1) (h 3)) = pic (iter (lifeR rb rl) (2 ^ jj) (picQ (QV (view A0 t)) (m + 3) id)) (2 ^ (m + 1)) (2 ^ (m + 1)) (m + 2) := fun e0 => by
    have hs2 : Shows (QV (view A t)) (m + 3) id (picQ (QV (view A0 t)) (m + 3) id) 0 0 := shows_pic.ext hs hF.go.sees.ext
    have k := fun p hp => (hF.four e0 p hp).1.2 _ _ _ hs2
    refine join_pic (shows_mv (k 0 (by omega)) ?_ ?_) (shows_mv (k 1 (by omega)) ?_ ?_) (shows_mv (k 2 (by omega)) ?_ ?_) (shows_mv (k 3 (by omega)) ?_ ?_)
    all_goals simp
  refine Gx.seq hF.st ht hF.er hF.gx g2 (fun i h => ?_) (fun e0 _ i h => .inl (by unfold joinD at h; rw [hM e0] at h; exact h)) (fun _ e0 _ i h => ?_)
  · show _ ∨ _ ∨ _
    rw [← hj]
    exact .inr h
  · rcases h with h | h
    · exact .inr (by unfold joinD; rw [hM e0]; exact h)
    · rw [← hj] at h
      exact .inl h
end
end Go.Proofs.YtofbcngcblleaabGreat.A
