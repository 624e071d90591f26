/- The document's side: its queue, what has come, and the closure that moves lines up. -/
import Derived.Test.YtpldaghhledjlaaGreatDoorHoMove
import Derived.Test.YtpldaghhledjlaaGreatDoorTuRel
namespace Go.Proofs.YtpldaghhledjlaaGreatDoor.H
open Go.RowKit

/-- the document's labels: 5 the queue, 6 the row of what has come, from 1000 on the rows of tenants; 8: the closure's two variables, which stay -/
def DL (l : Nat) : Prop := l = 5 ∨ l = 6 ∨ 1000 ≤ l
structure DoAt (w : World) (o : Nat → Nat) (cbx qbx C qb n : Nat) (Q : Qu) (cs : List Nat) : Prop where
  cb : w.heap[cbx]? = some (.cells #[.slice (some ⟨C, 0, none⟩) n n] 33 (0, 0))
  cbl : o cbx = 8
  qk : w.heap[qbx]? = some (.cells #[.pointer (some ⟨qb, 0, none⟩)] 30 (0, 0))
  qkl : o qbx = 8
  qu : ∃ v, QuAt w 0 qb v Q ∧ ∀ k, QuOwn qb v k → o k = 5
  len : cs.length = n
  cl : o C = 6
  com : ∃ vs : List Value, w.heap[C]? = some (.cells vs.toArray 34 (0, 0)) ∧ vs.length = n ∧ ∀ (t : Nat) v d, vs[t]? = some v → cs[t]? = some d → Qs w v d ∧ ∀ k, QsOwn v k → o k = 1000 + t
variable {L : Nat → Prop} {o o' : Nat → Nat} {w w1 w' : World} {cbx qbx C qb n : Nat} {Q : Qu} {cs : List Nat}
theorem lt_of_heap {w : World} {b : Nat} {x : Obj} (h : w.heap[b]? = some x) : b < w.heap.size := (Array.getElem?_eq_some_iff.1 h).1
theorem DoAt.ch (h : DoAt w o cbx qbx C qb n Q cs) (k : Ch L o w o' w') (hn : ∀ l, L l → ¬ DL l ∧ l ≠ 8) : DoAt w' o' cbx qbx C qb n Q cs := by
  have n5 : ¬ L 5 := fun e => (hn 5 e).1 (.inl rfl)
  have n6 : ¬ L 6 := fun e => (hn 6 e).1 (.inr (.inl rfl))
  have n8 : ¬ L 8 := fun e => (hn 8 e).2 rfl
  have nt : ∀ t, ¬ L (1000 + t) := fun t e => (hn _ e).1 (.inr (.inr (by omega)))
  obtain ⟨v, q1, q2⟩ := h.qu
  obtain ⟨vs, c1, c2, c3⟩ := h.com
  refine ⟨(k.at (lt_of_heap h.cb) h.cbl n8).1.trans h.cb, (k.at (lt_of_heap h.cb) h.cbl n8).2, (k.at (lt_of_heap h.qk) h.qkl n8).1.trans h.qk, (k.at (lt_of_heap h.qk) h.qkl n8).2, ⟨v, q1.keep fun i hi => (k.at (q1.lt i hi).2 (q2 i hi) n5).1, fun i hi => (k.at (q1.lt i hi).2 (q2 i hi) n5).2⟩, h.len, (k.at (lt_of_heap c1) h.cl n6).2, vs, (k.at (lt_of_heap c1) h.cl n6).1.trans c1, c2, fun t v d hv hd => ?_⟩
  obtain ⟨h1, h2⟩ := c3 t v d hv hd
  exact ⟨h1.keep fun i hi => (k.at (h1.lt hi) (h2 i hi) (nt t)).1, fun i hi => (k.at (h1.lt hi) (h2 i hi) (nt t)).2⟩
theorem HL_DL : ∀ l, HL l → ¬ DL l ∧ l ≠ 8 := fun l h => by unfold HL at h; unfold DL; omega
theorem DL_HL : ∀ l, DL l → ¬ HL l := fun l h => by unfold DL at h; unfold HL; omega
/-- the queue has changed -/
theorem DoAt.setQ (h : DoAt w o cbx qbx C qb n Q cs) {v' : Value} {Q' : Qu} (k : Ch (fun l => l = 5) o w o' w') (hq : QuAt w' 0 qb v' Q') (hl : ∀ i, QuOwn qb v' i → o' i = 5) : DoAt w' o' cbx qbx C qb n Q' cs := by
  have n6 : ¬ (6 : Nat) = 5 := by omega
  have n8 : ¬ (8 : Nat) = 5 := by omega
  obtain ⟨vs, c1, c2, c3⟩ := h.com
  refine ⟨(k.at (lt_of_heap h.cb) h.cbl n8).1.trans h.cb, (k.at (lt_of_heap h.cb) h.cbl n8).2, (k.at (lt_of_heap h.qk) h.qkl n8).1.trans h.qk, (k.at (lt_of_heap h.qk) h.qkl n8).2, ⟨v', hq, hl⟩, h.len, (k.at (lt_of_heap c1) h.cl n6).2, vs, (k.at (lt_of_heap c1) h.cl n6).1.trans c1, c2, fun t v d hv hd => ?_⟩
  obtain ⟨h1, h2⟩ := c3 t v d hv hd
  exact ⟨h1.keep fun i hi => (k.at (h1.lt hi) (h2 i hi) (by omega)).1, fun i hi => (k.at (h1.lt hi) (h2 i hi) (by omega)).2⟩
/-- a tenant's row has changed: it is put in the place of the one that was -/
theorem DoAt.setRow (h : DoAt w o cbx qbx C qb n Q cs) {vs : List Value} {t d' : Nat} {v v' : Value} (c1 : w.heap[C]? = some (.cells vs.toArray 34 (0, 0))) (c2 : vs.length = n) (c3 : ∀ (t : Nat) v d, vs[t]? = some v → cs[t]? = some d → Qs w v d ∧ ∀ k, QsOwn v k → o k = 1000 + t)
    (hv : vs[t]? = some v) (ht : t < n) (hq : Qs w1 v' d') (ho : OnlyF (QsOwn v) w w1) (hat : ∀ k, QsOwn v' k → QsOwn v k ∨ w.heap.size ≤ k) :
    DoAt (w1.setCell ⟨C, t, none⟩ v') (ext o w.heap.size (1000 + t)) cbx qbx C qb n Q (cs.set t d') ∧ Ch DL o w (ext o w.heap.size (1000 + t)) (w1.setCell ⟨C, t, none⟩ v') := by
  have htc : t < cs.length := by rw [h.len]; exact ht
  have hvo : ∀ k, QsOwn v k → o k = 1000 + t ∧ k < w.heap.size := fun k hk => by
    obtain ⟨a1, a2⟩ := c3 t v cs[t] hv (List.getElem?_eq_getElem htc)
    exact ⟨a2 k hk, a1.lt hk⟩
  have hCl := lt_of_heap c1
  have hkeep : ∀ k, k < w.heap.size → o k ≠ 1000 + t → o k ≠ 6 → (w1.setCell ⟨C, t, none⟩ v').heap[k]? = w.heap[k]? := fun k hk h1 h6 => by
    rw [Below.heap_setCell _ _ _ _ (by intro e; change k = C at e; rw [e] at h6; exact h6 h.cl)]
    exact ho.block k hk fun f => h1 (hvo k f).1
  have hl : ∀ k, QsOwn v' k → ext o w.heap.size (1000 + t) k = 1000 + t := fun k hk => by
    rcases hat k hk with h2 | h2
    · exact ext_is (hvo k h2).1
    · exact ext_new h2
  have e1 : w1.heap[C]? = w.heap[C]? := ho.block C hCl fun f => by have := (hvo C f).1; rw [h.cl] at this; omega
  obtain ⟨vq, q1, q2⟩ := h.qu
  refine ⟨⟨?_, ?_, ?_, ?_, ⟨vq, q1.keep fun i hi => hkeep i (q1.lt i hi).2 (by rw [q2 i hi]; omega) (by rw [q2 i hi]; omega), fun i hi => by rw [ext_old (q1.lt i hi).2]; exact q2 i hi⟩, by rw [List.length_set]; exact h.len, by rw [ext_old hCl]; exact h.cl, vs.set t v', ?_, by rw [List.length_set]; exact c2, fun u y d hu hd => ?_⟩, ?_⟩
  · exact (hkeep cbx (lt_of_heap h.cb) (by rw [h.cbl]; omega) (by rw [h.cbl]; omega)).trans h.cb
  · rw [ext_old (lt_of_heap h.cb)]; exact h.cbl
  · exact (hkeep qbx (lt_of_heap h.qk) (by rw [h.qkl]; omega) (by rw [h.qkl]; omega)).trans h.qk
  · rw [ext_old (lt_of_heap h.qk)]; exact h.qkl
  · have := block_set (e1.trans c1) t v'
    rw [List.setIfInBounds_toArray] at this
    exact this
  · rw [List.getElem?_set] at hu hd
    by_cases htu : t = u
    · subst htu
      rw [if_pos rfl, if_pos (by omega)] at hu hd
      cases hu
      cases hd
      refine ⟨hq.keep fun k hk => Below.heap_setCell _ _ _ _ fun e => ?_, hl⟩
      change k = C at e
      have := hl k hk
      rw [e, ext_old hCl, h.cl] at this
      omega
    · rw [if_neg htu] at hu hd
      obtain ⟨a1, a2⟩ := c3 u y d hu hd
      exact ⟨a1.keep fun k hk => hkeep k (a1.lt hk) (by rw [a2 k hk]; omega) (by rw [a2 k hk]; omega), fun k hk => by rw [ext_old (a1.lt hk)]; exact a2 k hk⟩
  · have h3 : OnlyF (fun k => QsOwn v k ∨ k = C) w (w1.setCell ⟨C, t, none⟩ v') := OnlyF.trans (F := fun k => QsOwn v k ∨ k = C) ⟨ho.os, ho.tape, ho.output, ho.size, fun k hk hn => ho.block k hk fun f => hn (.inl f)⟩ (OnlyF.set (F := fun k => QsOwn v k ∨ k = C) w1 ⟨C, t, none⟩ v' (.inr rfl)) fun k hk => .inl hk
    exact Ch.of h3 _ fun k hk _ => by
      rcases hk with h4 | h4
      · rw [(hvo k h4).1]; exact .inr (.inr (by omega))
      · rw [h4, h.cl]; exact .inr (.inl rfl)
/-- a tenant's lines go where they wait, as many as may: the document's -/
def moveQ (t : Nat) : Nat → Qu → Qu × Nat
  | 0, Q => (Q, 0)
  | d + 1, Q => if (Q.push t qm).1 = 0 then moveQ t d (Q.push t qm).2 else (Q, d + 1)
theorem push_len (Q : Qu) (t : Int) : ((Q.push t qm).1 = 0 → (Q.push t qm).2.wait.length = Q.wait.length + 1) ∧ ((Q.push t qm).1 ≠ 0 → (Q.push t qm).2 = Q) := by
  unfold Qu.push
  split
  · split
    · exact ⟨fun h => by simp at h, fun _ => rfl⟩
    · exact ⟨fun _ => by simp, fun h => by simp at h⟩
  · exact ⟨fun h => by simp at h, fun _ => rfl⟩
theorem moveQ_len (t : Nat) : ∀ (d : Nat) (Q : Qu), (moveQ t d Q).1.wait.length + (moveQ t d Q).2 = Q.wait.length + d
  | 0, Q => by simp [moveQ]
  | d + 1, Q => by
    unfold moveQ
    split
    · rename_i h
      rw [moveQ_len t d, (push_len Q t).1 h]
      omega
    · rfl
theorem move_rel (t : Nat) : ∀ (d : Nat) (T : Tu) (Q : Qu), Rel T Q → Rel (moveF t d T).1 (moveQ t d Q).1 ∧ (moveF t d T).2 = (moveQ t d Q).2
  | 0, T, Q, h => ⟨h, rfl⟩
  | d + 1, T, Q, h => by
    obtain ⟨h1, h2, _⟩ := h.push t qm
    unfold moveF moveQ
    rw [h1]
    split
    · exact move_rel t d _ _ h2
    · exact ⟨h, rfl⟩
theorem move_qm (t : Nat) : ∀ (d : Nat) (Q : Qu), (∀ l ∈ Q.wait, l.2 = qm) → ∀ l ∈ (moveQ t d Q).1.wait, l.2 = qm
  | 0, Q, h => h
  | d + 1, Q, h => by
    unfold moveQ
    split
    · refine move_qm t d _ ?_
      unfold Qu.push
      split
      · split
        · exact h
        · intro l hl
          rcases List.mem_append.1 hl with h1 | h1
          · exact h l h1
          · simp at h1; rw [h1]
      · exact h
    · exact h
theorem Qs.zero (w : World) (a : Option Addr) : Qs w (.slice a 0 0) 0 := ⟨a, 0, 0, 0, rfl, Nat.le_refl _, by unfold maxLen; omega, fun h => absurd h (by omega), fun h => absurd h (by omega), fun j h => absurd h (by omega), fun j h => absurd h (by omega)⟩
theorem Qs.tail {g off d c : Nat} (h : QsR w (some ⟨g, off, none⟩) g off (d + 1) c) (hc : 1 < c) : Qs w (.slice (some ⟨g, off + 1, none⟩) d (c - 1)) d :=
  ⟨_, g, off + 1, c - 1, rfl, by have := h.le; omega, by have := h.max; omega, fun _ => rfl, fun _ => h.lt (by omega), fun j hj => by rw [show off + 1 + j = off + (j + 1) by omega]; exact h.old (j + 1) (by omega), fun j hj => by rw [show off + 1 + j = off + (j + 1) by omega]; exact h.there (j + 1) (by omega)⟩
/-- a push -/
theorem DoAt.push (h : DoAt w o cbx qbx C qb n Q cs) (t : Nat) (hl : Q.wait.length < 300) :
    Calls Tryz.prog 7 #[.pointer (some ⟨qb, 0, none⟩), .int .i64 t, .string qm] w fun e w' => e = .returned (.int .i64 (Q.push t qm).1) ∧ ∃ o', DoAt w' o' cbx qbx C qb n (Q.push t qm).2 cs ∧ Ch (fun l => l = 5) o w o' w' := by
  obtain ⟨v, q1, q2⟩ := h.qu
  refine (RefPush_any 0 qb v Q t qm w q1 hl (Nat.zero_le _)).mono ?_
  rintro e w' ⟨rfl, v', h1, h2, h3⟩
  have hc : Ch (fun l => l = 5) o w (ext o w.heap.size 5) w' := Ch.of h2 5 fun k hk _ => q2 k hk
  refine ⟨rfl, _, h.setQ hc h1 (fun i hi => ?_), hc⟩
  rcases h3 i hi with h4 | h4
  · exact ext_is (q2 i h4)
  · exact ext_new h4
theorem DoAt.drew (h : DoAt w o cbx qbx C qb n Q cs) : DoAt w.drew o cbx qbx C qb n Q cs := h.ch ((Ch.refl (fun _ => False) o w).drew) fun _ h => h.elim
theorem DoAt.drewN (h : DoAt w o cbx qbx C qb n Q cs) (m : Nat) : DoAt (w.drewN m) o cbx qbx C qb n Q cs := h.ch ((Ch.refl (fun _ => False) o w).drewN m) fun _ h => h.elim
theorem five_DL : ∀ l, l = 5 → DL l := fun _ h => .inl h
end Go.Proofs.YtpldaghhledjlaaGreatDoor.H
