/- become, all ways, of an arena in which no number was ever free and that has room. -/
import Derived.Test.YticdclonaepemaaArBecome
namespace Go.Proofs.Yticdclonaepemaa.A
open Go.RowKit Go.Maps

/-- an arena that nothing was swept from, with room -/
structure Young (A : Ar) : Prop where
  free : A.free = []
  mask : ∀ z ∈ A.ths, z.mask < 18446744073709551616
  few : A.ths.length < 1000000
  room : (A.ths.length : Int) < A.room
  cnt : ∀ t, t < 64 → 0 ≤ A.cnt t ∧ A.cnt t < 4611686018427387904
  fresh : ∀ t, t < 64 → (A.fresh t).length < 10000000

theorem ArAt.below {w w' : World} {b n : Nat} {F : Nat → Prop} {A : Ar} (h : ArAt w b F n A) (hb : Below w.heap.size w w') : ArAt w' b F n A := by
  obtain ⟨r, D, h⟩ := h
  exact ⟨r, D, h.below hb⟩
theorem ArAt.flt {w : World} {b n : Nat} {F : Nat → Prop} {A : Ar} (h : ArAt w b F n A) : ∀ k, F k → k < w.heap.size := by
  obtain ⟨r, D, h⟩ := h
  exact h.flt
theorem ArAt.up {w : World} {b n n' : Nat} {F : Nat → Prop} {A : Ar} (h : ArAt w b F n A) (hn : n ≤ n') : ArAt w b F n' A := by
  obtain ⟨r, D, h⟩ := h
  exact ⟨r, D, h.up hn⟩
theorem ArAt.more {w w' : World} {b n : Nat} {F : Nat → Prop} {A : Ar} (h : ArAt w' b F n A) (hF : ∀ k, F k → k < w.heap.size) (hs : w.heap.size ≤ w'.heap.size) : ArAt w' b (More F w w') n A := by
  obtain ⟨r, D, h⟩ := h
  exact ⟨r, D, h.wider (fun k hk => Or.inl hk) (fun k hk => More.lt hF hs hk)⟩

/-- what a call that makes a thing a tenant's own answers and leaves -/
def BecomeOut (A : Ar) (t : Nat) (x : Th) (b : Nat) (F : Nat → Prop) (n : Nat) (w : World) (e : Ending) (w' : World) : Prop :=
  e = .returned (.tuple #[.int .i64 (A.become t x).2.1, .int .i64 (A.become t x).2.2]) ∧ ArAt w' b (More F w w') (n + 1) (A.become t x).1 ∧ Apart F w w'

theorem spot_lt {l : List Th} {q : Ky} {i : Nat} (h : spotF l q = some i) : i < l.length ∧ (l[i]!).key = q := by
  unfold spotF at h
  rw [List.findIdx?_eq_some_iff_getElem] at h
  obtain ⟨h1, h2, _⟩ := h
  refine ⟨h1, ?_⟩
  rw [getElem!_pos l i h1]
  simpa using h2

theorem become_any (b n t : Nat) (F : Nat → Prop) (A : Ar) (x : Th) (w : World) (h : ArAt w b F n A) (hY : Young A) (hx : x.key.Fit) (hk : x.k ≠ 0) (hmx : x.mask < 18446744073709551616) (ht : t < 64) (hn : n < 1000000000) :
    Calls Try.prog 73 #[.pointer (some ⟨b, 0, none⟩), .int .i64 t, x.val] w (BecomeOut A t x b F n w) := by
  have hflt := h.flt
  have hA := h
  obtain ⟨r, D, h⟩ := h
  cases hs : spotF A.ths x.key with
  | none =>
    refine (become_new b n t F A r D x w h hx hk hmx hs ht hY.few hn (hY.cnt t ht) (hY.fresh t ht) hY.free hY.room).mono ?_
    intro e w' he
    unfold BecomeOut Ar.become
    rw [hs]
    by_cases hq : A.lim t ≤ A.cnt t
    · simp only [if_pos hq] at he ⊢
      exact ⟨he.1, ((hA.below he.2).more hflt he.2.size).up (by omega), Apart.of he.2⟩
    · simp only [if_neg hq] at he ⊢
      exact he
  | some i =>
    obtain ⟨hi, _⟩ := spot_lt hs
    have hy : A.ths[i]? = some A.ths[i]! := by rw [getElem!_pos A.ths i hi]; exact List.getElem?_eq_getElem hi
    cases ho : (A.ths[i]!).mask.testBit t with
    | true =>
      refine (become_there b n t i F A r D x A.ths[i]! w h hx hk hs hy hY.mask ht hY.few ho).mono ?_
      intro e w' he
      unfold BecomeOut Ar.become
      rw [hs]
      simp only [ho, if_true]
      exact ⟨he.1, ((hA.below he.2).more hflt he.2.size).up (by omega), Apart.of he.2⟩
    | false =>
      refine (become_else b n t i F A r D x A.ths[i]! w h hx hk hs hy hY.mask ht hY.few ho (hY.cnt t ht) (hY.fresh t ht)).mono ?_
      intro e w' he
      unfold BecomeOut Ar.become
      rw [hs]
      simp only [ho, Bool.false_eq_true, if_false]
      by_cases hq : A.lim t ≤ A.cnt t
      · simp only [if_pos hq] at he ⊢
        exact ⟨he.1, ((hA.below he.2).more hflt he.2.size).up (by omega), Apart.of he.2⟩
      · simp only [if_neg hq] at he ⊢
        exact ⟨he.1, he.2.1.up (by omega), he.2.2⟩
end Go.Proofs.Yticdclonaepemaa.A
