/- quarters: the cells of each quarter of a square. -/
import Derived.Test.YtofbcngcblleaaaGreatArBecome
import Derived.Test.YtofbcngcblleaaaGreatArJoinP
import Derived.LoopN
import Derived.Test.YtofbcngcblleaaaGreatArReach
import Derived.Deep.CutBlock
import Derived.Test.YtofbcngcblleaaaGreatArTh
import Derived.Test.YtofbcngcblleaaaGreatBoxLaw
import Derived.Laws.CopyOwn
import Derived.BigQuiet
import Derived.Deep.QuietTactic
import Derived.Deep.AppendLies
import Derived.Laws.EntriesVeiled
namespace Go.Proofs.YtofbcngcblleaaaGreat.A
open Go.RowKit Go.Maps

/-- an arena that nothing was swept from, with room -/
structure Young (A : Ar) : Prop where
  free : A.free = []
  mask : ∀ z ∈ A.ths, z.mask < 18446744073709551616
  few : A.ths.length < 1000000
  room : (A.ths.length : Int) < A.room
  cnt : ∀ t, t < 64 → 0 ≤ A.cnt t ∧ A.cnt t < 4611686018427387904
  fresh : ∀ t, t < 64 → (A.fresh t).length < 10000000

theorem ArAt.below {w w' : World} {b n : Nat} {F : Nat → Prop} {A : Ar} (h : ArAt w b F n A) (hb : Below w.heap.size w w') : ArAt w' b F n A := by
  obtain ⟨r, D, h⟩ := h
  exact ⟨r, D, h.below hb⟩
theorem ArAt.flt {w : World} {b n : Nat} {F : Nat → Prop} {A : Ar} (h : ArAt w b F n A) : ∀ k, F k → k < w.heap.size := by
  obtain ⟨r, D, h⟩ := h
  exact h.flt
/-- what a call that makes a thing a tenant's own answers and leaves -/
def BecomeOut (A : Ar) (t : Nat) (x : Th) (b : Nat) (F : Nat → Prop) (n : Nat) (w : World) (e : Ending) (w' : World) : Prop :=
  e = .returned (.tuple #[.int .i64 (A.become t x).2.1, .int .i64 (A.become t x).2.2]) ∧ ArAt w' b (More F w w') (n + 1) (A.become t x).1 ∧ Apart F w w'

end Go.Proofs.YtofbcngcblleaaaGreat.A

namespace Go.Proofs.YtofbcngcblleaaaGreat.A
open Go.RowKit Go.Maps

section
variable {w W W' : World} {q0 q1 q2 q3 a0 a1 a2 a3 : Int}
end

/-- what Join answers and leaves -/
def JoinOut (A : Ar) (t : Nat) (q0 q1 q2 q3 : Int) (b : Nat) (F : Nat → Prop) (n : Nat) (w : World) (e : Ending) (w' : World) : Prop :=
  ((joinE A t q0 q1 q2 q3).1 ≠ 0 → e = .returned (.tuple #[.int .i64 0, .int .i64 (joinE A t q0 q1 q2 q3).1]) ∧ Below w.heap.size w w') ∧
  ((joinE A t q0 q1 q2 q3).1 = 0 → BecomeOut A t (sqTh q0 q1 q2 q3 (joinE A t q0 q1 q2 q3).2) b F n w e w')
end Go.Proofs.YtofbcngcblleaaaGreat.A


namespace Go.Proofs.YtofbcngcblleaaaGreat.A
open Go.RowKit Go.Maps

/-- a hand in the first cells of a block -/
structure HandAt (w : World) (hb b t : Nat) (e : Int) (v : Value) : Prop where
  c0 : w.cell? ⟨hb, 0, none⟩ = some (.pointer (some ⟨b, 0, none⟩))
  c1 : w.cell? ⟨hb, 1, none⟩ = some (.int .i64 t)
  c2 : w.cell? ⟨hb, 2, none⟩ = some (.int .i64 e)
  c3 : w.cell? ⟨hb, 3, none⟩ = some v
  z2 : w.frozen? ⟨hb, 2, none⟩ = false
  z3 : w.frozen? ⟨hb, 3, none⟩ = false
theorem HandAt.of {w : World} {hb b t : Nat} {e : Int} {v : Value} {l : List Value} {T : TypeId} (h : w.heap[hb]? = some (.cells (.pointer (some ⟨b, 0, none⟩) :: .int .i64 t :: .int .i64 e :: v :: l).toArray T (0, 0))) : HandAt w hb b t e v :=
  ⟨Lib.cell_of_heap h 0, Lib.cell_of_heap h 1, Lib.cell_of_heap h 2, Lib.cell_of_heap h 3, Lib.frozen_of_heap h 2, Lib.frozen_of_heap h 3⟩
theorem HandAt.go {w w' : World} {hb b t : Nat} {e : Int} {v : Value} (h : HandAt w hb b t e v) (hb' : w'.heap[hb]? = w.heap[hb]?) : HandAt w' hb b t e v :=
  ⟨(World.cell?_of_block hb').trans h.c0, (World.cell?_of_block hb').trans h.c1, (World.cell?_of_block hb').trans h.c2, (World.cell?_of_block hb').trans h.c3, (World.frozen?_of_block hb').trans h.z2, (World.frozen?_of_block hb').trans h.z3⟩
theorem HandAt.lt {w : World} {hb b t : Nat} {e : Int} {v : Value} (h : HandAt w hb b t e v) : hb < w.heap.size := World.block_lt_of_cell? _ _ h.c0
theorem HandAt.below {w w' : World} {hb b t : Nat} {e : Int} {v : Value} (h : HandAt w hb b t e v) (hb' : Below w.heap.size w w') : HandAt w' hb b t e v := h.go (hb'.block _ h.lt)
theorem cell_set_other {w : World} {b i j : Nat} {u : Value} (h : i ≠ j) : (w.setCell ⟨b, i, none⟩ u).cell? ⟨b, j, none⟩ = w.cell? ⟨b, j, none⟩ := by
  simp [go_sem]
theorem HandAt.setE {w : World} {hb b t : Nat} {e : Int} {v : Value} (h : HandAt w hb b t e v) (x : Int) : HandAt (w.setCell ⟨hb, 2, none⟩ (.int .i64 x)) hb b t x v := by
  have f : ∀ i, (w.setCell ⟨hb, 2, none⟩ (.int .i64 x)).frozen? ⟨hb, i, none⟩ = w.frozen? ⟨hb, i, none⟩ := fun i => by simp
  refine ⟨(cell_set_other (by omega)).trans h.c0, (cell_set_other (by omega)).trans h.c1, ?_, (cell_set_other (by omega)).trans h.c3, (f 2).trans h.z2, (f 3).trans h.z3⟩
  have hc := h.c2
  simp [go_sem, hc]
theorem set_grown (w : World) (g i : Nat) (v : Value) : w.grownBy (w.setCell ⟨g, i, none⟩ v) (some g) := ⟨rfl, rfl, rfl, by rw [size_set]; exact Nat.le_refl _, fun k _ hk => heap_set fun e => hk (by rw [e])⟩
theorem grown_refl (w : World) (r : Option Nat) : w.grownBy w r := ⟨rfl, rfl, rfl, Nat.le_refl _, fun _ _ _ => rfl⟩
theorem grown_tr {w w1 w2 : World} {r : Option Nat} (h : w.grownBy w1 r) (k : w1.grownBy w2 r) : w.grownBy w2 r :=
  ⟨k.os.trans h.os, k.tape.trans h.tape, k.output.trans h.output, Nat.le_trans h.size k.size, fun j hj hn => (k.block j (Nat.lt_of_lt_of_le hj h.size) hn).trans (h.block j hj hn)⟩
theorem grown_bl {w w1 : World} (h : Below w.heap.size w w1) (r : Option Nat) : w.grownBy w1 r := ⟨h.os, h.tape, h.output, h.size, fun k hk _ => h.block k hk⟩
/-- the error that is kept -/
def keepE (e err : Int) : Int := if e = 0 then err else e
theorem keep_any (hb b t : Nat) (e err : Int) (v : Value) (w : World) (h : HandAt w hb b t e v) :
    Calls Tryz.prog 37 #[.pointer (some ⟨hb, 0, none⟩), .int .i64 err] w fun x w' => x = .returned (.tuple #[]) ∧ HandAt w' hb b t (keepE e err) v ∧ w.grownBy w' (some hb) := by
  have c2 := h.c2
  have z2 := h.z2
  by_cases he : e = 0
  · subst he
    go_enter Tryz.func37, Tryz.ntmps37
    go_wp2_with fail
    go_end0
    exact ⟨rfl, h.setE err, set_grown _ _ _ _⟩
  · have he' : (e == 0) = false := by simpa using he
    go_enter Tryz.func37, Tryz.ntmps37
    go_wp2_with fail
    go_end0
    refine ⟨rfl, ?_, grown_refl _ _⟩
    unfold keepE
    rw [if_neg he]
    exact h

theorem answer_ok (hb b t : Nat) (id : Int) (v : Value) (w : World) (h : HandAt w hb b t 0 v) :
    Calls Tryz.prog 43 #[.pointer (some ⟨hb, 0, none⟩), .int .i64 id] w fun x w' => x = .returned (.tuple #[.int .i64 id, .int .i64 0]) ∧ w' = w := by
  have c2 := h.c2
  go_enter Tryz.func43, Tryz.ntmps43
  go_wp2_with fail
  go_ret2
  exact ⟨rfl, rfl⟩
theorem answer_no (hb b t : Nat) (e id : Int) (v : Value) (w : World) (h : HandAt w hb b t e v) (he : e ≠ 0) :
    Calls Tryz.prog 43 #[.pointer (some ⟨hb, 0, none⟩), .int .i64 id] w fun x w' => x = .returned (.tuple #[.int .i64 0, .int .i64 e]) ∧ ∃ q, w' = w.drewN q := by
  have c2 := h.c2
  have he' : (e != 0) = true := by simpa using he
  go_enter Tryz.func43, Tryz.ntmps43
  go_wp2_with fail
  go_quiet (fail)
  go_wp2_with fail
  go_ret2
  exact ⟨rfl, _, rfl⟩

/-- the error behind a look at a root's level -/
def levelE (e : Int) (o : Option Int) (least most : Int) : Int := keepE (keepE e (lack o)) (if o.getD 0 < least ∨ most < o.getD 0 then 8 else 0)
end Go.Proofs.YtofbcngcblleaaaGreat.A

namespace Go.Proofs.YtofbcngcblleaaaGreat.A
open Go.RowKit Go.Maps

/-- Join, in plain words -/
def Ar.join (A : Ar) (t : Nat) (q0 q1 q2 q3 : Int) : Ar × Int × Int := if (joinE A t q0 q1 q2 q3).1 ≠ 0 then (A, 0, (joinE A t q0 q1 q2 q3).1) else A.become t (sqTh q0 q1 q2 q3 (joinE A t q0 q1 q2 q3).2)

/-- F and a hand's block -/
def With (F : Nat → Prop) (hb : Nat) : Nat → Prop := fun k => F k ∨ k = hb

theorem four_any (id : Int) (w : World) : Calls Tryz.prog 72 #[.int .i64 id] w fun x w' => x = .returned (quad4 id id id id) ∧ Below w.heap.size w w' := by
  go_enter Tryz.func72, Tryz.ntmps72
  go_wp2_with fail
  refine bodyPost_ret (v := quad4 id id id id) ?_ rfl ⟨rfl, ?_⟩
  · simp [results, Tryz.results72, go_sem, quad4]
  · exact (Below.refl _ _).alloc (Nat.le_refl _) _
end Go.Proofs.YtofbcngcblleaaaGreat.A

namespace Go.Proofs.YtofbcngcblleaaaGreat.A
open Go.RowKit Go.Maps

/-- a hand with its list of empty squares; H: its blocks -/
def HandIn (w : World) (hb b t : Nat) (e : Int) (E : List Int) (H : Nat → Prop) : Prop := ∃ v, HandAt w hb b t e v ∧ IntRow w v E ∧ H hb ∧ (∀ k, v.ownBlock = some k → H k) ∧ v.ownBlock ≠ some hb ∧ ∀ k, H k → k < w.heap.size

/-- one empty square more -/
def emptyS (t : Nat) (s : Ar × List Int) : Ar × List Int := ((s.1.join t s.2.getLast! s.2.getLast! s.2.getLast! s.2.getLast!).1, s.2 ++ [(s.1.join t s.2.getLast! s.2.getLast! s.2.getLast! s.2.getLast!).2.1])
/-- a step that is made -/
structure StepOk (t : Nat) (s : Ar × List Int) : Prop where
  young : Young s.1
  fits : Fits s.2.getLast!
  ok : (s.1.join t s.2.getLast! s.2.getLast! s.2.getLast! s.2.getLast!).2.2 = 0
  lo : ∀ l, levelF s.1.ths t s.2.getLast! = some l → 0 ≤ l

/-- what a round leaves -/
def RoundOut (w : World) (hb b n t : Nat) (F H : Nat → Prop) (s : Ar × List Int) (w' : World) : Prop :=
  ∃ F' H', ArAt w' b F' n s.1 ∧ HandIn w' hb b t 0 s.2 H' ∧ (∀ k, F' k → ¬ H' k) ∧ (∀ k, F' k ∨ H' k → (F k ∨ H k) ∨ w.heap.size ≤ k) ∧ Apart (fun k => F k ∨ H k) w w'

theorem HandAt.setV {w : World} {hb b t : Nat} {e : Int} {v : Value} (h : HandAt w hb b t e v) (u : Value) : HandAt (w.setCell ⟨hb, 3, none⟩ u) hb b t e u := by
  have f : ∀ i, (w.setCell ⟨hb, 3, none⟩ u).frozen? ⟨hb, i, none⟩ = w.frozen? ⟨hb, i, none⟩ := fun i => by simp
  refine ⟨(cell_set_other (by omega)).trans h.c0, (cell_set_other (by omega)).trans h.c1, (cell_set_other (by omega)).trans h.c2, ?_, (f 2).trans h.z2, (f 3).trans h.z3⟩
  have hc := h.c3
  simp [go_sem, hc]
theorem push_old {w : World} {o : Obj} {k : Nat} (h : k < w.heap.size) : (w.alloc o).heap[k]? = w.heap[k]? := by
  show (w.heap.push o)[k]? = _
  rw [Array.getElem?_push, if_neg (by omega)]

def nth (l : List Int) (i : Nat) : Int := l[i]!
/-- the first empty squares, one behind the other -/
def emptyN (t : Nat) (s : Ar × List Int) : Nat → Ar × List Int
  | 0 => s
  | i + 1 => emptyS t (emptyN t s i)
end Go.Proofs.YtofbcngcblleaaaGreat.A

namespace Go.Proofs.YtofbcngcblleaaaGreat.A
open Go.RowKit Go.Maps

/-- an arena's things have only become more -/
def Ext (l l' : List Th) : Prop := ∀ (j : Nat) (x : Th), l[j]? = some x → ∃ x' : Th, l'[j]? = some x' ∧ x'.key = x.key ∧ x'.lv = x.lv ∧ x'.va = x.va ∧ ∀ u, x.mask.testBit u = true → x'.mask.testBit u = true
theorem Ext.trans {l l' l'' : List Th} (h : Ext l l') (k : Ext l' l'') : Ext l l'' := fun j x hx => by
  obtain ⟨x', h1, h2, h3, h4, h5⟩ := h j x hx
  obtain ⟨x'', k1, k2, k3, k4, k5⟩ := k j x' h1
  exact ⟨x'', k1, k2.trans h2, k3.trans h3, k4.trans h4, fun u hu => k5 u (h5 u hu)⟩

theorem own_some {l : List Th} {t : Nat} {id : Int} {x : Th} (h : ownF l t id = some x) : 2 ≤ id ∧ l[(id - 2).toNat]? = some x ∧ x.mask.testBit t = true := by
  unfold ownF at h
  split at h
  · rename_i h2
    rw [Option.filter_eq_some_iff] at h
    exact ⟨h2, h.1, h.2⟩
  · cases h
theorem level_some {l : List Th} {t : Nat} {id m : Int} (h : levelF l t id = some m) : (id = 0 ∨ id = 1) ∧ m = 0 ∨ ∃ x, ownF l t id = some x ∧ x.k = 1 ∧ x.lv = m := by
  unfold levelF at h
  split at h
  · rename_i h0
    exact Or.inl ⟨h0, by cases h; rfl⟩
  · cases ho : ownF l t id with
    | none => rw [ho] at h; cases h
    | some x =>
      rw [ho] at h
      simp only at h
      split at h
      · rename_i hk
        exact Or.inr ⟨x, rfl, hk, by cases h; rfl⟩
      · cases h
theorem level_fits {l : List Th} {t : Nat} {id m : Int} (h : levelF l t id = some m) (hl : l.length < 1000000) : 0 ≤ id ∧ id < 1000002 := by
  rcases level_some h with ⟨h0, _⟩ | ⟨x, h1, _⟩
  · omega
  · obtain ⟨h2, h3, _⟩ := own_some h1
    have := (List.getElem?_eq_some_iff.1 h3).1
    omega

/-- a square's level, whosever it is -/
def glevel (l : List Th) (id : Int) : Option Int := if id = 0 ∨ id = 1 then some 0 else if 2 ≤ id then (match l[(id - 2).toNat]? with | some x => if x.k = 1 then some x.lv else none | none => none) else none
theorem glevel_of {l : List Th} {t : Nat} {id m : Int} (h : levelF l t id = some m) : glevel l id = some m := by
  rcases level_some h with ⟨h0, rfl⟩ | ⟨x, h1, h2, h3⟩
  · unfold glevel; rw [if_pos h0]
  · obtain ⟨g2, g3, _⟩ := own_some h1
    unfold glevel
    rw [if_neg (by omega), if_pos g2, g3]
    simp only
    rw [if_pos h2, h3]
/-- a square's level is one more than its quarters' -/
structure Good (l : List Th) : Prop where
  lv : ∀ x ∈ l, x.k = 1 → 1 ≤ x.lv ∧ x.lv ≤ 44 ∧ glevel l x.p0 = some (x.lv - 1) ∧ glevel l x.p1 = some (x.lv - 1) ∧ glevel l x.p2 = some (x.lv - 1) ∧ glevel l x.p3 = some (x.lv - 1)
/-- what one join makes more -/
structure Grew (t : Nat) (A A' : Ar) : Prop where
  ext : Ext A.ths A'.ths
  len : A'.ths.length ≤ A.ths.length + 1
  lim : A'.lim = A.lim
  room : A'.room = A.room
  free : A'.free = A.free
  cnt : ∀ u, A.cnt u ≤ A'.cnt u ∧ A'.cnt u ≤ A.cnt u + 1
  fresh : ∀ u, (A'.fresh u).length ≤ (A.fresh u).length + 1
  mask : t < 64 → (∀ x ∈ A.ths, x.mask < 18446744073709551616) → ∀ x ∈ A'.ths, x.mask < 18446744073709551616
  other : ∀ u, u ≠ t → ∀ x' ∈ A'.ths, x'.mask.testBit u = true → ∃ x ∈ A.ths, x.mask.testBit u = true
end Go.Proofs.YtofbcngcblleaaaGreat.A

namespace Go.Proofs.YtofbcngcblleaaaGreat.A
open Go.RowKit Go.Maps

/-- room for k joins more -/
structure Bud (A : Ar) (k : Nat) : Prop where
  free : A.free = []
  mask : ∀ z ∈ A.ths, z.mask < 18446744073709551616
  few : A.ths.length + k < 1000000
  room : (A.ths.length : Int) + k < A.room
  cnt : ∀ t, t < 64 → 0 ≤ A.cnt t ∧ A.cnt t + k < 4611686018427387904
  fresh : ∀ t, t < 64 → (A.fresh t).length + k < 10000000
/-- what a join that is made makes -/
structure Made (t : Nat) (A : Ar) (q0 q1 q2 q3 m : Int) (R : Ar × Int × Int) : Prop where
  ok : R.2.2 = 0
  grew : Grew t A R.1
  good : Good R.1.ths
  own : ∃ y, ownF R.1.ths t R.2.1 = some y ∧ y.key = ⟨1, q0, q1, q2, q3⟩ ∧ y.lv = m + 1

/-- the first empty squares of a tenant -/
structure Emp (l : List Th) (t : Nat) (E : List Int) : Prop where
  zero : E[0]? = some 0
  lv : ∀ (i : Nat) (e : Int), E[i]? = some e → levelF l t e = some (i : Int)
  parts : ∀ (i : Nat) (e e' : Int), E[i]? = some e → E[i + 1]? = some e' → ∃ y, ownF l t e' = some y ∧ y.key = ⟨1, e, e, e, e⟩
end Go.Proofs.YtofbcngcblleaaaGreat.A

namespace Go.Proofs.YtofbcngcblleaaaGreat
open Go.RowKit Go.Lib Go.Sort

end Go.Proofs.YtofbcngcblleaaaGreat

namespace Go.Proofs.YtofbcngcblleaaaGreat
open Go.RowKit Go.Lib Go.Sort

/-- a list's cells in memory, one behind the other -/
def cellsL (zs : List (Int × Int)) : List Value := zs.flatMap encPt
end Go.Proofs.YtofbcngcblleaaaGreat

namespace Go.Proofs.YtofbcngcblleaaaGreat
open Go.RowKit Go.Lib Go.Sort

attribute [local go_sem ↓] Go.wp_at_zero Go.wp_at_succ

/-- a cell comes ahead of another, as a Bool -/
def aheadB (p q : Int × Int) : Bool := decide (p.2 < q.2) || (decide (p.2 = q.2) && decide (p.1 < q.1))
/-- the search's place -/
structure Found (zs : List (Int × Int)) (c : Int × Int) (l h : Nat) : Prop where
  le : l ≤ h
  top : h ≤ zs.length
  lo : ∀ j, j < l → ahead zs[j]! c
  hi : ∀ j, h ≤ j → j < zs.length → ¬ ahead zs[j]! c
/-- the row behind the copy -/
def movedL (L : List Value) (zs : List (Int × Int)) (l : Nat) : List Value := L.take ((l + 1) * 2) ++ cellsL (zs.drop l) ++ L.drop ((l + 1) * 2 + (cellsL (zs.drop l)).length)

/-- what put answers -/
def PutOut (base : Nat) (zs : List (Int × Int)) (c : Int × Int) (w : World) (e : Ending) (w' : World) : Prop :=
  ∃ u ys, e = .returned u ∧ Tidy ys ∧ (∀ p, p ∈ ys ↔ p = c ∨ p ∈ zs) ∧ ys ≠ [] ∧ ys.length ≤ zs.length + 1 ∧ w'.ownsRow base 52 2 u ys.length (cellsL ys) ∧ Below base w w'

end Go.Proofs.YtofbcngcblleaaaGreat

namespace Go.Proofs.YtofbcngcblleaaaGreat
open Go.RowKit Go.Lib Go.Sort

/-- a list in order in a row of its own: nil if there is none -/
def Kept (w : World) (base : Nat) (v : Value) (ys : List (Int × Int)) : Prop := (ys = [] ∧ v = .slice none 0 0) ∨ (ys ≠ [] ∧ w.ownsRow base 52 2 v ys.length (cellsL ys))

end Go.Proofs.YtofbcngcblleaaaGreat

namespace Go.Proofs.YtofbcngcblleaaaGreat
open Go.RowKit Go.Lib Go.Sort

/-- a slice's value that reads as a list of cells, wherever it lies -/
def RRow (w : World) (v : Value) (zs : List (Int × Int)) : Prop := IsRow w v zs.length (fun j => (zs[j]!).1) (fun j => (zs[j]!).2)

/-- what Tidy answers of a list -/
def TidyOutR (zs : List (Int × Int)) (w : World) (e : Ending) (w' : World) : Prop :=
  ∃ u code, e = .returned (.tuple #[u, .int .i64 code]) ∧ Below w.heap.size w w' ∧
    ((4096 < zs.length ∧ code = 5 ∧ u = .slice none 0 0) ∨ (zs.length ≤ 4096 ∧ zs.any farP = true ∧ code = 3 ∧ u = .slice none 0 0) ∨
    (zs.length ≤ 4096 ∧ zs.any farP = false ∧ code = 0 ∧ ∃ ys, Tidy ys ∧ (∀ p, p ∈ ys ↔ p ∈ zs) ∧ Row w' u ys))

end Go.Proofs.YtofbcngcblleaaaGreat

namespace Go.Proofs.YtofbcngcblleaaaGreat
open Go.RowKit Go.Lib Go.Sort

/-- the error's number that Tidy tells of a list -/
def tcode (zs : List (Int × Int)) : Int := if 4096 < zs.length then 5 else if zs.any farP = true then 3 else 0
/-- the list that Tidy answers -/
def Tidied (zs ys : List (Int × Int)) : Prop := Tidy ys ∧ ∀ p, p ∈ ys ↔ p ∈ zs ∧ tcode zs = 0
theorem Tidied.unique {zs ys ts : List (Int × Int)} (h : Tidied zs ys) (k : Tidied zs ts) : ys = ts := tidy_unique _ _ h.1 k.1 fun p => (h.2 p).trans (k.2 p).symm

theorem tidyOut_row {zs : List (Int × Int)} {w : World} {base : Nat} {u : Value} {code : Int} (h : TidyOut zs w base u code) : code = tcode zs ∧ ∃ ys, Tidied zs ys ∧ ORow w base u ys := by
  rcases h with ⟨h1, rfl, rfl⟩ | ⟨h1, h2, rfl, rfl⟩ | ⟨h1, h2, rfl, ys, h3, h4, h5⟩
  · have e : tcode zs = 5 := by simp [tcode, h1]
    exact ⟨e.symm, [], ⟨List.Pairwise.nil, fun p => by simp [e]⟩, Or.inl ⟨rfl, rfl⟩⟩
  · have e : tcode zs = 3 := by rw [tcode, if_neg (by omega), if_pos h2]
    exact ⟨e.symm, [], ⟨List.Pairwise.nil, fun p => by simp [e]⟩, Or.inl ⟨rfl, rfl⟩⟩
  · have e : tcode zs = 0 := by rw [tcode, if_neg (by omega), if_neg (by rw [h2]; simp)]
    exact ⟨e.symm, ys, ⟨h3, fun p => by rw [h4 p, e]; simp⟩, h5⟩
/-- plane.Tidy, told in one form -/
theorem tidy_told (v : Value) (zs : List (Int × Int)) (w : World) (h : Row w v zs) :
    Calls Tryz.prog 39 #[v] w fun e w' => ∃ u ys, e = .returned (.tuple #[u, .int .i64 (tcode zs)]) ∧ Below w.heap.size w w' ∧ Tidied zs ys ∧ ORow w' w.heap.size u ys :=
  (tidy_any v zs w h).mono fun e w' ⟨u, code, he, hb, ho⟩ => by
    obtain ⟨hc, ys, ht, hr⟩ := tidyOut_row ho
    exact ⟨u, ys, by rw [he, hc], hb, ht, hr⟩
end Go.Proofs.YtofbcngcblleaaaGreat

namespace Go.Proofs.YtofbcngcblleaaaGreat.A
open Go.RowKit Go.Maps

theorem newHand_any (b t : Nat) (w : World) : Calls Tryz.prog 46 #[.pointer (some ⟨b, 0, none⟩), .int .i64 t] w fun x w' => x = .returned (.agg #[.pointer (some ⟨b, 0, none⟩), .int .i64 t, .int .i64 0, .slice (some ⟨w.heap.size + 1, 0, none⟩) 1 1]) ∧ w'.heap[w.heap.size + 1]? = some (.cells #[.int .i64 0] 3 (0, 0)) ∧ Below w.heap.size w w' := by
  go_enter Tryz.func46, Tryz.ntmps46
  go_wp2_with fail
  refine bodyPost_ret (v := .agg #[.pointer (some ⟨b, 0, none⟩), .int .i64 t, .int .i64 0, .slice (some ⟨w.heap.size + 1, 0, none⟩) 1 1]) ?_ rfl ⟨rfl, heap_alloc2_new w _ _, ?_⟩
  · simp [results, Tryz.results46, go_sem]
  · exact ((Below.refl _ _).alloc (Nat.le_refl _) _).alloc (by simp) _
/-- half the side of a square -/
def halfN (n : Nat) : Nat := 2 ^ (n - 1)
theorem halfN_bd (n : Nat) (h2 : n ≤ 62) : halfN n ≤ 2305843009213693952 ∧ 0 < halfN n := by
  have hp : (2 : Nat) ^ (n - 1) ≤ 2 ^ 61 := Nat.pow_le_pow_right (by omega) (by omega)
  unfold halfN
  exact ⟨by simpa using hp, Nat.two_pow_pos _⟩
theorem wrap_half (n : Nat) (h2 : n ≤ 62) : wrap64 (2 ^ (n - 1)) = (halfN n : Int) := by
  have h := halfN_bd n h2
  have e : (2 : Int) ^ (n - 1) = (halfN n : Int) := by simp [halfN]
  rw [e]
  unfold wrap64
  omega
theorem half_any (n : Nat) (w : World) (h1 : 1 ≤ n) (h2 : n ≤ 62) : Calls Tryz.prog 50 #[.int .i64 n] w fun x w' => x = .returned (.int .i64 (halfN n : Int)) ∧ w' = w := by
  have h3 : (0 : Int) ≤ (n : Int) - 1 := by omega
  go_enter Tryz.func50, Tryz.ntmps50
  go_wp2_with fail
  go_ret
  exact ⟨ret_i (wrap_half n h2), rfl⟩
theorem ret_b {a b : Bool} (h : a = b) : Ending.returned (.bool a) = .returned (.bool b) := by rw [h]
/-- does a root of a level have all places of a box? -/
def reachB (n : Nat) (x0 y0 x1 y1 : Int) : Bool := decide (-(halfN n : Int) ≤ x0 ∧ -(halfN n : Int) ≤ y0 ∧ x1 < halfN n ∧ y1 < halfN n)
set_option maxHeartbeats 4000000 in
theorem reaches_any (n : Nat) (x0 y0 x1 y1 : Int) (w : World) (h1 : 1 ≤ n) (h2 : n ≤ 62) : Calls Tryz.prog 74 #[.int .i64 n, .agg #[.int .i64 x0, .int .i64 y0, .int .i64 x1, .int .i64 y1]] w fun x w' => x = .returned (.bool (reachB n x0 y0 x1 y1)) ∧ Below w.heap.size w w' := by
  have hb := halfN_bd n h2
  have hh := fun W => half_any n W h1 h2
  have hbel : Below w.heap.size w (w.alloc (.cells #[.int .i64 x0, .int .i64 y0, .int .i64 x1, .int .i64 y1] 68)) := (Below.refl _ _).alloc (Nat.le_refl _) _
  have HR : Hid (reachB n x0 y0 x1 y1 = decide (-(halfN n : Int) ≤ x0 ∧ -(halfN n : Int) ≤ y0 ∧ x1 < halfN n ∧ y1 < halfN n)) := rfl
  obtain ⟨k, hk⟩ : ∃ k, k = halfN n := ⟨_, rfl⟩
  rw [← hk] at hb hh HR
  clear hk
  have hneg : IntKind.i64.wrap (-(k : Int)) = -(k : Int) := by rw [IntKind.wrap_i64]; omega
  by_cases c0 : -(k : Int) ≤ x0
  · by_cases c1 : -(k : Int) ≤ y0
    · by_cases c2 : x1 < (k : Int)
      · by_cases c3 : y1 < (k : Int)
        · go_enter Tryz.func74, Tryz.ntmps74
          go_wp2_with fail
          refine (hh _).mono ?_
          rintro e w1 ⟨rfl, rfl⟩
          go_wp2_with fail
          go_ret
          exact ⟨ret_b (by rw [HR.out, decide_eq_true ⟨c0, c1, c2, c3⟩]), hbel⟩
        · go_enter Tryz.func74, Tryz.ntmps74
          go_wp2_with fail
          refine (hh _).mono ?_
          rintro e w1 ⟨rfl, rfl⟩
          go_wp2_with fail
          go_ret
          refine ⟨ret_b ?_, hbel⟩
          rw [HR.out]
          simp [c0, c1, c2]
      · go_enter Tryz.func74, Tryz.ntmps74
        go_wp2_with fail
        refine (hh _).mono ?_
        rintro e w1 ⟨rfl, rfl⟩
        go_wp2_with fail
        go_ret
        exact ⟨ret_b (by rw [HR.out]; symm; apply decide_eq_false; omega), hbel⟩
    · go_enter Tryz.func74, Tryz.ntmps74
      go_wp2_with fail
      refine (hh _).mono ?_
      rintro e w1 ⟨rfl, rfl⟩
      go_wp2_with fail
      go_ret
      exact ⟨ret_b (by rw [HR.out]; symm; apply decide_eq_false; omega), hbel⟩
  · go_enter Tryz.func74, Tryz.ntmps74
    go_wp2_with fail
    refine (hh _).mono ?_
    rintro e w1 ⟨rfl, rfl⟩
    go_wp2_with fail
    go_ret
    exact ⟨ret_b (by rw [HR.out]; symm; apply decide_eq_false; omega), hbel⟩
/-- no ground -/
abbrev bareV : Value := .agg #[.int .i64 (-1), .int .i64 0, .int .i64 0]
theorem bare_any (w : World) : Calls Tryz.prog 49 #[] w fun e w' => e = .returned bareV ∧ Below w.heap.size w w' := by
  go_enter Tryz.func49, Tryz.ntmps49
  go_wp2_with fail
  refine bodyPost_ret (v := bareV) ?_ rfl ⟨rfl, ?_⟩
  · simp [results, Tryz.results49, go_sem]
  · repeat (first | exact Below.refl _ _ | refine Below.alloc ?_ (by simp) _ | refine Below.setCell ?_ (by simp) _)
end Go.Proofs.YtofbcngcblleaaaGreat.A

namespace Go.Proofs.YtofbcngcblleaaaGreat.A
open Go.RowKit Go.Maps Go.ChangeMaps Go.WideElems

/-- a reading that looks at nothing -/
def anyR (_ : Value) : Option (DataW Unit × List MemPlace) := some (.lit (.bool true), [])
theorem turned_block {w w' : World} {b k : Nat} (h : w.mapTurned w' b) (hk : k ≠ b) : w'.heap[k]? = w.heap[k]? := by
  obtain ⟨es, c, es', c', hb, rfl⟩ := h
  exact heap_setBlock_other hb _ hk
theorem turned_below {w w' : World} {B b : Nat} (h : w.mapTurned w' b) (hB : B ≤ b) : Below B w w' := by
  have hg := grown_of_turned h
  exact ⟨hg.os, hg.tape, hg.output, hg.size, fun k hk => turned_block h (by omega)⟩

theorem set5 {w : World} {g : Nat} {T : TypeId} {fr : Nat × Nat} {a0 a1 a2 a3 a4 : Value} (h : w.heap[g]? = some (.cells #[a0, a1, a2, a3, a4] T fr)) (b0 b1 b2 b3 b4 : Value) :
    (((((w.setCell ⟨g, 0, none⟩ b0).setCell ⟨g, 1, none⟩ b1).setCell ⟨g, 2, none⟩ b2).setCell ⟨g, 3, none⟩ b3).setCell ⟨g, 4, none⟩ b4).heap[g]? = some (.cells #[b0, b1, b2, b3, b4] T fr) := by
  have h0 : (w.setCell ⟨g, 0, none⟩ b0).heap[g]? = some (.cells #[b0, a1, a2, a3, a4] T fr) := Go.Joins.block_setCell h b0
  have h1 : ((w.setCell ⟨g, 0, none⟩ b0).setCell ⟨g, 1, none⟩ b1).heap[g]? = some (.cells #[b0, b1, a2, a3, a4] T fr) := Go.Joins.block_setCell h0 b1
  have h2 : (((w.setCell ⟨g, 0, none⟩ b0).setCell ⟨g, 1, none⟩ b1).setCell ⟨g, 2, none⟩ b2).heap[g]? = some (.cells #[b0, b1, b2, a3, a4] T fr) := Go.Joins.block_setCell h1 b2
  have h3 : ((((w.setCell ⟨g, 0, none⟩ b0).setCell ⟨g, 1, none⟩ b1).setCell ⟨g, 2, none⟩ b2).setCell ⟨g, 3, none⟩ b3).heap[g]? = some (.cells #[b0, b1, b2, b3, a4] T fr) := Go.Joins.block_setCell h2 b3
  exact Go.Joins.block_setCell h3 b4

end Go.Proofs.YtofbcngcblleaaaGreat.A

namespace Go.Proofs.YtofbcngcblleaaaGreat.A
open Go.RowKit Go.Maps Go.ChangeMaps Go.WideElems

abbrev zeroT : Value := .agg #[.int .i64 0, .int .i64 0, .int .i64 0, .int .i64 0, .int .i64 0]
abbrev oneT : Value := .agg #[.int .i64 1, .int .i64 0, .int .i64 0, .int .i64 0, .int .i64 0]
abbrev zd : DataW Unit := .lit (.bool false)
open Classical in
/-- how what is known of a square reads: nothing, or one cell -/
noncomputable def talR (v : Value) : Option (DataW Unit × List MemPlace) := if v = zeroT then some (zd, []) else if v = oneT then some (.lit (.bool true), []) else none
/-- what a walker knows: of none but the live cell that anything lives in it -/
structure Known (D : DataW Unit) : Prop where
  zs : ∀ i, Fits i → i ≠ 1 → D.atKey (.int .i64 i) zd = zd
  zero : Maps.has D (.int .i64 0) = true
end Go.Proofs.YtofbcngcblleaaaGreat.A

namespace Go.Proofs.YtofbcngcblleaaaGreat.A
open Go.RowKit Go.Maps

/-- counts are added up to 2^62 -/
def addF (n m : Int) : Int := if 4611686018427387904 - m < n then 4611686018427387904 else n + m
theorem add_any (n m : Int) (w : World) (hn : 0 ≤ n ∧ n ≤ 4611686018427387904) (hm : 0 ≤ m ∧ m ≤ 4611686018427387904) :
    Calls Tryz.prog 65 #[.int .i64 n, .int .i64 m] w fun x w' => x = .returned (.int .i64 (addF n m)) ∧ w' = w := by
  by_cases h : 4611686018427387904 - m < n
  · have HE : Hid (addF n m = 4611686018427387904) := by show _ = _; unfold addF; rw [if_pos h]
    go_enter Tryz.func65, Tryz.ntmps65
    go_wp2_with fail
    go_ret
    exact ⟨ret_i HE.out.symm, rfl⟩
  · have HE : Hid (addF n m = n + m) := by show _ = _; unfold addF; rw [if_neg h]
    go_enter Tryz.func65, Tryz.ntmps65
    go_wp2_with fail
    go_ret
    exact ⟨ret_i HE.out.symm, rfl⟩

/-! where a quarter's corner is -/
theorem corner0 (n : Nat) (w : World) (h1 : 1 ≤ n) (h2 : n ≤ 62) : Calls Tryz.prog 66 #[.int .i64 0, .int .i64 n] w fun x w' => x = .returned (.tuple #[.int .i64 0, .int .i64 0]) ∧ w' = w := by
  have hh := fun W => half_any n W h1 h2
  have hb := halfN_bd n h2
  generalize halfN n = k at *
  go_enter Tryz.func66, Tryz.ntmps66
  go_wp2_with fail
  refine (hh _).mono ?_
  rintro e w1 ⟨rfl, rfl⟩
  go_wp2_with fail
  refine (hh _).mono ?_
  rintro e w2 ⟨rfl, rfl⟩
  go_wp2_with fail
  go_ret2
  exact ⟨by simp, rfl⟩
theorem corner1 (n : Nat) (w : World) (h1 : 1 ≤ n) (h2 : n ≤ 62) : Calls Tryz.prog 66 #[.int .i64 1, .int .i64 n] w fun x w' => x = .returned (.tuple #[.int .i64 (halfN n : Int), .int .i64 0]) ∧ w' = w := by
  have hh := fun W => half_any n W h1 h2
  have hb := halfN_bd n h2
  generalize halfN n = k at *
  go_enter Tryz.func66, Tryz.ntmps66
  go_wp2_with fail
  refine (hh _).mono ?_
  rintro e w1 ⟨rfl, rfl⟩
  go_wp2_with fail
  refine (hh _).mono ?_
  rintro e w2 ⟨rfl, rfl⟩
  go_wp2_with fail
  go_ret2
  exact ⟨by simp, rfl⟩
theorem corner2 (n : Nat) (w : World) (h1 : 1 ≤ n) (h2 : n ≤ 62) : Calls Tryz.prog 66 #[.int .i64 2, .int .i64 n] w fun x w' => x = .returned (.tuple #[.int .i64 0, .int .i64 (halfN n : Int)]) ∧ w' = w := by
  have hh := fun W => half_any n W h1 h2
  have hb := halfN_bd n h2
  generalize halfN n = k at *
  go_enter Tryz.func66, Tryz.ntmps66
  go_wp2_with fail
  refine (hh _).mono ?_
  rintro e w1 ⟨rfl, rfl⟩
  go_wp2_with fail
  refine (hh _).mono ?_
  rintro e w2 ⟨rfl, rfl⟩
  go_wp2_with fail
  go_ret2
  exact ⟨by simp, rfl⟩
theorem corner3 (n : Nat) (w : World) (h1 : 1 ≤ n) (h2 : n ≤ 62) : Calls Tryz.prog 66 #[.int .i64 3, .int .i64 n] w fun x w' => x = .returned (.tuple #[.int .i64 (halfN n : Int), .int .i64 (halfN n : Int)]) ∧ w' = w := by
  have hh := fun W => half_any n W h1 h2
  have hb := halfN_bd n h2
  generalize halfN n = k at *
  go_enter Tryz.func66, Tryz.ntmps66
  go_wp2_with fail
  refine (hh _).mono ?_
  rintro e w1 ⟨rfl, rfl⟩
  go_wp2_with fail
  refine (hh _).mono ?_
  rintro e w2 ⟨rfl, rfl⟩
  go_wp2_with fail
  go_ret2
  exact ⟨by simp, rfl⟩

/-- leastLevel: the least level from 2 on of a root that reaches a box -/
theorem least_any (N : Nat) (x0 y0 x1 y1 : Int) (w : World) (h2 : 2 ≤ N) (h62 : N ≤ 62) (hN : reachB N x0 y0 x1 y1 = true) (hno : ∀ j, 2 ≤ j → j < N → reachB j x0 y0 x1 y1 = false) :
    Calls Tryz.prog 42 #[.agg #[.int .i64 x0, .int .i64 y0, .int .i64 x1, .int .i64 y1]] w fun x w' => x = .returned (.int .i64 N) ∧ Below w.heap.size w w' := by
  have hr := fun (j : Nat) W (h1 : 1 ≤ j) (hj : j ≤ 62) => reaches_any j x0 y0 x1 y1 W h1 hj
  have hb0 : Below w.heap.size w (w.alloc (.cells #[.int .i64 x0, .int .i64 y0, .int .i64 x1, .int .i64 y1] 68)) := (Below.refl _ _).alloc (Nat.le_refl _) _
  have hX : (w.alloc (.cells #[.int .i64 x0, .int .i64 y0, .int .i64 x1, .int .i64 y1] 68)).heap[w.heap.size]? = some (.cells #[.int .i64 x0, .int .i64 y0, .int .i64 x1, .int .i64 y1] 68 (0, 0)) := heap_alloc_new w _
  have HN : Hid (∀ i : Nat, 2 ≤ i → i ≤ N → reachB i x0 y0 x1 y1 = decide (i = N)) := fun i hi hiN => by
    by_cases e : i = N
    · subst e; rw [hN]; simp
    · rw [hno i hi (by omega)]; simp [e]
  clear hN hno
  go_enter Tryz.func42, Tryz.ntmps42
  go_wp2_with fail
  go_loopg [3] (N - 2) (fun g s3 wr => ∃ i : Nat, i + g = N ∧ 2 ≤ i ∧ s3 = .int .i64 i ∧ wr.heap[w.heap.size]? = some (.cells #[.int .i64 x0, .int .i64 y0, .int .i64 x1, .int .i64 y1] 68 (0, 0)) ∧ Below w.heap.size w wr)
  case atStart => exact ⟨2, by omega, by omega, rfl, hX, hb0⟩
  case round =>
    obtain ⟨i, hig, hi2, rfl, hXr, hbr⟩ := hrel
    have HI : Hid (i + gk = N) := hig
    have hr1 := hr i wr (by omega) (by omega)
    rw [HN.out i hi2 (by omega)] at hr1
    have hi62 : i < 100 := by omega
    have k0 := Lib.cell_of_heap hXr 0
    have k1 := Lib.cell_of_heap hXr 1
    have k2 := Lib.cell_of_heap hXr 2
    have k3 := Lib.cell_of_heap hXr 3
    have hlr : w.heap.size < wr.heap.size := (Array.getElem?_eq_some_iff.1 hXr).1
    clear hX hb0 hig hr
    by_cases e : i = N
    · have HE : Hid (i = N) := e
      rw [show decide (i = N) = true by simp [e]] at hr1
      clear e
      go_wp2_with fail
      refine hr1.mono ?_
      rintro y w1 ⟨rfl, b1⟩
      go_wp2_with fail
      go_ret
      exact ⟨ret_i (by rw [HE.out]), hbr.trans (b1.mono hbr.size)⟩
    · have HE : Hid (i ≠ N) := e
      rw [show decide (i = N) = false by simp [e]] at hr1
      clear e
      go_wp2_with fail
      refine hr1.mono ?_
      rintro y w1 ⟨rfl, b1⟩
      go_wp2_with fail
      go_roundg (gk - 1)
      case measure => have := HI.out; have := HE.out; omega
      case rel => exact ⟨i + 1, by have := HI.out; have := HE.out; omega, by omega, by go_num, (b1.block _ hlr).trans hXr, hbr.trans (b1.mono hbr.size)⟩
end Go.Proofs.YtofbcngcblleaaaGreat.A

namespace Go.Proofs.YtofbcngcblleaaaGreat.A
open Go.RowKit Go.Maps

/-- the quarter that a cell lies in -/
def qi (x y : Int) (c : Int × Int) : Nat := (if x ≤ c.1 then 1 else 0) + (if y ≤ c.2 then 2 else 0)
def part (x y : Int) (zs : List (Int × Int)) (i : Nat) : List (Int × Int) := zs.filter fun c => qi x y c == i
def cL (zs : List (Int × Int)) : List Value := zs.flatMap fun c => [.int .i64 c.1, .int .i64 c.2]
theorem part_snoc (x y : Int) (zs : List (Int × Int)) (c : Int × Int) (i : Nat) : part x y (zs ++ [c]) i = if qi x y c = i then part x y zs i ++ [c] else part x y zs i := by
  unfold part
  rw [List.filter_append]
  by_cases h : qi x y c = i <;> simp [h]
theorem cL_snoc (zs : List (Int × Int)) (c : Int × Int) : cL (zs ++ [c]) = cL zs ++ [.int .i64 c.1, .int .i64 c.2] := by simp [cL]
theorem part_le (x y : Int) (zs : List (Int × Int)) (i : Nat) : (part x y zs i).length ≤ zs.length := List.length_filter_le _ _

abbrev nil4 : Array Value := #[.slice none 0 0, .slice none 0 0, .slice none 0 0, .slice none 0 0]
/-- what holds midway -/
structure QS (w wr : World) (x y : Int) (zs : List (Int × Int)) (vs : Nat → Value) : Prop where
  blk : wr.heap[w.heap.size + 1]? = some (.cells #[vs 0, vs 1, vs 2, vs 3] 139 (0, 0))
  res : wr.heap[w.heap.size]? = some (.cells nil4 139 (0, 0))
  row : ∀ i, i < 4 → wr.ownsRow (w.heap.size + 2) 52 2 (vs i) (part x y zs i).length (cL (part x y zs i))
  ap : ∀ i j b, i < 4 → j < 4 → (vs i).ownBlock = some b → (vs j).ownBlock = some b → i = j
  bel : Below w.heap.size w wr
def updV (vs : Nat → Value) (i : Nat) (v : Value) : Nat → Value := fun j => if j = i then v else vs j

theorem QS.step {w wr W w5 : World} {x y : Int} {zs : List (Int × Int)} {vs : Nat → Value} {c : Int × Int} {i g5 cap5 : Nat} (h : QS w wr x y zs vs) (hi : qi x y c = i) (hi4 : i < 4) (hW : Below wr.heap.size wr W)
    (hown : w5.ownsRow (w.heap.size + 2) 52 2 (.slice (some ⟨g5, 0, none⟩) ((part x y zs i).length + 1) cap5) ((part x y zs i).length + 1) (cL (part x y zs i) ++ [.int .i64 c.1, .int .i64 c.2]))
    (hg : W.grownBy w5 (vs i).ownBlock) (hat : (vs i).ownBlock = some g5 ∨ wr.heap.size ≤ g5) :
    QS w (w5.setCell ⟨w.heap.size + 1, i, none⟩ (.slice (some ⟨g5, 0, none⟩) ((part x y zs i).length + 1) cap5)) x y (zs ++ [c]) (updV vs i (.slice (some ⟨g5, 0, none⟩) ((part x y zs i).length + 1) cap5)) := by
  have hq : w.heap.size + 1 < wr.heap.size := (Array.getElem?_eq_some_iff.1 h.blk).1
  have hlt : ∀ j, j < 4 → ∀ k, (vs j).ownBlock = some k → w.heap.size + 2 ≤ k ∧ k < wr.heap.size := fun j hj k hk => World.ownsRow.lt (h.row j hj) k hk
  have keep : ∀ k, k < wr.heap.size → (vs i).ownBlock ≠ some k → w5.heap[k]? = wr.heap[k]? := fun k hk hn => (hg.block k (Nat.lt_of_lt_of_le hk hW.size) hn.symm).trans (hW.block k hk)
  have hq5 : w5.heap[w.heap.size + 1]? = some (.cells #[vs 0, vs 1, vs 2, vs 3] 139 (0, 0)) := (keep _ hq (fun e => by have := hlt i hi4 _ e; omega)).trans h.blk
  have hset : ∀ k, k ≠ w.heap.size + 1 → (w5.setCell ⟨w.heap.size + 1, i, none⟩ (.slice (some ⟨g5, 0, none⟩) ((part x y zs i).length + 1) cap5)).heap[k]? = w5.heap[k]? := fun k hk => Below.heap_setCell _ _ _ _ hk
  refine ⟨?_, ?_, fun j hj => ?_, fun j l b hj hl h1 h2 => ?_, ?_⟩
  · have := Go.Joins.block_setCell (i := i) hq5 (.slice (some ⟨g5, 0, none⟩) ((part x y zs i).length + 1) cap5)
    rw [this]
    match i, hi4 with
    | 0, _ => rfl
    | 1, _ => rfl
    | 2, _ => rfl
    | 3, _ => rfl
  · rw [hset _ (by omega), keep _ (by omega) (fun e => by have := hlt i hi4 _ e; omega)]
    exact h.res
  · rw [part_snoc]
    by_cases e : j = i
    · subst e
      rw [if_pos hi, cL_snoc]
      simp only [updV, if_pos, List.length_append, List.length_singleton]
      refine row_other hown fun k hk => hset k ?_
      simp only [Value.ownBlock, Option.some.injEq] at hk
      subst hk
      rcases hat with h1 | h1
      · have := hlt j hj _ h1; omega
      · omega
    · rw [if_neg (fun e' => e (by omega))]
      simp only [updV, if_neg e]
      refine row_other (h.row j hj) fun k hk => ?_
      have hb := hlt j hj k hk
      rw [hset k (by omega), keep k hb.2 (fun e' => e (h.ap j i k hj hi4 hk e'))]
  · unfold updV at h1 h2
    by_cases ej : j = i
    · by_cases el : l = i
      · omega
      · rw [if_pos ej] at h1
        rw [if_neg el] at h2
        simp only [Value.ownBlock, Option.some.injEq] at h1
        subst h1
        rcases hat with h3 | h3
        · exact absurd (h.ap l i _ hl hi4 h2 h3) el
        · have := hlt l hl _ h2; omega
    · rw [if_neg ej] at h1
      by_cases el : l = i
      · rw [if_pos el] at h2
        simp only [Value.ownBlock, Option.some.injEq] at h2
        subst h2
        rcases hat with h3 | h3
        · exact absurd (h.ap j i _ hj hi4 h1 h3) ej
        · have := hlt j hj _ h1; omega
      · rw [if_neg el] at h2
        exact h.ap j l b hj hl h1 h2
  · have hb := h.bel
    refine ⟨hg.os.trans (hW.os.trans hb.os), hg.tape.trans (hW.tape.trans hb.tape), hg.output.trans (hW.output.trans hb.output), ?_, fun k hk => ?_⟩
    · have a := hg.size; have b := hW.size; have c := hb.size
      rw [size_set]
      omega
    · rw [hset k (by omega), keep k (by have := hb.size; omega) (fun e => by have := hlt i hi4 _ e; omega)]
      exact hb.block k hk
end Go.Proofs.YtofbcngcblleaaaGreat.A
