/- Squares as sets of cells, and what joins make: plain words. -/
import Derived.Test.YtgipjplifndniaaGreatDoorArTake
import Derived.Test.YtgipjplifndniaaGreatDoorArLoseP
import Derived.LoopN
import Derived.Test.YtgipjplifndniaaGreatDoorArReach
import Derived.Deep.CutBlock
namespace Go.Proofs.YtgipjplifndniaaGreatDoor.A
open Go.RowKit Go.Maps

structure Young (A : Ar) : Prop where
  free : A.free = []
  mask : ∀ z ∈ A.ths, z.mask < 18446744073709551616
  few : A.ths.length < 1000000
  room : (A.ths.length : Int) < A.room
  cnt : ∀ t, t < 64 → 0 ≤ A.cnt t ∧ A.cnt t < 4611686018427387904
  fresh : ∀ t, t < 64 → (A.fresh t).length < 10000000

theorem ArAt.below {w w' : World} {b n : Nat} {F : Nat → Prop} {A : Ar} (h : ArAt w b F n A) (hb : Below w.heap.size w w') : ArAt w' b F n A := by
  obtain ⟨r, D, h⟩ := h
  exact ⟨r, D, h.below hb⟩
theorem ArAt.flt {w : World} {b n : Nat} {F : Nat → Prop} {A : Ar} (h : ArAt w b F n A) : ∀ k, F k → k < w.heap.size := by
  obtain ⟨r, D, h⟩ := h
  exact h.flt
def BecomeOut (A : Ar) (t : Nat) (x : Th) (b : Nat) (F : Nat → Prop) (n : Nat) (w : World) (e : Ending) (w' : World) : Prop :=
  e = .returned (.tuple #[.int .i64 (A.become t x).2.1, .int .i64 (A.become t x).2.2]) ∧ ArAt w' b (More F w w') (n + 1) (A.become t x).1 ∧ Apart F w w'

end Go.Proofs.YtgipjplifndniaaGreatDoor.A

namespace Go.Proofs.YtgipjplifndniaaGreatDoor.A
open Go.RowKit Go.Maps

structure HandAt (w : World) (hb b t : Nat) (e : Int) (v : Value) : Prop where
  c0 : w.cell? ⟨hb, 0, none⟩ = some (.pointer (some ⟨b, 0, none⟩))
  c1 : w.cell? ⟨hb, 1, none⟩ = some (.int .i64 t)
  c2 : w.cell? ⟨hb, 2, none⟩ = some (.int .i64 e)
  c3 : w.cell? ⟨hb, 3, none⟩ = some v
  z2 : w.frozen? ⟨hb, 2, none⟩ = false
  z3 : w.frozen? ⟨hb, 3, none⟩ = false
theorem HandAt.of {w : World} {hb b t : Nat} {e : Int} {v : Value} {l : List Value} {T : TypeId} (h : w.heap[hb]? = some (.cells (.pointer (some ⟨b, 0, none⟩) :: .int .i64 t :: .int .i64 e :: v :: l).toArray T (0, 0))) : HandAt w hb b t e v :=
  ⟨Lib.cell_of_heap h 0, Lib.cell_of_heap h 1, Lib.cell_of_heap h 2, Lib.cell_of_heap h 3, Lib.frozen_of_heap h 2, Lib.frozen_of_heap h 3⟩
theorem HandAt.go {w w' : World} {hb b t : Nat} {e : Int} {v : Value} (h : HandAt w hb b t e v) (hb' : w'.heap[hb]? = w.heap[hb]?) : HandAt w' hb b t e v :=
  ⟨(World.cell?_of_block hb').trans h.c0, (World.cell?_of_block hb').trans h.c1, (World.cell?_of_block hb').trans h.c2, (World.cell?_of_block hb').trans h.c3, (World.frozen?_of_block hb').trans h.z2, (World.frozen?_of_block hb').trans h.z3⟩
theorem HandAt.lt {w : World} {hb b t : Nat} {e : Int} {v : Value} (h : HandAt w hb b t e v) : hb < w.heap.size := World.block_lt_of_cell? _ _ h.c0
theorem HandAt.below {w w' : World} {hb b t : Nat} {e : Int} {v : Value} (h : HandAt w hb b t e v) (hb' : Below w.heap.size w w') : HandAt w' hb b t e v := h.go (hb'.block _ h.lt)
theorem cell_set_other {w : World} {b i j : Nat} {u : Value} (h : i ≠ j) : (w.setCell ⟨b, i, none⟩ u).cell? ⟨b, j, none⟩ = w.cell? ⟨b, j, none⟩ := by
  simp [go_sem]
theorem HandAt.setE {w : World} {hb b t : Nat} {e : Int} {v : Value} (h : HandAt w hb b t e v) (x : Int) : HandAt (w.setCell ⟨hb, 2, none⟩ (.int .i64 x)) hb b t x v := by
  have f : ∀ i, (w.setCell ⟨hb, 2, none⟩ (.int .i64 x)).frozen? ⟨hb, i, none⟩ = w.frozen? ⟨hb, i, none⟩ := fun i => by simp
  refine ⟨(cell_set_other (by omega)).trans h.c0, (cell_set_other (by omega)).trans h.c1, ?_, (cell_set_other (by omega)).trans h.c3, (f 2).trans h.z2, (f 3).trans h.z3⟩
  have hc := h.c2
  simp [go_sem, hc]
theorem set_grown (w : World) (g i : Nat) (v : Value) : w.grownBy (w.setCell ⟨g, i, none⟩ v) (some g) := ⟨rfl, rfl, rfl, by rw [size_set]; exact Nat.le_refl _, fun k _ hk => heap_set fun e => hk (by rw [e])⟩
theorem grown_refl (w : World) (r : Option Nat) : w.grownBy w r := ⟨rfl, rfl, rfl, Nat.le_refl _, fun _ _ _ => rfl⟩
theorem grown_tr {w w1 w2 : World} {r : Option Nat} (h : w.grownBy w1 r) (k : w1.grownBy w2 r) : w.grownBy w2 r :=
  ⟨k.os.trans h.os, k.tape.trans h.tape, k.output.trans h.output, Nat.le_trans h.size k.size, fun j hj hn => (k.block j (Nat.lt_of_lt_of_le hj h.size) hn).trans (h.block j hj hn)⟩
theorem grown_bl {w w1 : World} (h : Below w.heap.size w w1) (r : Option Nat) : w.grownBy w1 r := ⟨h.os, h.tape, h.output, h.size, fun k hk _ => h.block k hk⟩
def keepE (e err : Int) : Int := if e = 0 then err else e
theorem keep_any (hb b t : Nat) (e err : Int) (v : Value) (w : World) (h : HandAt w hb b t e v) :
    Calls Tryz.prog 111 #[.pointer (some ⟨hb, 0, none⟩), .int .i64 err] w fun x w' => x = .returned (.tuple #[]) ∧ HandAt w' hb b t (keepE e err) v ∧ w.grownBy w' (some hb) := by
  have c2 := h.c2
  have z2 := h.z2
  by_cases he : e = 0
  · subst he
    go_enter Tryz.func111, Tryz.ntmps111
    go_wp2_with fail
    go_end0
    exact ⟨rfl, h.setE err, set_grown _ _ _ _⟩
  · have he' : (e == 0) = false := by simpa using he
    go_enter Tryz.func111, Tryz.ntmps111
    go_wp2_with fail
    go_end0
    refine ⟨rfl, ?_, grown_refl _ _⟩
    unfold keepE
    rw [if_neg he]
    exact h

theorem answer_ok (hb b t : Nat) (id : Int) (v : Value) (w : World) (h : HandAt w hb b t 0 v) :
    Calls Tryz.prog 92 #[.pointer (some ⟨hb, 0, none⟩), .int .i64 id] w fun x w' => x = .returned (.tuple #[.int .i64 id, .int .i64 0]) ∧ w' = w := by
  have c2 := h.c2
  go_enter Tryz.func92, Tryz.ntmps92
  go_wp2_with fail
  go_ret2
  exact ⟨rfl, rfl⟩
theorem answer_no (hb b t : Nat) (e id : Int) (v : Value) (w : World) (h : HandAt w hb b t e v) (he : e ≠ 0) :
    Calls Tryz.prog 92 #[.pointer (some ⟨hb, 0, none⟩), .int .i64 id] w fun x w' => x = .returned (.tuple #[.int .i64 0, .int .i64 e]) ∧ ∃ q, w' = w.drewN q := by
  have c2 := h.c2
  have he' : (e != 0) = true := by simpa using he
  go_enter Tryz.func92, Tryz.ntmps92
  go_wp2_with fail
  go_quiet (fail)
  go_wp2_with fail
  go_ret2
  exact ⟨rfl, _, rfl⟩

end Go.Proofs.YtgipjplifndniaaGreatDoor.A

namespace Go.Proofs.YtgipjplifndniaaGreatDoor.A
open Go.RowKit Go.Maps

def Ar.join (A : Ar) (t : Nat) (q0 q1 q2 q3 : Int) : Ar × Int × Int := if (joinE A t q0 q1 q2 q3).1 ≠ 0 then (A, 0, (joinE A t q0 q1 q2 q3).1) else A.become t (sqTh q0 q1 q2 q3 (joinE A t q0 q1 q2 q3).2)

theorem four_any (id : Int) (w : World) : Calls Tryz.prog 129 #[.int .i64 id] w fun x w' => x = .returned (quad4 id id id id) ∧ Below w.heap.size w w' := by
  go_enter Tryz.func129, Tryz.ntmps129
  go_wp2_with fail
  refine bodyPost_ret (v := quad4 id id id id) ?_ rfl ⟨rfl, ?_⟩
  · simp [results, Tryz.results129, go_sem, quad4]
  · exact (Below.refl _ _).alloc (Nat.le_refl _) _
end Go.Proofs.YtgipjplifndniaaGreatDoor.A

namespace Go.Proofs.YtgipjplifndniaaGreatDoor.A
open Go.RowKit Go.Maps

def HandIn (w : World) (hb b t : Nat) (e : Int) (E : List Int) (H : Nat → Prop) : Prop := ∃ v, HandAt w hb b t e v ∧ IntRow w v E ∧ H hb ∧ (∀ k, v.ownBlock = some k → H k) ∧ v.ownBlock ≠ some hb ∧ ∀ k, H k → k < w.heap.size

def emptyS (t : Nat) (s : Ar × List Int) : Ar × List Int := ((s.1.join t s.2.getLast! s.2.getLast! s.2.getLast! s.2.getLast!).1, s.2 ++ [(s.1.join t s.2.getLast! s.2.getLast! s.2.getLast! s.2.getLast!).2.1])
structure StepOk (t : Nat) (s : Ar × List Int) : Prop where
  young : Young s.1
  fits : Fits s.2.getLast!
  ok : (s.1.join t s.2.getLast! s.2.getLast! s.2.getLast! s.2.getLast!).2.2 = 0
  lo : ∀ l, levelF s.1.ths t s.2.getLast! = some l → 0 ≤ l

theorem HandAt.setV {w : World} {hb b t : Nat} {e : Int} {v : Value} (h : HandAt w hb b t e v) (u : Value) : HandAt (w.setCell ⟨hb, 3, none⟩ u) hb b t e u := by
  have f : ∀ i, (w.setCell ⟨hb, 3, none⟩ u).frozen? ⟨hb, i, none⟩ = w.frozen? ⟨hb, i, none⟩ := fun i => by simp
  refine ⟨(cell_set_other (by omega)).trans h.c0, (cell_set_other (by omega)).trans h.c1, (cell_set_other (by omega)).trans h.c2, ?_, (f 2).trans h.z2, (f 3).trans h.z3⟩
  have hc := h.c3
  simp [go_sem, hc]
theorem push_old {w : World} {o : Obj} {k : Nat} (h : k < w.heap.size) : (w.alloc o).heap[k]? = w.heap[k]? := by
  show (w.heap.push o)[k]? = _
  rw [Array.getElem?_push, if_neg (by omega)]

def emptyN (t : Nat) (s : Ar × List Int) : Nat → Ar × List Int
  | 0 => s
  | i + 1 => emptyS t (emptyN t s i)
end Go.Proofs.YtgipjplifndniaaGreatDoor.A

namespace Go.Proofs.YtgipjplifndniaaGreatDoor.A
open Go.RowKit Go.Maps

def Ext (l l' : List Th) : Prop := ∀ (j : Nat) (x : Th), l[j]? = some x → ∃ x' : Th, l'[j]? = some x' ∧ x'.key = x.key ∧ x'.lv = x.lv ∧ x'.va = x.va ∧ ∀ u, x.mask.testBit u = true → x'.mask.testBit u = true
theorem own_some {l : List Th} {t : Nat} {id : Int} {x : Th} (h : ownF l t id = some x) : 2 ≤ id ∧ l[(id - 2).toNat]? = some x ∧ x.mask.testBit t = true := by
  unfold ownF at h
  split at h
  · rename_i h2
    rw [Option.filter_eq_some_iff] at h
    exact ⟨h2, h.1, h.2⟩
  · cases h
theorem level_some {l : List Th} {t : Nat} {id m : Int} (h : levelF l t id = some m) : (id = 0 ∨ id = 1) ∧ m = 0 ∨ ∃ x, ownF l t id = some x ∧ x.k = 1 ∧ x.lv = m := by
  unfold levelF at h
  split at h
  · rename_i h0
    exact Or.inl ⟨h0, by cases h; rfl⟩
  · cases ho : ownF l t id with
    | none => rw [ho] at h; cases h
    | some x =>
      rw [ho] at h
      simp only at h
      split at h
      · rename_i hk
        exact Or.inr ⟨x, rfl, hk, by cases h; rfl⟩
      · cases h
theorem level_fits {l : List Th} {t : Nat} {id m : Int} (h : levelF l t id = some m) (hl : l.length < 1000000) : 0 ≤ id ∧ id < 1000002 := by
  rcases level_some h with ⟨h0, _⟩ | ⟨x, h1, _⟩
  · omega
  · obtain ⟨h2, h3, _⟩ := own_some h1
    have := (List.getElem?_eq_some_iff.1 h3).1
    omega

def glevel (l : List Th) (id : Int) : Option Int := if id = 0 ∨ id = 1 then some 0 else if 2 ≤ id then (match l[(id - 2).toNat]? with | some x => if x.k = 1 then some x.lv else none | none => none) else none
theorem glevel_of {l : List Th} {t : Nat} {id m : Int} (h : levelF l t id = some m) : glevel l id = some m := by
  rcases level_some h with ⟨h0, rfl⟩ | ⟨x, h1, h2, h3⟩
  · unfold glevel; rw [if_pos h0]
  · obtain ⟨g2, g3, _⟩ := own_some h1
    unfold glevel
    rw [if_neg (by omega), if_pos g2, g3]
    simp only
    rw [if_pos h2, h3]
structure Good (l : List Th) : Prop where
  lv : ∀ x ∈ l, x.k = 1 → 1 ≤ x.lv ∧ x.lv ≤ 44 ∧ glevel l x.p0 = some (x.lv - 1) ∧ glevel l x.p1 = some (x.lv - 1) ∧ glevel l x.p2 = some (x.lv - 1) ∧ glevel l x.p3 = some (x.lv - 1)
structure Grew (t : Nat) (A A' : Ar) : Prop where
  ext : Ext A.ths A'.ths
  len : A'.ths.length ≤ A.ths.length + 1
  lim : A'.lim = A.lim
  room : A'.room = A.room
  free : A'.free = A.free
  cnt : ∀ u, A.cnt u ≤ A'.cnt u ∧ A'.cnt u ≤ A.cnt u + 1
  fresh : ∀ u, (A'.fresh u).length ≤ (A.fresh u).length + 1
  mask : t < 64 → (∀ x ∈ A.ths, x.mask < 18446744073709551616) → ∀ x ∈ A'.ths, x.mask < 18446744073709551616
  other : ∀ u, u ≠ t → ∀ x' ∈ A'.ths, x'.mask.testBit u = true → ∃ x ∈ A.ths, x.mask.testBit u = true
end Go.Proofs.YtgipjplifndniaaGreatDoor.A

namespace Go.Proofs.YtgipjplifndniaaGreatDoor.A
open Go.RowKit Go.Maps

def shiftL (dx dy : Int) (zs : List (Int × Int)) : List (Int × Int) := zs.map fun c => (c.1 + dx, c.2 + dy)
def cellsF (l : List Th) : Nat → Int → List (Int × Int)
  | 0, id => if id = 1 then [(0, 0)] else []
  | n + 1, id => cellsF l n (thAt l id).p0 ++ shiftL ((2 ^ n : Nat) : Int) 0 (cellsF l n (thAt l id).p1) ++ shiftL 0 ((2 ^ n : Nat) : Int) (cellsF l n (thAt l id).p2) ++ shiftL ((2 ^ n : Nat) : Int) ((2 ^ n : Nat) : Int) (cellsF l n (thAt l id).p3)

theorem thing_of {l : List Th} (hG : Good l) {n : Nat} {id : Int} (h : glevel l id = some ((n + 1 : Nat) : Int)) : ∃ x, l[(id - 2).toNat]? = some x ∧ 2 ≤ id ∧ x.k = 1 ∧ x.lv = ((n + 1 : Nat) : Int) ∧ glevel l x.p0 = some (n : Int) ∧ glevel l x.p1 = some (n : Int) ∧ glevel l x.p2 = some (n : Int) ∧ glevel l x.p3 = some (n : Int) := by
  unfold glevel at h
  split at h
  · have := Option.some.inj h; omega
  · split at h
    · split at h
      · rename_i x hx
        split at h
        · rename_i hk
          have hl := Option.some.inj h
          obtain ⟨_, _, a, b, c, d⟩ := hG.lv x (List.mem_of_getElem? hx) hk
          rw [show x.lv - 1 = (n : Int) by omega] at a b c d
          exact ⟨x, hx, by assumption, hk, hl, a, b, c, d⟩
        · cases h
      · cases h
    · cases h
theorem glevel_zero {l : List Th} (hG : Good l) {id : Int} (h : glevel l id = some 0) : id = 0 ∨ id = 1 := by
  unfold glevel at h
  split at h
  · assumption
  · split at h
    · split at h
      · rename_i x hx
        split at h
        · rename_i hk
          have hl := Option.some.inj h
          obtain ⟨a, _⟩ := hG.lv x (List.mem_of_getElem? hx) hk
          omega
        · cases h
      · cases h
    · cases h
theorem thAt_eq {l : List Th} {id : Int} {x : Th} (h : l[(id - 2).toNat]? = some x) : thAt l id = x := by unfold thAt; rw [h]; rfl

theorem key_parts {x y : Th} (h : x.key = y.key) : x.p0 = y.p0 ∧ x.p1 = y.p1 ∧ x.p2 = y.p2 ∧ x.p3 = y.p3 := ⟨congrArg Ky.p0 h, congrArg Ky.p1 h, congrArg Ky.p2 h, congrArg Ky.p3 h⟩

theorem cells_ext {l l' : List Th} (hG : Good l) (he : Ext l l') : ∀ (n : Nat) (id : Int), glevel l id = some (n : Int) → cellsF l' n id = cellsF l n id
  | 0, id, _ => rfl
  | n + 1, id, h => by
    obtain ⟨x, hx, _, _, _, g0, g1, g2, g3⟩ := thing_of hG h
    obtain ⟨x', hx', hk, _⟩ := he _ _ hx
    obtain ⟨e0, e1, e2, e3⟩ := key_parts hk
    simp only [cellsF]
    rw [thAt_eq hx, thAt_eq hx', e0, e1, e2, e3, cells_ext hG he n _ g0, cells_ext hG he n _ g1, cells_ext hG he n _ g2, cells_ext hG he n _ g3]

theorem mem_shift {dx dy : Int} {zs : List (Int × Int)} {c : Int × Int} : c ∈ shiftL dx dy zs ↔ (c.1 - dx, c.2 - dy) ∈ zs := by
  unfold shiftL
  rw [List.mem_map]
  constructor
  · rintro ⟨a, ha, rfl⟩
    simpa using ha
  · intro h
    exact ⟨_, h, by simp⟩
theorem shift_len (dx dy : Int) (zs : List (Int × Int)) : (shiftL dx dy zs).length = zs.length := by simp [shiftL]
theorem cells_in {l : List Th} (hG : Good l) : ∀ (n : Nat) (id : Int), glevel l id = some (n : Int) → ∀ c ∈ cellsF l n id, 0 ≤ c.1 ∧ c.1 < ((2 ^ n : Nat) : Int) ∧ 0 ≤ c.2 ∧ c.2 < ((2 ^ n : Nat) : Int)
  | 0, id, _, c, hc => by
    unfold cellsF at hc
    split at hc
    · simp at hc; subst hc; simp
    · cases hc
  | n + 1, id, h, c, hc => by
    obtain ⟨x, hx, _, _, _, g0, g1, g2, g3⟩ := thing_of hG h
    simp only [cellsF, List.mem_append, mem_shift] at hc
    rw [thAt_eq hx] at hc
    have hp : (2 : Nat) ^ (n + 1) = 2 ^ n + 2 ^ n := by rw [Nat.pow_succ]; omega
    rw [hp]
    rcases hc with ((hc | hc) | hc) | hc
    · have := cells_in hG n _ g0 c hc; omega
    · have := cells_in hG n _ g1 _ hc; simp only at this; omega
    · have := cells_in hG n _ g2 _ hc; simp only at this; omega
    · have := cells_in hG n _ g3 _ hc; simp only at this; omega
theorem cells_nodup {l : List Th} (hG : Good l) : ∀ (n : Nat) (id : Int), glevel l id = some (n : Int) → (cellsF l n id).Nodup
  | 0, id, _ => by
    unfold cellsF
    split <;> simp
  | n + 1, id, h => by
    obtain ⟨x, hx, _, _, _, g0, g1, g2, g3⟩ := thing_of hG h
    have k0 := cells_in hG n _ g0
    have k1 := cells_in hG n _ g1
    have k2 := cells_in hG n _ g2
    have k3 := cells_in hG n _ g3
    have nd : ∀ (dx dy : Int) (zs : List (Int × Int)), zs.Nodup → (shiftL dx dy zs).Nodup := fun dx dy zs hz => by
      unfold shiftL
      refine List.Pairwise.map _ (fun a b hab e => hab ?_) hz
      have e1 := congrArg Prod.fst e
      have e2 := congrArg Prod.snd e
      simp only at e1 e2
      exact Prod.ext (by omega) (by omega)
    simp only [cellsF]
    rw [thAt_eq hx]
    have d0 := cells_nodup hG n _ g0
    have d1 := nd ((2 ^ n : Nat) : Int) 0 _ (cells_nodup hG n _ g1)
    have d2 := nd 0 ((2 ^ n : Nat) : Int) _ (cells_nodup hG n _ g2)
    have d3 := nd ((2 ^ n : Nat) : Int) ((2 ^ n : Nat) : Int) _ (cells_nodup hG n _ g3)
    rw [List.nodup_append, List.nodup_append, List.nodup_append]
    refine ⟨⟨⟨d0, d1, fun a ha b hb e => ?_⟩, d2, fun a ha b hb e => ?_⟩, d3, fun a ha b hb e => ?_⟩
    · subst e
      have h0 := k0 a ha
      have h1 := k1 _ (mem_shift.1 hb)
      simp only at h1; omega
    · subst e
      have h2 := k2 _ (mem_shift.1 hb)
      simp only at h2
      rcases List.mem_append.1 ha with ha | ha
      · have h0 := k0 a ha; omega
      · have h1 := k1 _ (mem_shift.1 ha); simp only at h1; omega
    · subst e
      have h3 := k3 _ (mem_shift.1 hb)
      simp only at h3
      rcases List.mem_append.1 ha with ha | ha
      · rcases List.mem_append.1 ha with ha | ha
        · have h0 := k0 a ha; omega
        · have h1 := k1 _ (mem_shift.1 ha); simp only at h1; omega
      · have h2 := k2 _ (mem_shift.1 ha); simp only at h2; omega
end Go.Proofs.YtgipjplifndniaaGreatDoor.A
