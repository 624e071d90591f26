/- A hand: keep, answer, level. -/
import Derived.Test.YtofbcngcblleaabGreatArBack
import Derived.Laws.OwnMore
import Derived.Test.YtofbcngcblleaabGreatArTh
import Derived.Test.YtofbcngcblleaabGreatArJoinP
import Derived.LoopN
import Derived.Test.YtofbcngcblleaabGreatArNote
namespace Go.Proofs.YtofbcngcblleaabGreat.A
open Go.RowKit Go.Maps
def idsF (l : List Th) (t : Nat) (K : List Bool) (i : Nat) : List Int := ((List.range i).filter (fun j => (l[j]!).mask.testBit t && !K[j]!)).map (fun j : Nat => (j : Int) + 2)
def Ar.clean (A : Ar) (t : Nat) (K : List Bool) : Ar := { A.takes t (idsF A.ths t K A.ths.length) with fresh := upd A.fresh t [] }
def NRow (w : World) (v : Value) (rs : List Int) : Prop := ∃ a c, v = .slice a rs.length c ∧ (rs = [] ∨ ∃ g o, a = some ⟨g, o, none⟩ ∧ g < w.heap.size ∧ ∀ (k : Nat) x, rs[k]? = some x → w.cell? ⟨g, o + k, none⟩ = some (.int .i64 x))
def keepAll (l : List Th) (t : Nat) (rs : List Int) : List Bool := rs.foldl (fun K id => keepF l t l.length id K) (List.replicate l.length false)
theorem cell_later {w w' : World} {p : Addr} {v : Value} (hb : Below w.heap.size w w') (h : w.cell? p = some v) : w'.cell? p = some v := by
  obtain ⟨b, o, sp⟩ := p
  by_cases hl : b < w.heap.size
  · exact (hb.cell (p := ⟨b, o, sp⟩) hl).trans h
  · exfalso
    unfold World.cell? at h
    rw [show w.heap[b]? = none from Array.getElem?_eq_none (by omega)] at h
    simp at h
end Go.Proofs.YtofbcngcblleaabGreat.A

namespace Go.Proofs.YtofbcngcblleaabGreat.A
open Go.RowKit Go.Maps
def zcell (i : Nat) : Value := if i = 0 then .int .i64 0 else if i = 1 then .slice none 0 0 else if i = 2 then .map none else if i = 3 then .slice none 0 0 else if (i - 4) % 3 = 2 then .slice none 0 0 else .int .i64 0
set_option maxRecDepth 100000 in
theorem zero_list : Tryz.zeroCells70.toList = (List.range 196).map zcell := by kernel_rfl
theorem zero_at (i : Nat) (hi : i < 196) : Tryz.zeroCells70[i]? = some (zcell i) := by
  rw [← Array.getElem?_toList, zero_list]
  simp [hi]
theorem zero_size : Tryz.zeroCells70.size = 196 := by
  rw [← Array.length_toList, zero_list]
  simp
def rawNew (room : Int) (mp k : Nat) : Raw := ⟨room, .slice none 0 0, mp, .slice none 0 0, fun t => if t < k then ⟨room, 0, .slice none 0 0⟩ else ⟨0, 0, .slice none 0 0⟩⟩
theorem rawNew_turn (room : Int) (mp k : Nat) : (rawNew room mp k).turn k { (rawNew room mp k).tn k with lim := room } = rawNew room mp (k + 1) := by
  unfold Raw.turn rawNew
  simp only [Raw.mk.injEq, true_and]
  funext t
  by_cases e : t = k
  · subst e; simp
  · by_cases h : t < k
    · simp [e, h, Nat.lt_succ_of_lt h]
    · have : ¬ t < k + 1 := by omega
      simp [e, h, this]
theorem rawNew_at (room : Int) (mp : Nat) (w : World) (b : Nat) (h : w.heap[b]? = some (.cells ((Tryz.zeroCells70.setIfInBounds 0 (.int .i64 room)).setIfInBounds 2 (.map (some mp))) 70 (0, 0))) : RawAt w b (rawNew room mp 0) := by
  refine ⟨_, h, by simp, fun i hi => ?_⟩
  rw [Array.getElem?_setIfInBounds, Array.getElem?_setIfInBounds]
  simp only [Array.size_setIfInBounds, zero_size]
  by_cases e2 : 2 = i
  · subst e2; simp [Raw.cell, rawNew]
  · rw [if_neg e2]
    by_cases e0 : 0 = i
    · subst e0; simp [Raw.cell, rawNew]
    · rw [if_neg e0, zero_at i hi]
      unfold Raw.cell zcell rawNew
      by_cases e1 : i = 1
      · subst e1; rfl
      · by_cases e3 : i = 3
        · subst e3; rfl
        · simp only [if_neg (fun e => e0 (Eq.symm e) : ¬ i = 0), if_neg e1, if_neg (fun e => e2 (Eq.symm e) : ¬ i = 2), if_neg e3, Nat.not_lt_zero, if_false]
          have : (i - 4) % 3 < 3 := Nat.mod_lt _ (by omega)
          by_cases c2 : (i - 4) % 3 = 2
          · rw [if_pos c2, if_neg (by omega), if_neg (by omega)]
          · rw [if_neg c2]
            by_cases c0 : (i - 4) % 3 = 0
            · rw [if_pos c0]
            · rw [if_neg c0, if_pos (by omega)]
def arNew (room : Int) : Ar := ⟨room, [], [], fun _ => room, fun _ => 0, fun _ => []⟩
theorem arNew_at (room : Int) (w w' : World) (_hb : Below w.heap.size w w') (hr : RawAt w' (w.heap.size + 1) (rawNew room w.heap.size 64)) (hm : w'.heap[w.heap.size]? = some (.map #[] 0)) : ArAt w' (w.heap.size + 1) (More (fun _ => False) w w') 0 (arNew room) := by
  have hlt := hr.lt
  refine ⟨_, .map [], hr, rfl, World.ownsRow_nil _ _ _ _, ?_, NumIs.empty, IntRow.nil _, fun t ht => ?_, fun t ht => ?_, fun t ht => ?_, fun t ht k hk => ?_, fun t u ht hu htu k hk => ?_, Or.inr ⟨by omega, by omega⟩, Or.inr ⟨Nat.le_refl _, by show w.heap.size < _; omega⟩, fun k hk => ?_, fun k hk => ?_, fun t ht k hk => ?_, fun k hk => ?_⟩
  · have h0 := World.ownsMap_made (H := Unit) w Tryz.prog 75 (plainElem Tryz.prog 3)
    obtain ⟨es, c, e1, e2⟩ := h0
    rw [heap_alloc_new] at e1
    simp at e1
    obtain ⟨rfl, rfl⟩ := e1
    exact ⟨_, _, hm, e2⟩
  · show (if t < 64 then _ else _ : Tn).lim = room
    rw [if_pos ht]
  · show (if t < 64 then _ else _ : Tn).cnt = 0
    rw [if_pos ht]
  · show IntRow w' (if t < 64 then _ else _ : Tn).fr []
    rw [if_pos ht]
    exact IntRow.nil _
  · simp [rawNew, ht, Value.ownBlock] at hk
  · simp [rawNew, ht, Value.ownBlock] at hk
  · simp [rawNew, Value.ownBlock] at hk
  · simp [rawNew, Value.ownBlock] at hk
  · simp [rawNew, ht, Value.ownBlock] at hk
  · rcases hk with h | h
    · exact h.elim
    · exact h.2
set_option maxRecDepth 20000 in
set_option maxHeartbeats 4000000 in
theorem new_any (room : Int) (w : World) (h0 : 0 ≤ room) (h1 : room ≤ 200000) :
    Calls Tryz.prog 9 #[.int .i64 room] w fun e w' => e = .returned (.tuple #[.pointer (some ⟨w.heap.size + 1, 0, none⟩), .int .i64 0]) ∧ ArAt w' (w.heap.size + 1) (More (fun _ => False) w w') 0 (arNew room) ∧ Below w.heap.size w w' := by
  have e1 : ¬ room < 0 := by omega
  have e2 : ¬ 200000 < room := by omega
  have hmm := @run_makeMap Tryz.prog
  go_enter Tryz.func9, Tryz.ntmps9
  go_wp2_with fail
  go_loopg [16] 64 (fun g s16 wr => ∃ k : Nat, k + g = 64 ∧ s16 = .int .i64 k ∧ RawAt wr (w.heap.size + 1) (rawNew room w.heap.size k) ∧ wr.heap[w.heap.size]? = some (.map #[] 0) ∧ Below w.heap.size w wr)
  case atStart =>
    refine ⟨0, by omega, rfl, rawNew_at room w.heap.size _ _ (heap_alloc2_new w _ _), heap_alloc2_old w _ _, ((Below.refl _ _).alloc (Nat.le_refl _) _).alloc (by simp) _⟩
  case round =>
    obtain ⟨k, hkg, rfl, hr, hmp, hbw⟩ := hrel
    have HK : Hid (k + gk = 64) := hkg
    have hk64 : k ≤ 64 := by omega
    clear hkg
    by_cases hlt : k < 64
    · have hi0 : (0 : Int) ≤ k := by omega
      have hi1 : (k : Int) < 64 := by omega
      have cl := hr.at (4 + k * 3) (by omega)
      rw [Raw.cl] at cl
      have fz := hr.frozen (4 + k * 3)
      have hwk : IntKind.i64.wrap ((k : Int) + 1) = (k : Int) + 1 := by rw [IntKind.wrap_i64]; omega
      go_wp2_with fail
      go_roundg (gk - 1)
      case measure => have := HK.out; omega
      case rel =>
        have hr2 := hr.setLim k room
        rw [rawNew_turn] at hr2
        exact ⟨k + 1, by have := HK.out; omega, by go_num, hr2, (heap_set (by omega)).trans hmp, hbw.setCell (p := ⟨w.heap.size + 1, 4 + k * 3, none⟩) (Nat.le_succ _) _⟩
    · have hi1 : ¬ (k : Int) < 64 := by omega
      have hk : k = 64 := by omega
      subst hk
      go_wp2_with fail
      go_ret2
      exact ⟨rfl, arNew_at room w _ hbw hr hmp, hbw⟩
end Go.Proofs.YtofbcngcblleaabGreat.A

namespace Go.Proofs.YtofbcngcblleaabGreat.A
open Go.RowKit Go.Maps
def Ar.cleanP (A : Ar) (t : Nat) (rs : List Int) : Ar := A.lose t (idsF A.ths t (keepAll A.ths t rs) A.ths.length) []
theorem LevelP_any (b t : Nat) (F : Nat → Prop) (id : Int) (A : Ar) (w : World) (h : AtP w b F A) (hS : Sound A) (ht : t < 64) (hid : Fits id) :
    Calls Tryz.prog 21 #[.pointer (some ⟨b, 0, none⟩), .int .i64 t, .int .i64 id] w fun e w' => e = .returned (.tuple #[.int .i64 ((levelF A.ths t id).getD 0), .int .i64 (lack (levelF A.ths t id))]) ∧ Below w.heap.size w w' := by
  obtain ⟨L, r, D, h, _⟩ := h
  exact Level_any b 0 t id r A.ths w h.raw h.ths ht hS.mask hid
def Ar.limP (A : Ar) (t : Nat) (n : Int) : Ar := { A with lim := upd A.lim t n }
theorem new_sound {room : Int} (h0 : 0 ≤ room) (h1 : room ≤ 200000) : Sound (arNew room) :=
  ⟨rfl, h0, h1, h0, fun _ h => (by cases h), fun _ h => (by cases h), fun _ h => (by cases h), fun _ h => (by cases h), fun _ h => (by cases h), fun i j x y hx => (by cases hx), fun _ _ => ⟨h0, Int.le_refl _⟩, fun _ _ => rfl, fun _ _ => ⟨List.nodup_nil, fun _ h => (by cases h)⟩⟩
theorem newP_any (room : Int) (w : World) (h0 : 0 ≤ room) (h1 : room ≤ 200000) :
    Calls Tryz.prog 9 #[.int .i64 room] w fun e w' => e = .returned (.tuple #[.pointer (some ⟨w.heap.size + 1, 0, none⟩), .int .i64 0]) ∧ (∃ F, (∀ k, F k → w.heap.size ≤ k) ∧ AtP w' (w.heap.size + 1) F (arNew room)) ∧ Below w.heap.size w w' := by
  refine (new_any room w h0 h1).mono ?_
  rintro e w' ⟨rfl, ⟨r, D, h⟩, hb⟩
  exact ⟨rfl, ⟨_, fun k hk => (by rcases hk with e | e; exact e.elim; exact e.1), [], r, D, h, List.Perm.refl _, fun k h0 hk => (by simp at hk)⟩, hb⟩
end Go.Proofs.YtofbcngcblleaabGreat.A

namespace Go.Proofs.YtofbcngcblleaabGreat.A
open Go.RowKit Go.Maps
structure Young (A : Ar) : Prop where
  free : A.free = []
  mask : ∀ z ∈ A.ths, z.mask < 18446744073709551616
  few : A.ths.length < 1000000
  room : (A.ths.length : Int) < A.room
  cnt : ∀ t, t < 64 → 0 ≤ A.cnt t ∧ A.cnt t < 4611686018427387904
  fresh : ∀ t, t < 64 → (A.fresh t).length < 10000000
theorem ArAt.below {w w' : World} {b n : Nat} {F : Nat → Prop} {A : Ar} (h : ArAt w b F n A) (hb : Below w.heap.size w w') : ArAt w' b F n A := by
  obtain ⟨r, D, h⟩ := h
  exact ⟨r, D, h.below hb⟩
theorem ArAt.flt {w : World} {b n : Nat} {F : Nat → Prop} {A : Ar} (h : ArAt w b F n A) : ∀ k, F k → k < w.heap.size := by
  obtain ⟨r, D, h⟩ := h
  exact h.flt
def BecomeOut (A : Ar) (t : Nat) (x : Th) (b : Nat) (F : Nat → Prop) (n : Nat) (w : World) (e : Ending) (w' : World) : Prop :=
  e = .returned (.tuple #[.int .i64 (A.become t x).2.1, .int .i64 (A.become t x).2.2]) ∧ ArAt w' b (More F w w') (n + 1) (A.become t x).1 ∧ Apart F w w'
end Go.Proofs.YtofbcngcblleaabGreat.A

namespace Go.Proofs.YtofbcngcblleaabGreat.A
open Go.RowKit Go.Maps
section
variable {w W W' : World} {q0 q1 q2 q3 a0 a1 a2 a3 : Int}
end
def JoinOut (A : Ar) (t : Nat) (q0 q1 q2 q3 : Int) (b : Nat) (F : Nat → Prop) (n : Nat) (w : World) (e : Ending) (w' : World) : Prop :=
  ((joinE A t q0 q1 q2 q3).1 ≠ 0 → e = .returned (.tuple #[.int .i64 0, .int .i64 (joinE A t q0 q1 q2 q3).1]) ∧ Below w.heap.size w w') ∧
  ((joinE A t q0 q1 q2 q3).1 = 0 → BecomeOut A t (sqTh q0 q1 q2 q3 (joinE A t q0 q1 q2 q3).2) b F n w e w')
end Go.Proofs.YtofbcngcblleaabGreat.A


namespace Go.Proofs.YtofbcngcblleaabGreat.A
open Go.RowKit Go.Maps
structure HandAt (w : World) (hb b t : Nat) (e : Int) (v : Value) : Prop where
  c0 : w.cell? ⟨hb, 0, none⟩ = some (.pointer (some ⟨b, 0, none⟩))
  c1 : w.cell? ⟨hb, 1, none⟩ = some (.int .i64 t)
  c2 : w.cell? ⟨hb, 2, none⟩ = some (.int .i64 e)
  c3 : w.cell? ⟨hb, 3, none⟩ = some v
  z2 : w.frozen? ⟨hb, 2, none⟩ = false
  z3 : w.frozen? ⟨hb, 3, none⟩ = false
theorem HandAt.of {w : World} {hb b t : Nat} {e : Int} {v : Value} {l : List Value} {T : TypeId} (h : w.heap[hb]? = some (.cells (.pointer (some ⟨b, 0, none⟩) :: .int .i64 t :: .int .i64 e :: v :: l).toArray T (0, 0))) : HandAt w hb b t e v :=
  ⟨Lib.cell_of_heap h 0, Lib.cell_of_heap h 1, Lib.cell_of_heap h 2, Lib.cell_of_heap h 3, Lib.frozen_of_heap h 2, Lib.frozen_of_heap h 3⟩
theorem HandAt.go {w w' : World} {hb b t : Nat} {e : Int} {v : Value} (h : HandAt w hb b t e v) (hb' : w'.heap[hb]? = w.heap[hb]?) : HandAt w' hb b t e v :=
  ⟨(World.cell?_of_block hb').trans h.c0, (World.cell?_of_block hb').trans h.c1, (World.cell?_of_block hb').trans h.c2, (World.cell?_of_block hb').trans h.c3, (World.frozen?_of_block hb').trans h.z2, (World.frozen?_of_block hb').trans h.z3⟩
theorem HandAt.lt {w : World} {hb b t : Nat} {e : Int} {v : Value} (h : HandAt w hb b t e v) : hb < w.heap.size := World.block_lt_of_cell? _ _ h.c0
theorem HandAt.below {w w' : World} {hb b t : Nat} {e : Int} {v : Value} (h : HandAt w hb b t e v) (hb' : Below w.heap.size w w') : HandAt w' hb b t e v := h.go (hb'.block _ h.lt)
theorem cell_set_other {w : World} {b i j : Nat} {u : Value} (h : i ≠ j) : (w.setCell ⟨b, i, none⟩ u).cell? ⟨b, j, none⟩ = w.cell? ⟨b, j, none⟩ := by
  simp [go_sem]
theorem HandAt.setE {w : World} {hb b t : Nat} {e : Int} {v : Value} (h : HandAt w hb b t e v) (x : Int) : HandAt (w.setCell ⟨hb, 2, none⟩ (.int .i64 x)) hb b t x v := by
  have f : ∀ i, (w.setCell ⟨hb, 2, none⟩ (.int .i64 x)).frozen? ⟨hb, i, none⟩ = w.frozen? ⟨hb, i, none⟩ := fun i => by simp
  refine ⟨(cell_set_other (by omega)).trans h.c0, (cell_set_other (by omega)).trans h.c1, ?_, (cell_set_other (by omega)).trans h.c3, (f 2).trans h.z2, (f 3).trans h.z3⟩
  have hc := h.c2
  simp [go_sem, hc]
theorem set_grown (w : World) (g i : Nat) (v : Value) : w.grownBy (w.setCell ⟨g, i, none⟩ v) (some g) := ⟨rfl, rfl, rfl, by rw [size_set]; exact Nat.le_refl _, fun k _ hk => heap_set fun e => hk (by rw [e])⟩
theorem grown_refl (w : World) (r : Option Nat) : w.grownBy w r := ⟨rfl, rfl, rfl, Nat.le_refl _, fun _ _ _ => rfl⟩
theorem grown_tr {w w1 w2 : World} {r : Option Nat} (h : w.grownBy w1 r) (k : w1.grownBy w2 r) : w.grownBy w2 r :=
  ⟨k.os.trans h.os, k.tape.trans h.tape, k.output.trans h.output, Nat.le_trans h.size k.size, fun j hj hn => (k.block j (Nat.lt_of_lt_of_le hj h.size) hn).trans (h.block j hj hn)⟩
theorem grown_bl {w w1 : World} (h : Below w.heap.size w w1) (r : Option Nat) : w.grownBy w1 r := ⟨h.os, h.tape, h.output, h.size, fun k hk _ => h.block k hk⟩
def keepE (e err : Int) : Int := if e = 0 then err else e
theorem keep_any (hb b t : Nat) (e err : Int) (v : Value) (w : World) (h : HandAt w hb b t e v) :
    Calls Tryz.prog 79 #[.pointer (some ⟨hb, 0, none⟩), .int .i64 err] w fun x w' => x = .returned (.tuple #[]) ∧ HandAt w' hb b t (keepE e err) v ∧ w.grownBy w' (some hb) := by
  have c2 := h.c2
  have z2 := h.z2
  by_cases he : e = 0
  · subst he
    go_enter Tryz.func79, Tryz.ntmps79
    go_wp2_with fail
    go_end0
    exact ⟨rfl, h.setE err, set_grown _ _ _ _⟩
  · have he' : (e == 0) = false := by simpa using he
    go_enter Tryz.func79, Tryz.ntmps79
    go_wp2_with fail
    go_end0
    refine ⟨rfl, ?_, grown_refl _ _⟩
    unfold keepE
    rw [if_neg he]
    exact h
theorem answer_ok (hb b t : Nat) (id : Int) (v : Value) (w : World) (h : HandAt w hb b t 0 v) :
    Calls Tryz.prog 16 #[.pointer (some ⟨hb, 0, none⟩), .int .i64 id] w fun x w' => x = .returned (.tuple #[.int .i64 id, .int .i64 0]) ∧ w' = w := by
  have c2 := h.c2
  go_enter Tryz.func16, Tryz.ntmps16
  go_wp2_with fail
  go_ret2
  exact ⟨rfl, rfl⟩
theorem answer_no (hb b t : Nat) (e id : Int) (v : Value) (w : World) (h : HandAt w hb b t e v) (he : e ≠ 0) :
    Calls Tryz.prog 16 #[.pointer (some ⟨hb, 0, none⟩), .int .i64 id] w fun x w' => x = .returned (.tuple #[.int .i64 0, .int .i64 e]) ∧ ∃ q, w' = w.drewN q := by
  have c2 := h.c2
  have he' : (e != 0) = true := by simpa using he
  go_enter Tryz.func16, Tryz.ntmps16
  go_wp2_with fail
  go_quiet (fail)
  go_wp2_with fail
  go_ret2
  exact ⟨rfl, _, rfl⟩
def levelE (e : Int) (o : Option Int) (least most : Int) : Int := keepE (keepE e (lack o)) (if o.getD 0 < least ∨ most < o.getD 0 then 8 else 0)
end Go.Proofs.YtofbcngcblleaabGreat.A
