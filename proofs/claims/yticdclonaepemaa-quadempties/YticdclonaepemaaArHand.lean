/- A hand: keep, answer, level. -/
import Derived.Test.YticdclonaepemaaArNew
namespace Go.Proofs.Yticdclonaepemaa.A
open Go.RowKit Go.Maps

/-- a hand in the first cells of a block -/
structure HandAt (w : World) (hb b t : Nat) (e : Int) (v : Value) : Prop where
  c0 : w.cell? ⟨hb, 0, none⟩ = some (.pointer (some ⟨b, 0, none⟩))
  c1 : w.cell? ⟨hb, 1, none⟩ = some (.int .i64 t)
  c2 : w.cell? ⟨hb, 2, none⟩ = some (.int .i64 e)
  c3 : w.cell? ⟨hb, 3, none⟩ = some v
  z2 : w.frozen? ⟨hb, 2, none⟩ = false
  z3 : w.frozen? ⟨hb, 3, none⟩ = false
theorem HandAt.of {w : World} {hb b t : Nat} {e : Int} {v : Value} {l : List Value} {T : TypeId} (h : w.heap[hb]? = some (.cells (.pointer (some ⟨b, 0, none⟩) :: .int .i64 t :: .int .i64 e :: v :: l).toArray T (0, 0))) : HandAt w hb b t e v :=
  ⟨Lib.cell_of_heap h 0, Lib.cell_of_heap h 1, Lib.cell_of_heap h 2, Lib.cell_of_heap h 3, Lib.frozen_of_heap h 2, Lib.frozen_of_heap h 3⟩
theorem HandAt.go {w w' : World} {hb b t : Nat} {e : Int} {v : Value} (h : HandAt w hb b t e v) (hb' : w'.heap[hb]? = w.heap[hb]?) : HandAt w' hb b t e v :=
  ⟨(World.cell?_of_block hb').trans h.c0, (World.cell?_of_block hb').trans h.c1, (World.cell?_of_block hb').trans h.c2, (World.cell?_of_block hb').trans h.c3, (World.frozen?_of_block hb').trans h.z2, (World.frozen?_of_block hb').trans h.z3⟩
theorem HandAt.lt {w : World} {hb b t : Nat} {e : Int} {v : Value} (h : HandAt w hb b t e v) : hb < w.heap.size := World.block_lt_of_cell? _ _ h.c0
theorem HandAt.below {w w' : World} {hb b t : Nat} {e : Int} {v : Value} (h : HandAt w hb b t e v) (hb' : Below w.heap.size w w') : HandAt w' hb b t e v := h.go (hb'.block _ h.lt)
theorem cell_set_other {w : World} {b i j : Nat} {u : Value} (h : i ≠ j) : (w.setCell ⟨b, i, none⟩ u).cell? ⟨b, j, none⟩ = w.cell? ⟨b, j, none⟩ := by
  simp [go_sem]
theorem HandAt.setE {w : World} {hb b t : Nat} {e : Int} {v : Value} (h : HandAt w hb b t e v) (x : Int) : HandAt (w.setCell ⟨hb, 2, none⟩ (.int .i64 x)) hb b t x v := by
  have f : ∀ i, (w.setCell ⟨hb, 2, none⟩ (.int .i64 x)).frozen? ⟨hb, i, none⟩ = w.frozen? ⟨hb, i, none⟩ := fun i => by simp
  refine ⟨(cell_set_other (by omega)).trans h.c0, (cell_set_other (by omega)).trans h.c1, ?_, (cell_set_other (by omega)).trans h.c3, (f 2).trans h.z2, (f 3).trans h.z3⟩
  have hc := h.c2
  simp [go_sem, hc]
theorem set_grown (w : World) (g i : Nat) (v : Value) : w.grownBy (w.setCell ⟨g, i, none⟩ v) (some g) := ⟨rfl, rfl, rfl, by rw [size_set]; exact Nat.le_refl _, fun k _ hk => heap_set fun e => hk (by rw [e])⟩
theorem grown_refl (w : World) (r : Option Nat) : w.grownBy w r := ⟨rfl, rfl, rfl, Nat.le_refl _, fun _ _ _ => rfl⟩
theorem grown_tr {w w1 w2 : World} {r : Option Nat} (h : w.grownBy w1 r) (k : w1.grownBy w2 r) : w.grownBy w2 r :=
  ⟨k.os.trans h.os, k.tape.trans h.tape, k.output.trans h.output, Nat.le_trans h.size k.size, fun j hj hn => (k.block j (Nat.lt_of_lt_of_le hj h.size) hn).trans (h.block j hj hn)⟩
theorem grown_bl {w w1 : World} (h : Below w.heap.size w w1) (r : Option Nat) : w.grownBy w1 r := ⟨h.os, h.tape, h.output, h.size, fun k hk _ => h.block k hk⟩
theorem ArRaw.grown {w w' : World} {b n hb : Nat} {F : Nat → Prop} {A : Ar} {r : Raw} {D : DataW Unit} (h : ArRaw w b F n A r D) (hg : w.grownBy w' (some hb)) (hn : ¬ F hb) : ArRaw w' b F n A r D :=
  h.other hg.size fun k hk => hg.block k (h.flt k hk) fun e => hn (by cases e; exact hk)

/-- the error that is kept -/
def keepE (e err : Int) : Int := if e = 0 then err else e
theorem keep_any (hb b t : Nat) (e err : Int) (v : Value) (w : World) (h : HandAt w hb b t e v) :
    Calls Try.prog 85 #[.pointer (some ⟨hb, 0, none⟩), .int .i64 err] w fun x w' => x = .returned (.tuple #[]) ∧ HandAt w' hb b t (keepE e err) v ∧ w.grownBy w' (some hb) := by
  have c2 := h.c2
  have z2 := h.z2
  by_cases he : e = 0
  · subst he
    go_enter Try.func85, Try.ntmps85
    go_wp2_with fail
    go_end0
    exact ⟨rfl, h.setE err, set_grown _ _ _ _⟩
  · have he' : (e == 0) = false := by simpa using he
    go_enter Try.func85, Try.ntmps85
    go_wp2_with fail
    go_end0
    refine ⟨rfl, ?_, grown_refl _ _⟩
    unfold keepE
    rw [if_neg he]
    exact h

theorem answer_ok (hb b t : Nat) (id : Int) (v : Value) (w : World) (h : HandAt w hb b t 0 v) :
    Calls Try.prog 87 #[.pointer (some ⟨hb, 0, none⟩), .int .i64 id] w fun x w' => x = .returned (.tuple #[.int .i64 id, .int .i64 0]) ∧ w' = w := by
  have c2 := h.c2
  go_enter Try.func87, Try.ntmps87
  go_wp2_with fail
  go_ret2
  exact ⟨rfl, rfl⟩
theorem answer_no (hb b t : Nat) (e id : Int) (v : Value) (w : World) (h : HandAt w hb b t e v) (he : e ≠ 0) :
    Calls Try.prog 87 #[.pointer (some ⟨hb, 0, none⟩), .int .i64 id] w fun x w' => x = .returned (.tuple #[.int .i64 0, .int .i64 e]) ∧ ∃ q, w' = w.drewN q := by
  have c2 := h.c2
  have he' : (e != 0) = true := by simpa using he
  go_enter Try.func87, Try.ntmps87
  go_wp2_with fail
  go_quiet (fail)
  go_wp2_with fail
  go_ret2
  exact ⟨rfl, _, rfl⟩

theorem below_drew {w w1 : World} (h : Below w.drew.heap.size w.drew w1) : Below w.heap.size w w1 := ⟨h.os, h.tape, h.output, h.size, h.block⟩
/-- the error behind a look at a root's level -/
def levelE (e : Int) (o : Option Int) (least most : Int) : Int := keepE (keepE e (lack o)) (if o.getD 0 < least ∨ most < o.getD 0 then 8 else 0)
theorem keepE_zero (e : Int) : keepE e 0 = e := by unfold keepE; split <;> simp_all

set_option maxRecDepth 20000 in
set_option maxHeartbeats 4000000 in
theorem handLevel_any (hb b n t : Nat) (e root least most : Int) (v : Value) (F : Nat → Prop) (A : Ar) (w : World) (h : HandAt w hb b t e v) (hA : ArAt w b F n A) (_hF : ¬ F hb) (ht : t < 64) (hm : ∀ x ∈ A.ths, x.mask < 18446744073709551616) (hr : Fits root) :
    Calls Try.prog 83 #[.pointer (some ⟨hb, 0, none⟩), .int .i64 root, .int .i64 least, .int .i64 most] w fun x w' => x = .returned (.int .i64 ((levelF A.ths t root).getD 0)) ∧ HandAt w' hb b t (levelE e (levelF A.ths t root) least most) v ∧ w.grownBy w' (some hb) := by
  obtain ⟨r, D, hA⟩ := hA
  have c0 := h.c0
  have c1 := h.c1
  have hlv := fun W (hW : ArRaw W b F n A r D) => Level_any b 0 t root r A.ths W hW.raw hW.ths ht hm hr
  generalize levelF A.ths t root = o at *
  go_enter Try.func83, Try.ntmps83
  go_wp2_with fail
  go_cut [9, 10] from 9 to 23 (fun s9 s10 wc => s9 = .int .i64 (o.getD 0) ∧ s10 = .int .i64 (lack o) ∧ Below w.heap.size w wc)
  case first =>
    go_region_held3 (fun w' => w'.cell? ⟨hb, 0, none⟩ = some (.pointer (some ⟨b, 0, none⟩)) ∧ w'.cell? ⟨hb, 1, none⟩ = some (.int .i64 t)) (first | exact ⟨c0, c1⟩ | go_keep | exact ⟨(h.below hb1).c0, (h.below hb1).c1⟩) ((go_at_call 38; refine (hlv _ (hA.drew)).mono ?_; rintro e w1 ⟨rfl, hb0⟩; have hb1 := below_drew hb0))
    all_goals
      go_wp2_with fail
      go_meet
      case rel => exact ⟨rfl, rfl, hb1⟩
  case rest =>
  obtain ⟨rfl, rfl, hbc⟩ := hcut
  have h1 := h.below hbc
  clear c0 c1 hlv
  go_wp2_with fail
  refine (keep_any hb b t e (lack o) v _ h1).mono ?_
  rintro x w2 ⟨rfl, h2, g2⟩
  have g12 := grown_tr (grown_bl hbc (some hb)) g2
  by_cases hlo : o.getD 0 < least
  · go_wp2_with fail
    refine (keep_any hb b t _ 8 v _ h2).mono ?_
    rintro x w3 ⟨rfl, h3, g3⟩
    go_wp2_with fail
    go_ret
    refine ⟨rfl, ?_, grown_tr g12 g3⟩
    unfold levelE
    rw [if_pos (Or.inl hlo)]
    exact h3
  · by_cases hhi : most < o.getD 0
    · go_wp2_with fail
      refine (keep_any hb b t _ 8 v _ h2).mono ?_
      rintro x w3 ⟨rfl, h3, g3⟩
      go_wp2_with fail
      go_ret
      refine ⟨rfl, ?_, grown_tr g12 g3⟩
      unfold levelE
      rw [if_pos (Or.inr hhi)]
      exact h3
    · go_wp2_with fail
      go_ret
      refine ⟨rfl, ?_, g12⟩
      unfold levelE
      rw [if_neg (by omega), keepE_zero]
      exact h2
end Go.Proofs.Yticdclonaepemaa.A
