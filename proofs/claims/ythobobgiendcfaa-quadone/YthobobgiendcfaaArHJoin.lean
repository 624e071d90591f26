/- A hand's join, and its empty squares. -/
import Derived.Test.YthobobgiendcfaaArJoin
namespace Go.Proofs.Ythobobgiendcfaa.A
open Go.RowKit Go.Maps

def zcell (i : Nat) : Value := if i = 0 then .int .i64 0 else if i = 1 then .slice none 0 0 else if i = 2 then .map none else if i = 3 then .slice none 0 0 else if (i - 4) % 3 = 2 then .slice none 0 0 else .int .i64 0
set_option maxRecDepth 100000 in
theorem zero_list : Try.zeroCells108.toList = (List.range 196).map zcell := by kernel_rfl
theorem zero_at (i : Nat) (hi : i < 196) : Try.zeroCells108[i]? = some (zcell i) := by
  rw [← Array.getElem?_toList, zero_list]
  simp [hi]
theorem zero_size : Try.zeroCells108.size = 196 := by
  rw [← Array.length_toList, zero_list]
  simp
/-- a new arena's block, the first k tenants' limits set -/
def rawNew (room : Int) (mp k : Nat) : Raw := ⟨room, .slice none 0 0, mp, .slice none 0 0, fun t => if t < k then ⟨room, 0, .slice none 0 0⟩ else ⟨0, 0, .slice none 0 0⟩⟩
theorem rawNew_turn (room : Int) (mp k : Nat) : (rawNew room mp k).turn k { (rawNew room mp k).tn k with lim := room } = rawNew room mp (k + 1) := by
  unfold Raw.turn rawNew
  simp only [Raw.mk.injEq, true_and]
  funext t
  by_cases e : t = k
  · subst e; simp
  · by_cases h : t < k
    · simp [e, h, Nat.lt_succ_of_lt h]
    · have : ¬ t < k + 1 := by omega
      simp [e, h, this]
theorem rawNew_at (room : Int) (mp : Nat) (w : World) (b : Nat) (h : w.heap[b]? = some (.cells ((Try.zeroCells108.setIfInBounds 0 (.int .i64 room)).setIfInBounds 2 (.map (some mp))) 108 (0, 0))) : RawAt w b (rawNew room mp 0) := by
  refine ⟨_, h, by simp, fun i hi => ?_⟩
  rw [Array.getElem?_setIfInBounds, Array.getElem?_setIfInBounds]
  simp only [Array.size_setIfInBounds, zero_size]
  by_cases e2 : 2 = i
  · subst e2; simp [Raw.cell, rawNew]
  · rw [if_neg e2]
    by_cases e0 : 0 = i
    · subst e0; simp [Raw.cell, rawNew]
    · rw [if_neg e0, zero_at i hi]
      unfold Raw.cell zcell rawNew
      by_cases e1 : i = 1
      · subst e1; rfl
      · by_cases e3 : i = 3
        · subst e3; rfl
        · simp only [if_neg (fun e => e0 (Eq.symm e) : ¬ i = 0), if_neg e1, if_neg (fun e => e2 (Eq.symm e) : ¬ i = 2), if_neg e3, Nat.not_lt_zero, if_false]
          have : (i - 4) % 3 < 3 := Nat.mod_lt _ (by omega)
          by_cases c2 : (i - 4) % 3 = 2
          · rw [if_pos c2, if_neg (by omega), if_neg (by omega)]
          · rw [if_neg c2]
            by_cases c0 : (i - 4) % 3 = 0
            · rw [if_pos c0]
            · rw [if_neg c0, if_pos (by omega)]
/-- a new arena -/
def arNew (room : Int) : Ar := ⟨room, [], [], fun _ => room, fun _ => 0, fun _ => []⟩

theorem arNew_at (room : Int) (w w' : World) (_hb : Below w.heap.size w w') (hr : RawAt w' (w.heap.size + 1) (rawNew room w.heap.size 64)) (hm : w'.heap[w.heap.size]? = some (.map #[] 0)) : ArAt w' (w.heap.size + 1) (More (fun _ => False) w w') 0 (arNew room) := by
  have hlt := hr.lt
  refine ⟨_, .map [], hr, rfl, World.ownsRow_nil _ _ _ _, ?_, NumIs.empty, IntRow.nil _, fun t ht => ?_, fun t ht => ?_, fun t ht => ?_, fun t ht k hk => ?_, fun t u ht hu htu k hk => ?_, Or.inr ⟨by omega, by omega⟩, Or.inr ⟨Nat.le_refl _, by show w.heap.size < _; omega⟩, fun k hk => ?_, fun k hk => ?_, fun t ht k hk => ?_, fun k hk => ?_⟩
  · have h0 := World.ownsMap_made (H := Unit) w Try.prog 113 (plainElem Try.prog 3)
    obtain ⟨es, c, e1, e2⟩ := h0
    rw [heap_alloc_new] at e1
    simp at e1
    obtain ⟨rfl, rfl⟩ := e1
    exact ⟨_, _, hm, e2⟩
  · show (if t < 64 then _ else _ : Tn).lim = room
    rw [if_pos ht]
  · show (if t < 64 then _ else _ : Tn).cnt = 0
    rw [if_pos ht]
  · show IntRow w' (if t < 64 then _ else _ : Tn).fr []
    rw [if_pos ht]
    exact IntRow.nil _
  · simp [rawNew, ht, Value.ownBlock] at hk
  · simp [rawNew, ht, Value.ownBlock] at hk
  · simp [rawNew, Value.ownBlock] at hk
  · simp [rawNew, Value.ownBlock] at hk
  · simp [rawNew, ht, Value.ownBlock] at hk
  · rcases hk with h | h
    · exact h.elim
    · exact h.2

set_option maxRecDepth 20000 in
set_option maxHeartbeats 4000000 in
theorem new_any (room : Int) (w : World) (h0 : 0 ≤ room) (h1 : room ≤ 200000) :
    Calls Try.prog 18 #[.int .i64 room] w fun e w' => e = .returned (.tuple #[.pointer (some ⟨w.heap.size + 1, 0, none⟩), .int .i64 0]) ∧ ArAt w' (w.heap.size + 1) (More (fun _ => False) w w') 0 (arNew room) ∧ Below w.heap.size w w' := by
  have e1 : ¬ room < 0 := by omega
  have e2 : ¬ 200000 < room := by omega
  have hmm := @run_makeMap Try.prog
  go_enter Try.func18, Try.ntmps18
  go_wp2_with fail
  go_loopg [16] 64 (fun g s16 wr => ∃ k : Nat, k + g = 64 ∧ s16 = .int .i64 k ∧ RawAt wr (w.heap.size + 1) (rawNew room w.heap.size k) ∧ wr.heap[w.heap.size]? = some (.map #[] 0) ∧ Below w.heap.size w wr)
  case atStart =>
    refine ⟨0, by omega, rfl, rawNew_at room w.heap.size _ _ (heap_alloc2_new w _ _), heap_alloc2_old w _ _, ((Below.refl _ _).alloc (Nat.le_refl _) _).alloc (by simp) _⟩
  case round =>
    obtain ⟨k, hkg, rfl, hr, hmp, hbw⟩ := hrel
    have HK : Hid (k + gk = 64) := hkg
    have hk64 : k ≤ 64 := by omega
    clear hkg
    by_cases hlt : k < 64
    · have hi0 : (0 : Int) ≤ k := by omega
      have hi1 : (k : Int) < 64 := by omega
      have cl := hr.at (4 + k * 3) (by omega)
      rw [Raw.cl] at cl
      have fz := hr.frozen (4 + k * 3)
      have hwk : IntKind.i64.wrap ((k : Int) + 1) = (k : Int) + 1 := by rw [IntKind.wrap_i64]; omega
      go_wp2_with fail
      go_roundg (gk - 1)
      case measure => have := HK.out; omega
      case rel =>
        have hr2 := hr.setLim k room
        rw [rawNew_turn] at hr2
        exact ⟨k + 1, by have := HK.out; omega, by go_num, hr2, (heap_set (by omega)).trans hmp, hbw.setCell (p := ⟨w.heap.size + 1, 4 + k * 3, none⟩) (Nat.le_succ _) _⟩
    · have hi1 : ¬ (k : Int) < 64 := by omega
      have hk : k = 64 := by omega
      subst hk
      go_wp2_with fail
      go_ret2
      exact ⟨rfl, arNew_at room w _ hbw hr hmp, hbw⟩
end Go.Proofs.Ythobobgiendcfaa.A

namespace Go.Proofs.Ythobobgiendcfaa.A
open Go.RowKit Go.Maps

/-- a hand in the first cells of a block -/
structure HandAt (w : World) (hb b t : Nat) (e : Int) (v : Value) : Prop where
  c0 : w.cell? ⟨hb, 0, none⟩ = some (.pointer (some ⟨b, 0, none⟩))
  c1 : w.cell? ⟨hb, 1, none⟩ = some (.int .i64 t)
  c2 : w.cell? ⟨hb, 2, none⟩ = some (.int .i64 e)
  c3 : w.cell? ⟨hb, 3, none⟩ = some v
  z2 : w.frozen? ⟨hb, 2, none⟩ = false
  z3 : w.frozen? ⟨hb, 3, none⟩ = false
theorem HandAt.of {w : World} {hb b t : Nat} {e : Int} {v : Value} {l : List Value} {T : TypeId} (h : w.heap[hb]? = some (.cells (.pointer (some ⟨b, 0, none⟩) :: .int .i64 t :: .int .i64 e :: v :: l).toArray T (0, 0))) : HandAt w hb b t e v :=
  ⟨Lib.cell_of_heap h 0, Lib.cell_of_heap h 1, Lib.cell_of_heap h 2, Lib.cell_of_heap h 3, Lib.frozen_of_heap h 2, Lib.frozen_of_heap h 3⟩
theorem HandAt.go {w w' : World} {hb b t : Nat} {e : Int} {v : Value} (h : HandAt w hb b t e v) (hb' : w'.heap[hb]? = w.heap[hb]?) : HandAt w' hb b t e v :=
  ⟨(World.cell?_of_block hb').trans h.c0, (World.cell?_of_block hb').trans h.c1, (World.cell?_of_block hb').trans h.c2, (World.cell?_of_block hb').trans h.c3, (World.frozen?_of_block hb').trans h.z2, (World.frozen?_of_block hb').trans h.z3⟩
theorem HandAt.lt {w : World} {hb b t : Nat} {e : Int} {v : Value} (h : HandAt w hb b t e v) : hb < w.heap.size := World.block_lt_of_cell? _ _ h.c0
theorem HandAt.below {w w' : World} {hb b t : Nat} {e : Int} {v : Value} (h : HandAt w hb b t e v) (hb' : Below w.heap.size w w') : HandAt w' hb b t e v := h.go (hb'.block _ h.lt)
theorem cell_set_other {w : World} {b i j : Nat} {u : Value} (h : i ≠ j) : (w.setCell ⟨b, i, none⟩ u).cell? ⟨b, j, none⟩ = w.cell? ⟨b, j, none⟩ := by
  simp [go_sem]
theorem HandAt.setE {w : World} {hb b t : Nat} {e : Int} {v : Value} (h : HandAt w hb b t e v) (x : Int) : HandAt (w.setCell ⟨hb, 2, none⟩ (.int .i64 x)) hb b t x v := by
  have f : ∀ i, (w.setCell ⟨hb, 2, none⟩ (.int .i64 x)).frozen? ⟨hb, i, none⟩ = w.frozen? ⟨hb, i, none⟩ := fun i => by simp
  refine ⟨(cell_set_other (by omega)).trans h.c0, (cell_set_other (by omega)).trans h.c1, ?_, (cell_set_other (by omega)).trans h.c3, (f 2).trans h.z2, (f 3).trans h.z3⟩
  have hc := h.c2
  simp [go_sem, hc]
theorem set_grown (w : World) (g i : Nat) (v : Value) : w.grownBy (w.setCell ⟨g, i, none⟩ v) (some g) := ⟨rfl, rfl, rfl, by rw [size_set]; exact Nat.le_refl _, fun k _ hk => heap_set fun e => hk (by rw [e])⟩
theorem grown_refl (w : World) (r : Option Nat) : w.grownBy w r := ⟨rfl, rfl, rfl, Nat.le_refl _, fun _ _ _ => rfl⟩
theorem grown_tr {w w1 w2 : World} {r : Option Nat} (h : w.grownBy w1 r) (k : w1.grownBy w2 r) : w.grownBy w2 r :=
  ⟨k.os.trans h.os, k.tape.trans h.tape, k.output.trans h.output, Nat.le_trans h.size k.size, fun j hj hn => (k.block j (Nat.lt_of_lt_of_le hj h.size) hn).trans (h.block j hj hn)⟩
theorem grown_bl {w w1 : World} (h : Below w.heap.size w w1) (r : Option Nat) : w.grownBy w1 r := ⟨h.os, h.tape, h.output, h.size, fun k hk _ => h.block k hk⟩
theorem ArRaw.grown {w w' : World} {b n hb : Nat} {F : Nat → Prop} {A : Ar} {r : Raw} {D : DataW Unit} (h : ArRaw w b F n A r D) (hg : w.grownBy w' (some hb)) (hn : ¬ F hb) : ArRaw w' b F n A r D :=
  h.other hg.size fun k hk => hg.block k (h.flt k hk) fun e => hn (by cases e; exact hk)

/-- the error that is kept -/
def keepE (e err : Int) : Int := if e = 0 then err else e
theorem keep_any (hb b t : Nat) (e err : Int) (v : Value) (w : World) (h : HandAt w hb b t e v) :
    Calls Try.prog 88 #[.pointer (some ⟨hb, 0, none⟩), .int .i64 err] w fun x w' => x = .returned (.tuple #[]) ∧ HandAt w' hb b t (keepE e err) v ∧ w.grownBy w' (some hb) := by
  have c2 := h.c2
  have z2 := h.z2
  by_cases he : e = 0
  · subst he
    go_enter Try.func88, Try.ntmps88
    go_wp2_with fail
    go_end0
    exact ⟨rfl, h.setE err, set_grown _ _ _ _⟩
  · have he' : (e == 0) = false := by simpa using he
    go_enter Try.func88, Try.ntmps88
    go_wp2_with fail
    go_end0
    refine ⟨rfl, ?_, grown_refl _ _⟩
    unfold keepE
    rw [if_neg he]
    exact h

theorem answer_ok (hb b t : Nat) (id : Int) (v : Value) (w : World) (h : HandAt w hb b t 0 v) :
    Calls Try.prog 90 #[.pointer (some ⟨hb, 0, none⟩), .int .i64 id] w fun x w' => x = .returned (.tuple #[.int .i64 id, .int .i64 0]) ∧ w' = w := by
  have c2 := h.c2
  go_enter Try.func90, Try.ntmps90
  go_wp2_with fail
  go_ret2
  exact ⟨rfl, rfl⟩
theorem answer_no (hb b t : Nat) (e id : Int) (v : Value) (w : World) (h : HandAt w hb b t e v) (he : e ≠ 0) :
    Calls Try.prog 90 #[.pointer (some ⟨hb, 0, none⟩), .int .i64 id] w fun x w' => x = .returned (.tuple #[.int .i64 0, .int .i64 e]) ∧ ∃ q, w' = w.drewN q := by
  have c2 := h.c2
  have he' : (e != 0) = true := by simpa using he
  go_enter Try.func90, Try.ntmps90
  go_wp2_with fail
  go_quiet (fail)
  go_wp2_with fail
  go_ret2
  exact ⟨rfl, _, rfl⟩

theorem below_drew {w w1 : World} (h : Below w.drew.heap.size w.drew w1) : Below w.heap.size w w1 := ⟨h.os, h.tape, h.output, h.size, h.block⟩
/-- the error behind a look at a root's level -/
def levelE (e : Int) (o : Option Int) (least most : Int) : Int := keepE (keepE e (lack o)) (if o.getD 0 < least ∨ most < o.getD 0 then 8 else 0)
theorem keepE_zero (e : Int) : keepE e 0 = e := by unfold keepE; split <;> simp_all

set_option maxRecDepth 20000 in
set_option maxHeartbeats 4000000 in
theorem handLevel_any (hb b n t : Nat) (e root least most : Int) (v : Value) (F : Nat → Prop) (A : Ar) (w : World) (h : HandAt w hb b t e v) (hA : ArAt w b F n A) (_hF : ¬ F hb) (ht : t < 64) (hm : ∀ x ∈ A.ths, x.mask < 18446744073709551616) (hr : Fits root) :
    Calls Try.prog 86 #[.pointer (some ⟨hb, 0, none⟩), .int .i64 root, .int .i64 least, .int .i64 most] w fun x w' => x = .returned (.int .i64 ((levelF A.ths t root).getD 0)) ∧ HandAt w' hb b t (levelE e (levelF A.ths t root) least most) v ∧ w.grownBy w' (some hb) := by
  obtain ⟨r, D, hA⟩ := hA
  have c0 := h.c0
  have c1 := h.c1
  have hlv := fun W (hW : ArRaw W b F n A r D) => Level_any b 0 t root r A.ths W hW.raw hW.ths ht hm hr
  generalize levelF A.ths t root = o at *
  go_enter Try.func86, Try.ntmps86
  go_wp2_with fail
  go_cut [9, 10] from 9 to 23 (fun s9 s10 wc => s9 = .int .i64 (o.getD 0) ∧ s10 = .int .i64 (lack o) ∧ Below w.heap.size w wc)
  case first =>
    go_region_held3 (fun w' => w'.cell? ⟨hb, 0, none⟩ = some (.pointer (some ⟨b, 0, none⟩)) ∧ w'.cell? ⟨hb, 1, none⟩ = some (.int .i64 t)) (first | exact ⟨c0, c1⟩ | go_keep | exact ⟨(h.below hb1).c0, (h.below hb1).c1⟩) ((go_at_call 27; refine (hlv _ (hA.drew)).mono ?_; rintro e w1 ⟨rfl, hb0⟩; have hb1 := below_drew hb0))
    all_goals
      go_wp2_with fail
      go_meet
      case rel => exact ⟨rfl, rfl, hb1⟩
  case rest =>
  obtain ⟨rfl, rfl, hbc⟩ := hcut
  have h1 := h.below hbc
  clear c0 c1 hlv
  go_wp2_with fail
  refine (keep_any hb b t e (lack o) v _ h1).mono ?_
  rintro x w2 ⟨rfl, h2, g2⟩
  have g12 := grown_tr (grown_bl hbc (some hb)) g2
  by_cases hlo : o.getD 0 < least
  · go_wp2_with fail
    refine (keep_any hb b t _ 8 v _ h2).mono ?_
    rintro x w3 ⟨rfl, h3, g3⟩
    go_wp2_with fail
    go_ret
    refine ⟨rfl, ?_, grown_tr g12 g3⟩
    unfold levelE
    rw [if_pos (Or.inl hlo)]
    exact h3
  · by_cases hhi : most < o.getD 0
    · go_wp2_with fail
      refine (keep_any hb b t _ 8 v _ h2).mono ?_
      rintro x w3 ⟨rfl, h3, g3⟩
      go_wp2_with fail
      go_ret
      refine ⟨rfl, ?_, grown_tr g12 g3⟩
      unfold levelE
      rw [if_pos (Or.inr hhi)]
      exact h3
    · go_wp2_with fail
      go_ret
      refine ⟨rfl, ?_, g12⟩
      unfold levelE
      rw [if_neg (by omega), keepE_zero]
      exact h2
end Go.Proofs.Ythobobgiendcfaa.A

namespace Go.Proofs.Ythobobgiendcfaa.A
open Go.RowKit Go.Maps

/-- Join, in plain words -/
def Ar.join (A : Ar) (t : Nat) (q0 q1 q2 q3 : Int) : Ar × Int × Int := if (joinE A t q0 q1 q2 q3).1 ≠ 0 then (A, 0, (joinE A t q0 q1 q2 q3).1) else A.become t (sqTh q0 q1 q2 q3 (joinE A t q0 q1 q2 q3).2)

theorem join_one (b n t : Nat) (q0 q1 q2 q3 : Int) (F : Nat → Prop) (A : Ar) (w : World) (h : ArAt w b F n A) (hY : Young A) (ht : t < 64) (hq0 : Fits q0) (hq1 : Fits q1) (hq2 : Fits q2) (hq3 : Fits q3) (hn : n < 1000000000) (hlo : ∀ l, levelF A.ths t q0 = some l → 0 ≤ l) :
    Calls Try.prog 25 #[.pointer (some ⟨b, 0, none⟩), .int .i64 t, quad4 q0 q1 q2 q3] w fun e w' => e = .returned (.tuple #[.int .i64 (A.join t q0 q1 q2 q3).2.1, .int .i64 (A.join t q0 q1 q2 q3).2.2]) ∧ ArAt w' b (More F w w') (n + 1) (A.join t q0 q1 q2 q3).1 ∧ Apart F w w' := by
  refine (join_any b n t q0 q1 q2 q3 F A w h hY ht hq0 hq1 hq2 hq3 hn hlo).mono ?_
  rintro e w' ⟨h1, h2⟩
  unfold Ar.join
  by_cases hc : (joinE A t q0 q1 q2 q3).1 = 0
  · rw [if_neg (by simpa using hc)]
    exact h2 hc
  · rw [if_pos hc]
    obtain ⟨he, hb⟩ := h1 hc
    exact ⟨he, ((h.below hb).more h.flt hb.size).up (by omega), Apart.of hb⟩

theorem ArAt.grown {w w' : World} {b n hb : Nat} {F : Nat → Prop} {A : Ar} (h : ArAt w b F n A) (hg : w.grownBy w' (some hb)) (hn : ¬ F hb) : ArAt w' b F n A := by
  obtain ⟨r, D, h⟩ := h
  exact ⟨r, D, h.grown hg hn⟩
theorem ArAt.wider {w : World} {b n : Nat} {F F' : Nat → Prop} {A : Ar} (h : ArAt w b F n A) (hF : ∀ k, F k → F' k) (hl : ∀ k, F' k → k < w.heap.size) : ArAt w b F' n A := by
  obtain ⟨r, D, h⟩ := h
  exact ⟨r, D, h.wider hF hl⟩

theorem held_apart {W w1 : World} {F : Nat → Prop} {hb q : Nat} {u0 u1 v0 v1 v2 v3 : Value} (P : Apart F W.drew w1) (hF : ¬ F hb) (hq : ¬ F q) (hl : hb < W.heap.size) (hql : q < W.heap.size)
    (c0 : W.cell? ⟨hb, 0, none⟩ = some u0) (c1 : W.cell? ⟨hb, 1, none⟩ = some u1) (k0 : W.cell? ⟨q, 0, none⟩ = some v0) (k1 : W.cell? ⟨q, 1, none⟩ = some v1) (k2 : W.cell? ⟨q, 2, none⟩ = some v2) (k3 : W.cell? ⟨q, 3, none⟩ = some v3) :
    w1.cell? ⟨hb, 0, none⟩ = some u0 ∧ w1.cell? ⟨hb, 1, none⟩ = some u1 ∧ w1.cell? ⟨q, 0, none⟩ = some v0 ∧ w1.cell? ⟨q, 1, none⟩ = some v1 ∧ w1.cell? ⟨q, 2, none⟩ = some v2 ∧ w1.cell? ⟨q, 3, none⟩ = some v3 := by
  have e1 : w1.heap[hb]? = W.heap[hb]? := P.block hb hl hF
  have e2 : w1.heap[q]? = W.heap[q]? := P.block q hql hq
  exact ⟨(World.cell?_of_block (a := ⟨hb, 0, none⟩) e1).trans c0, (World.cell?_of_block (a := ⟨hb, 1, none⟩) e1).trans c1, (World.cell?_of_block (a := ⟨q, 0, none⟩) e2).trans k0, (World.cell?_of_block (a := ⟨q, 1, none⟩) e2).trans k1, (World.cell?_of_block (a := ⟨q, 2, none⟩) e2).trans k2, (World.cell?_of_block (a := ⟨q, 3, none⟩) e2).trans k3⟩

/-- F and a hand's block -/
def With (F : Nat → Prop) (hb : Nat) : Nat → Prop := fun k => F k ∨ k = hb

set_option maxRecDepth 20000 in
set_option maxHeartbeats 4000000 in
theorem hjoin_any (hb b n t : Nat) (q0 q1 q2 q3 : Int) (v : Value) (F : Nat → Prop) (A : Ar) (w : World) (h : HandAt w hb b t 0 v) (hA : ArAt w b F n A) (hF : ¬ F hb) (hY : Young A) (ht : t < 64) (hq0 : Fits q0) (hq1 : Fits q1) (hq2 : Fits q2) (hq3 : Fits q3) (hn : n < 1000000000) (hlo : ∀ l, levelF A.ths t q0 = some l → 0 ≤ l) :
    Calls Try.prog 96 #[.pointer (some ⟨hb, 0, none⟩), quad4 q0 q1 q2 q3] w fun x w' => x = .returned (.int .i64 (A.join t q0 q1 q2 q3).2.1) ∧ HandAt w' hb b t (A.join t q0 q1 q2 q3).2.2 v ∧ ArAt w' b (More F w w') (n + 1) (A.join t q0 q1 q2 q3).1 ∧ Apart (With F hb) w w' := by
  have hj := fun W (hW : ArAt W b F n A) => join_one b n t q0 q1 q2 q3 F A W hW hY ht hq0 hq1 hq2 hq3 hn hlo
  have hlt := h.lt
  have hflt := hA.flt
  have hb0 : Below w.heap.size w (w.alloc (.cells #[.int .i64 q0, .int .i64 q1, .int .i64 q2, .int .i64 q3] 35)) := (Below.refl _ _).alloc (Nat.le_refl _) _
  have hQ : (w.alloc (.cells #[.int .i64 q0, .int .i64 q1, .int .i64 q2, .int .i64 q3] 35)).heap[w.heap.size]? = some (.cells #[.int .i64 q0, .int .i64 q1, .int .i64 q2, .int .i64 q3] 35 (0, 0)) := heap_alloc_new w _
  unfold quad4 at hj ⊢
  generalize (A.join t q0 q1 q2 q3) = J at *
  go_enter Try.func96, Try.ntmps96
  have c2 := h.c2
  go_wp2_with fail
  have h1 := h.below hb0
  have hA1 := hA.below hb0
  have hsz : (w.alloc (.cells #[.int .i64 q0, .int .i64 q1, .int .i64 q2, .int .i64 q3] 35)).heap.size = w.heap.size + 1 := by simp
  generalize hW0 : w.alloc (.cells #[.int .i64 q0, .int .i64 q1, .int .i64 q2, .int .i64 q3] 35) = W0 at *
  have HSZ : Hid (W0.heap.size = w.heap.size + 1) := hsz
  clear hW0 hsz c2
  have c0 := h1.c0
  have c1 := h1.c1
  have k0 : W0.cell? ⟨w.heap.size, 0, none⟩ = some (.int .i64 q0) := Lib.cell_of_heap hQ 0
  have k1 : W0.cell? ⟨w.heap.size, 1, none⟩ = some (.int .i64 q1) := Lib.cell_of_heap hQ 1
  have k2 : W0.cell? ⟨w.heap.size, 2, none⟩ = some (.int .i64 q2) := Lib.cell_of_heap hQ 2
  have k3 : W0.cell? ⟨w.heap.size, 3, none⟩ = some (.int .i64 q3) := Lib.cell_of_heap hQ 3
  have hFq : ¬ F w.heap.size := fun e => by have := hflt _ e; omega
  have hA1d : ArAt W0.drew b F n A := hA1.below ⟨rfl, rfl, rfl, Nat.le_refl _, fun _ _ => rfl⟩
  go_cut [5, 6] from 5 to 24 (fun s5 s6 wc => s5 = .int .i64 J.2.1 ∧ s6 = .int .i64 J.2.2 ∧ ArAt wc b (More F W0 wc) (n + 1) J.1 ∧ Apart F W0 wc)
  case first =>
    go_region_held3 (fun w' => w'.cell? ⟨hb, 0, none⟩ = some (.pointer (some ⟨b, 0, none⟩)) ∧ w'.cell? ⟨hb, 1, none⟩ = some (.int .i64 t) ∧ w'.cell? ⟨w.heap.size, 0, none⟩ = some (.int .i64 q0) ∧ w'.cell? ⟨w.heap.size, 1, none⟩ = some (.int .i64 q1) ∧ w'.cell? ⟨w.heap.size, 2, none⟩ = some (.int .i64 q2) ∧ w'.cell? ⟨w.heap.size, 3, none⟩ = some (.int .i64 q3)) (first | exact ⟨c0, c1, k0, k1, k2, k3⟩ | exact held_apart P1 hF hFq (by have := HSZ.out; omega) (by have := HSZ.out; omega) c0 c1 k0 k1 k2 k3) ((go_at_call 25; refine (hj _ hA1d).mono ?_; rintro e w1 ⟨rfl, hA2, P1⟩))
    all_goals
      go_wp2_with fail
      go_meet
      case rel => exact ⟨rfl, rfl, hA2, ⟨P1.os, P1.tape, P1.output, P1.size, P1.block⟩⟩
  case rest =>
  obtain ⟨rfl, rfl, hA2, P1⟩ := hcut
  have hs0 := HSZ.out
  have hs1 := P1.size
  have h2 : HandAt wc hb b t 0 v := h1.go (P1.block hb (by omega) hF)
  clear c0 c1 k0 k1 k2 k3 hj hA1d hs0
  go_wp2_with fail
  refine (keep_any hb b t 0 _ v _ h2).mono ?_
  rintro x w3 ⟨rfl, h3, g3⟩
  go_wp2_with fail
  go_ret
  have hs0 := HSZ.out
  have hs3 := g3.size
  have a0 : Apart (With F hb) w W0 := Apart.of hb0
  have a1 : Apart (With F hb) W0 wc := ⟨P1.os, P1.tape, P1.output, P1.size, fun k hk hn => P1.block k hk fun e => hn (Or.inl e)⟩
  have a2 : Apart (With F hb) wc w3 := Apart.grown g3 fun k hk => Or.inr (by cases hk; rfl)
  refine ⟨rfl, h3, ?_, (a0.trans a1 fun k hk => Or.inl hk).trans a2 fun k hk => Or.inl hk⟩
  refine (hA2.grown g3 ?_).wider ?_ ?_
  · rintro (e | e)
    · exact hF e
    · omega
  · rintro k (e | e)
    · exact Or.inl e
    · exact Or.inr ⟨by omega, by omega⟩
  · rintro k (e | e)
    · have := hflt k e; omega
    · exact e.2

theorem four_any (id : Int) (w : World) : Calls Try.prog 94 #[.int .i64 id] w fun x w' => x = .returned (quad4 id id id id) ∧ Below w.heap.size w w' := by
  go_enter Try.func94, Try.ntmps94
  go_wp2_with fail
  refine bodyPost_ret (v := quad4 id id id id) ?_ rfl ⟨rfl, ?_⟩
  · simp [results, Try.results94, go_sem, quad4]
  · exact (Below.refl _ _).alloc (Nat.le_refl _) _
end Go.Proofs.Ythobobgiendcfaa.A
