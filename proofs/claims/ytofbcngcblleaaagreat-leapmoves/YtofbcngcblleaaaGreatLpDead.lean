/- A leaper that has failed does nothing more; note; window. -/
import Derived.Test.YtofbcngcblleaaaGreatLpKids
namespace Go.Proofs.YtofbcngcblleaaaGreat.A
open Go.RowKit Go.Proofs.YtofbcngcblleaaaGreat.L

variable {w w1 : World} {o : Nat → Nat} {lb b t : Nat} {rb rl e : Int} {A : Ar}
/-- a leaper still, and nothing else written than it and its arena -/
def Kp (o : Nat → Nat) (w : World) (lb b t : Nat) (rb rl e : Int) (A : Ar) (w' : World) : Prop := ∃ o', LS w' o' lb b t rb rl e A ∧ Ch AL o w o' w'
theorem Kp.of (h : LS w o lb b t rb rl e A) (hb : Below w.heap.size w w1) : Kp o w lb b t rb rl e A w1 := ⟨_, h.below hb, Ch.ofBelow hb 0⟩
theorem lpLevel_dead (h : LS w o lb b t rb rl e A) (he : e ≠ 0) (id : Int) :
    Calls Tryz.prog 82 #[.pointer (some ⟨lb, 0, none⟩), .int .i64 id] w fun r w' => r = .returned (.int .i64 2) ∧ Kp o w lb b t rb rl e A w' := by
  obtain ⟨_, _, _, _, c4, _⟩ := h.cells
  go_enter Tryz.func82, Tryz.ntmps82
  go_wp2_with fail
  go_ret
  all_goals exact ⟨rfl, Kp.of h (Below.refl _ _)⟩
theorem lpNote_dead (h : LS w o lb b t rb rl e A) (he : e ≠ 0) (id j v : Int) :
    Calls Tryz.prog 102 #[.pointer (some ⟨lb, 0, none⟩), .int .i64 id, .int .i64 j, .int .i64 v] w fun r w' => r = .returned (.tuple #[]) ∧ Kp o w lb b t rb rl e A w' := by
  obtain ⟨_, _, _, _, c4, _⟩ := h.cells
  go_enter Tryz.func102, Tryz.ntmps102
  go_wp2_with fail
  go_end0
  all_goals exact ⟨rfl, Kp.of h (Below.refl _ _)⟩
theorem lpNext_dead (h : LS w o lb b t rb rl e A) (he : e ≠ 0) (id lev j : Int) :
    Calls Tryz.prog 84 #[.pointer (some ⟨lb, 0, none⟩), .int .i64 id, .int .i64 lev, .int .i64 j] w fun r w' => r = .returned (.int .i64 0) ∧ Kp o w lb b t rb rl e A w' := by
  obtain ⟨_, _, _, _, c4, _⟩ := h.cells
  go_enter Tryz.func84, Tryz.ntmps84
  go_wp2_with fail
  go_ret
  all_goals exact ⟨rfl, Kp.of h (Below.refl _ _)⟩
theorem lpJoin_dead (h : LS w o lb b t rb rl e A) (he : e ≠ 0) (q0 q1 q2 q3 : Int) :
    Calls Tryz.prog 120 #[.pointer (some ⟨lb, 0, none⟩), quad4 q0 q1 q2 q3] w fun r w' => r = .returned (.int .i64 0) ∧ Kp o w lb b t rb rl e A w' := by
  have hbx : Below w.heap.size w (w.alloc (.cells #[.int .i64 q0, .int .i64 q1, .int .i64 q2, .int .i64 q3] 76)) := (Below.refl _ _).alloc (Nat.le_refl _) _
  obtain ⟨_, _, _, _, c4, _⟩ := (h.below hbx).cells
  unfold quad4
  go_enter Tryz.func120, Tryz.ntmps120
  go_wp2_with fail
  go_ret
  all_goals exact ⟨rfl, Kp.of h hbx⟩
theorem lpKids_dead (h : LS w o lb b t rb rl e A) (he : e ≠ 0) (id : Int) :
    Calls Tryz.prog 131 #[.pointer (some ⟨lb, 0, none⟩), .int .i64 id] w fun r w' => r = .returned (quad4 0 0 0 0) ∧ Kp o w lb b t rb rl e A w' := by
  have hbx : Below w.heap.size w (w.alloc (.cells #[.int .i64 0, .int .i64 0, .int .i64 0, .int .i64 0] 76)) := (Below.refl _ _).alloc (Nat.le_refl _) _
  obtain ⟨_, _, _, _, c4, _⟩ := (h.below hbx).cells
  go_enter Tryz.func131, Tryz.ntmps131
  go_wp2_with fail
  refine bodyPost_ret (v := quad4 0 0 0 0) ?_ rfl ⟨rfl, Kp.of h hbx⟩
  simp [results, Tryz.results131, go_sem, quad4]
set_option maxRecDepth 20000 in
set_option maxHeartbeats 2000000 in
/-- a note -/
theorem lpNote_ok (h : LS w o lb b t rb rl 0 A) (hS : Sound A) (ht : t < 64) (h0 : 0 ≤ rb) (h1 : rb ≤ 511) (id j v : Int) (fi : Fits id) (fj : Fits j) (fv : Fits v) :
    Calls Tryz.prog 102 #[.pointer (some ⟨lb, 0, none⟩), .int .i64 id, .int .i64 j, .int .i64 v] w fun r w' => r = .returned (.tuple #[]) ∧ Kp o w lb b t rb rl (A.noteP t id (rnum rb rl) j v).2 (A.noteP t id (rnum rb rl) j v).1 w' := by
  obtain ⟨c0, c1, _, _, c4, z4⟩ := h.cells
  have hnum := number_any h.drew h0 h1
  obtain ⟨F, ha, hF⟩ := h.ar
  have hno := fun n => noteP_any b t F id (rnum rb rl) j v A (w.drewN n) (ha.other (Nat.le_refl _) fun _ _ => rfl) hS ht fi (rnum_fits rb rl) fj fv
  unfold NoteOut at hno
  have HX : Hid (LS w o lb b t rb rl 0 A ∧ ∀ k, F k → o k = 1) := ⟨h, hF⟩
  generalize rnum rb rl = rn at *
  obtain ⟨P, hP⟩ : ∃ P, P = A.noteP t id rn j v := ⟨_, rfl⟩
  rw [← hP] at hno ⊢
  clear hP h ha hF
  go_enter Tryz.func102, Tryz.ntmps102
  go_wp2_with fail
  go_region_with (first
    | (go_at_call 100; refine hnum.mono ?_; rintro e w1 ⟨rfl, n, rfl⟩)
    | (go_at_call 123; refine (hno _).mono ?_; rintro e w2 ⟨rfl, hled⟩; obtain ⟨a1, k1⟩ := led_ch HX.out.2 hled; have hs1 := (HX.out.1.ch ((Ch.refl (fun _ => False) o w).drewN _) fun _ h => h.elim).setA k1 a1; obtain ⟨_, _, _, _, q4, q5⟩ := hs1.cells))
  all_goals
    go_wp2_with fail
    go_end0
    obtain ⟨h2, k2⟩ := hs1.setE P.2
    exact ⟨rfl, _, h2, (((Ch.refl AL o w).drewN _).trans (k1.mono one_AL)).trans k2⟩
end Go.Proofs.YtofbcngcblleaaaGreat.A
