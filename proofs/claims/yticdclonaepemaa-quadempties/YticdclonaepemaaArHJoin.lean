/- A hand's join, and its empty squares. -/
import Derived.Test.YticdclonaepemaaArHand
namespace Go.Proofs.Yticdclonaepemaa.A
open Go.RowKit Go.Maps

/-- Join, in plain words -/
def Ar.join (A : Ar) (t : Nat) (q0 q1 q2 q3 : Int) : Ar × Int × Int := if (joinE A t q0 q1 q2 q3).1 ≠ 0 then (A, 0, (joinE A t q0 q1 q2 q3).1) else A.become t (sqTh q0 q1 q2 q3 (joinE A t q0 q1 q2 q3).2)

theorem join_one (b n t : Nat) (q0 q1 q2 q3 : Int) (F : Nat → Prop) (A : Ar) (w : World) (h : ArAt w b F n A) (hY : Young A) (ht : t < 64) (hq0 : Fits q0) (hq1 : Fits q1) (hq2 : Fits q2) (hq3 : Fits q3) (hn : n < 1000000000) (hlo : ∀ l, levelF A.ths t q0 = some l → 0 ≤ l) :
    Calls Try.prog 28 #[.pointer (some ⟨b, 0, none⟩), .int .i64 t, quad4 q0 q1 q2 q3] w fun e w' => e = .returned (.tuple #[.int .i64 (A.join t q0 q1 q2 q3).2.1, .int .i64 (A.join t q0 q1 q2 q3).2.2]) ∧ ArAt w' b (More F w w') (n + 1) (A.join t q0 q1 q2 q3).1 ∧ Apart F w w' := by
  refine (join_any b n t q0 q1 q2 q3 F A w h hY ht hq0 hq1 hq2 hq3 hn hlo).mono ?_
  rintro e w' ⟨h1, h2⟩
  unfold Ar.join
  by_cases hc : (joinE A t q0 q1 q2 q3).1 = 0
  · rw [if_neg (by simpa using hc)]
    exact h2 hc
  · rw [if_pos hc]
    obtain ⟨he, hb⟩ := h1 hc
    exact ⟨he, ((h.below hb).more h.flt hb.size).up (by omega), Apart.of hb⟩

theorem ArAt.grown {w w' : World} {b n hb : Nat} {F : Nat → Prop} {A : Ar} (h : ArAt w b F n A) (hg : w.grownBy w' (some hb)) (hn : ¬ F hb) : ArAt w' b F n A := by
  obtain ⟨r, D, h⟩ := h
  exact ⟨r, D, h.grown hg hn⟩
theorem ArAt.wider {w : World} {b n : Nat} {F F' : Nat → Prop} {A : Ar} (h : ArAt w b F n A) (hF : ∀ k, F k → F' k) (hl : ∀ k, F' k → k < w.heap.size) : ArAt w b F' n A := by
  obtain ⟨r, D, h⟩ := h
  exact ⟨r, D, h.wider hF hl⟩

theorem held_apart {W w1 : World} {F : Nat → Prop} {hb q : Nat} {u0 u1 v0 v1 v2 v3 : Value} (P : Apart F W.drew w1) (hF : ¬ F hb) (hq : ¬ F q) (hl : hb < W.heap.size) (hql : q < W.heap.size)
    (c0 : W.cell? ⟨hb, 0, none⟩ = some u0) (c1 : W.cell? ⟨hb, 1, none⟩ = some u1) (k0 : W.cell? ⟨q, 0, none⟩ = some v0) (k1 : W.cell? ⟨q, 1, none⟩ = some v1) (k2 : W.cell? ⟨q, 2, none⟩ = some v2) (k3 : W.cell? ⟨q, 3, none⟩ = some v3) :
    w1.cell? ⟨hb, 0, none⟩ = some u0 ∧ w1.cell? ⟨hb, 1, none⟩ = some u1 ∧ w1.cell? ⟨q, 0, none⟩ = some v0 ∧ w1.cell? ⟨q, 1, none⟩ = some v1 ∧ w1.cell? ⟨q, 2, none⟩ = some v2 ∧ w1.cell? ⟨q, 3, none⟩ = some v3 := by
  have e1 : w1.heap[hb]? = W.heap[hb]? := P.block hb hl hF
  have e2 : w1.heap[q]? = W.heap[q]? := P.block q hql hq
  exact ⟨(World.cell?_of_block (a := ⟨hb, 0, none⟩) e1).trans c0, (World.cell?_of_block (a := ⟨hb, 1, none⟩) e1).trans c1, (World.cell?_of_block (a := ⟨q, 0, none⟩) e2).trans k0, (World.cell?_of_block (a := ⟨q, 1, none⟩) e2).trans k1, (World.cell?_of_block (a := ⟨q, 2, none⟩) e2).trans k2, (World.cell?_of_block (a := ⟨q, 3, none⟩) e2).trans k3⟩

/-- F and a hand's block -/
def With (F : Nat → Prop) (hb : Nat) : Nat → Prop := fun k => F k ∨ k = hb

set_option maxRecDepth 20000 in
set_option maxHeartbeats 4000000 in
theorem hjoin_any (hb b n t : Nat) (q0 q1 q2 q3 : Int) (v : Value) (F : Nat → Prop) (A : Ar) (w : World) (h : HandAt w hb b t 0 v) (hA : ArAt w b F n A) (hF : ¬ F hb) (hY : Young A) (ht : t < 64) (hq0 : Fits q0) (hq1 : Fits q1) (hq2 : Fits q2) (hq3 : Fits q3) (hn : n < 1000000000) (hlo : ∀ l, levelF A.ths t q0 = some l → 0 ≤ l) :
    Calls Try.prog 93 #[.pointer (some ⟨hb, 0, none⟩), quad4 q0 q1 q2 q3] w fun x w' => x = .returned (.int .i64 (A.join t q0 q1 q2 q3).2.1) ∧ HandAt w' hb b t (A.join t q0 q1 q2 q3).2.2 v ∧ ArAt w' b (More F w w') (n + 1) (A.join t q0 q1 q2 q3).1 ∧ Apart (With F hb) w w' := by
  have hj := fun W (hW : ArAt W b F n A) => join_one b n t q0 q1 q2 q3 F A W hW hY ht hq0 hq1 hq2 hq3 hn hlo
  have hlt := h.lt
  have hflt := hA.flt
  have hb0 : Below w.heap.size w (w.alloc (.cells #[.int .i64 q0, .int .i64 q1, .int .i64 q2, .int .i64 q3] 35)) := (Below.refl _ _).alloc (Nat.le_refl _) _
  have hQ : (w.alloc (.cells #[.int .i64 q0, .int .i64 q1, .int .i64 q2, .int .i64 q3] 35)).heap[w.heap.size]? = some (.cells #[.int .i64 q0, .int .i64 q1, .int .i64 q2, .int .i64 q3] 35 (0, 0)) := heap_alloc_new w _
  unfold quad4 at hj ⊢
  generalize (A.join t q0 q1 q2 q3) = J at *
  go_enter Try.func93, Try.ntmps93
  have c2 := h.c2
  go_wp2_with fail
  have h1 := h.below hb0
  have hA1 := hA.below hb0
  have hsz : (w.alloc (.cells #[.int .i64 q0, .int .i64 q1, .int .i64 q2, .int .i64 q3] 35)).heap.size = w.heap.size + 1 := by simp
  generalize hW0 : w.alloc (.cells #[.int .i64 q0, .int .i64 q1, .int .i64 q2, .int .i64 q3] 35) = W0 at *
  have HSZ : Hid (W0.heap.size = w.heap.size + 1) := hsz
  clear hW0 hsz c2
  have c0 := h1.c0
  have c1 := h1.c1
  have k0 : W0.cell? ⟨w.heap.size, 0, none⟩ = some (.int .i64 q0) := Lib.cell_of_heap hQ 0
  have k1 : W0.cell? ⟨w.heap.size, 1, none⟩ = some (.int .i64 q1) := Lib.cell_of_heap hQ 1
  have k2 : W0.cell? ⟨w.heap.size, 2, none⟩ = some (.int .i64 q2) := Lib.cell_of_heap hQ 2
  have k3 : W0.cell? ⟨w.heap.size, 3, none⟩ = some (.int .i64 q3) := Lib.cell_of_heap hQ 3
  have hFq : ¬ F w.heap.size := fun e => by have := hflt _ e; omega
  have hA1d : ArAt W0.drew b F n A := hA1.below ⟨rfl, rfl, rfl, Nat.le_refl _, fun _ _ => rfl⟩
  go_cut [5, 6] from 5 to 24 (fun s5 s6 wc => s5 = .int .i64 J.2.1 ∧ s6 = .int .i64 J.2.2 ∧ ArAt wc b (More F W0 wc) (n + 1) J.1 ∧ Apart F W0 wc)
  case first =>
    go_region_held3 (fun w' => w'.cell? ⟨hb, 0, none⟩ = some (.pointer (some ⟨b, 0, none⟩)) ∧ w'.cell? ⟨hb, 1, none⟩ = some (.int .i64 t) ∧ w'.cell? ⟨w.heap.size, 0, none⟩ = some (.int .i64 q0) ∧ w'.cell? ⟨w.heap.size, 1, none⟩ = some (.int .i64 q1) ∧ w'.cell? ⟨w.heap.size, 2, none⟩ = some (.int .i64 q2) ∧ w'.cell? ⟨w.heap.size, 3, none⟩ = some (.int .i64 q3)) (first | exact ⟨c0, c1, k0, k1, k2, k3⟩ | exact held_apart P1 hF hFq (by have := HSZ.out; omega) (by have := HSZ.out; omega) c0 c1 k0 k1 k2 k3) ((go_at_call 28; refine (hj _ hA1d).mono ?_; rintro e w1 ⟨rfl, hA2, P1⟩))
    all_goals
      go_wp2_with fail
      go_meet
      case rel => exact ⟨rfl, rfl, hA2, ⟨P1.os, P1.tape, P1.output, P1.size, P1.block⟩⟩
  case rest =>
  obtain ⟨rfl, rfl, hA2, P1⟩ := hcut
  have hs0 := HSZ.out
  have hs1 := P1.size
  have h2 : HandAt wc hb b t 0 v := h1.go (P1.block hb (by omega) hF)
  clear c0 c1 k0 k1 k2 k3 hj hA1d hs0
  go_wp2_with fail
  refine (keep_any hb b t 0 _ v _ h2).mono ?_
  rintro x w3 ⟨rfl, h3, g3⟩
  go_wp2_with fail
  go_ret
  have hs0 := HSZ.out
  have hs3 := g3.size
  have a0 : Apart (With F hb) w W0 := Apart.of hb0
  have a1 : Apart (With F hb) W0 wc := ⟨P1.os, P1.tape, P1.output, P1.size, fun k hk hn => P1.block k hk fun e => hn (Or.inl e)⟩
  have a2 : Apart (With F hb) wc w3 := Apart.grown g3 fun k hk => Or.inr (by cases hk; rfl)
  refine ⟨rfl, h3, ?_, (a0.trans a1 fun k hk => Or.inl hk).trans a2 fun k hk => Or.inl hk⟩
  refine (hA2.grown g3 ?_).wider ?_ ?_
  · rintro (e | e)
    · exact hF e
    · omega
  · rintro k (e | e)
    · exact Or.inl e
    · exact Or.inr ⟨by omega, by omega⟩
  · rintro k (e | e)
    · have := hflt k e; omega
    · exact e.2

theorem four_any (id : Int) (w : World) : Calls Try.prog 91 #[.int .i64 id] w fun x w' => x = .returned (quad4 id id id id) ∧ Below w.heap.size w w' := by
  go_enter Try.func91, Try.ntmps91
  go_wp2_with fail
  refine bodyPost_ret (v := quad4 id id id id) ?_ rfl ⟨rfl, ?_⟩
  · simp [results, Try.results91, go_sem, quad4]
  · exact (Below.refl _ _).alloc (Nat.le_refl _) _
end Go.Proofs.Yticdclonaepemaa.A
