/- A leaper's wrap and peel. -/
import Derived.Test.YtofbcngcblleaaaGreatLpWrap
import Derived.Test.YtofbcngcblleaaaGreatLpPeel
import Derived.Test.YtofbcngcblleaaaGreatLpNext
namespace Go.Proofs.YtofbcngcblleaaaGreat.A
open Go.RowKit Go.Maps Go.Proofs.YtofbcngcblleaaaGreat.L

variable {w : World} {o : Nat → Nat} {lb b t : Nat} {rb rl e : Int} {A : Ar} {PR : (Bool → Nat → Bool) → Int → Prop} {q : Nat → Int}
/-- what a leaper's wrap and peel leave: failed for want of quota, or what is wanted holds -/
def OutE (PR : (Bool → Nat → Bool) → Int → Prop) (rb rl : Int) (t : Nat) (q : Nat → Int) (A : Ar) (o : Nat → Nat) (w : World) (lb b : Nat) (e : Int) (D : Item → Prop) (G : Ar → Prop) (w' : World) : Prop :=
  ∃ e' A', Kp o w lb b t rb rl e' A' w' ∧ NxSt PR t q A' ∧ Gx t A A' e e' D ∧ (Er e' ∨ (e' = 0 ∧ e = 0 ∧ G A'))
def WrapG (t m : Nat) (id x : Int) (A' : Ar) : Prop := levV (view A' t).V x = some ((m + 2 : Nat) : Int) ∧ WrapS (QV (view A' t)) m id x
def PeelG (A : Ar) (t m : Nat) (id x : Int) (A' : Ar) : Prop := ∃ n, LeastLv (n + 1) (absC A.ths (m + 1) id) ∧ n ≤ m ∧ levV (view A' t).V x = some ((n + 1 : Nat) : Int) ∧ PeelS (QV (view A' t)) m n id x
theorem lpWrap_dead (h : LS w o lb b t rb rl e A) (he : e ≠ 0) (id : Int) :
    Calls Tryz.prog 83 #[.pointer (some ⟨lb, 0, none⟩), .int .i64 id] w fun r w' => r = .returned (.int .i64 0) ∧ Kp o w lb b t rb rl e A w' := by
  obtain ⟨_, _, _, _, c4, _⟩ := h.cells
  go_enter Tryz.func83, Tryz.ntmps83
  go_wp2_with fail
  go_ret
  all_goals exact ⟨rfl, Kp.of h (Below.refl _ _)⟩
set_option maxRecDepth 20000 in
set_option maxHeartbeats 2000000 in
theorem lpWrap_rel (h : LS w o lb b t rb rl e A) (hst : NxSt PR t q A) (ht : t < 64) (he : e = 0 ∨ Er e) (id : Int) (m : Nat) (hm : m + 1 ≤ 43) (hl : e = 0 → levV (view A t).V id = some ((m + 1 : Nat) : Int)) :
    Calls Tryz.prog 83 #[.pointer (some ⟨lb, 0, none⟩), .int .i64 id] w fun r w' => ∃ x, r = .returned (.int .i64 x) ∧ OutE PR rb rl t q A o w lb b e (WrapD m (ctr m (picQ (QV (view A t)) (m + 1) id))) (WrapG t m id x) w' := by
  rcases he with rfl | he
  · obtain ⟨c0, c1, _, _, c4, z4⟩ := h.cells
    have hw := wrap_rel h.drew.ar hst ht id m hm (hl rfl)
    have HX : Hid (LS w o lb b t rb rl 0 A) := h
    clear h
    go_enter Tryz.func83, Tryz.ntmps83
    go_wp2_with fail
    go_region_with (go_at_call 98; refine hw.mono ?_; rintro e w1 ⟨x, e', rfl, A', o1, a1, k1, s1, g1, d1⟩; have hs1 := HX.out.drew.setA k1 a1; obtain ⟨_, _, _, _, q4, q5⟩ := hs1.cells)
    all_goals
      have HD : Hid (NxSt PR t q A' ∧ Gx t A A' 0 e' (WrapD m (ctr m (picQ (QV (view A t)) (m + 1) id))) ∧ (Er e' ∨ (e' = 0 ∧ WrapG t m id x A'))) := ⟨s1, g1, d1⟩
      clear s1 g1 d1 hw
      go_wp2_with fail
      go_ret
      obtain ⟨h2, k2⟩ := hs1.setE e'
      obtain ⟨s1, g1, d1⟩ := HD.out
      exact ⟨_, rfl, e', A', ⟨_, h2, ((Ch.refl AL o w).drew.trans (k1.mono one_AL)).trans k2⟩, s1, g1, by rcases d1 with d1 | ⟨d1, d2⟩; exact .inl d1; exact .inr ⟨d1, rfl, d2⟩⟩
  · refine (lpWrap_dead h he.ne id).mono ?_
    rintro r w' ⟨rfl, hk⟩
    exact ⟨_, rfl, _, _, hk, hst, Gx.no he t A _, .inl he⟩
theorem lpPeel_dead (h : LS w o lb b t rb rl e A) (he : e ≠ 0) (id : Int) :
    Calls Tryz.prog 60 #[.pointer (some ⟨lb, 0, none⟩), .int .i64 id] w fun r w' => r = .returned (.int .i64 0) ∧ Kp o w lb b t rb rl e A w' := by
  obtain ⟨_, _, _, _, c4, _⟩ := h.cells
  go_enter Tryz.func60, Tryz.ntmps60
  go_wp2_with fail
  go_ret
  all_goals exact ⟨rfl, Kp.of h (Below.refl _ _)⟩
set_option maxRecDepth 20000 in
set_option maxHeartbeats 2000000 in
theorem lpPeel_rel (h : LS w o lb b t rb rl e A) (hst : NxSt PR t q A) (ht : t < 64) (he : e = 0 ∨ Er e) (id : Int) (m : Nat) (hm1 : 1 ≤ m) (hm44 : m + 1 ≤ 44) (hl : e = 0 → levV (view A t).V id = some ((m + 1 : Nat) : Int)) (hbig : e = 0 → (cellsF A.ths (m + 1) id).length < 4611686018427387904) :
    Calls Tryz.prog 60 #[.pointer (some ⟨lb, 0, none⟩), .int .i64 id] w fun r w' => ∃ x, r = .returned (.int .i64 x) ∧ OutE PR rb rl t q A o w lb b e (PeelD m (picQ (QV (view A t)) (m + 1) id) (absC A.ths (m + 1) id)) (PeelG A t m id x) w' := by
  rcases he with rfl | he
  · obtain ⟨c0, c1, _, _, c4, z4⟩ := h.cells
    have hw := peel_rel h.drew.ar hst ht id m hm1 hm44 (hl rfl) (hbig rfl)
    have HX : Hid (LS w o lb b t rb rl 0 A) := h
    clear h
    go_enter Tryz.func60, Tryz.ntmps60
    go_wp2_with fail
    go_region_with (go_at_call 15; refine hw.mono ?_; rintro e w1 ⟨x, e', rfl, A', o1, a1, k1, s1, g1, d1⟩; have hs1 := HX.out.drew.setA k1 a1; obtain ⟨_, _, _, _, q4, q5⟩ := hs1.cells)
    all_goals
      have HD : Hid (NxSt PR t q A' ∧ Gx t A A' 0 e' (PeelD m (picQ (QV (view A t)) (m + 1) id) (absC A.ths (m + 1) id)) ∧ (Er e' ∨ (e' = 0 ∧ PeelG A t m id x A'))) := ⟨s1, g1, d1⟩
      clear s1 g1 d1 hw
      go_wp2_with fail
      go_ret
      obtain ⟨h2, k2⟩ := hs1.setE e'
      obtain ⟨s1, g1, d1⟩ := HD.out
      exact ⟨_, rfl, e', A', ⟨_, h2, ((Ch.refl AL o w).drew.trans (k1.mono one_AL)).trans k2⟩, s1, g1, by rcases d1 with d1 | ⟨d1, d2⟩; exact .inl d1; exact .inr ⟨d1, rfl, d2⟩⟩
  · refine (lpPeel_dead h he.ne id).mono ?_
    rintro r w' ⟨rfl, hk⟩
    exact ⟨_, rfl, _, _, hk, hst, Gx.no he t A _, .inl he⟩
theorem lpLevel_rel (h : LS w o lb b t rb rl e A) (hst : NxSt PR t q A) (ht : t < 64) (he : e = 0 ∨ Er e) (id : Int) (n : Nat) (hl : e = 0 → levV (view A t).V id = some (n : Int)) :
    Calls Tryz.prog 82 #[.pointer (some ⟨lb, 0, none⟩), .int .i64 id] w fun r w' => ∃ l : Int, r = .returned (.int .i64 l) ∧ Kp o w lb b t rb rl e A w' ∧ (e = 0 → l = n) ∧ (Er e → l = 2) := by
  rcases he with rfl | he
  · have hf : levelF A.ths t id = some (n : Int) := by rw [levelF_V]; exact hl rfl
    refine (lpLevel_ok h hst.s ht id (lev_fits hst.s (hl rfl))).mono ?_
    rintro r w' ⟨rfl, o', h1, h2⟩
    rw [hf] at h1 ⊢
    exact ⟨_, rfl, ⟨o', h1, h2⟩, fun _ => rfl, fun e => absurd rfl e.ne⟩
  · refine (lpLevel_dead h he.ne id).mono ?_
    rintro r w' ⟨rfl, hk⟩
    exact ⟨_, rfl, hk, fun e => absurd e he.ne, fun _ => rfl⟩
end Go.Proofs.YtofbcngcblleaaaGreat.A
