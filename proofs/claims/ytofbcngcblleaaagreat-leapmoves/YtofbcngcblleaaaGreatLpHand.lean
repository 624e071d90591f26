/- A hand that may fail, over any arena: join, kids. -/
import Derived.Test.YtofbcngcblleaaaGreatLpStep
import Derived.Test.YtofbcngcblleaaaGreatLpKids
import Derived.Test.YtofbcngcblleaaaGreatQuQuart
namespace Go.Proofs.YtofbcngcblleaaaGreat.A
open Go.RowKit Go.Proofs.YtofbcngcblleaaaGreat.L

variable {w w1 : World} {o o1 : Nat → Nat} {hb b t : Nat} {e : Int} {v : Value} {A A' : Ar} {PR : (Bool → Nat → Bool) → Int → Prop} {q : Nat → Int} {L : Nat → Prop}
/-- a hand (label 3) and its arena (label 1) -/
structure HA (w : World) (o : Nat → Nat) (hb b t : Nat) (e : Int) (v : Value) (A : Ar) : Prop where
  hand : HandAt w hb b t e v
  lab : o hb = 3
  ar : ArL w o b A
def HL (l : Nat) : Prop := l = 1 ∨ l = 3
def HKp (o : Nat → Nat) (w : World) (hb b t : Nat) (e : Int) (v : Value) (A : Ar) (w' : World) : Prop := ∃ o', HA w' o' hb b t e v A ∧ Ch HL o w o' w'
theorem HA.ch (h : HA w o hb b t e v A) (k : Ch L o w o1 w1) (hn : ∀ l, L l → ¬ HL l) : HA w1 o1 hb b t e v A :=
  ⟨h.hand.go (k.at h.hand.lt h.lab fun e => hn 3 e (.inr rfl)).1, (k.at h.hand.lt h.lab fun e => hn 3 e (.inr rfl)).2, h.ar.ch k fun e => hn 1 e (.inl rfl)⟩
theorem HA.below (h : HA w o hb b t e v A) (k : Below w.heap.size w w1) : HA w1 (ext o w.heap.size 0) hb b t e v A := h.ch (L := fun _ => False) (Ch.ofBelow k 0) fun _ h => h.elim
theorem HA.drew (h : HA w o hb b t e v A) : HA w.drew o hb b t e v A := h.ch ((Ch.refl (fun _ => False) o w).drew) fun _ h => h.elim
theorem HA.setA (h : HA w o hb b t e v A) (k : Ch (fun l => l = 1) o w o1 w1) (hA : ArL w1 o1 b A') : HA w1 o1 hb b t e v A' :=
  ⟨h.hand.go (k.at h.hand.lt h.lab (by omega)).1, (k.at h.hand.lt h.lab (by omega)).2, hA⟩
theorem HA.grown {e' : Int} {v' : Value} (h : HA w o hb b t e v A) (h1 : HandAt w1 hb b t e' v') (g : w.grownBy w1 (some hb)) : HA w1 (ext o w.heap.size 0) hb b t e' v' A ∧ Ch HL o w (ext o w.heap.size 0) w1 := by
  have k : Ch (fun l => l = 3) o w (ext o w.heap.size 0) w1 := ⟨g.os, g.tape, g.output, g.size, fun _ hk => ext_old hk, fun i hi hn => g.block i hi fun e => hn (by cases e; exact h.lab)⟩
  exact ⟨⟨h1, by rw [ext_old h.hand.lt]; exact h.lab, h.ar.ch k (by omega)⟩, k.mono fun _ h => .inr h⟩
theorem one_HL : ∀ l, l = 1 → HL l := fun _ h => .inl h
set_option maxRecDepth 20000 in
set_option maxHeartbeats 2000000 in
/-- a square of four -/
theorem hdJoin_ok (h : HA w o hb b t 0 v A) (hS : Sound A) (ht : t < 64) (q0 q1 q2 q3 : Int) (h0 : Fits q0) (h1 : Fits q1) (h2 : Fits q2) (h3 : Fits q3) :
    Calls Tryz.prog 44 #[.pointer (some ⟨hb, 0, none⟩), quad4 q0 q1 q2 q3] w fun r w' => r = .returned (.int .i64 (A.joinP t q0 q1 q2 q3).2.1) ∧ HKp o w hb b t (A.joinP t q0 q1 q2 q3).2.2 v (A.joinP t q0 q1 q2 q3).1 w' := by
  have hbx : Below w.heap.size w (w.alloc (.cells #[.int .i64 q0, .int .i64 q1, .int .i64 q2, .int .i64 q3] 76)) := (Below.refl _ _).alloc (Nat.le_refl _) _
  have hx := h.below hbx
  have c0 := hx.hand.c0
  have c1 := hx.hand.c1
  have c2 := hx.hand.c2
  have HK : Hid (Ch HL o w (ext o w.heap.size 0) (w.alloc (.cells #[.int .i64 q0, .int .i64 q1, .int .i64 q2, .int .i64 q3] 76))) := Ch.ofBelow hbx 0
  generalize ext o w.heap.size 0 = o1 at *
  generalize hwx : w.alloc (.cells #[.int .i64 q0, .int .i64 q1, .int .i64 q2, .int .i64 q3] 76) = wx at *
  have d0 : wx.cell? ⟨w.heap.size, 0, none⟩ = some (.int .i64 q0) := by rw [← hwx]; simp
  have d1 : wx.cell? ⟨w.heap.size, 1, none⟩ = some (.int .i64 q1) := by rw [← hwx]; simp
  have d2 : wx.cell? ⟨w.heap.size, 2, none⟩ = some (.int .i64 q2) := by rw [← hwx]; simp
  have d3 : wx.cell? ⟨w.heap.size, 3, none⟩ = some (.int .i64 q3) := by rw [← hwx]; simp
  obtain ⟨F, ha, hF⟩ := hx.drew.ar
  have hj := joinP_any b t q0 q1 q2 q3 F A wx.drew ha hS ht h0 h1 h2 h3
  have HX : Hid (HA wx o1 hb b t 0 v A ∧ ∀ k, F k → o1 k = 1) := ⟨hx, hF⟩
  unfold JoinPOut at hj
  obtain ⟨P, hP⟩ : ∃ P, P = A.joinP t q0 q1 q2 q3 := ⟨_, rfl⟩
  rw [← hP] at hj ⊢
  clear hP h hbx hx ha hF
  unfold quad4 at hj ⊢
  go_enter Tryz.func44, Tryz.ntmps44
  go_wp2_with fail
  (try rw [hwx])
  clear hwx
  go_region_with (go_at_call 45; refine hj.mono ?_; rintro e w1 ⟨rfl, hled⟩; obtain ⟨a1, k1⟩ := led_ch HX.out.2 hled; have hs1 := HX.out.1.drew.setA k1 a1)
  all_goals
    have hk := keep_any hb b t 0 P.2.2 v _ hs1.hand
    have HS1 : Hid (HA w1 (ext o1 wx.drew.heap.size 1) hb b t 0 v P.1 ∧ Ch HL o w (ext o1 wx.drew.heap.size 1) w1) := ⟨hs1, HK.out.drew.trans (k1.mono one_HL)⟩
    clear hs1 k1 a1 hled
    go_wp2_with fail
    refine hk.mono ?_
    rintro x w3 ⟨rfl, h3, g3⟩
    go_wp2_with fail
    go_ret
    obtain ⟨h4, k4⟩ := HS1.out.1.grown h3 g3
    exact ⟨rfl, _, h4, HS1.out.2.trans k4⟩
theorem hdJoin_dead (h : HA w o hb b t e v A) (he : e ≠ 0) (q0 q1 q2 q3 : Int) :
    Calls Tryz.prog 44 #[.pointer (some ⟨hb, 0, none⟩), quad4 q0 q1 q2 q3] w fun r w' => r = .returned (.int .i64 0) ∧ HKp o w hb b t e v A w' := by
  have hbx : Below w.heap.size w (w.alloc (.cells #[.int .i64 q0, .int .i64 q1, .int .i64 q2, .int .i64 q3] 76)) := (Below.refl _ _).alloc (Nat.le_refl _) _
  have c2 := (h.below hbx).hand.c2
  unfold quad4
  go_enter Tryz.func44, Tryz.ntmps44
  go_wp2_with fail
  go_ret
  all_goals exact ⟨rfl, _, h.below hbx, Ch.ofBelow hbx 0⟩
end Go.Proofs.YtofbcngcblleaaaGreat.A
