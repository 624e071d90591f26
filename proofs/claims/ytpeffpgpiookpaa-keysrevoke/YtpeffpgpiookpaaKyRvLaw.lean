/- The law KeysRevoke. -/
import Derived.Test.YtpeffpgpiookpaaKyRefRev
import Derived.Test.YtpeffpgpiookpaaKySame
namespace Go.Proofs.Ytpeffpgpiookpaa
open Go.RowKit

theorem stay_a : stay [⟨⟨#[]⟩, ⟨#[97]⟩, 0⟩] ⟨#[97]⟩ = [] := by decide +kernel

set_option maxRecDepth 20000 in
set_option maxHeartbeats 2000000 in
theorem revoke_law (serial : Int) (v : Value) (ks : List Ky) (name : ByteArray) (w : World) (h : HK w v ks) (hok : ∀ k ∈ ks, k.ok) (hlen : ks.length * 40 ≤ 140737488355328) :
    Calls Try.prog 4 #[.agg #[.int .i64 serial, v], .string name] w fun e w' => e = .returned (.bool true) ∧ Below w.heap.size w w' := by
  have t0 := T2.born w serial v 24
  have hb0 : Below w.heap.size w (w.alloc (.cells #[.int .i64 serial, v] 24)) := (Below.refl _ _).alloc (Nat.le_refl _) _
  have h0 := h.below hb0
  generalize hw0 : w.alloc (.cells #[.int .i64 serial, v] 24) = w0 at *
  have c1 := table_any serial v ks w0 h0 hlen
  have c2 := fun u W hW => revoke_any serial u ks name W hW hok hlen
  have c3 := fun W hW => refRevoke_any serial v ks name W hW hlen
  generalize (ks.length : Int) - ((stay ks name).length : Int) = C at *
  have hc : (C == C) = true := by simp
  have HB0 : Hid (Below w.heap.size w w0) := hb0
  have HT : Hid (T2 w.heap.size serial v w0) := t0
  have HH : Hid (HK w0 v ks) := h0
  obtain ⟨a1, a2, -, -, -⟩ := t0
  clear h h0 hb0 hok hlen
  go_enter Try.func4, Try.ntmps4
  go_wp2_with fail
  refine c1.mono ?_
  rintro e w1 ⟨u, rfl, hk1, hb1⟩
  clear hw0 a1 a2 c1
  have c2' := c2 u w1 hk1.hk
  clear c2
  go_wp2_with fail
  refine c2'.mono ?_
  rintro e w2 ⟨u2, rfl, hk2, hb2⟩
  clear c2' hk1
  obtain ⟨p2, n2, q2, rfl⟩ := hk2.form
  have h02 := hb1.trans (hb2.mono hb1.size)
  have hbA : Below w2.heap.size w2 (w2.alloc (.cells #[.int .i64 serial, .slice p2 n2 q2] 24)) := (Below.refl _ _).alloc (Nat.le_refl _) _
  have s2 := T2.born w2 serial (.slice p2 n2 q2) 24
  have hkA := hk2.hk.below hbA
  have h0A := h02.trans (hbA.mono h02.size)
  have tA := HT.out.below h0A
  have hvA := HH.out.below h0A
  obtain ⟨a1, a2, -, -, -⟩ := tA
  have c3' := c3 _ hvA
  clear c3 hb1 hb2 h02 hk2
  generalize hwA : w2.alloc (.cells #[.int .i64 serial, .slice p2 n2 q2] 24) = wA at *
  go_wp2_with fail
  refine c3'.mono ?_
  rintro e w3 ⟨u3, rfl, hk3, hb3⟩
  clear hwA c3' a1 a2 hvA
  obtain ⟨p3, n3, q3, rfl⟩ := hk3.form
  have hbB : Below w3.heap.size w3 (w3.alloc (.cells #[.int .i64 serial, .slice p3 n3 q3] 24)) := (Below.refl _ _).alloc (Nat.le_refl _) _
  have s3 := T2.born w3 serial (.slice p3 n3 q3) 24
  have hkB := hk3.hk.below hbB
  have hAB := hb3.trans (hbB.mono hb3.size)
  have hkA2 := hkA.below hAB
  have s2B := s2.below hAB
  have h0B := h0A.trans (hAB.mono h0A.size)
  clear hk3 hb3 hbB hkA s2 hAB h0A
  generalize hwB : w3.alloc (.cells #[.int .i64 serial, .slice p3 n3 q3] 24) = wB at *
  have hbC : Below wB.heap.size wB (wB.alloc (.cells #[.string ⟨#[]⟩, .string ⟨#[97]⟩, .int .i64 0] 33)) := (Below.refl _ _).alloc (Nat.le_refl _) _
  have k3 := K3.born wB ⟨⟨#[]⟩, ⟨#[97]⟩, 0⟩ 33
  have c4 := revoke_any 0 (.slice (some ⟨wB.heap.size, 0, none⟩) 1 1) [⟨⟨#[]⟩, ⟨#[97]⟩, 0⟩] ⟨#[97]⟩ (wB.alloc (.cells #[.string ⟨#[]⟩, .string ⟨#[97]⟩, .int .i64 0] 33)) ⟨some ⟨wB.heap.size, 0, none⟩, 1, rfl, by simp, by simp, (fun e => by cases e), .inr ⟨wB.heap.size, 0, rfl, by simp, fun k x hk => by
    match k, hk with
    | 0, hk => simp at hk; subst hk; exact ⟨k3.1, k3.2.1, k3.2.2.1⟩⟩⟩ (fun k hk => by simp at hk; subst hk; exact ⟨by decide, by decide⟩) (by simp)
  rw [stay_a] at c4
  have hkC := hkA2.below hbC
  have hkC3 := hkB.below hbC
  have s2C := s2B.below hbC
  have s3C := s3.below hbC
  have h0C := h0B.trans (hbC.mono h0B.size)
  clear hbC k3 hkA2 hkB s2B s3 h0B
  generalize hwC : wB.alloc (.cells #[.string ⟨#[]⟩, .string ⟨#[97]⟩, .int .i64 0] 33) = wC at *
  simp only [List.length_cons, List.length_nil] at c4
  go_wp2_with fail
  refine c4.mono ?_
  rintro e w4 ⟨u4, rfl, hk4, hb4⟩
  clear hwB hwC c4
  obtain ⟨p4, n4, q4, rfl⟩ := hk4.form
  have hbD : Below w4.heap.size w4 (w4.alloc (.cells #[.int .i64 0, .slice p4 n4 q4] 24)) := (Below.refl _ _).alloc (Nat.le_refl _) _
  have hCD := hb4.trans (hbD.mono hb4.size)
  have c5 := sameTable_any serial _ _ _ _ (hkC.below hCD) (hkC3.below hCD)
  obtain ⟨x1, x2, -, -, -⟩ := s2C.below hCD
  obtain ⟨y1, y2, -, -, -⟩ := s3C.below hCD
  have h0D := h0C.trans (hCD.mono h0C.size)
  have HBD : Hid (Below w.heap.size w (w4.alloc (.cells #[.int .i64 0, .slice p4 n4 q4] 24))) := HB0.out.trans (h0D.mono HB0.out.size)
  clear hkC hkC3 s2C s3C hbD hCD hk4 hb4 h0C h0D
  generalize hwD : w4.alloc (.cells #[.int .i64 0, .slice p4 n4 q4] 24) = wD at *
  go_wp2_with (go_at_call 10; refine c5.mono ?_; rintro e w5 ⟨rfl, hb5⟩)
  go_ret
  exact ⟨rfl, HBD.out.trans (hb5.mono HBD.out.size)⟩
end Go.Proofs.Ytpeffpgpiookpaa
