/- The law KeysFind. -/
import Derived.Test.YtpeffpgpiookpaaKyRefFind
import Derived.Test.YtpeffpgpiookpaaKyTable
namespace Go.Proofs.Ytpeffpgpiookpaa
open Go.RowKit

set_option maxRecDepth 20000 in
set_option maxHeartbeats 1000000 in
theorem find_law (serial : Int) (v : Value) (ks : List Ky) (text : ByteArray) (rights : Int) (w : World) (h : HK w v ks) (hok : ∀ k ∈ ks, k.ok) (hlen : ks.length * 40 ≤ 140737488355328) (hr : Fits64 rights) (hrs : ∀ k ∈ ks, Fits64 k.rights) :
    Calls Try.prog 3 #[.agg #[.int .i64 serial, v], .string text, .int .i64 rights] w fun e w' => e = .returned (.bool true) ∧ Below w.heap.size w w' := by
  have t0 := T2.born w serial v 24
  have hb0 : Below w.heap.size w (w.alloc (.cells #[.int .i64 serial, v] 24)) := (Below.refl _ _).alloc (Nat.le_refl _) _
  have h0 := h.below hb0
  generalize hw0 : w.alloc (.cells #[.int .i64 serial, v] 24) = w0 at *
  have c1 := table_any serial v ks w0 h0 hlen
  have c2 := fun u W hW => find_any serial u ks text rights W hW hok
  have c3 := fun W hW => refFind_any serial v ks text rights W hW hr hrs
  have c4 := fun W => find_any 0 (.slice none 0 0) [] ⟨#[33, 97]⟩ 0 W ⟨none, 0, rfl, by simp, by simp, fun _ => rfl, .inl rfl⟩ (fun k hk => by cases hk)
  have hf0 : findF [] ⟨#[33, 97]⟩ 0 = (⟨#[]⟩, 6) := rfl
  rw [hf0] at c4
  simp only at c4
  generalize findF ks text rights = R at *
  obtain ⟨A, C⟩ := R
  simp only at c2 c3
  have ha : (A.toList == A.toList) = true := by simp
  have hc : (C == C) = true := by simp
  have HB0 : Hid (Below w.heap.size w w0) := hb0
  have HT : Hid (T2 w.heap.size serial v w0) := t0
  have HH : Hid (HK w0 v ks) := h0
  obtain ⟨a1, a2, -, -, -⟩ := t0
  clear h h0 hb0 hok hlen hr hrs hf0
  go_enter Try.func3, Try.ntmps3
  go_wp2_with fail
  refine c1.mono ?_
  rintro e w1 ⟨u, rfl, hk1, hb1⟩
  clear hw0 a1 a2 c1
  obtain ⟨a1, a2, -, -, -⟩ := HT.out.below hb1
  have c2' := c2 u w1 hk1.hk
  clear c2
  go_wp2_with fail
  refine c2'.mono ?_
  rintro e w2 ⟨rfl, hb2⟩
  have h12 := hb1.trans (hb2.mono hb1.size)
  clear a1 a2 c2' hk1
  obtain ⟨a1, a2, -, -, -⟩ := HT.out.below h12
  have c3' := c3 w2 (HH.out.below h12)
  clear c3
  go_wp2_with fail
  refine c3'.mono ?_
  rintro e w3 ⟨rfl, hb3⟩
  have h13 := h12.trans (hb3.mono h12.size)
  clear a1 a2 c3' hb1 hb2 hb3 h12
  go_wp2_with fail
  refine (c4 _).mono ?_
  rintro e w4 ⟨rfl, hb4⟩
  have h14 := h13.trans (hb4.mono h13.size)
  go_wp2_with fail
  go_ret
  exact ⟨rfl, HB0.out.trans (h14.mono HB0.out.size)⟩
end Go.Proofs.Ytpeffpgpiookpaa
