/- The law SpeechNames. -/
import Derived.Test.YtnklpjoeopcbbaaDoorSpRefNames
namespace Go.Proofs.YtnklpjoeopcbbaaDoor
open Go.RowKit

theorem named_a : namedB ⟨#[97]⟩ = true := by decide +kernel
theorem keyed_a : keyedB ⟨#[33, 97]⟩ = true := by decide +kernel
set_option maxRecDepth 20000 in
set_option maxHeartbeats 1000000 in
theorem names_any (s : ByteArray) (w : World) (hs : s.size ≤ 9223372036854775807) :
    Calls Tryd.prog 3 #[.string s] w fun e w' => e = .returned (.bool true) ∧ Below w.heap.size w w' := by
  have c1 := fun W => named_any s W hs
  have c2 := fun W => refNamed_any s W hs
  have c3 := fun W => keyed_any s W hs
  have c4 := fun W => refKeyed_any s W hs
  have c5 := fun W => named_any ⟨#[97]⟩ W (by decide)
  have c6 := fun W => keyed_any ⟨#[33, 97]⟩ W (by decide)
  rw [named_a] at c5
  rw [keyed_a] at c6
  generalize namedB s = a at *
  generalize keyedB s = b at *
  have ha : (a == a) = true := by cases a <;> rfl
  have hb : (b == b) = true := by cases b <;> rfl
  go_enter Tryd.func3, Tryd.ntmps3
  go_wp2_with fail
  refine (c1 _).mono ?_
  rintro e w1 ⟨rfl, b1⟩
  go_wp2_with fail
  refine (c2 _).mono ?_
  rintro e w2 ⟨rfl, b2⟩
  go_wp2_with fail
  refine (c3 _).mono ?_
  rintro e w3 ⟨rfl, b3⟩
  go_wp2_with fail
  refine (c4 _).mono ?_
  rintro e w4 ⟨rfl, b4⟩
  go_wp2_with fail
  refine (c5 _).mono ?_
  rintro e w5 ⟨rfl, b5⟩
  go_wp2_with fail
  refine (c6 _).mono ?_
  rintro e w6 ⟨rfl, b6⟩
  go_wp2_with fail
  go_ret
  have h2 := b1.trans (b2.mono b1.size)
  have h3 := h2.trans (b3.mono h2.size)
  have h4 := h3.trans (b4.mono h3.size)
  have h5 := h4.trans (b5.mono h4.size)
  exact ⟨rfl, h5.trans (b6.mono h5.size)⟩
end Go.Proofs.YtnklpjoeopcbbaaDoor
