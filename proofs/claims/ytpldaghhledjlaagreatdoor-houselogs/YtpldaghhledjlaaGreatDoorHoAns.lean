/- told, Tell of a refusal, refusal, answer of '?'. -/
import Derived.Test.YtpldaghhledjlaaGreatDoorHoRead
import Derived.Lib.ItoaLen
namespace Go.Proofs.YtpldaghhledjlaaGreatDoor.H
open Go.RowKit

/-- some short text is answered -/
def Short (w : World) (e : Ending) (w' : World) : Prop := ∃ s : ByteArray, e = .returned (.string s) ∧ s.size ≤ 60 ∧ Below w.heap.size w w'
set_option maxRecDepth 20000 in
set_option maxHeartbeats 1000000 in
theorem told_q (b c : Nat) (w : World) (hb : w.cell? ⟨b, 0, none⟩ = some (.int .i64 4)) :
    Calls Tryz.prog 76 #[.string ⟨#[110, 111]⟩, .slice (some ⟨b, 0, none⟩) 1 c] w (Short w) := by
  have hit := fun W => Tryz.strconv_Itoa_small 4 (by omega) W
  have hsz : (⟨(Lib.decDigits 4).toArray⟩ : ByteArray).size ≤ 21 := by
    have h := Lib.itoa_length_le (4 : Int) (by omega) (by omega)
    rw [show (4 : Int) = ((4 : Nat) : Int) from rfl, Lib.itoa_nonneg] at h
    show (Lib.decDigits 4).toArray.size ≤ 21
    rw [List.size_toArray]
    exact h
  generalize (⟨(Lib.decDigits 4).toArray⟩ : ByteArray) = X at *
  rw [show ((4 : Nat) : Int) = 4 from rfl] at hit
  go_enter Tryz.func76, Tryz.ntmps76
  go_wp2_with fail
  go_loopg [0, 9] 1 (fun gk s0 s9 wr => ∃ (j : Nat) (s : ByteArray), j + gk = 1 ∧ s9 = .int .i64 j ∧ s0 = .string s ∧ s.size ≤ 10 + 30 * j ∧ wr = w)
  case atStart => exact ⟨0, _, rfl, rfl, rfl, by decide, rfl⟩
  case round =>
    obtain ⟨j, s, hj, rfl, rfl, hs, rfl⟩ := hrel
    by_cases hlt : j = 0
    · subst hlt
      have HG : Hid (gk = 1) := by show gk = 1; omega
      have HSZ : Hid (s.size ≤ 10 ∧ X.size ≤ 21) := ⟨hs, hsz⟩
      clear hj hs hsz
      go_wp2_with fail
      refine (hit _).mono ?_
      rintro e w1 ⟨rfl, rfl⟩
      have hs1 : s.size ≤ 10 := HSZ.out.1
      have hs2 : X.size ≤ 21 := HSZ.out.2
      go_wp2_with fail
      go_roundg 0
      case measure => have := HG.out; omega
      case rel => exact ⟨1, _, rfl, by go_num, rfl, by simp [ByteArray.size_append]; have h1 : (⟨#[32]⟩ : ByteArray).size = 1 := rfl; omega, rfl⟩
    · have hj1 : j = 1 := by omega
      subst hj1
      have HSZ : Hid (s.size ≤ 40) := by show s.size ≤ 40; omega
      clear hj hs hsz hlt
      go_wp2_with fail
      go_ret
      exact ⟨_, rfl, by have := HSZ.out; omega, Below.refl _ _⟩
theorem known_0 (w : World) : Calls Tryz.prog 75 #[.int .i64 0] w fun e w' => e = .returned (.bool true) ∧ w' = w := by
  go_enter Tryz.func75, Tryz.ntmps75
  go_wp2_with fail
  go_ret
  exact ⟨rfl, rfl⟩
def ansV : Value := .agg #[.int .i64 4, .int .i64 0, .int .i64 0, .int .i64 0, .int .i64 0, .int .i64 0, .int .i64 0, .int .i64 0, .string ⟨#[]⟩, .slice none 0 0]
set_option maxRecDepth 20000 in
set_option maxHeartbeats 1000000 in
theorem tell_q (w : World) : Calls Tryz.prog 55 #[.int .i64 0, ansV] w fun e w' => ∃ s : ByteArray, e = .returned (.tuple #[.string s, .int .i64 0]) ∧ s.size ≤ 60 ∧ Below w.heap.size w w' := by
  have c1 := fun W => known_0 W
  have c2 := fun b W h => told_q b 1 W h
  unfold ansV
  go_enter Tryz.func55, Tryz.ntmps55
  go_wp2_with fail
  refine (c1 _).mono ?_
  rintro e w1 ⟨rfl, rfl⟩
  go_wp2_with fail
  refine (c2 _ _ (by simp)).mono ?_
  rintro e w2 ⟨s, rfl, hs, hb⟩
  have HE : Hid (s.size ≤ 60 ∧ Below w.heap.size w w2) := ⟨hs, (((Below.refl w.heap.size w).alloc (Nat.le_refl _) _).alloc (by simp) _).trans (hb.mono (by simp; omega))⟩
  clear hs hb c1 c2
  go_wp2_with fail
  go_ret2
  exact ⟨s, rfl, HE.out⟩
set_option maxRecDepth 20000 in
theorem refusal_q (w : World) : Calls Tryz.prog 40 #[.int .i64 4] w (Short w) := by
  have c1 := fun W => tell_q W
  unfold ansV at c1
  go_enter Tryz.func40, Tryz.ntmps40
  go_wp2_with fail
  refine (c1 _).mono ?_
  rintro e w2 ⟨s, rfl, hs, hb⟩
  have HE : Hid (s.size ≤ 60 ∧ Below w.heap.size w w2) := ⟨hs, hb⟩
  clear hs hb c1
  go_wp2_with fail
  go_ret
  exact ⟨s, rfl, HE.out⟩
set_option maxRecDepth 20000 in
set_option maxHeartbeats 1000000 in
theorem answer_q (pv : Value) (w : World) (hv : Vars w) : Calls Tryz.prog 25 #[pv, .string qm] w (Short w) := by
  have c1 := fun W hW => Read_q W hW
  have c2 := fun W => refusal_q W
  have HV : Hid (Vars w) := hv
  have hq2 : ¬ (63 : UInt8) = 0 := by decide
  unfold noRq Rq.val at c1
  unfold qm at c1 ⊢
  clear hv
  go_enter Tryz.func25, Tryz.ntmps25
  go_wp2_with fail
  refine (c1 _ HV.out).mono ?_
  rintro e w1 ⟨rfl, hb1⟩
  have HB1 : Hid (Below w.heap.size w w1) := hb1
  clear hb1
  go_wp2_with fail
  refine (c2 _).mono ?_
  rintro e w2 ⟨s, rfl, hs, hb⟩
  have HE : Hid (s.size ≤ 60 ∧ Below w.heap.size w w2) := by
    refine ⟨hs, ?_⟩
    refine Below.trans ?_ (hb.mono ?_)
    · repeat (first | exact HB1.out | refine Below.alloc ?_ (by have := HB1.out.size; simp; omega) _ | refine Below.setCell ?_ (by have := HB1.out.size; simp; omega) _)
    · have := HB1.out.size; simp; omega
  clear hs hb c1 c2 HB1
  go_wp2_with fail
  go_ret
  exact ⟨s, rfl, HE.out⟩
end Go.Proofs.YtpldaghhledjlaaGreatDoor.H
