/- verbOf, known, verb. -/
import Derived.Test.YtpldaghhledjlaaGreatDoorSpRd
import Derived.Test.YtpldaghhledjlaaGreatDoorSpVars
namespace Go.Proofs.YtpldaghhledjlaaGreatDoor
open Go.RowKit

/-- the number of a first word; 0: none -/
def verbF (s : ByteArray) : Nat := if s = ⟨#[110, 101, 119]⟩ then 1 else if s = ⟨#[115, 101, 116]⟩ then 2 else if s = ⟨#[103, 101, 116]⟩ then 3 else if s = ⟨#[115, 116, 101, 112]⟩ then 4 else if s = ⟨#[99, 111, 117, 110, 116]⟩ then 5 else if s = ⟨#[98, 111, 120]⟩ then 6 else if s = ⟨#[100, 114, 111, 112]⟩ then 7 else if s = ⟨#[99, 111, 112, 121]⟩ then 8 else if s = ⟨#[108, 101, 97, 115, 101]⟩ then 9 else if s = ⟨#[99, 108, 101, 97, 110]⟩ then 10 else 0
theorem verb_at : ∀ k, k < 11 → verbF (verbL.getD k ⟨#[]⟩) = k := by decide
theorem verb_no (s : ByteArray) (h : ∀ j, j < 11 → verbL.getD j ⟨#[]⟩ ≠ s) : verbF s = 0 := by
  have h1 : s ≠ ⟨#[110, 101, 119]⟩ := (h 1 (by omega)).symm
  have h2 : s ≠ ⟨#[115, 101, 116]⟩ := (h 2 (by omega)).symm
  have h3 : s ≠ ⟨#[103, 101, 116]⟩ := (h 3 (by omega)).symm
  have h4 : s ≠ ⟨#[115, 116, 101, 112]⟩ := (h 4 (by omega)).symm
  have h5 : s ≠ ⟨#[99, 111, 117, 110, 116]⟩ := (h 5 (by omega)).symm
  have h6 : s ≠ ⟨#[98, 111, 120]⟩ := (h 6 (by omega)).symm
  have h7 : s ≠ ⟨#[100, 114, 111, 112]⟩ := (h 7 (by omega)).symm
  have h8 : s ≠ ⟨#[99, 111, 112, 121]⟩ := (h 8 (by omega)).symm
  have h9 : s ≠ ⟨#[108, 101, 97, 115, 101]⟩ := (h 9 (by omega)).symm
  have h10 : s ≠ ⟨#[99, 108, 101, 97, 110]⟩ := (h 10 (by omega)).symm
  unfold verbF
  rw [if_neg h1, if_neg h2, if_neg h3, if_neg h4, if_neg h5, if_neg h6, if_neg h7, if_neg h8, if_neg h9, if_neg h10]
abbrev verbV : Value := .agg #[.string ⟨#[]⟩, .string ⟨#[110, 101, 119]⟩, .string ⟨#[115, 101, 116]⟩, .string ⟨#[103, 101, 116]⟩, .string ⟨#[115, 116, 101, 112]⟩, .string ⟨#[99, 111, 117, 110, 116]⟩, .string ⟨#[98, 111, 120]⟩, .string ⟨#[100, 114, 111, 112]⟩, .string ⟨#[99, 111, 112, 121]⟩, .string ⟨#[108, 101, 97, 115, 101]⟩, .string ⟨#[99, 108, 101, 97, 110]⟩]
theorem Tryz.vat0 (w : World) : (Instr.index 225 (.agg #[.string ⟨#[]⟩, .string ⟨#[110, 101, 119]⟩, .string ⟨#[115, 101, 116]⟩, .string ⟨#[103, 101, 116]⟩, .string ⟨#[115, 116, 101, 112]⟩, .string ⟨#[99, 111, 117, 110, 116]⟩, .string ⟨#[98, 111, 120]⟩, .string ⟨#[100, 114, 111, 112]⟩, .string ⟨#[99, 111, 112, 121]⟩, .string ⟨#[108, 101, 97, 115, 101]⟩, .string ⟨#[99, 108, 101, 97, 110]⟩]) (.int .i64 0)).run Tryz.prog w = .ok (.string ⟨#[]⟩) w := by kernel_rfl
theorem Tryz.vat1 (w : World) : (Instr.index 225 (.agg #[.string ⟨#[]⟩, .string ⟨#[110, 101, 119]⟩, .string ⟨#[115, 101, 116]⟩, .string ⟨#[103, 101, 116]⟩, .string ⟨#[115, 116, 101, 112]⟩, .string ⟨#[99, 111, 117, 110, 116]⟩, .string ⟨#[98, 111, 120]⟩, .string ⟨#[100, 114, 111, 112]⟩, .string ⟨#[99, 111, 112, 121]⟩, .string ⟨#[108, 101, 97, 115, 101]⟩, .string ⟨#[99, 108, 101, 97, 110]⟩]) (.int .i64 1)).run Tryz.prog w = .ok (.string ⟨#[110, 101, 119]⟩) w := by kernel_rfl
theorem Tryz.vat2 (w : World) : (Instr.index 225 (.agg #[.string ⟨#[]⟩, .string ⟨#[110, 101, 119]⟩, .string ⟨#[115, 101, 116]⟩, .string ⟨#[103, 101, 116]⟩, .string ⟨#[115, 116, 101, 112]⟩, .string ⟨#[99, 111, 117, 110, 116]⟩, .string ⟨#[98, 111, 120]⟩, .string ⟨#[100, 114, 111, 112]⟩, .string ⟨#[99, 111, 112, 121]⟩, .string ⟨#[108, 101, 97, 115, 101]⟩, .string ⟨#[99, 108, 101, 97, 110]⟩]) (.int .i64 2)).run Tryz.prog w = .ok (.string ⟨#[115, 101, 116]⟩) w := by kernel_rfl
theorem Tryz.vat3 (w : World) : (Instr.index 225 (.agg #[.string ⟨#[]⟩, .string ⟨#[110, 101, 119]⟩, .string ⟨#[115, 101, 116]⟩, .string ⟨#[103, 101, 116]⟩, .string ⟨#[115, 116, 101, 112]⟩, .string ⟨#[99, 111, 117, 110, 116]⟩, .string ⟨#[98, 111, 120]⟩, .string ⟨#[100, 114, 111, 112]⟩, .string ⟨#[99, 111, 112, 121]⟩, .string ⟨#[108, 101, 97, 115, 101]⟩, .string ⟨#[99, 108, 101, 97, 110]⟩]) (.int .i64 3)).run Tryz.prog w = .ok (.string ⟨#[103, 101, 116]⟩) w := by kernel_rfl
theorem Tryz.vat4 (w : World) : (Instr.index 225 (.agg #[.string ⟨#[]⟩, .string ⟨#[110, 101, 119]⟩, .string ⟨#[115, 101, 116]⟩, .string ⟨#[103, 101, 116]⟩, .string ⟨#[115, 116, 101, 112]⟩, .string ⟨#[99, 111, 117, 110, 116]⟩, .string ⟨#[98, 111, 120]⟩, .string ⟨#[100, 114, 111, 112]⟩, .string ⟨#[99, 111, 112, 121]⟩, .string ⟨#[108, 101, 97, 115, 101]⟩, .string ⟨#[99, 108, 101, 97, 110]⟩]) (.int .i64 4)).run Tryz.prog w = .ok (.string ⟨#[115, 116, 101, 112]⟩) w := by kernel_rfl
theorem Tryz.vat5 (w : World) : (Instr.index 225 (.agg #[.string ⟨#[]⟩, .string ⟨#[110, 101, 119]⟩, .string ⟨#[115, 101, 116]⟩, .string ⟨#[103, 101, 116]⟩, .string ⟨#[115, 116, 101, 112]⟩, .string ⟨#[99, 111, 117, 110, 116]⟩, .string ⟨#[98, 111, 120]⟩, .string ⟨#[100, 114, 111, 112]⟩, .string ⟨#[99, 111, 112, 121]⟩, .string ⟨#[108, 101, 97, 115, 101]⟩, .string ⟨#[99, 108, 101, 97, 110]⟩]) (.int .i64 5)).run Tryz.prog w = .ok (.string ⟨#[99, 111, 117, 110, 116]⟩) w := by kernel_rfl
theorem Tryz.vat6 (w : World) : (Instr.index 225 (.agg #[.string ⟨#[]⟩, .string ⟨#[110, 101, 119]⟩, .string ⟨#[115, 101, 116]⟩, .string ⟨#[103, 101, 116]⟩, .string ⟨#[115, 116, 101, 112]⟩, .string ⟨#[99, 111, 117, 110, 116]⟩, .string ⟨#[98, 111, 120]⟩, .string ⟨#[100, 114, 111, 112]⟩, .string ⟨#[99, 111, 112, 121]⟩, .string ⟨#[108, 101, 97, 115, 101]⟩, .string ⟨#[99, 108, 101, 97, 110]⟩]) (.int .i64 6)).run Tryz.prog w = .ok (.string ⟨#[98, 111, 120]⟩) w := by kernel_rfl
theorem Tryz.vat7 (w : World) : (Instr.index 225 (.agg #[.string ⟨#[]⟩, .string ⟨#[110, 101, 119]⟩, .string ⟨#[115, 101, 116]⟩, .string ⟨#[103, 101, 116]⟩, .string ⟨#[115, 116, 101, 112]⟩, .string ⟨#[99, 111, 117, 110, 116]⟩, .string ⟨#[98, 111, 120]⟩, .string ⟨#[100, 114, 111, 112]⟩, .string ⟨#[99, 111, 112, 121]⟩, .string ⟨#[108, 101, 97, 115, 101]⟩, .string ⟨#[99, 108, 101, 97, 110]⟩]) (.int .i64 7)).run Tryz.prog w = .ok (.string ⟨#[100, 114, 111, 112]⟩) w := by kernel_rfl
theorem Tryz.vat8 (w : World) : (Instr.index 225 (.agg #[.string ⟨#[]⟩, .string ⟨#[110, 101, 119]⟩, .string ⟨#[115, 101, 116]⟩, .string ⟨#[103, 101, 116]⟩, .string ⟨#[115, 116, 101, 112]⟩, .string ⟨#[99, 111, 117, 110, 116]⟩, .string ⟨#[98, 111, 120]⟩, .string ⟨#[100, 114, 111, 112]⟩, .string ⟨#[99, 111, 112, 121]⟩, .string ⟨#[108, 101, 97, 115, 101]⟩, .string ⟨#[99, 108, 101, 97, 110]⟩]) (.int .i64 8)).run Tryz.prog w = .ok (.string ⟨#[99, 111, 112, 121]⟩) w := by kernel_rfl
theorem Tryz.vat9 (w : World) : (Instr.index 225 (.agg #[.string ⟨#[]⟩, .string ⟨#[110, 101, 119]⟩, .string ⟨#[115, 101, 116]⟩, .string ⟨#[103, 101, 116]⟩, .string ⟨#[115, 116, 101, 112]⟩, .string ⟨#[99, 111, 117, 110, 116]⟩, .string ⟨#[98, 111, 120]⟩, .string ⟨#[100, 114, 111, 112]⟩, .string ⟨#[99, 111, 112, 121]⟩, .string ⟨#[108, 101, 97, 115, 101]⟩, .string ⟨#[99, 108, 101, 97, 110]⟩]) (.int .i64 9)).run Tryz.prog w = .ok (.string ⟨#[108, 101, 97, 115, 101]⟩) w := by kernel_rfl
theorem Tryz.vat10 (w : World) : (Instr.index 225 (.agg #[.string ⟨#[]⟩, .string ⟨#[110, 101, 119]⟩, .string ⟨#[115, 101, 116]⟩, .string ⟨#[103, 101, 116]⟩, .string ⟨#[115, 116, 101, 112]⟩, .string ⟨#[99, 111, 117, 110, 116]⟩, .string ⟨#[98, 111, 120]⟩, .string ⟨#[100, 114, 111, 112]⟩, .string ⟨#[99, 111, 112, 121]⟩, .string ⟨#[108, 101, 97, 115, 101]⟩, .string ⟨#[99, 108, 101, 97, 110]⟩]) (.int .i64 10)).run Tryz.prog w = .ok (.string ⟨#[99, 108, 101, 97, 110]⟩) w := by kernel_rfl
theorem Tryz.verbAt (k : Nat) (hk : k < 11) (w : World) : (Instr.index 225 (.agg #[.string ⟨#[]⟩, .string ⟨#[110, 101, 119]⟩, .string ⟨#[115, 101, 116]⟩, .string ⟨#[103, 101, 116]⟩, .string ⟨#[115, 116, 101, 112]⟩, .string ⟨#[99, 111, 117, 110, 116]⟩, .string ⟨#[98, 111, 120]⟩, .string ⟨#[100, 114, 111, 112]⟩, .string ⟨#[99, 111, 112, 121]⟩, .string ⟨#[108, 101, 97, 115, 101]⟩, .string ⟨#[99, 108, 101, 97, 110]⟩]) (.int .i64 k)).run Tryz.prog w = .ok (.string (verbL.getD k ⟨#[]⟩)) w := by
  have h : k = 0 ∨ k = 1 ∨ k = 2 ∨ k = 3 ∨ k = 4 ∨ k = 5 ∨ k = 6 ∨ k = 7 ∨ k = 8 ∨ k = 9 ∨ k = 10 := by omega
  rcases h with rfl | rfl | rfl | rfl | rfl | rfl | rfl | rfl | rfl | rfl | rfl
  · exact Tryz.vat0 w
  · exact Tryz.vat1 w
  · exact Tryz.vat2 w
  · exact Tryz.vat3 w
  · exact Tryz.vat4 w
  · exact Tryz.vat5 w
  · exact Tryz.vat6 w
  · exact Tryz.vat7 w
  · exact Tryz.vat8 w
  · exact Tryz.vat9 w
  · exact Tryz.vat10 w

set_option maxRecDepth 20000 in
set_option maxHeartbeats 2000000 in
theorem verbOf_any (s : ByteArray) (w : World) (hv : Vars w) :
    Calls Tryz.prog 120 #[.string s] w fun e w' => e = .returned (.int .i64 (verbF s)) ∧ w' = w := by
  have v := hv.verbs
  have v0 := v 0 (by omega); have v1 := v 1 (by omega); have v2 := v 2 (by omega); have v3 := v 3 (by omega); have v4 := v 4 (by omega); have v5 := v 5 (by omega); have v6 := v 6 (by omega); have v7 := v 7 (by omega); have v8 := v 8 (by omega); have v9 := v 9 (by omega); have v10 := v 10 (by omega)
  simp only [verbL, List.getD_cons_zero, List.getD_cons_succ] at v0 v1 v2 v3 v4 v5 v6 v7 v8 v9 v10
  clear v hv
  go_enter Tryz.func120, Tryz.ntmps120
  go_wp2_with fail
  clear v0 v1 v2 v3 v4 v5 v6 v7 v8 v9 v10
  have hat := fun k hk => Tryz.verbAt k hk w
  go_loop [6] (fun i => ∃ k : Nat, k ≤ 11 ∧ i = .int .i64 k ∧ ∀ j, j < k → verbL.getD j ⟨#[]⟩ ≠ s) (fun i => 11 - (intOf i).toNat)
  case atStart => exact ⟨0, by omega, rfl, fun j hj => absurd hj (by omega)⟩
  case round =>
    obtain ⟨k, hk, rfl, hno⟩ := hrel
    have HN : Hid (∀ j, j < k → verbL.getD j ⟨#[]⟩ ≠ s) := hno
    clear hno
    by_cases hlt : k < 11
    · have hx := hat k hlt
      have hq : (k : Int) < 11 := by omega
      have HV : Hid (verbF (verbL.getD k ⟨#[]⟩) = k) := verb_at k hlt
      obtain ⟨x, hx2⟩ : ∃ x, x = verbL.getD k ⟨#[]⟩ := ⟨_, rfl⟩
      rw [← hx2] at hx
      have HX : Hid (x = verbL.getD k ⟨#[]⟩) := hx2
      clear hx2 hat
      by_cases he : x = s
      · have HF : Hid (verbF s = k) := by show _ = _; rw [← he, HX.out, HV.out]
        subst he
        go_wp2_with fail
        go_ret
        rw [HF.out]
        exact ⟨rfl, rfl⟩
      · have hd : (x.toList == s.toList) = false := by rw [beq_ba]; simpa using he
        have HE : Hid (x ≠ s) := he
        go_wp2_with fail
        go_round
        case rel =>
          refine ⟨k + 1, by omega, by go_num, fun j hj => ?_⟩
          rcases Nat.lt_succ_iff_lt_or_eq.1 hj with h | h
          · exact HN.out j h
          · rw [h, ← HX.out]; exact HE.out
        case measure => have : k < 11 := hlt; show 11 - (intOf (.int .i64 ((k : Int) + 1))).toNat < 11 - (intOf (.int .i64 (k : Int))).toNat; simp [intOf]; omega
    · have hq : ¬ (k : Int) < 11 := by omega
      have HF : Hid (verbF s = 0) := verb_no s fun j hj => HN.out j (by omega)
      go_wp2_with fail
      go_ret
      rw [HF.out]
      exact ⟨rfl, rfl⟩

def Rd.verb (r : Rd) : Nat × Rd := (verbF r.word.1, r.word.2.need (verbF r.word.1 != 0) 4)
set_option maxRecDepth 20000 in
set_option maxHeartbeats 1000000 in
theorem verb_any (b : Nat) (r : Rd) (w : World) (h : RdAt w b r) (hv : Vars w) (hb : 9 ≤ b) :
    Calls Tryz.prog 80 #[.pointer (some ⟨b, 0, none⟩)] w fun e w' => e = .returned (.int .i64 r.verb.1) ∧ RdAt w' b r.verb.2 ∧ Only b w w' := by
  have c1 := word_any b r w h
  have HV : Hid (Vars w) := hv
  unfold Rd.verb
  generalize r.word = p at *
  obtain ⟨x, r1⟩ := p
  simp only at c1 ⊢
  have c2 : ∀ W, Vars W → Calls Tryz.prog 120 #[.string x] W fun e w' => e = .returned (.int .i64 (verbF x)) ∧ w' = W := fun W hW => verbOf_any x W hW
  have c3 := fun ok W hW => need_any b r1 ok 4 W hW
  generalize verbF x = n at *
  clear hv h
  by_cases hn : n = 0
  · subst hn
    go_enter Tryz.func80, Tryz.ntmps80
    go_wp2_with (first | (go_at_call 121; refine c1.mono ?_; rintro e w1 ⟨rfl, hr1, ho1⟩) | (go_at_call 120; refine (c2 _ (HV.out.only ho1 hb)).mono ?_; rintro e w2 ⟨rfl, hw⟩; have hw2 := hw.symm; subst hw2; clear hw) | (go_at_call 86; refine (c3 false _ hr1).mono ?_; rintro e w3 ⟨rfl, hr3, ho3⟩))
    go_ret
    exact ⟨rfl, hr3, ho1.trans ho3⟩
  · have hi : (n : Int) ≠ 0 := by omega
    have hi2 : ((n : Int) == 0) = false := by simpa using hi
    have hn2 : (n != 0) = true := by simpa using hn
    have hi3 : ((n : Int) != 0) = true := by simpa using hi
    rw [hn2]
    go_enter Tryz.func80, Tryz.ntmps80
    go_wp2_with (first | (go_at_call 121; refine c1.mono ?_; rintro e w1 ⟨rfl, hr1, ho1⟩) | (go_at_call 120; refine (c2 _ (HV.out.only ho1 hb)).mono ?_; rintro e w2 ⟨rfl, hw⟩; have hw2 := hw.symm; subst hw2; clear hw) | (go_at_call 86; refine (c3 true _ hr1).mono ?_; rintro e w3 ⟨rfl, hr3, ho3⟩))
    go_ret
    exact ⟨rfl, hr3, ho1.trans ho3⟩
end Go.Proofs.YtpldaghhledjlaaGreatDoor
