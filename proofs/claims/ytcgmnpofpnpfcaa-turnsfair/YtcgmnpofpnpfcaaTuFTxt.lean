/- TurnsFair: the texts, and what Push makes of them. -/
import Derived.Test.YtcgmnpofpnpfcaaTuFStart
namespace Go.Proofs.Ytcgmnpofpnpfcaa
open Go.RowKit

theorem conv_a (k : Nat) (hk : k < 6) (w : World) : (convert 21 9 (.int .i32 (48 + (k : Int)))).run Try.prog w = .ok (.string ⟨#[UInt8.ofNat (48 + k)]⟩) w := by
  rcases (by omega : k = 0 ∨ k = 1 ∨ k = 2 ∨ k = 3 ∨ k = 4 ∨ k = 5) with rfl | rfl | rfl | rfl | rfl | rfl <;> kernel_rfl
theorem conv_b (r : Nat) (hr : r < 26) (w : World) : (convert 21 9 (.int .i32 (65 + (r : Int)))).run Try.prog w = .ok (.string ⟨#[UInt8.ofNat (65 + r)]⟩) w := by
  rcases (by omega : r = 0 ∨ r = 1 ∨ r = 2 ∨ r = 3 ∨ r = 4 ∨ r = 5 ∨ r = 6 ∨ r = 7 ∨ r = 8 ∨ r = 9 ∨ r = 10 ∨ r = 11 ∨ r = 12 ∨ r = 13 ∨ r = 14 ∨ r = 15 ∨ r = 16 ∨ r = 17 ∨ r = 18 ∨ r = 19 ∨ r = 20 ∨ r = 21 ∨ r = 22 ∨ r = 23 ∨ r = 24 ∨ r = 25) with rfl | rfl | rfl | rfl | rfl | rfl | rfl | rfl | rfl | rfl | rfl | rfl | rfl | rfl | rfl | rfl | rfl | rfl | rfl | rfl | rfl | rfl | rfl | rfl | rfl | rfl <;> kernel_rfl
/-- the two texts of one byte of which a text is made -/
theorem txt_parts (k q : Nat) (hk : k < 6) : ∃ (c1 c2 : ByteArray) (r : Nat), r < 26 ∧ (q : Int).tmod 26 = (r : Int) ∧ c1.size ≤ 1 ∧ c2.size ≤ 1 ∧ (∀ w, (convert 21 9 (.int .i32 (48 + (k : Int)))).run Try.prog w = .ok (.string c1) w) ∧ (∀ w, (convert 21 9 (.int .i32 (65 + (r : Int)))).run Try.prog w = .ok (.string c2) w) ∧ (⟨#[109]⟩ : ByteArray) ++ c1 ++ c2 = txt k q := by
  refine ⟨⟨#[UInt8.ofNat (48 + k)]⟩, ⟨#[UInt8.ofNat (65 + q % 26)]⟩, q % 26, Nat.mod_lt _ (by omega), ?_, Nat.le_refl _, Nat.le_refl _, conv_a k hk, conv_b _ (Nat.mod_lt _ (by omega)), ?_⟩
  · rw [Int.tmod_eq_emod_of_nonneg (by omega)]
    omega
  · apply ByteArray.ext
    simp [txt]
theorem cat_run (x y : ByteArray) (h : x.size + y.size ≤ 9223372036854775807) (w : World) : (binOp .add 9 (.string x) (.string y)).run Try.prog w = .ok (.string (x ++ y)) w := by
  simp [go_sem, h]
theorem quiet_bin {P : Program} {o : Oper} {a : Act} {C : World → Prop} {K : Act → Prop} (ty ty2 : TypeId) (x y : Operand) (h : o.op = .binOp .add ty x y ty2) (u1 u2 v : Value) (e1 : a.eval x = u1) (e2 : a.eval y = u2) (hr : ∀ w, (binOp .add ty u1 u2).run P w = .ok v w) (hk : K (a.put o.dst v)) : o.quiet P a C K :=
  ⟨v, fun w _ => by
    unfold Oper.quietAt
    have : (execOp a.eval o).run P w = .ok (.value v) w := by
      unfold execOp
      simp only [h]
      rw [e1, e2]
      simp [hr, eqGuard]
    rw [this]
    exact ⟨rfl, rfl⟩, hk⟩
theorem txt_size (k q : Nat) : (txt k q).size = 3 := rfl
variable {T : Tu} {F : Nat → Option (List Nat)} {S G : Nat} {us : List Value} {sent got : List Nat} {ss : Nat → List Nat} {j : Nat}
theorem Fv.pushes (h : Fv T F S G us sent got ss j) (k : Nat) (hk : k < T.n) : T.push k (txt k (gd sent k)) = if 8 ≤ gd sent k - gd got k then (5, T) else (0, ⟨T.n, T.next, T.rows.set k (txts k (gd got k) (gd sent k) ++ [txt k (gd sent k)])⟩) := by
  unfold Tu.push
  have hk' : (0 : Int) ≤ (k : Int) ∧ (k : Int) < (T.n : Int) := by omega
  rw [if_pos hk', Int.toNat_natCast, List.getD_eq_getElem?_getD, h.row k hk]
  show (if 8 ≤ (txts k (gd got k) (gd sent k)).length then _ else _) = _
  rw [txts_len]
  rfl
end Go.Proofs.Ytcgmnpofpnpfcaa
