/- Push, of all arguments. -/
import Derived.Test.YtpldaghhledjlaaGreatDoorTuPush
namespace Go.Proofs.YtpldaghhledjlaaGreatDoor
open Go.RowKit

/-- what Push answers, and what it leaves -/
def Tu.push (T : Tu) (t : Int) (s : ByteArray) : Int × Tu :=
  if 0 ≤ t ∧ t < T.n then
    if 8 ≤ (T.rows.getD t.toNat []).length then (5, T) else (0, ⟨T.n, T.next, T.rows.set t.toNat (T.rows.getD t.toNat [] ++ [s])⟩)
  else (3, T)
theorem Push_any (B b R : Nat) (vs : List Value) (T : Tu) (t : Int) (s : ByteArray) (w : World) (h : TuAt w B b R vs T) (hs : s.size ≤ 281474976710656) (hB : B ≤ w.heap.size) :
    Calls Tryz.prog 34 #[.pointer (some ⟨b, 0, none⟩), .int .i64 t, .string s] w fun e w' => e = .returned (.int .i64 (T.push t s).1) ∧ ∃ vs', TuAt w' B b R vs' (T.push t s).2 ∧ OnlyF (TuOwn b R vs) w w' ∧ ∀ q, TuOwn b R vs' q → TuOwn b R vs q ∨ w.heap.size ≤ q := by
  obtain ⟨c0, -, -⟩ := h.cells
  have hh := has_any b R T.n t w c0 h.le
  by_cases h1 : 0 ≤ t ∧ t < T.n
  · rw [decide_eq_true h1] at hh
    obtain ⟨k, rfl⟩ : ∃ k : Nat, t = k := ⟨t.toNat, by omega⟩
    obtain ⟨v, r, hv, hr, hc, hf, hrow⟩ := h.cell k (by omega)
    have e : T.rows.getD (k : Int).toNat [] = r := by rw [Int.toNat_natCast, List.getD_eq_getElem?_getD, hr]; rfl
    by_cases h8 : 8 ≤ r.length
    · have ep : T.push k s = (5, T) := by unfold Tu.push; rw [if_pos h1, e, if_pos h8]
      rw [ep]
      obtain ⟨a, c, rfl, hl1, hl2⟩ := hrow.slice
      have HT : Hid (TuAt w B b R vs T) := h
      have hi1 : (0 : Int) ≤ k := by omega
      have hi2 : (k : Int) < (T.n : Int) := h1.2
      have h8' : (8 : Int) ≤ (r.length : Int) := by omega
      clear h hv hr hrow hf e ep h1
      go_enter Tryz.func34, Tryz.ntmps34
      go_wp2_with fail
      refine hh.mono ?_
      rintro e w' ⟨rfl, rfl⟩
      go_wp2_with fail
      go_ret
      exact ⟨rfl, vs, HT.out, OnlyF.refl _ _, fun q hq => .inl hq⟩
    · have ep : T.push k s = (0, ⟨T.n, T.next, T.rows.set k (r ++ [s])⟩) := by unfold Tu.push; rw [if_pos h1, e, if_neg h8, Int.toNat_natCast]
      rw [ep]
      exact push_ok B b R vs T k v r s w h (by omega) hv hr (by omega) hs hB
  · rw [decide_eq_false h1] at hh
    have ep : T.push t s = (3, T) := by unfold Tu.push; rw [if_neg h1]
    rw [ep]
    have HT : Hid (TuAt w B b R vs T) := h
    clear h ep
    go_enter Tryz.func34, Tryz.ntmps34
    go_wp2_with fail
    refine hh.mono ?_
    rintro e w' ⟨rfl, rfl⟩
    go_wp2_with fail
    go_ret
    exact ⟨rfl, vs, HT.out, OnlyF.refl _ _, fun q hq => .inl hq⟩
end Go.Proofs.YtpldaghhledjlaaGreatDoor
