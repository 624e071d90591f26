/- The document's FindKey. -/
import Derived.Test.YtpeffpgpiookpaaKyFind
namespace Go.Proofs.Ytpeffpgpiookpaa
open Go.RowKit

theorem wrap_bv (z : BitVec 64) : IntKind.i64.wrap (z.toNat : Int) = z.toInt := by
  rw [IntKind.wrap_i64, BitVec.toInt_eq_toNat_cond]
  have := z.isLt
  split <;> omega
/-- that a right is lacking, said by 'or' -/
theorem lacks_or (a b : Int) (ha0 : -9223372036854775808 ≤ a) (ha1 : a ≤ 9223372036854775807) (hb0 : -9223372036854775808 ≤ b) (hb1 : b ≤ 9223372036854775807) : (bits BinOp.or IntKind.i64 a b != a) = lacks a b := by
  unfold lacks
  have e1 : (BitVec.ofInt 64 a).toInt = a := by rw [BitVec.toInt_ofInt, Int.bmod_def]; omega
  have e2 : (BitVec.ofInt 64 b).toInt = b := by rw [BitVec.toInt_ofInt, Int.bmod_def]; omega
  generalize hx : BitVec.ofInt 64 a = x at *
  generalize hy : BitVec.ofInt 64 b = y at *
  have h1 : bits BinOp.or IntKind.i64 a b = (x ||| y).toInt := by simp only [bits, IntKind.bits]; rw [hx, hy]; exact wrap_bv _
  have h2 : bits BinOp.and IntKind.i64 a b = (x &&& y).toInt := by simp only [bits, IntKind.bits]; rw [hx, hy]; exact wrap_bv _
  rw [h1, h2, ← e1, ← e2]
  have key : (x ||| y = x) ↔ (x &&& y = y) := by
    constructor
    · intro h
      apply BitVec.eq_of_getLsbD_eq
      intro i hi
      have := congrArg (fun z => z.getLsbD i) h
      simp only [BitVec.getLsbD_or, BitVec.getLsbD_and] at this ⊢
      revert this
      cases x.getLsbD i <;> cases y.getLsbD i <;> decide
    · intro h
      apply BitVec.eq_of_getLsbD_eq
      intro i hi
      have := congrArg (fun z => z.getLsbD i) h
      simp only [BitVec.getLsbD_or, BitVec.getLsbD_and] at this ⊢
      revert this
      cases x.getLsbD i <;> cases y.getLsbD i <;> decide
  by_cases h : x ||| y = x
  · rw [h, key.1 h]; simp
  · have h3 : x &&& y ≠ y := fun e => h (key.2 e)
    have h4 : (x ||| y).toInt ≠ x.toInt := fun e => h (BitVec.eq_of_toInt_eq e)
    have h5 : (x &&& y).toInt ≠ y.toInt := fun e => h3 (BitVec.eq_of_toInt_eq e)
    rw [bne_iff_ne.2 h4, bne_iff_ne.2 h5]

def Fits64 (x : Int) : Prop := -9223372036854775808 ≤ x ∧ x ≤ 9223372036854775807
theorem find_none_take {p : Ky → Bool} {ks : List Ky} (h : ∀ (i : Nat) y, ks[i]? = some y → p y = false) : ks.find? p = none := by
  rw [List.find?_eq_none]
  intro x hx
  obtain ⟨i, hi⟩ := List.mem_iff_getElem?.1 hx
  rw [h i x hi]
  simp
theorem find_hit {p : Ky → Bool} {ks : List Ky} {j : Nat} {x : Ky} (hx : ks[j]? = some x) (hp : p x = true) (hl : ∀ (i : Nat) y, i < j → ks[i]? = some y → p y = false) : ks.find? p = some x := by
  induction ks generalizing j with
  | nil => simp at hx
  | cons a r ih =>
    cases j with
    | zero => simp at hx; subst hx; rw [List.find?_cons, hp]
    | succ j =>
      rw [List.find?_cons, hl 0 a (by omega) rfl]
      exact ih (by simpa using hx) (fun i y hi hy => hl (i + 1) y (by omega) (by simpa using hy))

set_option maxRecDepth 20000 in
set_option maxHeartbeats 1000000 in
theorem refFind_any (serial : Int) (v : Value) (ks : List Ky) (text : ByteArray) (rights : Int) (w : World) (h : HK w v ks) (hr : Fits64 rights) (hrs : ∀ k ∈ ks, Fits64 k.rights) :
    Calls Try.prog 7 #[.agg #[.int .i64 serial, v], .string text, .int .i64 rights] w fun e w' => e = .returned (.tuple #[.string (findF ks text rights).1, .int .i64 (findF ks text rights).2]) ∧ Below w.heap.size w w' := by
  have t0 := T2.born w serial v 24
  have hb0 : Below w.heap.size w (w.alloc (.cells #[.int .i64 serial, v] 24)) := (Below.refl _ _).alloc (Nat.le_refl _) _
  have h0 := h.below hb0
  generalize hw0 : w.alloc (.cells #[.int .i64 serial, v] 24) = w0 at *
  obtain ⟨u1, u2, -, -, -⟩ := t0
  obtain ⟨p, cap, rfl, hcap, hcm, -, hrow⟩ := h0
  obtain ⟨n, hn⟩ : ∃ n, n = ks.length := ⟨_, rfl⟩
  rw [← hn] at hcap hrow u2 hw0 ⊢
  have HROW : Hid (n = 0 ∨ ∃ b off, p = some ⟨b, off, none⟩ ∧ b < w0.heap.size ∧ ∀ k x, ks[k]? = some x → KAt w0 b (off + k * 3) x) := hrow
  have HN : Hid (n = ks.length) := hn
  have HB0 : Hid (Below w.heap.size w w0) := hb0
  have HRS : Hid (Fits64 rights ∧ ∀ k ∈ ks, Fits64 k.rights) := ⟨hr, hrs⟩
  have HF : Hid (∀ k, ks.find? (fun k => decide (k.text = text)) = some k → findF ks text rights = if lacks k.rights rights = true then (⟨#[]⟩, 10) else (k.name, 0)) := fun k hk => by unfold findF; rw [hk]
  have HF0 : Hid (ks.find? (fun k => decide (k.text = text)) = none → findF ks text rights = (⟨#[]⟩, 6)) := fun hk => by unfold findF; rw [hk]
  generalize findF ks text rights = R at *
  clear h hrow hn hb0 hr hrs
  go_enter Try.func7, Try.ntmps7
  go_wp2_with fail
  clear hw0 u1 u2
  go_loopg [9, 13] n (fun gk _ s13 wr => ∃ j : Nat, j + gk = n ∧ s13 = .int .i64 j ∧ Below w0.heap.size w0 wr ∧ (∀ i y, i < j → ks[i]? = some y → decide (y.text = text) = false))
  case atStart => exact ⟨0, by omega, rfl, Below.refl _ _, fun i y hi => absurd hi (by omega)⟩
  case round =>
    obtain ⟨j, hj, rfl, hbr, hall⟩ := hrel
    have HJ : Hid (j + gk = n) := hj
    have HA : Hid (∀ i y, i < j → ks[i]? = some y → decide (y.text = text) = false) := hall
    have HBR : Hid (Below w.heap.size w wr) := HB0.out.trans (hbr.mono HB0.out.size)
    have HBR0 : Hid (Below w0.heap.size w0 wr) := hbr
    have hjn : j ≤ n := by omega
    clear hj hall
    by_cases hlt : j < n
    · obtain ⟨b, off, rfl, hbl, hc⟩ : ∃ b off, p = some ⟨b, off, none⟩ ∧ b < w0.heap.size ∧ ∀ k x, ks[k]? = some x → KAt w0 b (off + k * 3) x := by
        rcases HROW.out with h | h
        · omega
        · exact h
      have hjk : j < ks.length := by have := HN.out; omega
      obtain ⟨x, hx⟩ : ∃ x, x = ks[j] := ⟨_, rfl⟩
      have hxg : ks[j]? = some x := by rw [hx]; exact List.getElem?_eq_getElem hjk
      obtain ⟨c0, c1, c2⟩ := (hc j x hxg).keep (hbr.block b hbl)
      have HX : Hid (ks[j]? = some x) := hxg
      have hlk : (bits BinOp.or IntKind.i64 x.rights rights != x.rights) = lacks x.rights rights := by
        have h1 := HRS.out
        have h2 := h1.2 x (List.mem_of_getElem? hxg)
        exact lacks_or _ _ h2.1 h2.2 h1.1.1 h1.1.2
      clear hc hxg hx hbr
      have hi1 : (0 : Int) ≤ (j : Int) := by omega
      have hi2 : (j : Int) < (n : Int) := by omega
      obtain ⟨tx, nm, rt⟩ := x
      simp only at c0 c1 c2 hlk
      have hbq := beq_ba tx text
      by_cases ht : tx = text
      · have HT : Hid (R = if lacks rt rights = true then (⟨#[]⟩, 10) else (nm, 0)) := by
          have h1 := find_hit (p := fun k => decide (k.text = text)) HX.out (decide_eq_true ht) HA.out
          have h2 := HF.out _ h1
          exact h2
        rw [decide_eq_true ht] at hbq
        clear ht
        by_cases hl : lacks rt rights = true
        · rw [hl] at hlk
          have HRR : Hid (R = (⟨#[]⟩, 10)) := by show _ = _; rw [HT.out, if_pos hl]
          clear hl
          go_wp2_with fail
          go_ret2
          rw [HRR.out]
          exact ⟨rfl, HBR.out.alloc HBR.out.size _⟩
        · rw [show lacks rt rights = false by simpa using hl] at hlk
          have HRR : Hid (R = (nm, 0)) := by show _ = _; rw [HT.out, if_neg hl]
          clear hl
          go_wp2_with fail
          go_ret2
          rw [HRR.out]
          exact ⟨rfl, HBR.out.alloc HBR.out.size _⟩
      · have HT : Hid (decide (tx = text) = false) := decide_eq_false ht
        rw [decide_eq_false ht] at hbq
        clear ht hlk
        go_wp2_with fail
        go_roundg (gk - 1)
        case measure => have := HJ.out; omega
        case rel =>
          have h1 := HJ.out
          refine ⟨j + 1, by omega, by go_num, HBR0.out.alloc HBR0.out.size _, fun i y hi hy => ?_⟩
          rcases Nat.lt_succ_iff_lt_or_eq.1 hi with h | h
          · exact HA.out i y h hy
          · subst h
            rw [HX.out] at hy
            cases hy
            exact HT.out
    · have hq : ¬ (j : Int) < (n : Int) := by omega
      have HE : Hid (j = n) := by show j = n; omega
      go_wp2_with fail
      go_ret2
      refine ⟨?_, HBR.out⟩
      rw [HF0.out (find_none_take fun i y hy => HA.out i y (by have := (List.getElem?_eq_some_iff.1 hy).1; have := HE.out; have := HN.out; omega) hy)]
      rfl
end Go.Proofs.Ytpeffpgpiookpaa
