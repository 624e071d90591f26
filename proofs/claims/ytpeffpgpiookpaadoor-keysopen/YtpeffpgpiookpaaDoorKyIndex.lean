/- The predicates of keys, slices.IndexFunc at keys. -/
import Derived.Test.YtpeffpgpiookpaaDoorKyRow
import Derived.Shelf.SlicesQ.IndexFunc
namespace Go.Proofs.YtpeffpgpiookpaaDoor
open Go.RowKit

theorem predText_any (t : ByteArray) (B : Nat) (x : Ky) (W : World) (hc : W.cell? ⟨B, 0, none⟩ = some (.string t)) (hB : B < W.heap.size) :
    Calls Tryd.prog 21 (#[x.val] ++ #[.pointer (some ⟨B, 0, none⟩)]) W fun e w' => e = .returned (.bool (decide (x.text = t))) ∧ Below W.heap.size W w' := by
  obtain ⟨tx, nm, rt⟩ := x
  show Calls _ _ #[.agg #[.string tx, .string nm, .int .i64 rt], .pointer (some ⟨B, 0, none⟩)] W _
  have hne : B ≠ W.heap.size := by omega
  have hbq := beq_ba tx t
  go_enter Tryd.func21, Tryd.ntmps21
  go_wp2_with fail
  go_ret
  exact ⟨by simp, (Below.refl _ _).alloc (Nat.le_refl _) _⟩

theorem predName_any (t : ByteArray) (B : Nat) (x : Ky) (W : World) (hc : W.cell? ⟨B, 0, none⟩ = some (.string t)) (hB : B < W.heap.size) :
    Calls Tryd.prog 26 (#[x.val] ++ #[.pointer (some ⟨B, 0, none⟩)]) W fun e w' => e = .returned (.bool (decide (x.name = t))) ∧ Below W.heap.size W w' := by
  obtain ⟨tx, nm, rt⟩ := x
  show Calls _ _ #[.agg #[.string tx, .string nm, .int .i64 rt], .pointer (some ⟨B, 0, none⟩)] W _
  have hne : B ≠ W.heap.size := by omega
  have hbq := beq_ba nm t
  go_enter Tryd.func26, Tryd.ntmps26
  go_wp2_with fail
  go_ret
  exact ⟨by simp, (Below.refl _ _).alloc (Nat.le_refl _) _⟩

/-- where the first one lies of which p holds, or -1 -/
def idxP (p : Ky → Bool) (ks : List Ky) : Int :=
  match ks.findIdx? p with
  | some i => (i : Int)
  | none => -1
theorem idxP_hit {p : Ky → Bool} {ks : List Ky} {j : Nat} {x : Ky} (hx : ks[j]? = some x) (hp : p x = true) (hl : ∀ i y, i < j → ks[i]? = some y → p y = false) : idxP p ks = j := by
  unfold idxP
  have : ks.findIdx? p = some j := by
    obtain ⟨h1, h2⟩ := List.getElem?_eq_some_iff.1 hx
    rw [List.findIdx?_eq_some_iff_getElem]
    refine ⟨h1, by rw [h2]; exact hp, fun i hi => ?_⟩
    rw [hl i _ hi (List.getElem?_eq_getElem (by omega))]
    simp
  rw [this]
theorem idxP_miss {p : Ky → Bool} {ks : List Ky} (hl : ∀ (i : Nat) y, ks[i]? = some y → p y = false) : idxP p ks = -1 := by
  unfold idxP
  have : ks.findIdx? p = none := by
    rw [List.findIdx?_eq_none_iff]
    intro x hx
    obtain ⟨i, hi⟩ := List.mem_iff_getElem?.1 hx
    exact hl i x hi
  rw [this]

set_option maxRecDepth 20000 in
set_option maxHeartbeats 1000000 in
theorem indexFunc_any (g : Nat) (lb : Array Value) (eg : ∀ args w, (callFunc g args).run Tryd.prog w = .ok (.enter g args) w) (p : Ky → Bool) (v : Value) (ks : List Ky) (w : World) (h : HK w v ks)
    (hp : ∀ (W : World) (x : Ky), Below w.heap.size w W → Calls Tryd.prog g (#[x.val] ++ lb) W fun e w' => e = .returned (.bool (p x)) ∧ Below w.heap.size w w') :
    Calls Tryd.prog 20 #[v, .func (.func g) #[] lb] w fun e w' => e = .returned (.int .i64 (idxP p ks)) ∧ Below w.heap.size w w' := by
  obtain ⟨pp, cap, rfl, hcap, hcm, -, hrow⟩ := h
  obtain ⟨n, hn⟩ : ∃ n, n = ks.length := ⟨_, rfl⟩
  rw [← hn] at hcap hrow ⊢
  have HROW : Hid (n = 0 ∨ ∃ b off, pp = some ⟨b, off, none⟩ ∧ b < w.heap.size ∧ ∀ k x, ks[k]? = some x → KAt w b (off + k * 3) x) := hrow
  have HN : Hid (n = ks.length) := hn
  have HP : Hid (∀ (W : World) (x : Ky), Below w.heap.size w W → Calls Tryd.prog g (#[x.val] ++ lb) W fun e w' => e = .returned (.bool (p x)) ∧ Below w.heap.size w w') := hp
  clear hrow hn hp
  go_enter Tryd.func20, Tryd.ntmps20
  go_wp2_with fail
  go_loopg [5, 8] n (fun gk _ s8 wr => ∃ j : Nat, j + gk = n ∧ s8 = .int .i64 j ∧ Below w.heap.size w wr ∧ (∀ i y, i < j → ks[i]? = some y → p y = false))
  case atStart => exact ⟨0, by omega, rfl, Below.refl _ _, fun i y hi => absurd hi (by omega)⟩
  case round =>
    obtain ⟨j, hj, rfl, hbr, hall⟩ := hrel
    have HJ : Hid (j + gk = n) := hj
    have HA : Hid (∀ i y, i < j → ks[i]? = some y → p y = false) := hall
    have HBR : Hid (Below w.heap.size w wr) := hbr
    have hjn : j ≤ n := by omega
    clear hj hall
    by_cases hlt : j < n
    · obtain ⟨b, off, rfl, hbl, hc⟩ : ∃ b off, pp = some ⟨b, off, none⟩ ∧ b < w.heap.size ∧ ∀ k x, ks[k]? = some x → KAt w b (off + k * 3) x := by
        rcases HROW.out with h | h
        · omega
        · exact h
      have hjk : j < ks.length := by have := HN.out; omega
      obtain ⟨x, hx⟩ : ∃ x, x = ks[j] := ⟨_, rfl⟩
      have hxg : ks[j]? = some x := by rw [hx]; exact List.getElem?_eq_getElem hjk
      obtain ⟨c0, c1, c2⟩ := (hc j x hxg).keep (hbr.block b hbl)
      have cc := HP.out wr x hbr
      have HX : Hid (ks[j]? = some x) := hxg
      clear hc hxg hx hbr
      have HPX : Hid (∀ b, p x = b → p x = b) := fun _ h => h
      cases hq : p x with
      | true =>
        rw [hq] at cc
        have HQ : Hid (p x = true) := hq
        clear hq
        obtain ⟨tx, nm, rt⟩ := x
        simp only at c0 c1 c2
        simp only [Ky.val] at cc
        have hi1 : (0 : Int) ≤ (j : Int) := by omega
        have hi2 : (j : Int) < (n : Int) := by omega
        go_wp2_with (go_at_fn g; refine cc.mono ?_; rintro e w2 ⟨rfl, hb2⟩)
        go_ret
        exact ⟨by rw [idxP_hit HX.out HQ.out HA.out]; rfl, hb2⟩
      | false =>
        rw [hq] at cc
        have HQ : Hid (p x = false) := hq
        clear hq
        obtain ⟨tx, nm, rt⟩ := x
        simp only at c0 c1 c2
        simp only [Ky.val] at cc
        have hi1 : (0 : Int) ≤ (j : Int) := by omega
        have hi2 : (j : Int) < (n : Int) := by omega
        go_wp2_with (go_at_fn g; refine cc.mono ?_; rintro e w2 ⟨rfl, hb2⟩)
        go_roundg (gk - 1)
        case measure => have := HJ.out; omega
        case rel =>
          have h1 := HJ.out
          refine ⟨j + 1, by omega, by go_num, hb2, fun i y hi hy => ?_⟩
          rcases Nat.lt_succ_iff_lt_or_eq.1 hi with h | h
          · exact HA.out i y h hy
          · subst h
            rw [HX.out] at hy
            cases hy
            exact HQ.out
    · have hq : ¬ (j : Int) < (n : Int) := by omega
      have HE : Hid (j = n) := by show j = n; omega
      go_wp2_with fail
      go_ret
      refine ⟨?_, HBR.out⟩
      rw [idxP_miss fun i y hy => HA.out i y (by have := (List.getElem?_eq_some_iff.1 hy).1; have := HE.out; have := HN.out; omega) hy]
      rfl
end Go.Proofs.YtpeffpgpiookpaaDoor
