/- slices.DeleteFunc at keys. -/
import Derived.Test.YtpeffpgpiookpaaDoorKyDel1
namespace Go.Proofs.YtpeffpgpiookpaaDoor
open Go.RowKit

/-- what is left of the first j keys -/
def leftOf (p : Ky → Bool) (ks : List Ky) : List Ky := ks.filter fun k => !p k
theorem leftOf_step {p : Ky → Bool} {ks : List Ky} {j : Nat} {x : Ky} (hx : ks[j]? = some x) : leftOf p (ks.take (j + 1)) = leftOf p (ks.take j) ++ (if p x = true then [] else [x]) := by
  obtain ⟨h1, h2⟩ := List.getElem?_eq_some_iff.1 hx
  unfold leftOf
  rw [List.take_succ_eq_append_getElem h1, List.filter_append, h2]
  congr 1
  cases h : p x <;> simp [h]
theorem leftOf_none {p : Ky → Bool} {ks : List Ky} (h : ∀ (i : Nat) y, ks[i]? = some y → p y = false) : leftOf p ks = ks := by
  unfold leftOf
  rw [List.filter_eq_self]
  intro x hx
  obtain ⟨i, hi⟩ := List.mem_iff_getElem?.1 hx
  rw [h i x hi]
  rfl
theorem idx_left {p : Ky → Bool} (ks : List Ky) : (idxP p ks = -1 ∧ leftOf p ks = ks) ∨ ∃ (j : Nat), idxP p ks = (j : Int) ∧ j < ks.length ∧ leftOf p (ks.take (j + 1)) = ks.take j := by
  by_cases h : ∃ j, ks.findIdx? p = some j
  · obtain ⟨j, hj⟩ := h
    right
    obtain ⟨h1, h2, h3⟩ := List.findIdx?_eq_some_iff_getElem.1 hj
    refine ⟨j, by unfold idxP; rw [hj], h1, ?_⟩
    rw [leftOf_step (List.getElem?_eq_getElem h1), if_pos h2, List.append_nil]
    refine leftOf_none fun i y hy => ?_
    rw [List.getElem?_take] at hy
    by_cases hi : i < j
    · rw [if_pos hi, List.getElem?_eq_getElem (by omega)] at hy
      have := h3 i hi
      cases hy
      simpa using this
    · rw [if_neg hi] at hy; cases hy
  · left
    have hn : ks.findIdx? p = none := by
      cases hf : ks.findIdx? p with
      | none => rfl
      | some j => exact absurd ⟨j, hf⟩ h
    refine ⟨by unfold idxP; rw [hn], leftOf_none fun i y hy => ?_⟩
    rw [List.findIdx?_eq_none_iff] at hn
    exact hn y (List.mem_of_getElem? hy)
theorem leftOf_le (p : Ky → Bool) (ks : List Ky) : (leftOf p ks).length ≤ ks.length := List.length_filter_le _ _

/-- how far the row is written: i of what is left of the first j, the rest as it was -/
structure Del (p : Ky → Bool) (ks : List Ky) (i j : Nat) (d : List Ky) : Prop where
  lt : i < j
  le : j ≤ ks.length
  len : d.length = ks.length
  low : d.take i = leftOf p (ks.take j)
  high : d.drop j = ks.drop j
theorem Del.get {p : Ky → Bool} {ks d : List Ky} {i j : Nat} (h : Del p ks i j d) (hj : j < ks.length) : d[j]? = some ks[j] := by
  have := congrArg (fun l => l[0]?) h.high
  simp only [List.getElem?_drop, Nat.add_zero] at this
  rw [this, List.getElem?_eq_getElem hj]
theorem Del.skip {p : Ky → Bool} {ks d : List Ky} {i j : Nat} (h : Del p ks i j d) (hj : j < ks.length) (hp : p ks[j] = true) : Del p ks i (j + 1) d where
  lt := by have := h.lt; omega
  le := hj
  len := h.len
  low := by rw [leftOf_step (List.getElem?_eq_getElem hj), if_pos hp, List.append_nil]; exact h.low
  high := by
    have := congrArg (List.drop 1) h.high
    simpa [List.drop_drop] using this
theorem Del.keep {p : Ky → Bool} {ks d : List Ky} {i j : Nat} (h : Del p ks i j d) (hj : j < ks.length) (hp : p ks[j] = false) : Del p ks (i + 1) (j + 1) (d.set i ks[j]) where
  lt := by have := h.lt; omega
  le := hj
  len := by rw [List.length_set]; exact h.len
  low := by
    rw [leftOf_step (List.getElem?_eq_getElem hj), hp, if_neg (by simp), ← h.low]
    have hi : i < d.length := by have := h.lt; have := h.len; omega
    rw [List.take_succ_eq_append_getElem (by simpa using hi), List.getElem_set_self, List.take_set, List.set_eq_of_length_le (by rw [List.length_take]; omega)]
  high := by
    have h1 := h.lt
    rw [List.drop_set_of_lt (by omega)]
    have := congrArg (List.drop 1) h.high
    simpa [List.drop_drop] using this

set_option maxRecDepth 20000 in
set_option maxHeartbeats 2000000 in
theorem deleteFunc_any (G : Nat) (lb : Array Value) (eg : ∀ args w, (callFunc G args).run Tryd.prog w = .ok (.enter G args) w) (p : Ky → Bool) (g n cap B : Nat) (ks : List Ky) (w : World) (hn : n = ks.length) (hcap : cap ≤ 9223372036854775807) (h : KRow w B (.slice (some ⟨g, 0, none⟩) n cap) ks)
    (hp : ∀ (W : World) (x : Ky), Only g w W → Calls Tryd.prog G (#[x.val] ++ lb) W fun e w' => e = .returned (.bool (p x)) ∧ Below W.heap.size W w') :
    Calls Tryd.prog 25 #[.slice (some ⟨g, 0, none⟩) n cap, .func (.func G) #[] lb] w fun e w' => e = .returned (.slice (some ⟨g, 0, none⟩) (leftOf p ks).length cap) ∧ KRow w' B (.slice (some ⟨g, 0, none⟩) (leftOf p ks).length cap) (leftOf p ks) ∧ Only g w w' := by
  have ci := indexFunc_any G lb eg p _ ks w h.hk (fun W x hW => (hp W x (Only.of hW)).mono fun e w' hh => ⟨hh.1, hW.trans (hh.2.mono hW.size)⟩)
  have HH : Hid (KRow w B (.slice (some ⟨g, 0, none⟩) n cap) ks) := h
  have HP : Hid (∀ (W : World) (x : Ky), Only g w W → Calls Tryd.prog G (#[x.val] ++ lb) W fun e w' => e = .returned (.bool (p x)) ∧ Below W.heap.size W w') := hp
  have hgl : g < w.heap.size := (h.lt g rfl).2
  have hnc : n ≤ cap := by
    rcases h.2 with ⟨h0, _⟩ | ⟨g', cap', cur, hv, hb, hg, h1, _⟩
    · cases h0
    · cases hv; omega
  clear h hp
  rcases idx_left (p := p) ks with ⟨h1, h2⟩ | ⟨i0, h1, h2, h3⟩
  · rw [h1] at ci
    have HL : Hid (leftOf p ks = ks) := h2
    have HN : Hid (n = ks.length) := hn
    clear h1 h2 hn
    go_enter Tryd.func25, Tryd.ntmps25
    go_wp2_with fail
    refine ci.mono ?_
    rintro e w1 ⟨rfl, hb1⟩
    go_wp2_with fail
    go_ret
    rw [HL.out, ← HN.out]
    exact ⟨rfl, HH.out.below hb1, Only.of hb1⟩
  · rw [h1] at ci
    have HN : Hid (n = ks.length) := hn
    have hi0 : i0 < n := by omega
    have HST : Hid (Del p ks i0 (i0 + 1) ks) := ⟨by omega, by omega, rfl, h3.symm, rfl⟩
    clear h1 h2 h3 hn
    have hne : ((i0 : Int) == -1) = false := by simp
    have eg' := eg
    go_enter Tryd.func25, Tryd.ntmps25
    go_wp2_with fail
    refine ci.mono ?_
    rintro e w1 ⟨rfl, hb1⟩
    have HB1 : Hid (Below w.heap.size w w1) := hb1
    clear ci hb1
    go_wp2_with fail
    go_loopg [5, 6] n (fun gk s5 s6 wr => ∃ (i j : Nat) (d : List Ky), s5 = .int .i64 i ∧ s6 = .int .i64 j ∧ n ≤ j + gk ∧ Del p ks i j d ∧ KRow wr B (.slice (some ⟨g, 0, none⟩) n cap) d ∧ Only g w wr)
    case atStart => exact ⟨i0, i0 + 1, ks, rfl, by go_num, by omega, HST.out, HH.out.below HB1.out, Only.of HB1.out⟩
    case round =>
      obtain ⟨i, j, d, rfl, rfl, hj, hD, hrow, hO⟩ := hrel
      have HJ : Hid (n ≤ j + gk) := hj
      have HD : Hid (Del p ks i j d) := hD
      have HR : Hid (KRow wr B (.slice (some ⟨g, 0, none⟩) n cap) d) := hrow
      have HO : Hid (Only g w wr) := hO
      have hij := hD.lt
      have hjn : j ≤ n := by have := hD.le; have := HN.out; omega
      have hgr : g < wr.heap.size := by have := hO.size; omega
      clear hj hO
      by_cases hlt : j < n
      · have hjk : j < ks.length := by have := HN.out; omega
        obtain ⟨x, hx⟩ : ∃ x, x = ks[j] := ⟨_, rfl⟩
        have hdj : d[j]? = some x := by rw [hx]; exact hD.get hjk
        obtain ⟨c0, c1, c2⟩ := hrow.at_ j x hdj
        have HX : Hid (p x = true → Del p ks i (j + 1) d) := fun h => hD.skip hjk (by rw [← hx]; exact h)
        have HY : Hid (p x = false → Del p ks (i + 1) (j + 1) (d.set i x)) := fun h => by rw [hx]; exact hD.keep hjk (by rw [← hx]; exact h)
        have hdl : d.length = n := by rw [hD.len, HN.out]
        have HDL : Hid (d.length = n) := hdl
        have hba : Below wr.heap.size wr (wr.alloc (.cells #[.string x.text, .string x.name, .int .i64 x.rights] 48)) := (Below.refl _ _).alloc (Nat.le_refl _) _
        have cc := HP.out _ x (HO.out.trans (Only.of hba))
        have k3 := K3.born wr x 48
        have hi1 : (0 : Int) ≤ (j : Int) := by omega
        have hi2 : (j : Int) < (n : Int) := by omega
        have hi3 : (0 : Int) ≤ (i : Int) := by omega
        have hi4 : (i : Int) < (n : Int) := by omega
        have HFIN : Hid (∀ W, Below (wr.alloc (.cells #[.string x.text, .string x.name, .int .i64 x.rights] 48)).heap.size (wr.alloc (.cells #[.string x.text, .string x.name, .int .i64 x.rights] 48)) W → K3 wr.heap.size x W ∧ KRow W B (.slice (some ⟨g, 0, none⟩) n cap) d ∧ Only g w W) := fun W hW => ⟨k3.below hW, (HR.out.below hba).below hW, (HO.out.trans (Only.of hba)).trans (Only.of hW)⟩
        clear hD hrow hx hdj hjk hba k3 hdl
        cases hq : p x with
        | true =>
          rw [hq] at cc
          have HQ : Hid (p x = true) := hq
          clear hq
          obtain ⟨tx, nm, rt⟩ := x
          simp only at c0 c1 c2
          simp only [Ky.val] at cc
          go_wp2_with (go_at_fn G; refine cc.mono ?_; rintro e w2 ⟨rfl, hb2⟩)
          go_roundg (gk - 1)
          case measure => have := HJ.out; omega
          case rel =>
            have h1 := HJ.out
            obtain ⟨f1, f2, f3⟩ := HFIN.out _ hb2
            exact ⟨i, j + 1, d, rfl, by go_num, by omega, HX.out HQ.out, f2, f3⟩
        | false =>
          rw [hq] at cc
          have HQ : Hid (p x = false) := hq
          clear hq
          obtain ⟨tx, nm, rt⟩ := x
          simp only at c0 c1 c2
          simp only [Ky.val] at cc
          have HPUT : Hid (∀ W, KRow W B (.slice (some ⟨g, 0, none⟩) n cap) d ∧ Only g w W → KRow (((W.setCell ⟨g, i * 3, none⟩ (.string tx)).setCell ⟨g, i * 3 + 1, none⟩ (.string nm)).setCell ⟨g, i * 3 + 2, none⟩ (.int .i64 rt)) B (.slice (some ⟨g, 0, none⟩) n cap) (d.set i ⟨tx, nm, rt⟩) ∧ Only g w (((W.setCell ⟨g, i * 3, none⟩ (.string tx)).setCell ⟨g, i * 3 + 1, none⟩ (.string nm)).setCell ⟨g, i * 3 + 2, none⟩ (.int .i64 rt))) := fun W h => ⟨h.1.put i ⟨tx, nm, rt⟩ (by have := HDL.out; omega), h.2.putAt (i * 3) ⟨tx, nm, rt⟩⟩
          go_wp2_with (go_at_fn G; refine cc.mono ?_; rintro e w2 ⟨rfl, hb2⟩; obtain ⟨f1, f2, f3⟩ := HFIN.out _ hb2; have HF : Hid (KRow w2 B (.slice (some ⟨g, 0, none⟩) n cap) d ∧ Only g w w2) := ⟨f2, f3⟩; obtain ⟨k0, k1, k2, -, -, -, -⟩ := f1; obtain ⟨y, y0, y1, y2⟩ := f2.cells i (by have := HDL.out; omega); obtain ⟨z0, z1, z2⟩ := f2.frees i (by have := HDL.out; omega); clear f2 f3 hb2; simp only at k0 k1 k2)
          go_roundg (gk - 1)
          case measure => have := HJ.out; omega
          case rel =>
            have h1 := HJ.out
            have h2 := HPUT.out _ HF.out
            exact ⟨i + 1, j + 1, _, by go_num, by go_num, by omega, HY.out HQ.out, h2.1, h2.2⟩
      · have hje : j = n := by omega
        have hq : ¬ (j : Int) < (n : Int) := by omega
        have hdl : d.length = n := by rw [hD.len, HN.out]
        have HFI : Hid (leftOf p ks = d.take i ∧ (leftOf p ks).length = i) := by
          have h1 := hD.low
          rw [hje, HN.out, List.take_length] at h1
          refine ⟨h1.symm, ?_⟩
          rw [← h1, List.length_take]
          omega
        have hcl := fun ty => clear_run wr ty g (i * 3) (n - i) (cap - i) (by omega) (fun q hq => hrow.free (i * 3 + q) (by omega))
        have hin : (i : Int) ≤ (n : Int) := by omega
        have hic : (i : Int) ≤ (cap : Int) := by omega
        have hi3 : (0 : Int) ≤ (i : Int) := by omega
        clear hD hrow
        have HDI : Hid (i ≤ d.length) := by show i ≤ d.length; omega
        clear hdl
        go_wp2_with fail
        go_ret
        rw [HFI.out.2]
        have h1 := HR.out.cut i HDI.out (Builtin.zeroCells zeroKy (n - i)).toList
        rw [← HFI.out.1] at h1
        exact ⟨rfl, h1, HO.out.setCells _ _⟩
end Go.Proofs.YtpeffpgpiookpaaDoor
