/- A universe less, and its keys. -/
import Derived.Test.YtgipjplifndniaaGreatDoorKyDel1
import Derived.Test.YtgipjplifndniaaGreatDoorKyCopies
import Derived.Test.YtgipjplifndniaaGreatDoorHaGet
import Derived.Test.YtgipjplifndniaaGreatDoorHaDel
import Derived.LaidEql
namespace Go.Proofs.YtgipjplifndniaaGreatDoor.K
open Go.RowKit

def leftOf (p : Ky → Bool) (ks : List Ky) : List Ky := ks.filter fun k => !p k
theorem leftOf_step {p : Ky → Bool} {ks : List Ky} {j : Nat} {x : Ky} (hx : ks[j]? = some x) : leftOf p (ks.take (j + 1)) = leftOf p (ks.take j) ++ (if p x = true then [] else [x]) := by
  obtain ⟨h1, h2⟩ := List.getElem?_eq_some_iff.1 hx
  unfold leftOf
  rw [List.take_succ_eq_append_getElem h1, List.filter_append, h2]
  congr 1
  cases h : p x <;> simp [h]
theorem leftOf_none {p : Ky → Bool} {ks : List Ky} (h : ∀ (i : Nat) y, ks[i]? = some y → p y = false) : leftOf p ks = ks := by
  unfold leftOf
  rw [List.filter_eq_self]
  intro x hx
  obtain ⟨i, hi⟩ := List.mem_iff_getElem?.1 hx
  rw [h i x hi]
  rfl
theorem idx_left {p : Ky → Bool} (ks : List Ky) : (idxP p ks = -1 ∧ leftOf p ks = ks) ∨ ∃ (j : Nat), idxP p ks = (j : Int) ∧ j < ks.length ∧ leftOf p (ks.take (j + 1)) = ks.take j := by
  by_cases h : ∃ j, ks.findIdx? p = some j
  · obtain ⟨j, hj⟩ := h
    right
    obtain ⟨h1, h2, h3⟩ := List.findIdx?_eq_some_iff_getElem.1 hj
    refine ⟨j, by unfold idxP; rw [hj], h1, ?_⟩
    rw [leftOf_step (List.getElem?_eq_getElem h1), if_pos h2, List.append_nil]
    refine leftOf_none fun i y hy => ?_
    rw [List.getElem?_take] at hy
    by_cases hi : i < j
    · rw [if_pos hi, List.getElem?_eq_getElem (by omega)] at hy
      have := h3 i hi
      cases hy
      simpa using this
    · rw [if_neg hi] at hy; cases hy
  · left
    have hn : ks.findIdx? p = none := by
      cases hf : ks.findIdx? p with
      | none => rfl
      | some j => exact absurd ⟨j, hf⟩ h
    refine ⟨by unfold idxP; rw [hn], leftOf_none fun i y hy => ?_⟩
    rw [List.findIdx?_eq_none_iff] at hn
    exact hn y (List.mem_of_getElem? hy)
theorem leftOf_le (p : Ky → Bool) (ks : List Ky) : (leftOf p ks).length ≤ ks.length := List.length_filter_le _ _

structure Del (p : Ky → Bool) (ks : List Ky) (i j : Nat) (d : List Ky) : Prop where
  lt : i < j
  le : j ≤ ks.length
  len : d.length = ks.length
  low : d.take i = leftOf p (ks.take j)
  high : d.drop j = ks.drop j
theorem Del.get {p : Ky → Bool} {ks d : List Ky} {i j : Nat} (h : Del p ks i j d) (hj : j < ks.length) : d[j]? = some ks[j] := by
  have := congrArg (fun l => l[0]?) h.high
  simp only [List.getElem?_drop, Nat.add_zero] at this
  rw [this, List.getElem?_eq_getElem hj]
theorem Del.skip {p : Ky → Bool} {ks d : List Ky} {i j : Nat} (h : Del p ks i j d) (hj : j < ks.length) (hp : p ks[j] = true) : Del p ks i (j + 1) d where
  lt := by have := h.lt; omega
  le := hj
  len := h.len
  low := by rw [leftOf_step (List.getElem?_eq_getElem hj), if_pos hp, List.append_nil]; exact h.low
  high := by
    have := congrArg (List.drop 1) h.high
    simpa [List.drop_drop] using this
theorem Del.keep {p : Ky → Bool} {ks d : List Ky} {i j : Nat} (h : Del p ks i j d) (hj : j < ks.length) (hp : p ks[j] = false) : Del p ks (i + 1) (j + 1) (d.set i ks[j]) where
  lt := by have := h.lt; omega
  le := hj
  len := by rw [List.length_set]; exact h.len
  low := by
    rw [leftOf_step (List.getElem?_eq_getElem hj), hp, if_neg (by simp), ← h.low]
    have hi : i < d.length := by have := h.lt; have := h.len; omega
    rw [List.take_succ_eq_append_getElem (by simpa using hi), List.getElem_set_self, List.take_set, List.set_eq_of_length_le (by rw [List.length_take]; omega)]
  high := by
    have h1 := h.lt
    rw [List.drop_set_of_lt (by omega)]
    have := congrArg (List.drop 1) h.high
    simpa [List.drop_drop] using this

set_option maxRecDepth 20000 in
set_option maxHeartbeats 2000000 in
theorem deleteFunc_any (G : Nat) (lb : Array Value) (eg : ∀ args w, (callFunc G args).run Tryz.prog w = .ok (.enter G args) w) (p : Ky → Bool) (g n cap B : Nat) (ks : List Ky) (w : World) (hn : n = ks.length) (hcap : cap ≤ 9223372036854775807) (h : KRow w B (.slice (some ⟨g, 0, none⟩) n cap) ks)
    (hp : ∀ (W : World) (x : Ky), Only g w W → Calls Tryz.prog G (#[x.val] ++ lb) W fun e w' => e = .returned (.bool (p x)) ∧ Below W.heap.size W w') :
    Calls Tryz.prog 100 #[.slice (some ⟨g, 0, none⟩) n cap, .func (.func G) #[] lb] w fun e w' => e = .returned (.slice (some ⟨g, 0, none⟩) (leftOf p ks).length cap) ∧ KRow w' B (.slice (some ⟨g, 0, none⟩) (leftOf p ks).length cap) (leftOf p ks) ∧ Only g w w' := by
  have ci := indexFunc_any G lb eg p _ ks w h.hk (fun W x hW => (hp W x (Only.of hW)).mono fun e w' hh => ⟨hh.1, hW.trans (hh.2.mono hW.size)⟩)
  have HH : Hid (KRow w B (.slice (some ⟨g, 0, none⟩) n cap) ks) := h
  have HP : Hid (∀ (W : World) (x : Ky), Only g w W → Calls Tryz.prog G (#[x.val] ++ lb) W fun e w' => e = .returned (.bool (p x)) ∧ Below W.heap.size W w') := hp
  have hgl : g < w.heap.size := (h.lt g rfl).2
  have hnc : n ≤ cap := by
    rcases h.2 with ⟨h0, _⟩ | ⟨g', cap', cur, hv, hb, hg, h1, _⟩
    · cases h0
    · cases hv; omega
  clear h hp
  rcases idx_left (p := p) ks with ⟨h1, h2⟩ | ⟨i0, h1, h2, h3⟩
  · rw [h1] at ci
    have HL : Hid (leftOf p ks = ks) := h2
    have HN : Hid (n = ks.length) := hn
    clear h1 h2 hn
    go_enter Tryz.func100, Tryz.ntmps100
    go_wp2_with fail
    refine ci.mono ?_
    rintro e w1 ⟨rfl, hb1⟩
    go_wp2_with fail
    go_ret
    rw [HL.out, ← HN.out]
    exact ⟨rfl, HH.out.below hb1, Only.of hb1⟩
  · rw [h1] at ci
    have HN : Hid (n = ks.length) := hn
    have hi0 : i0 < n := by omega
    have HST : Hid (Del p ks i0 (i0 + 1) ks) := ⟨by omega, by omega, rfl, h3.symm, rfl⟩
    clear h1 h2 h3 hn
    have hne : ((i0 : Int) == -1) = false := by simp
    have eg' := eg
    go_enter Tryz.func100, Tryz.ntmps100
    go_wp2_with fail
    refine ci.mono ?_
    rintro e w1 ⟨rfl, hb1⟩
    have HB1 : Hid (Below w.heap.size w w1) := hb1
    clear ci hb1
    go_wp2_with fail
    go_loopg [5, 6] n (fun gk s5 s6 wr => ∃ (i j : Nat) (d : List Ky), s5 = .int .i64 i ∧ s6 = .int .i64 j ∧ n ≤ j + gk ∧ Del p ks i j d ∧ KRow wr B (.slice (some ⟨g, 0, none⟩) n cap) d ∧ Only g w wr)
    case atStart => exact ⟨i0, i0 + 1, ks, rfl, by go_num, by omega, HST.out, HH.out.below HB1.out, Only.of HB1.out⟩
    case round =>
      obtain ⟨i, j, d, rfl, rfl, hj, hD, hrow, hO⟩ := hrel
      have HJ : Hid (n ≤ j + gk) := hj
      have HD : Hid (Del p ks i j d) := hD
      have HR : Hid (KRow wr B (.slice (some ⟨g, 0, none⟩) n cap) d) := hrow
      have HO : Hid (Only g w wr) := hO
      have hij := hD.lt
      have hjn : j ≤ n := by have := hD.le; have := HN.out; omega
      have hgr : g < wr.heap.size := by have := hO.size; omega
      clear hj hO
      by_cases hlt : j < n
      · have hjk : j < ks.length := by have := HN.out; omega
        obtain ⟨x, hx⟩ : ∃ x, x = ks[j] := ⟨_, rfl⟩
        have hdj : d[j]? = some x := by rw [hx]; exact hD.get hjk
        obtain ⟨c0, c1, c2⟩ := hrow.at_ j x hdj
        have HX : Hid (p x = true → Del p ks i (j + 1) d) := fun h => hD.skip hjk (by rw [← hx]; exact h)
        have HY : Hid (p x = false → Del p ks (i + 1) (j + 1) (d.set i x)) := fun h => by rw [hx]; exact hD.keep hjk (by rw [← hx]; exact h)
        have hdl : d.length = n := by rw [hD.len, HN.out]
        have HDL : Hid (d.length = n) := hdl
        have hba : Below wr.heap.size wr (wr.alloc (.cells #[.string x.text, .string x.name, .int .i64 x.rights] 157)) := (Below.refl _ _).alloc (Nat.le_refl _) _
        have cc := HP.out _ x (HO.out.trans (Only.of hba))
        have k3 := K3.born wr x 157
        have hi1 : (0 : Int) ≤ (j : Int) := by omega
        have hi2 : (j : Int) < (n : Int) := by omega
        have hi3 : (0 : Int) ≤ (i : Int) := by omega
        have hi4 : (i : Int) < (n : Int) := by omega
        have HFIN : Hid (∀ W, Below (wr.alloc (.cells #[.string x.text, .string x.name, .int .i64 x.rights] 157)).heap.size (wr.alloc (.cells #[.string x.text, .string x.name, .int .i64 x.rights] 157)) W → K3 wr.heap.size x W ∧ KRow W B (.slice (some ⟨g, 0, none⟩) n cap) d ∧ Only g w W) := fun W hW => ⟨k3.below hW, (HR.out.below hba).below hW, (HO.out.trans (Only.of hba)).trans (Only.of hW)⟩
        clear hD hrow hx hdj hjk hba k3 hdl
        cases hq : p x with
        | true =>
          rw [hq] at cc
          have HQ : Hid (p x = true) := hq
          clear hq
          obtain ⟨tx, nm, rt⟩ := x
          simp only at c0 c1 c2
          simp only [Ky.val] at cc
          go_wp2_with (go_at_fn G; refine cc.mono ?_; rintro e w2 ⟨rfl, hb2⟩)
          go_roundg (gk - 1)
          case measure => have := HJ.out; omega
          case rel =>
            have h1 := HJ.out
            obtain ⟨f1, f2, f3⟩ := HFIN.out _ hb2
            exact ⟨i, j + 1, d, rfl, by go_num, by omega, HX.out HQ.out, f2, f3⟩
        | false =>
          rw [hq] at cc
          have HQ : Hid (p x = false) := hq
          clear hq
          obtain ⟨tx, nm, rt⟩ := x
          simp only at c0 c1 c2
          simp only [Ky.val] at cc
          have HPUT : Hid (∀ W, KRow W B (.slice (some ⟨g, 0, none⟩) n cap) d ∧ Only g w W → KRow (((W.setCell ⟨g, i * 3, none⟩ (.string tx)).setCell ⟨g, i * 3 + 1, none⟩ (.string nm)).setCell ⟨g, i * 3 + 2, none⟩ (.int .i64 rt)) B (.slice (some ⟨g, 0, none⟩) n cap) (d.set i ⟨tx, nm, rt⟩) ∧ Only g w (((W.setCell ⟨g, i * 3, none⟩ (.string tx)).setCell ⟨g, i * 3 + 1, none⟩ (.string nm)).setCell ⟨g, i * 3 + 2, none⟩ (.int .i64 rt))) := fun W h => ⟨h.1.put i ⟨tx, nm, rt⟩ (by have := HDL.out; omega), h.2.putAt (i * 3) ⟨tx, nm, rt⟩⟩
          go_wp2_with (go_at_fn G; refine cc.mono ?_; rintro e w2 ⟨rfl, hb2⟩; obtain ⟨f1, f2, f3⟩ := HFIN.out _ hb2; have HF : Hid (KRow w2 B (.slice (some ⟨g, 0, none⟩) n cap) d ∧ Only g w w2) := ⟨f2, f3⟩; obtain ⟨k0, k1, k2, -, -, -, -⟩ := f1; obtain ⟨y, y0, y1, y2⟩ := f2.cells i (by have := HDL.out; omega); obtain ⟨z0, z1, z2⟩ := f2.frees i (by have := HDL.out; omega); clear f2 f3 hb2; simp only at k0 k1 k2)
          go_roundg (gk - 1)
          case measure => have := HJ.out; omega
          case rel =>
            have h1 := HJ.out
            have h2 := HPUT.out _ HF.out
            exact ⟨i + 1, j + 1, _, by go_num, by go_num, by omega, HY.out HQ.out, h2.1, h2.2⟩
      · have hje : j = n := by omega
        have hq : ¬ (j : Int) < (n : Int) := by omega
        have hdl : d.length = n := by rw [hD.len, HN.out]
        have HFI : Hid (leftOf p ks = d.take i ∧ (leftOf p ks).length = i) := by
          have h1 := hD.low
          rw [hje, HN.out, List.take_length] at h1
          refine ⟨h1.symm, ?_⟩
          rw [← h1, List.length_take]
          omega
        have hcl := fun ty => clear_run wr ty g (i * 3) (n - i) (cap - i) (by omega) (fun q hq => hrow.free (i * 3 + q) (by omega))
        have hin : (i : Int) ≤ (n : Int) := by omega
        have hic : (i : Int) ≤ (cap : Int) := by omega
        have hi3 : (0 : Int) ≤ (i : Int) := by omega
        clear hD hrow
        have HDI : Hid (i ≤ d.length) := by show i ≤ d.length; omega
        clear hdl
        go_wp2_with fail
        go_ret
        rw [HFI.out.2]
        have h1 := HR.out.cut i HDI.out (Builtin.zeroCells zeroKy (n - i)).toList
        rw [← HFI.out.1] at h1
        exact ⟨rfl, h1, HO.out.setCells _ _⟩
end Go.Proofs.YtgipjplifndniaaGreatDoor.K

namespace Go.Proofs.YtgipjplifndniaaGreatDoor.K
open Go.RowKit

def stay (ks : List Ky) (name : ByteArray) : List Ky := leftOf (fun k => decide (k.name = name)) ks

set_option maxRecDepth 20000 in
set_option maxHeartbeats 2000000 in
theorem revoke_any (serial : Int) (v : Value) (ks : List Ky) (name : ByteArray) (w : World) (h : HK w v ks) (hok : ∀ k ∈ ks, k.ok) (hlen : ks.length * 40 ≤ 140737488355328) :
    Calls Tryz.prog 59 #[.agg #[.int .i64 serial, v], .string name] w fun e w' => ∃ u, e = .returned (.tuple #[.agg #[.int .i64 serial, u], .int .i64 ((ks.length : Int) - (stay ks name).length)]) ∧ KRow w' w.heap.size u (stay ks name) ∧ Below w.heap.size w w' := by
  have t0 := T2.born w serial v 54
  have hb0 : Below w.heap.size w (w.alloc (.cells #[.int .i64 serial, v] 54)) := (Below.refl _ _).alloc (Nat.le_refl _) _
  generalize hwA : w.alloc (.cells #[.int .i64 serial, v] 54) = wA at *
  have hsA : wA.heap.size = w.heap.size + 1 := by rw [← hwA]; simp
  have hb1 : Below wA.heap.size wA (wA.alloc (.cells #[.string name] 9)) := (Below.refl _ _).alloc (Nat.le_refl _) _
  have hnm : (wA.alloc (.cells #[.string name] 9)).cell? ⟨w.heap.size + 1, 0, none⟩ = some (.string name) := by rw [← hsA]; simp
  have hsB : (wA.alloc (.cells #[.string name] 9)).heap.size = w.heap.size + 2 := by simp; omega
  have t1 := t0.below hb1
  have hb01 := hb0.trans (hb1.mono hb0.size)
  generalize hwB : wA.alloc (.cells #[.string name] 9) = wB at *
  have hb2 : Below wB.heap.size wB (wB.alloc (.cells #[.int .i64 0, .slice none 0 0] 54)) := (Below.refl _ _).alloc (Nat.le_refl _) _
  have r0 := T2.born wB 0 (.slice none 0 0) 54
  rw [hsB] at r0
  have hsC : (wB.alloc (.cells #[.int .i64 0, .slice none 0 0] 54)).heap.size = w.heap.size + 3 := by simp; omega
  have t2 := t1.below hb2
  have hnm2 : (wB.alloc (.cells #[.int .i64 0, .slice none 0 0] 54)).cell? ⟨w.heap.size + 1, 0, none⟩ = some (.string name) := (hb2.cell (p := ⟨w.heap.size + 1, 0, none⟩) (by show w.heap.size + 1 < _; omega)).trans hnm
  have hb := hb01.trans (hb2.mono hb01.size)
  generalize hwC : wB.alloc (.cells #[.int .i64 0, .slice none 0 0] 54) = w0 at *
  clear t0 hb0 hb1 hb01 hb2 t1 hnm
  have hK0 := h.below hb
  have cc := copies_any v ks w0 hK0 hok hlen
  have eg : ∀ args w, (callFunc 102 args).run Tryz.prog w = .ok (.enter 102 args) w := enters_of Tryz.func102 (by kernel_rfl) rfl
  have HT : Hid (T2 w.heap.size serial v w0 ∧ T2 (w.heap.size + 2) 0 (.slice none 0 0) w0 ∧ w0.cell? ⟨w.heap.size + 1, 0, none⟩ = some (.string name) ∧ w0.heap.size = w.heap.size + 3 ∧ Below w.heap.size w w0) := ⟨t2, r0, hnm2, hsC, hb⟩
  have HV : Hid (∃ p cap, v = .slice p ks.length cap) := by obtain ⟨p, cap, e, _⟩ := h; exact ⟨p, cap, e⟩
  have hst : (stay ks name).length ≤ ks.length := leftOf_le _ _
  obtain ⟨a1, a2, -, -, -⟩ := t2
  obtain ⟨p, cap, rfl⟩ := HV.out
  obtain ⟨n, hn⟩ : ∃ n, n = ks.length := ⟨_, rfl⟩
  have HN : Hid (n = ks.length) := hn
  rw [← hn] at hst a2 hwA hlen cc ⊢
  clear h hok hb hK0 hn
  go_enter Tryz.func59, Tryz.ntmps59
  go_wp2_with fail
  refine cc.mono ?_
  rintro e w1 ⟨u, rfl, hrow, hb1, hnn⟩
  obtain ⟨g, cp, rfl, hcp⟩ : ∃ g cp, u = .slice (some ⟨g, 0, none⟩) ks.length cp ∧ cp ≤ 9223372036854775807 := by
    rcases hrow.2 with ⟨h0, _⟩ | ⟨g, cp, cur, hv, _, _, _, hm, _⟩
    · exact absurd h0 hnn
    · exact ⟨g, cp, hv, by unfold maxLen at hm; omega⟩
  have hgl := hrow.lt g rfl
  have cd := deleteFunc_any 102 #[.pointer (some ⟨w.heap.size + 1, 0, none⟩)] eg (fun k => decide (k.name = name)) g ks.length cp w0.heap.size ks w1 rfl hcp hrow (fun W x hO => predName_any name (w.heap.size + 1) x W (by
    have h1 := HT.out
    have h2 : w1.cell? ⟨w.heap.size + 1, 0, none⟩ = some (.string name) := (hb1.cell (p := ⟨w.heap.size + 1, 0, none⟩) (by show w.heap.size + 1 < _; omega)).trans h1.2.2.1
    rw [← h2]
    exact World.cell?_of_block (a := ⟨w.heap.size + 1, 0, none⟩) (hO.block (w.heap.size + 1) (by have := hb1.size; omega) (by have := hgl.1; omega))) (by have := hO.size; have := hb1.size; have := HT.out.2.2.2.1; omega))
  have hss : leftOf (fun k => decide (k.name = name)) ks = stay ks name := rfl
  rw [hss] at cd
  have HG : Hid (w0.heap.size ≤ g ∧ Below w0.heap.size w0 w1) := ⟨hgl.1, hb1⟩
  clear hwA hwB hwC a1 a2 hrow hnn cc hgl hcp eg hb1 hss hsC r0 hnm2
  go_wp2_with fail
  refine cd.mono ?_
  rintro e w2 ⟨rfl, hrow2, hO2⟩
  clear cd
  have hbO : Below w0.heap.size w1 w2 := hO2.below HG.out.1 HG.out.2.size
  have h02 : Below w0.heap.size w0 w2 := HG.out.2.trans hbO
  have HT2 : Hid (T2 w.heap.size serial (.slice p n cap) w2 ∧ T2 (w.heap.size + 2) 0 (.slice none 0 0) w2) := ⟨by rw [HN.out]; exact HT.out.1.under h02 (by have := HT.out.2.2.2.1; omega), HT.out.2.1.under h02 (by have := HT.out.2.2.2.1; omega)⟩
  have HB2 : Hid (Below w.heap.size w w2) := HT.out.2.2.2.2.trans (h02.mono (by have := HT.out.2.2.2.1; omega))
  have HR2 : Hid (KRow w2 (w.heap.size + 3) (.slice (some ⟨g, 0, none⟩) (stay ks name).length cp) (stay ks name)) := by show KRow _ _ _ _; rw [← HT.out.2.2.2.1]; exact hrow2
  clear hrow2 hO2 hbO h02 HT HG
  obtain ⟨m, hm⟩ : ∃ m, m = (stay ks name).length := ⟨_, rfl⟩
  rw [← hm] at hst HR2 ⊢
  have HM : Hid (m = (stay ks name).length) := hm
  clear hm
  obtain ⟨a1, a2, -, -, -⟩ := HT2.out.1
  obtain ⟨b1, b2, b3, b4, -⟩ := HT2.out.2
  have hw : IntKind.i64.wrap ((n : Int) - (m : Int)) = (n : Int) - (m : Int) := by rw [IntKind.wrap_i64]; omega
  have HFIN : Hid (KRow ((w2.setCell ⟨w.heap.size + 2, 0, none⟩ (.int .i64 serial)).setCell ⟨w.heap.size + 2, 1, none⟩ (.slice (some ⟨g, 0, none⟩) m cp)) w.heap.size (.slice (some ⟨g, 0, none⟩) m cp) (stay ks name) ∧ Below w.heap.size w ((w2.setCell ⟨w.heap.size + 2, 0, none⟩ (.int .i64 serial)).setCell ⟨w.heap.size + 2, 1, none⟩ (.slice (some ⟨g, 0, none⟩) m cp)) ∧ T2 (w.heap.size + 2) serial (.slice (some ⟨g, 0, none⟩) m cp) ((w2.setCell ⟨w.heap.size + 2, 0, none⟩ (.int .i64 serial)).setCell ⟨w.heap.size + 2, 1, none⟩ (.slice (some ⟨g, 0, none⟩) m cp))) :=
    ⟨((HR2.out.set (R := w.heap.size + 2) (by omega) 0 (.int .i64 serial)).set (R := w.heap.size + 2) (by omega) 1 (.slice (some ⟨g, 0, none⟩) m cp)).mono (by omega), (HB2.out.setCell (p := ⟨w.heap.size + 2, 0, none⟩) (by show w.heap.size ≤ w.heap.size + 2; omega) _).setCell (p := ⟨w.heap.size + 2, 1, none⟩) (by show w.heap.size ≤ w.heap.size + 2; omega) _, HT2.out.2.both⟩
  go_wp2_with fail
  go_region
  go_wp2_with fail
  obtain ⟨f1, f2, f3⟩ := HFIN.out
  refine bodyPost_ret (v := .tuple #[.agg #[.int .i64 serial, .slice (some ⟨g, 0, none⟩) m cp], .int .i64 ((n : Int) - (m : Int))]) ?_ rfl ⟨.slice (some ⟨g, 0, none⟩) m cp, by rw [← HM.out], ?_, ?_⟩
  · have g1 : ((w2.setCell ⟨w.heap.size + 2, 0, none⟩ (.int .i64 serial)).setCell ⟨w.heap.size + 2, 1, none⟩ (.slice (some ⟨g, 0, none⟩) m cp)).drew.cell? ⟨w.heap.size + 2, 0, none⟩ = _ := f3.1
    have g2 : ((w2.setCell ⟨w.heap.size + 2, 0, none⟩ (.int .i64 serial)).setCell ⟨w.heap.size + 2, 1, none⟩ (.slice (some ⟨g, 0, none⟩) m cp)).drew.cell? ⟨w.heap.size + 2, 1, none⟩ = _ := f3.2.1
    simp [results, Tryz.results59, go_sem, g1, g2]
  · exact f1
  · exact f2.drew
end Go.Proofs.YtgipjplifndniaaGreatDoor.K

namespace Go.Proofs.YtgipjplifndniaaGreatDoor.U
open Go.RowKit Go.Maps Go.Proofs.YtgipjplifndniaaGreatDoor.L Go.Proofs.YtgipjplifndniaaGreatDoor.A Go.Proofs.YtgipjplifndniaaGreatDoor.K

variable {w w1 w2 : World} {o o1 : Nat → Nat} {hb ab t i : Nat} {draw : Int} {S : Hl} {ids : List Nat} {wv kv : Value}
theorem eql_same (a : Addr) (W : World) : (binOp .eql 103 (.pointer (some a)) (.pointer (some a))).run Tryz.prog W = .ok (.bool true) W := by
  have h : ∀ d : Nat, (Op.equalIn (d + 1) 103 (.pointer (some a)) (.pointer (some a))).run Tryz.prog W = .ok true W := fun d => by simp [Op.equalIn, run_underlying Tryz.underlying103, sizeOf, run_sameAddr_same]
  simp only [binOp]
  simp [Op.equal, Op.maxDepth, h 9999]
theorem eql_other {a c : Addr} {ca cc : Array Value} {ta tc : TypeId} (W : World) (hne : a ≠ c) (ha : W.heap[a.block]? = some (.cells ca ta (0, 0))) (hc : W.heap[c.block]? = some (.cells cc tc (0, 0))) : (binOp .eql 103 (.pointer (some a)) (.pointer (some c))).run Tryz.prog W = .ok (.bool false) W := by
  have hz : ¬ Tryz.t107.size = 0 := by decide
  have h : ∀ d : Nat, (Op.equalIn (d + 1) 103 (.pointer (some a)) (.pointer (some c))).run Tryz.prog W = .ok false W := fun d => by simp [Op.equalIn, run_underlying Tryz.underlying103, sizeOf, hz, run_sameAddr_other W hne ha hc]
  simp only [binOp]
  simp [Op.equal, Op.maxDepth, h 9999]
set_option maxRecDepth 20000 in
set_option maxHeartbeats 1000000 in
theorem goneP_any (R kg x : Nat) (W : World) (h : W.cell? ⟨R, 0, none⟩ = some (ptr kg)) {a c : Wd} (hx : WdB W x a) (hk : WdB W kg c) :
    Calls Tryz.prog 58 #[ptr x, .pointer (some ⟨R, 0, none⟩)] W fun e w' => e = .returned (.bool (decide (x = kg))) ∧ w' = W := by
  unfold ptr at h ⊢
  by_cases he : x = kg
  · subst he
    rw [decide_eq_true rfl]
    have hq := eql_same ⟨x, 0, none⟩ W
    clear hx hk
    go_enter Tryz.func58, Tryz.ntmps58
    go_wp2_with fail
    go_ret
    exact ⟨rfl, rfl⟩
  · rw [decide_eq_false he]
    have hq := eql_other (a := ⟨x, 0, none⟩) (c := ⟨kg, 0, none⟩) W (fun e => he (by injection e)) hx hk
    clear hx hk
    go_enter Tryz.func58, Tryz.ntmps58
    go_wp2_with fail
    go_ret
    exact ⟨rfl, rfl⟩
theorem left_erase {kg : Nat} : ∀ (ids : List Nat) (i : Nat), ids.Nodup → ids[i]? = some kg → leftOf (fun x => decide (x = kg)) ids = ids.eraseIdx i
  | [], i, _, h => by simp at h
  | a :: r, 0, hn, h => by
    have e : a = kg := by simpa using h
    subst e
    have h2 := (List.nodup_cons.1 hn).1
    unfold leftOf
    rw [List.filter_cons_of_neg (by simp), List.eraseIdx_cons_zero]
    exact List.filter_eq_self.2 fun x hx => by
      have : ¬ x = a := fun e => h2 (e ▸ hx)
      simpa using this
  | a :: r, i + 1, hn, h => by
    have h1 : r[i]? = some kg := by simpa using h
    have h2 := (List.nodup_cons.1 hn).1
    have hne : ¬ a = kg := fun e => h2 (e ▸ List.mem_of_getElem? h1)
    have ih := left_erase r i (List.nodup_cons.1 hn).2 h1
    unfold leftOf at ih ⊢
    rw [List.filter_cons_of_pos (by simpa using hne), List.eraseIdx_cons_succ, ih]
theorem HlAt.apart (h : HlAt w o 5 hb ab t draw S ids wv kv) {g : Nat} (hg : wv.ownBlock = some g) (hk : kv.ownBlock = some g) : False := by
  rcases h.row.2 with ⟨e, _⟩ | ⟨g1, c1, cur1, e1, _, h1, _⟩
  · rw [e] at hg; cases hg
  · rcases h.keys.2 with ⟨e, _⟩ | ⟨g2, c2, cur2, e2, _, h2, _⟩
    · rw [e] at hk; cases hk
    · rw [e1] at hg
      rw [e2] at hk
      cases hg
      cases hk
      rw [h1] at h2
      have h3 := Option.some.inj h2
      injection h3 with _ h4
      exact absurd h4 (by decide)
theorem HlAt.dropped (h : HlAt w o 5 hb ab t draw S ids wv kv) {g : Nat} (hg : wv.ownBlock = some g) (k : K.Only g w w2) {v : Value} {ids' : List Nat} {ws' : List Wd} (hv : v.ownBlock = some g) (hr : PRow w2 v ids') (hlen : ids'.length = ws'.length) (hnd : ids'.Nodup)
    (he : ∀ (j k : Nat) (x : Wd), ids'[j]? = some k → ws'[j]? = some x → ∃ j' : Nat, ids[j']? = some k ∧ S.ws[j']? = some x) : HlAt (w2.setCell ⟨hb, 3, none⟩ v) o 5 hb ab t draw { S with ws := ws' } ids' v kv := by
  have hsub : ∀ q, q ∈ ids' → q ∈ ids := fun q hq => by
    obtain ⟨j, hj⟩ := List.getElem?_of_mem hq
    have hjl := (List.getElem?_eq_some_iff.1 hj).1
    obtain ⟨j', h1, _⟩ := he j q (ws'[j]'(by omega)) hj (List.getElem?_eq_getElem _)
    exact List.mem_of_getElem? h1
  have far : ∀ q, q < w.heap.size → q ≠ hb → q ≠ g → (w2.setCell ⟨hb, 3, none⟩ v).heap[q]? = w.heap[q]? := fun q hq h1 h2 => (Below.heap_setCell _ _ _ _ h1).trans (k.block q hq h2)
  have hgb := h.rne g hg
  refine ⟨Go.Joins.block_setCell ((k.block hb h.lt fun e => hgb.1 e.symm).trans h.own) _, h.lab, row_other hr fun q hq => ?_, fun q hq => ?_, hlen, fun j q x hq hx => ?_, hnd, row_other h.keys fun q hq => ?_, h.klab, fun q hq => ?_, fun q hq => ⟨(h.kne q hq).1, fun hm => (h.kne q hq).2 (hsub q hm)⟩, fun hm => h.hne (hsub _ hm)⟩
  · rw [hv] at hq
    cases hq
    exact Below.heap_setCell _ _ _ _ hgb.1
  · rw [hv] at hq
    cases hq
    exact h.rlab _ hg
  · obtain ⟨j', h1, h2⟩ := he j q x hq hx
    obtain ⟨h3, h4⟩ := h.each j' q x h1 h2
    exact ⟨(far q (Array.getElem?_eq_some_iff.1 h3).1 (fun e => h.hne (e ▸ List.mem_of_getElem? h1)) fun e => hgb.2 (e ▸ List.mem_of_getElem? h1)).trans h3, h4⟩
  · exact far q (World.ownsRow.lt h.keys q hq).2 (h.kne q hq).1 fun e => h.apart hg (e ▸ hq)
  · rw [hv] at hq
    cases hq
    exact ⟨hgb.1, fun hm => hgb.2 (hsub _ hm)⟩
set_option maxRecDepth 20000 in
set_option maxHeartbeats 4000000 in
theorem drop_any (h : HlAt w o 5 hb ab t draw S ids wv kv) (name : ByteArray) (hat : atN S.ws name = some i) (hids : ids.length ≤ 1000000) (hok : ∀ k ∈ S.ks, k.ok) (hlen : S.ks.length * 40 ≤ 140737488355328) :
    Calls Tryz.prog 31 #[.pointer (some ⟨hb, 0, none⟩), .string name] w fun r w' => r = .returned (.tuple #[codeV 0, .int .i64 0]) ∧ ∃ o' ids' v u, HlAt w' o' 5 hb ab t draw ⟨S.ws.eraseIdx i, S.serial, stay S.ks name⟩ ids' v u ∧ Ch (fun l => l = 5) o w o' w' := by
  obtain ⟨x0, hx0, -, -⟩ := atN_some hat
  have hil : i < ids.length := by have := (List.getElem?_eq_some_iff.1 hx0).1; have := h.len; omega
  obtain ⟨kg, hkg⟩ : ∃ kg, ids[i]? = some kg := ⟨_, List.getElem?_eq_getElem hil⟩
  have hkb : ids[i]! = kg := by rw [List.getElem!_eq_getElem?_getD, hkg]; rfl
  obtain ⟨g, cap, rfl, hcap⟩ : ∃ g cap, wv = .slice (some ⟨g, 0, none⟩) ids.length cap ∧ cap ≤ 9223372036854775807 := by
    rcases h.row.2 with ⟨_, h0⟩ | ⟨g, cap, cur, hv, _, _, _, hm, _⟩
    · have h1 : ids.length = 0 := h0
      omega
    · exact ⟨g, cap, hv, by unfold maxLen at hm; omega⟩
  have b1 : Below w.heap.size w (w.alloc (.cells #[.int .i64 0, .int .i64 0, .int .i64 0, .int .i64 0, .int .i64 0, .int .i64 0, .int .i64 0, .int .i64 0, .string ⟨#[]⟩, .slice none 0 0] 35)) := (Below.refl _ _).alloc (Nat.le_refl _) _
  have hs1 : (w.alloc (.cells #[.int .i64 0, .int .i64 0, .int .i64 0, .int .i64 0, .int .i64 0, .int .i64 0, .int .i64 0, .int .i64 0, .string ⟨#[]⟩, .slice none 0 0] 35)).heap.size = w.heap.size + 1 := by simp
  have b2 : Below w.heap.size w ((w.alloc (.cells #[.int .i64 0, .int .i64 0, .int .i64 0, .int .i64 0, .int .i64 0, .int .i64 0, .int .i64 0, .int .i64 0, .string ⟨#[]⟩, .slice none 0 0] 35)).alloc (.cells #[.pointer (some ⟨kg, 0, none⟩)] 103)) := b1.alloc (by simp) _
  have a1 := noAn_born w
  unfold noAn at a1
  have a2 : AnB ((w.alloc (.cells #[.int .i64 0, .int .i64 0, .int .i64 0, .int .i64 0, .int .i64 0, .int .i64 0, .int .i64 0, .int .i64 0, .string ⟨#[]⟩, .slice none 0 0] 35)).alloc (.cells #[.pointer (some ⟨kg, 0, none⟩)] 103)) w.heap.size #[.int .i64 0, .int .i64 0, .int .i64 0, .int .i64 0, .int .i64 0, .int .i64 0, .int .i64 0, .int .i64 0, .string ⟨#[]⟩, .slice none 0 0] := (Below.heap_alloc _ _ _ (by simp)).trans a1
  have r2 : ((w.alloc (.cells #[.int .i64 0, .int .i64 0, .int .i64 0, .int .i64 0, .int .i64 0, .int .i64 0, .int .i64 0, .int .i64 0, .string ⟨#[]⟩, .slice none 0 0] 35)).alloc (.cells #[.pointer (some ⟨kg, 0, none⟩)] 103)).cell? ⟨w.heap.size + 1, 0, none⟩ = some (.pointer (some ⟨kg, 0, none⟩)) := by rw [← hs1]; simp
  have hwd := world_any (h.below b1 0) name hids
  rw [ptN_some hat, hkb] at hwd
  have H0 := h.below b2 0
  have HLT : Hid (w.heap.size + 1 < ((w.alloc (.cells #[.int .i64 0, .int .i64 0, .int .i64 0, .int .i64 0, .int .i64 0, .int .i64 0, .int .i64 0, .int .i64 0, .string ⟨#[]⟩, .slice none 0 0] 35)).alloc (.cells #[.pointer (some ⟨kg, 0, none⟩)] 103)).heap.size ∧ hb < w.heap.size ∧ g < w.heap.size) := ⟨by show w.heap.size + 1 < _; simp, h.lt, (World.ownsRow.lt h.row g rfl).2⟩
  have HH : Hid (HlAt w o 5 hb ab t draw S ids (.slice (some ⟨g, 0, none⟩) ids.length cap) kv) := h
  have hgl := h.rne g rfl
  have eg : ∀ args w, (callFunc 58 args).run Tryz.prog w = .ok (.enter 58 args) w := enters_of Tryz.func58 (by kernel_rfl) rfl
  have hKV : ∃ p n c, kv = .slice p n c := h.keys.form
  clear h hat hx0 hkb b1
  obtain ⟨kp, kn, kc, rfl⟩ := hKV
  obtain ⟨n, hn⟩ : ∃ n, n = ids.length := ⟨_, rfl⟩
  have HN : Hid (n = ids.length) := hn
  obtain ⟨m, hm⟩ : ∃ m, m = (leftOf (fun y => decide (y = kg)) ids).length := ⟨_, rfl⟩
  have HM : Hid (m = (leftOf (fun y => decide (y = kg)) ids).length) := hm
  obtain ⟨-, -, -, c3, -⟩ := H0.cells
  have hdel := deleteFunc_any 58 #[.pointer (some ⟨w.heap.size + 1, 0, none⟩)] eg (fun y => decide (y = kg)) g ids.length cap ids ((w.alloc (.cells #[.int .i64 0, .int .i64 0, .int .i64 0, .int .i64 0, .int .i64 0, .int .i64 0, .int .i64 0, .int .i64 0, .string ⟨#[]⟩, .slice none 0 0] 35)).alloc (.cells #[.pointer (some ⟨kg, 0, none⟩)] 103)) rfl hcap H0.row (fun W y hy hO => by
    obtain ⟨j, hj⟩ := List.getElem?_of_mem hy
    obtain ⟨xa, -, hxa, -, hla⟩ := H0.wlt hj
    obtain ⟨xc, -, hxc, -, hlc⟩ := H0.wlt hkg
    have e1 : W.heap[w.heap.size + 1]? = ((w.alloc (.cells #[.int .i64 0, .int .i64 0, .int .i64 0, .int .i64 0, .int .i64 0, .int .i64 0, .int .i64 0, .int .i64 0, .string ⟨#[]⟩, .slice none 0 0] 35)).alloc (.cells #[.pointer (some ⟨kg, 0, none⟩)] 103)).heap[w.heap.size + 1]? := hO.block _ HLT.out.1 (by have := HLT.out; omega)
    exact (goneP_any (w.heap.size + 1) kg y W ((World.cell?_of_block (a := ⟨w.heap.size + 1, 0, none⟩) e1).trans r2) ((hO.block y hla fun e => hgl.2 (e ▸ hy)).trans hxa) ((hO.block kg hlc fun e => hgl.2 (e ▸ List.mem_of_getElem? hkg)).trans hxc)).mono fun e w' ⟨h1, h2⟩ => ⟨h1, by rw [h2]; exact Below.refl _ _⟩)
  rw [← hm] at hdel
  rw [← hn] at hdel c3
  have HS : Hid (AnB ((w.alloc (.cells #[.int .i64 0, .int .i64 0, .int .i64 0, .int .i64 0, .int .i64 0, .int .i64 0, .int .i64 0, .int .i64 0, .string ⟨#[]⟩, .slice none 0 0] 35)).alloc (.cells #[.pointer (some ⟨kg, 0, none⟩)] 103)) w.heap.size #[.int .i64 0, .int .i64 0, .int .i64 0, .int .i64 0, .int .i64 0, .int .i64 0, .int .i64 0, .int .i64 0, .string ⟨#[]⟩, .slice none 0 0] ∧ HlAt ((w.alloc (.cells #[.int .i64 0, .int .i64 0, .int .i64 0, .int .i64 0, .int .i64 0, .int .i64 0, .int .i64 0, .int .i64 0, .string ⟨#[]⟩, .slice none 0 0] 35)).alloc (.cells #[.pointer (some ⟨kg, 0, none⟩)] 103)) (ext o w.heap.size 0) 5 hb ab t draw S ids (.slice (some ⟨g, 0, none⟩) ids.length cap) (.slice kp kn kc) ∧ Below w.heap.size w ((w.alloc (.cells #[.int .i64 0, .int .i64 0, .int .i64 0, .int .i64 0, .int .i64 0, .int .i64 0, .int .i64 0, .int .i64 0, .string ⟨#[]⟩, .slice none 0 0] 35)).alloc (.cells #[.pointer (some ⟨kg, 0, none⟩)] 103)) ∧ ids[i]? = some kg ∧ g ≠ hb ∧ g ∉ ids) := ⟨a2, H0, b2, hkg, hgl.1, hgl.2⟩
  clear a2 H0 b2 hgl hm hn r2 a1
  go_enter Tryz.func31, Tryz.ntmps31
  go_wp2_with fail
  refine hwd.mono ?_
  rintro e w1 ⟨rfl, rfl⟩
  clear hwd
  go_wp2_with fail
  generalize ((w.alloc (.cells #[.int .i64 0, .int .i64 0, .int .i64 0, .int .i64 0, .int .i64 0, .int .i64 0, .int .i64 0, .int .i64 0, .string ⟨#[]⟩, .slice none 0 0] 35)).alloc (.cells #[.pointer (some ⟨kg, 0, none⟩)] 103)) = wA at *
  refine hdel.mono ?_
  rintro e w2 ⟨rfl, hrow2, hO2⟩
  have hle : leftOf (fun y => decide (y = kg)) ids = ids.eraseIdx i := left_erase ids i HS.out.2.1.nodup HS.out.2.2.2.1
  rw [hle] at hrow2
  have hhb : w2.heap[hb]? = wA.heap[hb]? := hO2.block hb (Nat.lt_of_lt_of_le HLT.out.2.1 HS.out.2.2.1.size) fun e => HS.out.2.2.2.2.1 e.symm
  have own2 : HlB w2 hb ab t draw (.slice (some ⟨g, 0, none⟩) ids.length cap) S.serial (.slice kp kn kc) := hhb.trans HS.out.2.1.own
  have H3 := HS.out.2.1.dropped (v := .slice (some ⟨g, 0, none⟩) m cap) (ids' := ids.eraseIdx i) (ws' := S.ws.eraseIdx i) rfl hO2 rfl hrow2 (by rw [List.length_eraseIdx, List.length_eraseIdx, HS.out.2.1.len]) (HS.out.2.1.nodup.sublist (List.eraseIdx_sublist _ _)) (fun j k x h1 h2 => by
    rw [List.getElem?_eraseIdx] at h1 h2
    split at h1
    · rename_i hj
      rw [if_pos hj] at h2
      exact ⟨j, h1, h2⟩
    · rename_i hj
      rw [if_neg hj] at h2
      exact ⟨j + 1, h1, h2⟩)
  have e3 : w2.cell? ⟨hb, 3, none⟩ = some (.slice (some ⟨g, 0, none⟩) ids.length cap) := by rw [Lib.cell_of_heap own2]; rfl
  have f3 : w2.frozen? ⟨hb, 3, none⟩ = false := Lib.frozen_of_heap own2 3
  have a3 : AnB (w2.setCell ⟨hb, 3, none⟩ (.slice (some ⟨g, 0, none⟩) m cap)) w.heap.size #[.int .i64 0, .int .i64 0, .int .i64 0, .int .i64 0, .int .i64 0, .int .i64 0, .int .i64 0, .int .i64 0, .string ⟨#[]⟩, .slice none 0 0] := ((Below.heap_setCell _ _ _ _ (by have := HLT.out; show w.heap.size ≠ hb; omega)).trans (hO2.block _ (by have := HLT.out; omega) (by have := HLT.out; omega))).trans HS.out.1
  have C3 : ∀ k, k < w.heap.size → o k ≠ 5 → (w2.setCell ⟨hb, 3, none⟩ (.slice (some ⟨g, 0, none⟩) m cap)).heap[k]? = w.heap[k]? := fun k hk hn => (Below.heap_setCell _ _ _ _ (fun (e : k = hb) => hn (e ▸ HH.out.lab))).trans ((hO2.block k (Nat.lt_of_lt_of_le hk HS.out.2.2.1.size) (fun e => hn (e ▸ HH.out.rlab g rfl))).trans (HS.out.2.2.1.block k hk))
  have HO : Hid ((w2.setCell ⟨hb, 3, none⟩ (.slice (some ⟨g, 0, none⟩) m cap)).os = w.os ∧ (w2.setCell ⟨hb, 3, none⟩ (.slice (some ⟨g, 0, none⟩) m cap)).tape = w.tape ∧ (w2.setCell ⟨hb, 3, none⟩ (.slice (some ⟨g, 0, none⟩) m cap)).output = w.output ∧ w.heap.size + 1 ≤ (w2.setCell ⟨hb, 3, none⟩ (.slice (some ⟨g, 0, none⟩) m cap)).heap.size) := ⟨hO2.os.trans HS.out.2.2.1.os, hO2.tape.trans HS.out.2.2.1.tape, hO2.output.trans HS.out.2.2.1.output, by have h1 := hO2.size; have h2 := HLT.out.1; simp [World.setCell]; omega⟩
  go_upto_region 5 with fail
  generalize w2.setCell ⟨hb, 3, none⟩ (.slice (some ⟨g, 0, none⟩) m cap) = w3 at *
  obtain ⟨-, -, -, -, c4, c5⟩ := H3.cells
  have hrv := revoke_any S.serial (.slice kp kn kc) S.ks name w3 H3.keys.hk hok hlen
  have HX : Hid (HlAt w3 (ext o w.heap.size 0) 5 hb ab t draw { S with ws := S.ws.eraseIdx i } (ids.eraseIdx i) (.slice (some ⟨g, 0, none⟩) m cap) (.slice kp kn kc) ∧ AnB w3 w.heap.size #[.int .i64 0, .int .i64 0, .int .i64 0, .int .i64 0, .int .i64 0, .int .i64 0, .int .i64 0, .int .i64 0, .string ⟨#[]⟩, .slice none 0 0] ∧ ∀ k, k < w.heap.size → o k ≠ 5 → w3.heap[k]? = w.heap[k]?) := ⟨H3, a3, C3⟩
  obtain ⟨sr, hsr⟩ : ∃ sr, sr = S.serial := ⟨_, rfl⟩
  have HSR : Hid (sr = S.serial) := hsr
  have hst : K.stay S.ks name = stay S.ks name := rfl
  clear hst
  rw [← hsr] at hrv c4
  clear H3 a3 C3 e3 f3 own2 hhb hrow2 hO2 hle hdel hsr
  go_wp2_with fail
  refine hrv.mono ?_
  rintro e w4 ⟨u, rfl, hk4, hb4⟩
  obtain ⟨up, un, uc, rfl⟩ := hk4.form
  have H4 := HX.out.1.below hb4 0
  obtain ⟨-, -, -, -, y4, y5⟩ := H4.cells
  have z4 := H4.free 4
  have z5 := H4.free 5
  have a4 := HX.out.2.1.below hb4
  have HK4 : Hid (KRow w4 w3.heap.size (.slice up un uc) (K.stay S.ks name) ∧ Below w3.heap.size w3 w4 ∧ AnB w4 w.heap.size #[.int .i64 0, .int .i64 0, .int .i64 0, .int .i64 0, .int .i64 0, .int .i64 0, .int .i64 0, .int .i64 0, .string ⟨#[]⟩, .slice none 0 0]) := ⟨hk4, hb4, a4⟩
  have HH4 : Hid (HlAt w4 _ 5 hb ab t draw { S with ws := S.ws.eraseIdx i } (ids.eraseIdx i) (.slice (some ⟨g, 0, none⟩) m cap) (.slice kp kn kc)) := H4
  have y4' : w4.cell? ⟨hb, 4, none⟩ = some (.int .i64 sr) := by rw [HSR.out]; exact y4
  clear hk4 hb4 H4 a4 y4 hrv c4 c5
  go_upto_region 6 with fail
  have hkl : ∀ q, (Value.slice up un uc).ownBlock = some q → w.heap.size < q := fun q hq => by
    have h1 := HK4.out.1.lt q hq
    have h2 := HO.out.2.2.2
    omega
  have H6 := (HH4.out.more (o1 := owned o w.heap.size (.slice up un uc)) (fun k hk => owned_more k (by
    by_cases h5 : k < w3.heap.size
    · rw [ext_old h5] at hk; exact hk
    · rw [ext_new (by omega)] at hk; cases hk))).table (s' := sr) (u := .slice up un uc) (ks' := K.stay S.ks name) (HK4.out.1.mono (Nat.zero_le _)) fun q hq => ⟨owned_new hq, by have := hkl q hq; have := HLT.out; omega, fun hm => by
      obtain ⟨j, hj⟩ := List.getElem?_of_mem hm
      obtain ⟨_, _, _, _, h3⟩ := HX.out.1.wlt hj
      have := HK4.out.1.lt q hq
      omega⟩
  have hC6 : Ch (fun l => l = 5) o w (owned o w.heap.size (.slice up un uc)) ((w4.setCell ⟨hb, 4, none⟩ (.int .i64 sr)).setCell ⟨hb, 5, none⟩ (.slice up un uc)) := by
    have hb5 := HK4.out.2.1
    obtain ⟨o1, o2, o3, o4⟩ := HO.out
    refine ⟨hb5.os.trans o1, hb5.tape.trans o2, hb5.output.trans o3, by have := hb5.size; simp [World.setCell]; omega, fun k hk => owned_same (fun q hq => by have := hkl q hq; omega) hk, fun k hk hn => ?_⟩
    have hne : k ≠ hb := fun e => hn (e ▸ HH.out.lab)
    exact ((Below.heap_setCell _ _ _ _ hne).trans (Below.heap_setCell _ _ _ _ hne)).trans ((hb5.block k (by omega)).trans (HX.out.2.2 k hk hn))
  have r6 : AnB ((w4.setCell ⟨hb, 4, none⟩ (.int .i64 sr)).setCell ⟨hb, 5, none⟩ (.slice up un uc)) w.heap.size #[.int .i64 0, .int .i64 0, .int .i64 0, .int .i64 0, .int .i64 0, .int .i64 0, .int .i64 0, .int .i64 0, .string ⟨#[]⟩, .slice none 0 0] := ((Below.heap_setCell _ _ _ _ (by have := HLT.out; show w.heap.size ≠ hb; omega)).trans (Below.heap_setCell _ _ _ _ (by have := HLT.out; show w.heap.size ≠ hb; omega))).trans HK4.out.2.2
  have hR : owned o w.heap.size (.slice up un uc) w.heap.size ≠ 5 := by
    rw [owned_old (fun e => by have := hkl _ e; omega) (Nat.le_refl _)]
    decide
  generalize (w4.setCell ⟨hb, 4, none⟩ (.int .i64 sr)).setCell ⟨hb, 5, none⟩ (.slice up un uc) = w6 at *
  rw [HSR.out] at H6
  have HZ : Hid (_ ∧ _ ∧ AnB w6 w.heap.size #[.int .i64 0, .int .i64 0, .int .i64 0, .int .i64 0, .int .i64 0, .int .i64 0, .int .i64 0, .int .i64 0, .string ⟨#[]⟩, .slice none 0 0]) := ⟨H6, hC6, r6⟩
  clear H6 hC6 hkl y4' y5 z4 z5
  obtain ⟨c0, c1, c2, c3, c4, c5, c6, c7, c8, c9, f0, f1, f2, f3, f4, f5, f6, f7, f8, f9⟩ := r6.cells
  clear r6
  go_wp2_with fail
  obtain ⟨d0, d1, d2, d3, d4, d5, d6, d7, d8, d9, -⟩ := (HZ.out.2.2.put (a0 := .int .i64 0) (a1 := .int .i64 0) (a2 := .int .i64 0) (a3 := .int .i64 0) (a4 := .int .i64 0) (a5 := .int .i64 0) (a6 := .int .i64 0) (a7 := .int .i64 0) (a8 := .string ⟨#[]⟩) (a9 := .slice none 0 0)).cells
  unfold putAn at d0  d1  d2  d3  d4  d5  d6  d7  d8  d9
  refine bodyPost_ret (v := .tuple #[codeV 0, .int .i64 0]) ?_ rfl ⟨rfl, _, ⟨_, _, _, HZ.out.1.fin hR⟩, Ch.an HZ.out.2.1 (Nat.le_refl _)⟩
  simp [results, Tryz.results31, go_sem, d0, d1, d2, d3, d4, d5, d6, d7, d8, d9, codeV, ansV]
end Go.Proofs.YtgipjplifndniaaGreatDoor.U
