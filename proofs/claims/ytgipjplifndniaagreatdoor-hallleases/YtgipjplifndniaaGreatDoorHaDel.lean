/- slices.DeleteFunc at universes. -/
import Derived.Test.YtgipjplifndniaaGreatDoorHaPut
import Derived.Test.YtgipjplifndniaaGreatDoorKyDel1
import Derived.Shelf.SlicesQ.IndexFunc
namespace Go.Proofs.YtgipjplifndniaaGreatDoor.U
open Go.RowKit Go.Maps Go.Proofs.YtgipjplifndniaaGreatDoor.L Go.Proofs.YtgipjplifndniaaGreatDoor.A Go.Proofs.YtgipjplifndniaaGreatDoor.K

def ptr (k : Nat) : Value := .pointer (some ⟨k, 0, none⟩)
def idxP (p : Nat → Bool) (ks : List Nat) : Int :=
  match ks.findIdx? p with
  | some i => (i : Int)
  | none => -1
theorem idxP_hit {p : Nat → Bool} {ks : List Nat} {j : Nat} {x : Nat} (hx : ks[j]? = some x) (hp : p x = true) (hl : ∀ i y, i < j → ks[i]? = some y → p y = false) : idxP p ks = j := by
  unfold idxP
  have : ks.findIdx? p = some j := by
    obtain ⟨h1, h2⟩ := List.getElem?_eq_some_iff.1 hx
    rw [List.findIdx?_eq_some_iff_getElem]
    refine ⟨h1, by rw [h2]; exact hp, fun i hi => ?_⟩
    rw [hl i _ hi (List.getElem?_eq_getElem (by omega))]
    simp
  rw [this]
theorem idxP_miss {p : Nat → Bool} {ks : List Nat} (hl : ∀ (i : Nat) y, ks[i]? = some y → p y = false) : idxP p ks = -1 := by
  unfold idxP
  have : ks.findIdx? p = none := by
    rw [List.findIdx?_eq_none_iff]
    intro x hx
    obtain ⟨i, hi⟩ := List.mem_iff_getElem?.1 hx
    exact hl i x hi
  rw [this]

theorem prow_max {w : World} {v : Value} {ids : List Nat} (h : PRow w v ids) : ids.length ≤ 9223372036854775807 := by
  rcases h.2 with ⟨_, h2⟩ | ⟨g, cap, cur, _, _, _, h1, h2, _⟩
  · have hn : ids.length = 0 := h2
    omega
  · unfold maxLen at h2
    omega
set_option maxRecDepth 20000 in
set_option maxHeartbeats 1000000 in
theorem indexFunc_any (g : Nat) (lb : Array Value) (eg : ∀ args w, (callFunc g args).run Tryz.prog w = .ok (.enter g args) w) (p : Nat → Bool) (v : Value) (ks : List Nat) (w : World) (h : PRow w v ks)
    (hp : ∀ (W : World) (x : Nat), x ∈ ks → Below w.heap.size w W → Calls Tryz.prog g (#[ptr x] ++ lb) W fun e w' => e = .returned (.bool (p x)) ∧ Below w.heap.size w w') :
    Calls Tryz.prog 99 #[v, .func (.func g) #[] lb] w fun e w' => e = .returned (.int .i64 (idxP p ks)) ∧ Below w.heap.size w w' := by
  obtain ⟨pp, cap, rfl, hrow⟩ := prow_at h
  have hcap : ks.length ≤ 9223372036854775807 := prow_max h
  obtain ⟨n, hn⟩ : ∃ n, n = ks.length := ⟨_, rfl⟩
  rw [← hn] at hcap ⊢
  have HROW : Hid (ks = [] ∨ ∃ b off, pp = some ⟨b, off, none⟩ ∧ ∀ (i k : Nat), ks[i]? = some k → w.cell? ⟨b, off + i, none⟩ = some (ptr k)) := hrow
  have HN : Hid (n = ks.length) := hn
  have HP : Hid (∀ (W : World) (x : Nat), x ∈ ks → Below w.heap.size w W → Calls Tryz.prog g (#[ptr x] ++ lb) W fun e w' => e = .returned (.bool (p x)) ∧ Below w.heap.size w w') := hp
  clear hrow hn hp
  go_enter Tryz.func99, Tryz.ntmps99
  go_wp2_with fail
  go_loopg [5, 8] n (fun gk _ s8 wr => ∃ j : Nat, j + gk = n ∧ s8 = .int .i64 j ∧ Below w.heap.size w wr ∧ (∀ i y, i < j → ks[i]? = some y → p y = false))
  case atStart => exact ⟨0, by omega, rfl, Below.refl _ _, fun i y hi => absurd hi (by omega)⟩
  case round =>
    obtain ⟨j, hj, rfl, hbr, hall⟩ := hrel
    have HJ : Hid (j + gk = n) := hj
    have HA : Hid (∀ i y, i < j → ks[i]? = some y → p y = false) := hall
    have HBR : Hid (Below w.heap.size w wr) := hbr
    have hjn : j ≤ n := by omega
    clear hj hall
    by_cases hlt : j < n
    · obtain ⟨b, off, rfl, hc⟩ : ∃ b off, pp = some ⟨b, off, none⟩ ∧ ∀ (i k : Nat), ks[i]? = some k → w.cell? ⟨b, off + i, none⟩ = some (ptr k) := by
        rcases HROW.out with h | h
        · have := HN.out; rw [h] at this; simp at this; omega
        · exact h
      have hjk : j < ks.length := by have := HN.out; omega
      obtain ⟨x, hx⟩ : ∃ x, x = ks[j] := ⟨_, rfl⟩
      have hxg : ks[j]? = some x := by rw [hx]; exact List.getElem?_eq_getElem hjk
      have c0 := cell_later hbr (hc j x hxg)
      have cc := HP.out wr x (List.mem_of_getElem? hxg) hbr
      have HX : Hid (ks[j]? = some x) := hxg
      clear hc hxg hx hbr
      have HPX : Hid (∀ b, p x = b → p x = b) := fun _ h => h
      cases hq : p x with
      | true =>
        rw [hq] at cc
        have HQ : Hid (p x = true) := hq
        clear hq
        unfold ptr at c0 cc
        have hi1 : (0 : Int) ≤ (j : Int) := by omega
        have hi2 : (j : Int) < (n : Int) := by omega
        go_wp2_with (go_at_fn g; refine cc.mono ?_; rintro e w2 ⟨rfl, hb2⟩)
        go_ret
        exact ⟨by rw [idxP_hit HX.out HQ.out HA.out]; rfl, hb2⟩
      | false =>
        rw [hq] at cc
        have HQ : Hid (p x = false) := hq
        clear hq
        unfold ptr at c0 cc
        have hi1 : (0 : Int) ≤ (j : Int) := by omega
        have hi2 : (j : Int) < (n : Int) := by omega
        go_wp2_with (go_at_fn g; refine cc.mono ?_; rintro e w2 ⟨rfl, hb2⟩)
        go_roundg (gk - 1)
        case measure => have := HJ.out; omega
        case rel =>
          have h1 := HJ.out
          refine ⟨j + 1, by omega, by go_num, hb2, fun i y hi hy => ?_⟩
          rcases Nat.lt_succ_iff_lt_or_eq.1 hi with h | h
          · exact HA.out i y h hy
          · subst h
            rw [HX.out] at hy
            cases hy
            exact HQ.out
    · have hq : ¬ (j : Int) < (n : Int) := by omega
      have HE : Hid (j = n) := by show j = n; omega
      go_wp2_with fail
      go_ret
      refine ⟨?_, HBR.out⟩
      rw [idxP_miss fun i y hy => HA.out i y (by have := (List.getElem?_eq_some_iff.1 hy).1; have := HE.out; have := HN.out; omega) hy]
      rfl
def leftOf (p : Nat → Bool) (ks : List Nat) : List Nat := ks.filter fun k => !p k
theorem leftOf_step {p : Nat → Bool} {ks : List Nat} {j : Nat} {x : Nat} (hx : ks[j]? = some x) : leftOf p (ks.take (j + 1)) = leftOf p (ks.take j) ++ (if p x = true then [] else [x]) := by
  obtain ⟨h1, h2⟩ := List.getElem?_eq_some_iff.1 hx
  unfold leftOf
  rw [List.take_succ_eq_append_getElem h1, List.filter_append, h2]
  congr 1
  cases h : p x <;> simp [h]
theorem leftOf_none {p : Nat → Bool} {ks : List Nat} (h : ∀ (i : Nat) y, ks[i]? = some y → p y = false) : leftOf p ks = ks := by
  unfold leftOf
  rw [List.filter_eq_self]
  intro x hx
  obtain ⟨i, hi⟩ := List.mem_iff_getElem?.1 hx
  rw [h i x hi]
  rfl
theorem idx_left {p : Nat → Bool} (ks : List Nat) : (idxP p ks = -1 ∧ leftOf p ks = ks) ∨ ∃ (j : Nat), idxP p ks = (j : Int) ∧ j < ks.length ∧ leftOf p (ks.take (j + 1)) = ks.take j := by
  by_cases h : ∃ j, ks.findIdx? p = some j
  · obtain ⟨j, hj⟩ := h
    right
    obtain ⟨h1, h2, h3⟩ := List.findIdx?_eq_some_iff_getElem.1 hj
    refine ⟨j, by unfold idxP; rw [hj], h1, ?_⟩
    rw [leftOf_step (List.getElem?_eq_getElem h1), if_pos h2, List.append_nil]
    refine leftOf_none fun i y hy => ?_
    rw [List.getElem?_take] at hy
    by_cases hi : i < j
    · rw [if_pos hi, List.getElem?_eq_getElem (by omega)] at hy
      have := h3 i hi
      cases hy
      simpa using this
    · rw [if_neg hi] at hy; cases hy
  · left
    have hn : ks.findIdx? p = none := by
      cases hf : ks.findIdx? p with
      | none => rfl
      | some j => exact absurd ⟨j, hf⟩ h
    refine ⟨by unfold idxP; rw [hn], leftOf_none fun i y hy => ?_⟩
    rw [List.findIdx?_eq_none_iff] at hn
    exact hn y (List.mem_of_getElem? hy)
theorem leftOf_le (p : Nat → Bool) (ks : List Nat) : (leftOf p ks).length ≤ ks.length := List.length_filter_le _ _

structure Del (p : Nat → Bool) (ks : List Nat) (i j : Nat) (d : List Nat) : Prop where
  lt : i < j
  le : j ≤ ks.length
  len : d.length = ks.length
  low : d.take i = leftOf p (ks.take j)
  high : d.drop j = ks.drop j
theorem Del.get {p : Nat → Bool} {ks d : List Nat} {i j : Nat} (h : Del p ks i j d) (hj : j < ks.length) : d[j]? = some ks[j] := by
  have := congrArg (fun l => l[0]?) h.high
  simp only [List.getElem?_drop, Nat.add_zero] at this
  rw [this, List.getElem?_eq_getElem hj]
theorem Del.skip {p : Nat → Bool} {ks d : List Nat} {i j : Nat} (h : Del p ks i j d) (hj : j < ks.length) (hp : p ks[j] = true) : Del p ks i (j + 1) d where
  lt := by have := h.lt; omega
  le := hj
  len := h.len
  low := by rw [leftOf_step (List.getElem?_eq_getElem hj), if_pos hp, List.append_nil]; exact h.low
  high := by
    have := congrArg (List.drop 1) h.high
    simpa [List.drop_drop] using this
theorem Del.keep {p : Nat → Bool} {ks d : List Nat} {i j : Nat} (h : Del p ks i j d) (hj : j < ks.length) (hp : p ks[j] = false) : Del p ks (i + 1) (j + 1) (d.set i ks[j]) where
  lt := by have := h.lt; omega
  le := hj
  len := by rw [List.length_set]; exact h.len
  low := by
    rw [leftOf_step (List.getElem?_eq_getElem hj), hp, if_neg (by simp), ← h.low]
    have hi : i < d.length := by have := h.lt; have := h.len; omega
    rw [List.take_succ_eq_append_getElem (by simpa using hi), List.getElem_set_self, List.take_set, List.set_eq_of_length_le (by rw [List.length_take]; omega)]
  high := by
    have h1 := h.lt
    rw [List.drop_set_of_lt (by omega)]
    have := congrArg (List.drop 1) h.high
    simpa [List.drop_drop] using this

theorem PRow.put {w : World} {g n cap : Nat} {d : List Nat} (h : PRow w (.slice (some ⟨g, 0, none⟩) n cap) d) (i : Nat) (x : Nat) (_ : i < d.length) : PRow (w.setCell ⟨g, i, none⟩ (ptr x)) (.slice (some ⟨g, 0, none⟩) n cap) (d.set i x) := by
  rcases h.2 with ⟨h0, _⟩ | ⟨g', cap', cur, hv, hb, hg, h1, h2, hs, ht⟩
  · cases h0
  · cases hv
    refine ⟨by simp, .inr ⟨g, cap, cur.setIfInBounds i (ptr x), by rw [List.length_set], hb, Go.Joins.block_setCell hg _, by rw [List.length_set]; exact h1, h2, by simp [hs], ?_⟩⟩
    rw [List.map_set, List.length_set, ← ht]
    simp only [Array.toList_setIfInBounds, List.take_set]
    rfl
theorem PRow.cut {w : World} {g n cap : Nat} {d : List Nat} (h : PRow w (.slice (some ⟨g, 0, none⟩) n cap) d) (i : Nat) (hi : i ≤ d.length) (vs : List Value) : PRow (w.setCells g i vs) (.slice (some ⟨g, 0, none⟩) i cap) (d.take i) := by
  rcases h.2 with ⟨h0, _⟩ | ⟨g', cap', cur, hv, hb, hg, h1, h2, hs, ht⟩
  · cases h0
  · cases hv
    obtain ⟨cur', e1, e2, e3⟩ := heap_setCells vs i hg
    have hl : (d.take i).length = i := by rw [List.length_take]; omega
    refine ⟨by simp, .inr ⟨g, cap, cur', by rw [hl], hb, e1, by omega, h2, by rw [e2, hs], ?_⟩⟩
    rw [hl, List.map_take, ← ht, List.take_take, Nat.mul_one, Nat.mul_one, Nat.min_eq_left hi]
    apply List.ext_getElem?
    intro j
    rw [List.getElem?_take, List.getElem?_take]
    by_cases hj : j < i
    · rw [if_pos hj, if_pos hj]; simpa using e3 j hj
    · rw [if_neg hj, if_neg hj]
theorem PRow.free {w : World} {g n cap : Nat} {d : List Nat} (h : PRow w (.slice (some ⟨g, 0, none⟩) n cap) d) (j : Nat) (hj : j < d.length) : (w.cell? ⟨g, j, none⟩).isSome = true ∧ w.frozen? ⟨g, j, none⟩ = false := by
  rcases h.2 with ⟨h0, _⟩ | ⟨g', cap', cur, hv, hb, hg, h1, h2, hs, ht⟩
  · cases h0
  · cases hv
    have hjc : j < cur.size := by rw [hs]; omega
    refine ⟨?_, by simp [World.frozen?, hg]⟩
    rw [Lib.cell_of_heap hg, Array.getElem?_eq_getElem hjc]
    rfl
theorem PRow.at_ {w : World} {g n cap : Nat} {d : List Nat} (h : PRow w (.slice (some ⟨g, 0, none⟩) n cap) d) (k : Nat) (x : Nat) (hk : d[k]? = some x) : w.cell? ⟨g, k, none⟩ = some (ptr x) := by
  obtain ⟨a, c, hv, h4⟩ := prow_at h
  cases hv
  rcases h4 with h4 | ⟨b, off, e, hc⟩
  · rw [h4] at hk; simp at hk
  · cases e
    have := hc k x hk
    rwa [Nat.zero_add] at this
theorem PRow.below {w w1 : World} {v : Value} {d : List Nat} (h : PRow w v d) (hb : Below w.heap.size w w1) : PRow w1 v d := row_other h fun k hk => hb.block k (World.ownsRow.lt h k hk).2
def zeroPt : Array Value := #[.pointer none]
theorem clearP_run (w : World) (ty : TypeId) (b o n c : Nat) (hn : 0 < n) (hc : ∀ j, j < n → (w.cell? ⟨b, o + j, none⟩).isSome = true ∧ w.frozen? ⟨b, o + j, none⟩ = false) :
    (Builtin.clear_ #[51] ty #[.slice (some ⟨b, o, none⟩) n c]).run Tryz.prog w = .ok (.tuple #[]) (w.setCells b o (Builtin.zeroCells zeroPt n).toList) := by
  have hl : (Builtin.zeroCells zeroPt n).toList.length = n := by
    rw [Array.length_toList, size_zeroCells]; show n * 1 = n; omega
  have h1 : ∀ v ∈ (Builtin.zeroCells zeroPt n).toList, v.oneCell' = true := by
    intro v hv
    simp only [Builtin.zeroCells, Array.toList_map, List.mem_map] at hv
    obtain ⟨i, _, rfl⟩ := hv
    have h : i % 1 = 0 := Nat.mod_one i
    simp [zeroPt, h]
    rfl
  have hst := run_storeCells_cells (P := Tryz.prog) b o (Builtin.zeroCells zeroPt n).toList 0 w (by rw [hl]; simpa using fun j hj => (hc j hj).1) (by rw [hl]; simpa using fun j hj => (hc j hj).2) h1
  simp only [Nat.add_zero] at hst
  obtain ⟨m, rfl⟩ : ∃ m, n = m + 1 := ⟨n - 1, by omega⟩
  unfold zeroPt at hst ⊢
  simp [Builtin.clear_, run_underlying Tryz.underlying51, Value.cells, hst]
set_option maxRecDepth 20000 in
set_option maxHeartbeats 2000000 in
theorem deleteFunc_any (G : Nat) (lb : Array Value) (eg : ∀ args w, (callFunc G args).run Tryz.prog w = .ok (.enter G args) w) (p : Nat → Bool) (g n cap : Nat) (ks : List Nat) (w : World) (hn : n = ks.length) (hcap : cap ≤ 9223372036854775807) (h : PRow w (.slice (some ⟨g, 0, none⟩) n cap) ks)
    (hp : ∀ (W : World) (x : Nat), x ∈ ks → K.Only g w W → Calls Tryz.prog G (#[ptr x] ++ lb) W fun e w' => e = .returned (.bool (p x)) ∧ Below W.heap.size W w') :
    Calls Tryz.prog 57 #[.slice (some ⟨g, 0, none⟩) n cap, .func (.func G) #[] lb] w fun e w' => e = .returned (.slice (some ⟨g, 0, none⟩) (leftOf p ks).length cap) ∧ PRow w' (.slice (some ⟨g, 0, none⟩) (leftOf p ks).length cap) (leftOf p ks) ∧ K.Only g w w' := by
  have ci := indexFunc_any G lb eg p _ ks w h (fun W x hx hW => (hp W x hx (K.Only.of hW)).mono fun e w' hh => ⟨hh.1, hW.trans (hh.2.mono hW.size)⟩)
  have HH : Hid (PRow w (.slice (some ⟨g, 0, none⟩) n cap) ks) := h
  have HP : Hid (∀ (W : World) (x : Nat), x ∈ ks → K.Only g w W → Calls Tryz.prog G (#[ptr x] ++ lb) W fun e w' => e = .returned (.bool (p x)) ∧ Below W.heap.size W w') := hp
  have hgl : g < w.heap.size := (World.ownsRow.lt h g rfl).2
  have hnc : n ≤ cap := by
    rcases h.2 with ⟨h0, _⟩ | ⟨g', cap', cur, hv, hb, hg, h1, _⟩
    · cases h0
    · cases hv; omega
  clear h hp
  rcases idx_left (p := p) ks with ⟨h1, h2⟩ | ⟨i0, h1, h2, h3⟩
  · rw [h1] at ci
    have HL : Hid (leftOf p ks = ks) := h2
    have HN : Hid (n = ks.length) := hn
    clear h1 h2 hn
    go_enter Tryz.func57, Tryz.ntmps57
    go_wp2_with fail
    refine ci.mono ?_
    rintro e w1 ⟨rfl, hb1⟩
    go_wp2_with fail
    go_ret
    rw [HL.out, ← HN.out]
    exact ⟨rfl, HH.out.below hb1, K.Only.of hb1⟩
  · rw [h1] at ci
    have HN : Hid (n = ks.length) := hn
    have hi0 : i0 < n := by omega
    have HST : Hid (Del p ks i0 (i0 + 1) ks) := ⟨by omega, by omega, rfl, h3.symm, rfl⟩
    clear h1 h2 h3 hn
    have hne : ((i0 : Int) == -1) = false := by simp
    have eg' := eg
    go_enter Tryz.func57, Tryz.ntmps57
    go_wp2_with fail
    refine ci.mono ?_
    rintro e w1 ⟨rfl, hb1⟩
    have HB1 : Hid (Below w.heap.size w w1) := hb1
    clear ci hb1
    go_wp2_with fail
    go_loopg [5, 6] n (fun gk s5 s6 wr => ∃ (i j : Nat) (d : List Nat), s5 = .int .i64 i ∧ s6 = .int .i64 j ∧ n ≤ j + gk ∧ Del p ks i j d ∧ PRow wr (.slice (some ⟨g, 0, none⟩) n cap) d ∧ K.Only g w wr)
    case atStart => exact ⟨i0, i0 + 1, ks, rfl, by go_num, by omega, HST.out, HH.out.below HB1.out, K.Only.of HB1.out⟩
    case round =>
      obtain ⟨i, j, d, rfl, rfl, hj, hD, hrow, hO⟩ := hrel
      have HJ : Hid (n ≤ j + gk) := hj
      have HD : Hid (Del p ks i j d) := hD
      have HR : Hid (PRow wr (.slice (some ⟨g, 0, none⟩) n cap) d) := hrow
      have HO : Hid (K.Only g w wr) := hO
      have hij := hD.lt
      have hjn : j ≤ n := by have := hD.le; have := HN.out; omega
      have hgr : g < wr.heap.size := by have := hO.size; omega
      clear hj hO
      by_cases hlt : j < n
      · have hjk : j < ks.length := by have := HN.out; omega
        obtain ⟨x, hx⟩ : ∃ x, x = ks[j] := ⟨_, rfl⟩
        have hdj : d[j]? = some x := by rw [hx]; exact hD.get hjk
        have c0 := hrow.at_ j x hdj
        have HX : Hid (p x = true → Del p ks i (j + 1) d) := fun h => hD.skip hjk (by rw [← hx]; exact h)
        have HY : Hid (p x = false → Del p ks (i + 1) (j + 1) (d.set i x)) := fun h => by rw [hx]; exact hD.keep hjk (by rw [← hx]; exact h)
        have hdl : d.length = n := by rw [hD.len, HN.out]
        have HDL : Hid (d.length = n) := hdl
        have cc := HP.out _ x (by rw [hx]; exact List.getElem_mem hjk) HO.out
        have hi1 : (0 : Int) ≤ (j : Int) := by omega
        have hi2 : (j : Int) < (n : Int) := by omega
        have hi3 : (0 : Int) ≤ (i : Int) := by omega
        have hi4 : (i : Int) < (n : Int) := by omega
        have HFIN : Hid (∀ W, Below wr.heap.size wr W → PRow W (.slice (some ⟨g, 0, none⟩) n cap) d ∧ K.Only g w W) := fun W hW => ⟨HR.out.below hW, HO.out.trans (K.Only.of hW)⟩
        clear hD hrow hx hdj hjk hdl
        cases hq : p x with
        | true =>
          rw [hq] at cc
          have HQ : Hid (p x = true) := hq
          clear hq
          unfold ptr at c0 cc
          go_wp2_with (go_at_fn G; refine cc.mono ?_; rintro e w2 ⟨rfl, hb2⟩)
          go_roundg (gk - 1)
          case measure => have := HJ.out; omega
          case rel =>
            have h1 := HJ.out
            obtain ⟨f2, f3⟩ := HFIN.out _ hb2
            exact ⟨i, j + 1, d, rfl, by go_num, by omega, HX.out HQ.out, f2, f3⟩
        | false =>
          rw [hq] at cc
          have HQ : Hid (p x = false) := hq
          clear hq
          unfold ptr at c0 cc
          have HPUT : Hid (∀ W, PRow W (.slice (some ⟨g, 0, none⟩) n cap) d ∧ K.Only g w W → PRow (W.setCell ⟨g, i, none⟩ (.pointer (some ⟨x, 0, none⟩))) (.slice (some ⟨g, 0, none⟩) n cap) (d.set i x) ∧ K.Only g w (W.setCell ⟨g, i, none⟩ (.pointer (some ⟨x, 0, none⟩)))) := fun W h => ⟨h.1.put i x (by have := HDL.out; omega), h.2.trans (K.Only.set W i _)⟩
          go_wp2_with (go_at_fn G; refine cc.mono ?_; rintro e w2 ⟨rfl, hb2⟩; obtain ⟨f2, f3⟩ := HFIN.out _ hb2; have HF : Hid (PRow w2 (.slice (some ⟨g, 0, none⟩) n cap) d ∧ K.Only g w w2) := ⟨f2, f3⟩; obtain ⟨y0, y1⟩ := f2.free i (by have := HDL.out; omega); obtain ⟨z, hz⟩ := Option.isSome_iff_exists.1 y0; clear f2 f3 hb2 y0)
          go_roundg (gk - 1)
          case measure => have := HJ.out; omega
          case rel =>
            have h1 := HJ.out
            have h2 := HPUT.out _ HF.out
            exact ⟨i + 1, j + 1, _, by go_num, by go_num, by omega, HY.out HQ.out, h2.1, h2.2⟩
      · have hje : j = n := by omega
        have hq : ¬ (j : Int) < (n : Int) := by omega
        have hdl : d.length = n := by rw [hD.len, HN.out]
        have HFI : Hid (leftOf p ks = d.take i ∧ (leftOf p ks).length = i) := by
          have h1 := hD.low
          rw [hje, HN.out, List.take_length] at h1
          refine ⟨h1.symm, ?_⟩
          rw [← h1, List.length_take]
          omega
        have hcl := fun ty => clearP_run wr ty g i (n - i) (cap - i) (by omega) (fun q hq => hrow.free (i + q) (by omega))
        have hin : (i : Int) ≤ (n : Int) := by omega
        have hic : (i : Int) ≤ (cap : Int) := by omega
        have hi3 : (0 : Int) ≤ (i : Int) := by omega
        clear hD hrow
        have HDI : Hid (i ≤ d.length) := by show i ≤ d.length; omega
        clear hdl
        go_wp2_with fail
        go_ret
        rw [HFI.out.2]
        have h1 := HR.out.cut i HDI.out (Builtin.zeroCells zeroPt (n - i)).toList
        rw [← HFI.out.1] at h1
        exact ⟨rfl, h1, HO.out.setCells _ _⟩
end Go.Proofs.YtgipjplifndniaaGreatDoor.U
