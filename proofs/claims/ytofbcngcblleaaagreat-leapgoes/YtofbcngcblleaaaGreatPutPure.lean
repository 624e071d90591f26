/- A cell put into a list in order, and the memory of it: plain mathematics, and the built-in copy of cells. -/
import Derived.Test.YtofbcngcblleaaaGreatPure
import Derived.Shelf.SlSortCmp.NoneTotal
import Derived.Laws.CopyOwn
namespace Go.Proofs.YtofbcngcblleaaaGreat
open Go.RowKit Go.Lib Go.Sort
def HoldsR (w : World) (b off : Nat) (zs : List (Int × Int)) : Prop :=
  ∀ j, j < zs.length → w.cell? ⟨b, off + j * 2, none⟩ = some (.int .i64 (zs[j]!).1) ∧ w.cell? ⟨b, off + j * 2 + 1, none⟩ = some (.int .i64 (zs[j]!).2)
def Row (w : World) (v : Value) (zs : List (Int × Int)) : Prop :=
  (zs = [] ∧ v = .slice none 0 0) ∨ (zs ≠ [] ∧ ∃ b off c, v = .slice (some ⟨b, off, none⟩) zs.length c ∧ b < w.heap.size ∧ zs.length ≤ c ∧ c ≤ maxLen ∧ HoldsR w b off zs)
def ORow (w : World) (base : Nat) (v : Value) (zs : List (Int × Int)) : Prop :=
  (zs = [] ∧ v = .slice none 0 0) ∨ (zs ≠ [] ∧ ∃ b off c, v = .slice (some ⟨b, off, none⟩) zs.length c ∧ base ≤ b ∧ b < w.heap.size ∧ zs.length ≤ c ∧ c ≤ maxLen ∧ HoldsA w b off zs.toArray)
theorem toArray_get (zs : List (Int × Int)) (j : Nat) : zs.toArray[j]! = zs[j]! := by simp
theorem toList_get (d : Array (Int × Int)) (j : Nat) : d.toList[j]! = d[j]! := by
  have := toArray_get d.toList j
  rw [Array.toArray_toList] at this
  exact this.symm
theorem HoldsA.read {w : World} {b off : Nat} {zs : List (Int × Int)} (h : HoldsA w b off zs.toArray) : HoldsR w b off zs := fun j hj => by
  obtain ⟨c0, c1, _, _⟩ := h j (by simpa using hj)
  rw [toArray_get] at c0 c1
  exact ⟨c0, c1⟩
theorem ORow.read {w : World} {base : Nat} {v : Value} {zs : List (Int × Int)} (h : ORow w base v zs) : Row w v zs := by
  rcases h with h | ⟨hz, b, off, c, hv, _, hb, hl, hm, hh⟩
  · exact Or.inl h
  · exact Or.inr ⟨hz, b, off, c, hv, hb, hl, hm, hh.read⟩
theorem Row.below {w w' : World} {v : Value} {zs : List (Int × Int)} (h : Row w v zs) (hb : Below w.heap.size w w') : Row w' v zs := by
  rcases h with h | ⟨hz, b, off, c, hv, hlt, hl, hm, hh⟩
  · exact Or.inl h
  · refine Or.inr ⟨hz, b, off, c, hv, Nat.lt_of_lt_of_le hlt hb.size, hl, hm, fun j hj => ?_⟩
    rw [hb.cell (p := ⟨b, off + j * 2, none⟩) hlt, hb.cell (p := ⟨b, off + j * 2 + 1, none⟩) hlt]
    exact hh j hj
theorem ORow.below {w w' : World} {base : Nat} {v : Value} {zs : List (Int × Int)} (h : ORow w base v zs) (hb : Below w.heap.size w w') : ORow w' base v zs := by
  rcases h with h | ⟨hz, b, off, c, hv, hba, hlt, hl, hm, hh⟩
  · exact Or.inl h
  · refine Or.inr ⟨hz, b, off, c, hv, hba, Nat.lt_of_lt_of_le hlt hb.size, hl, hm, fun j hj => ?_⟩
    rw [hb.cell (p := ⟨b, off + j * 2, none⟩) hlt, hb.cell (p := ⟨b, off + j * 2 + 1, none⟩) hlt, hb.frozen (p := ⟨b, off + j * 2, none⟩) hlt, hb.frozen (p := ⟨b, off + j * 2 + 1, none⟩) hlt]
    exact hh j hj
theorem ORow.mono {w : World} {base base' : Nat} {v : Value} {zs : List (Int × Int)} (h : ORow w base v zs) (hb : base' ≤ base) : ORow w base' v zs := by
  rcases h with h | ⟨hz, b, off, c, hv, hba, r⟩
  · exact Or.inl h
  · exact Or.inr ⟨hz, b, off, c, hv, by omega, r⟩
theorem Row.isRow {w : World} {v : Value} {zs : List (Int × Int)} (h : Row w v zs) : IsRow w v zs.length (fun j => (zs[j]!).1) (fun j => (zs[j]!).2) := by
  rcases h with ⟨rfl, rfl⟩ | ⟨hz, b, off, c, rfl, hlt, hl, hm, hh⟩
  · exact IsRow.nil _ _ _
  · exact ⟨_, c, rfl, hl, hm, (fun e => by cases e), Or.inr ⟨b, off, rfl, hlt, hh⟩⟩
def zip2 (n : Nat) (X Y : Nat → Int) : List (Int × Int) := (List.range n).map fun j => (X j, Y j)
theorem zip2_length (n : Nat) (X Y : Nat → Int) : (zip2 n X Y).length = n := by simp [zip2]
theorem zip2_get (n : Nat) (X Y : Nat → Int) (j : Nat) (h : j < n) : (zip2 n X Y)[j]! = (X j, Y j) := by
  rw [getElem!_pos _ _ (by rw [zip2_length]; exact h)]; simp [zip2]
theorem holds_of_owns {w : World} {base : Nat} {g n cap : Nat} {zs : List (Int × Int)} (hn : zs.length = n) (h : w.ownsRow base 52 2 (.slice (some ⟨g, 0, none⟩) n cap) n (pairCells (fun j => (zs[j]!).1) (fun j => (zs[j]!).2) n)) : HoldsA w g 0 zs.toArray := by
  intro j hj
  have hj' : j < n := by rw [← hn]; simpa using hj
  have hp := pairs_of (h.cells rfl) j hj'
  rw [toArray_get]
  refine ⟨hp.1, hp.2, ?_, ?_⟩
  all_goals
    rcases h.2 with ⟨e, _⟩ | ⟨g', cap', cur, e, _, hh, _⟩
    · cases e
    · injection e with e1 _ _
      injection e1 with e1
      injection e1 with e1 _ _
      subst e1
      simp [World.frozen?, hh]
theorem encPt_one (x : Int × Int) (v : Value) (hv : v ∈ encPt x) : v.oneCell' = true := by
  simp [encPt] at hv
  rcases hv with rfl | rfl <;> rfl
theorem holdsK_of {w : World} {b off : Nat} {d : Array (Int × Int)} (h : HoldsA w b off d) : HoldsK encPt 2 w b off d := by
  intro t ht
  rw [size_flatK] at ht
  rw [get_flatK _ _ _ _ ht]
  obtain ⟨c0, c1, f0, f1⟩ := h (t / 2) (by omega)
  by_cases hm : t % 2 = 0
  · rw [show off + t = off + t / 2 * 2 by omega, c0, f0, hm]; exact ⟨rfl, rfl⟩
  · rw [show off + t = off + t / 2 * 2 + 1 by omega, c1, f1, show t % 2 = 1 by omega]; exact ⟨rfl, rfl⟩
theorem holdsA_of {w : World} {b off : Nat} {d : Array (Int × Int)} (h : HoldsK encPt 2 w b off d) : HoldsA w b off d := by
  intro j hj
  have h0 := h (j * 2) (by rw [size_flatK]; omega)
  have h1 := h (j * 2 + 1) (by rw [size_flatK]; omega)
  rw [get_flatK _ _ _ _ (by omega), show j * 2 / 2 = j by omega, show j * 2 % 2 = 0 by omega] at h0
  rw [get_flatK _ _ _ _ (by omega), show (j * 2 + 1) / 2 = j by omega, show (j * 2 + 1) % 2 = 1 by omega] at h1
  exact ⟨h0.1, h1.1, h0.2, h1.2⟩
set_option maxHeartbeats 400000 in
theorem contains_nil (fv : Value) (w : World) : Calls Tryz.prog 52 #[.slice none 0 0, fv] w fun e w' => e = .returned (.bool false) ∧ w' = w := by
  go_enter Tryz.func52, Tryz.ntmps52
  go_wp2
  refine wp_loop_rounds 1 ?_
  rw [rounds_succ]
  go_wp2
  go_ret
  exact ⟨rfl, rfl⟩
theorem contains_any (v : Value) (zs : List (Int × Int)) (w : World) (h : Row w v zs) : Calls Tryz.prog 52 #[v, .func (.func 53) #[] #[]] w fun e w' => e = .returned (.bool (zs.any farP)) ∧ Below w.heap.size w w' := by
  rcases h with ⟨rfl, rfl⟩ | ⟨hz, b, off, c, rfl, hlt, hl, hm, hh⟩
  · exact (contains_nil _ w).mono fun e w' ⟨he, hw⟩ => ⟨he, by rw [hw]; exact Below.refl _ _⟩
  · have eg : ∀ args w, (callFunc 53 args).run Tryz.prog w = .ok (.enter 53 args) w := enters_of Tryz.func53 (by kernel_rfl) rfl
    unfold maxLen at hm
    have hcon := AnyQ.slices_ContainsFunc Tryz.containsCells 2 Tryz.isAgg52 Tryz.sizeOf52 encPt (fun _ => rfl) farP 53 #[] eg b off zs.length c zs w (outside_pred w) (Nat.le_refl _) (by omega) hlt (fun j hj i u hi => by
      obtain ⟨c0, c1⟩ := hh j hj
      generalize zs[j]! = y at hi c0 c1
      match i, hi with
      | 0, hi => simp [encPt] at hi; rw [← hi]; exact c0
      | 1, hi => simp [encPt] at hi; rw [← hi]; exact c1
      | i + 2, hi => simp [encPt] at hi)
    change Calls Tryz.prog 52 _ _ _ at hcon
    rwa [List.take_length] at hcon
theorem clone_any (v : Value) (zs : List (Int × Int)) (w : World) (h : Row w v zs) (hn : zs.length ≤ 4096) : Calls Tryz.prog 68 #[v] w fun e w' => ∃ u, e = .returned u ∧ Below w.heap.size w w' ∧ ORow w' w.heap.size u zs := by
  rcases h with ⟨rfl, rfl⟩ | ⟨hz, b, off, c, rfl, hlt, hl, hm, hh⟩
  · have hcon := AnyE.slices_Clone_nil Tryz.cloneCells 0 0 w
    change Calls Tryz.prog 68 _ _ _ at hcon
    exact hcon.mono fun e w' ⟨he, hw⟩ => ⟨_, he, by rw [hw]; exact Below.refl _ _, Or.inl ⟨rfl, rfl⟩⟩
  · obtain ⟨i0, hi, hz0, hz1, hz2⟩ := info_parts Tryz.info52
    have hcon := AnyE.slices_Clone Tryz.cloneCells i0 (.agg #[.int .i64 0, .int .i64 0]) 2 16 hi hz0 hz1 hz2 rfl (by decide) Tryz.sizeOf52 b off zs.length c (pairCells (fun j => (zs[j]!).1) (fun j => (zs[j]!).2) zs.length) w (pairCells_length _ _ _) (by unfold maxLen; omega) (by omega)
      (fun j u hu => by have := pairCells_at (w := w) (b := b) (off := off) (n := zs.length) (X := fun j => (zs[j]!).1) (Y := fun j => (zs[j]!).2) hh j u hu; rwa [addP] at this) (pairCells_one _ _ _)
    change Calls Tryz.prog 68 _ _ _ at hcon
    refine hcon.mono fun e w' ⟨u, he, hown, hne, hb⟩ => ⟨u, he, hb, ?_⟩
    rcases id hown with ⟨_, ⟨hv, _⟩ | ⟨g, cap, cur, hv, hg, hblk, hcap, hmax, _, _⟩⟩
    · exact absurd hv hne
    · subst hv
      exact Or.inr ⟨hz, g, 0, cap, rfl, hg, (hown.lt g rfl).2, hcap, hmax, holds_of_owns rfl hown⟩
theorem sortWorld_below (w : World) (b off n : Nat) (d : Array (Int × Int)) (os : Array Obj) (hb : b < w.heap.size) : Below b w (sortWorldK encPt 2 w b off n d os) ∧ w.heap.size ≤ (sortWorldK encPt 2 w b off n d os).heap.size := by
  have hsz : w.heap.size ≤ (sortWorldK encPt 2 w b off n d os).heap.size := by
    simp [sortWorldK, putRowK, grow, Sort.ahead, putRow, mapBlock]
  refine ⟨⟨rfl, rfl, rfl, hsz, fun k hk => ?_⟩, hsz⟩
  simp only [sortWorldK, putRowK, grow, Sort.ahead, putRow, mapBlock]
  rw [Array.getElem?_append_left (by simp; omega), Array.getElem?_modify, if_neg (by omega)]
def Rising (zs : List (Int × Int)) : Prop := ∀ i j, i < j → j < zs.length → ¬ ahead zs[j]! zs[i]!
theorem sort_any (v : Value) (base : Nat) (zs : List (Int × Int)) (w : World) (h : ORow w base v zs) (hn : zs.length ≤ 4096) :
    Calls Tryz.prog 69 #[v, .func (.func 70) #[] #[]] w fun e w' => e = .returned (.tuple #[]) ∧ ∃ ys, ys.Perm zs ∧ Rising ys ∧ ORow w' base v ys ∧ Below base w w' := by
  rcases h with ⟨rfl, rfl⟩ | ⟨hz, b, off, c, rfl, hba, hlt, hl, hm, hh⟩
  · have hcon := AnyF.slices_SortFunc_none Tryz.sortCells none 0 (.func (.func 70) #[] #[]) w
    change Calls Tryz.prog 69 _ _ _ at hcon
    exact hcon.mono fun e w' ⟨he, hw⟩ => ⟨he, [], List.Perm.nil, (fun i j _ hj => by simp at hj), Or.inl ⟨rfl, rfl⟩, by rw [hw]; exact Below.refl _ _⟩
  · have eg : ∀ args w, (callFunc 70 args).run Tryz.prog w = .ok (.enter 70 args) w := enters_of Tryz.func70 (by kernel_rfl) rfl
    have hcon := AnyQ.slices_SortFunc Tryz.sortCells 2 Tryz.isAgg52 Tryz.sizeOf52 encPt (fun _ => rfl) encPt_one cmpP swoP 70 #[] b off c zs.toArray w eg (order_lays b off _ w) (holdsK_of hh) hlt (by simp; omega)
    change Calls Tryz.prog 69 _ _ _ at hcon
    rw [List.size_toArray] at hcon
    refine hcon.mono fun e w' ⟨he, d', n, os, hp, hs, hw⟩ => ⟨he, d'.toList, ?_, ?_, ?_, ?_⟩
    · have h1 := hp.2.2
      have hs1 : d'.size = zs.length := by simpa using hp.1
      rw [← hs1, Array.extract_size] at h1
      rw [hs1] at h1
      simpa using h1
    · intro i j hij hj
      have hs1 : d'.size = zs.length := by simpa using hp.1
      have := hs i j (Nat.zero_le _) hij (by simpa [hs1] using hj)
      rw [cmpP_nlt] at this
      rw [toList_get, toList_get]
      exact this
    · have hs1 : d'.size = zs.length := by simpa using hp.1
      have hs2 : d'.toList.length = zs.length := by simpa using hs1
      have hsw := sortWorld_below w b off n d' os hlt
      refine Or.inr ⟨fun e => hz ?_, b, off, c, ?_, hba, ?_, ?_, hm, ?_⟩
      · have : d'.toList.length = 0 := by rw [e]; rfl
        exact List.length_eq_zero_iff.1 (by rw [← hs1]; simpa using this)
      · rw [hs2]
      · rw [hw]; omega
      · rw [hs2]; exact hl
      · rw [hw, Array.toArray_toList]
        refine holdsA_of (holdsK_grow encPt 2 _ os b off d' (by simpa [putRowK, putRow, mapBlock, Sort.ahead] using hlt) ?_)
        exact holdsK_putRowK encPt 2 _ b off zs.toArray d' (holdsK_ahead encPt 2 w n b off _ (holdsK_of hh)) (by rw [hs1]; simp)
    · rw [hw]
      exact (sortWorld_below w b off n d' os hlt).1.mono hba
set_option maxHeartbeats 400000 in
theorem compact_nil (w : World) : Calls Tryz.prog 71 #[.slice none 0 0] w fun e w' => e = .returned (.slice none 0 0) ∧ w' = w := by
  go_enter Tryz.func71, Tryz.ntmps71
  go_wp2
  go_ret
  exact ⟨rfl, rfl⟩
theorem compact_row (v : Value) (base : Nat) (zs : List (Int × Int)) (w : World) (h : ORow w base v zs) (hn : zs.length ≤ 4096) (hr : Rising zs) :
    Calls Tryz.prog 71 #[v] w fun e w' => ∃ u ys, e = .returned u ∧ Tidy ys ∧ (∀ p, p ∈ ys ↔ p ∈ zs) ∧ ORow w' base u ys ∧ Below base w w' := by
  rcases h with ⟨rfl, rfl⟩ | ⟨hz, b, off, c, rfl, hba, hlt, hl, hm, hh⟩
  · exact (compact_nil w).mono fun e w' ⟨he, hw⟩ => ⟨_, [], he, List.Pairwise.nil, fun p => Iff.rfl, Or.inl ⟨rfl, rfl⟩, by rw [hw]; exact Below.refl _ _⟩
  · have hcon := compact_any b off c zs.toArray w hh (by simpa using hn) (by simpa using hl) hm
    rw [List.size_toArray] at hcon
    obtain ⟨ht, hmem⟩ := compact_tidy zs.toArray zs.length (fun i j hij hj => by rw [toArray_get, toArray_get]; exact hr i j hij hj) zs.length (Nat.le_refl _)
    have hmem' : ∀ p, p ∈ compactUpTo zs.toArray zs.length ↔ p ∈ zs := by
      intro p
      rw [hmem p]
      constructor
      · rintro ⟨j, hj, rfl⟩
        rw [toArray_get, getElem!_pos zs j hj]
        exact List.getElem_mem hj
      · intro hp
        obtain ⟨j, hj, e⟩ := List.getElem_of_mem hp
        exact ⟨j, hj, by rw [toArray_get, getElem!_pos zs j hj]; exact e⟩
    refine hcon.mono fun e w' ⟨he, hO, hH⟩ => ⟨_, _, he, ht, hmem', ?_, hO.below hba⟩
    refine Or.inr ⟨fun e => hz ?_, b, off, c, rfl, hba, by rw [hO.size]; exact hlt, ?_, hm, hH⟩
    · cases zs with
      | nil => rfl
      | cons p r => have := (hmem' p).2 (by simp); rw [e] at this; simp at this
    · have : (compactUpTo zs.toArray zs.length).length ≤ zs.length := by
        unfold compactUpTo
        rw [List.length_map]
        exact Nat.le_trans (List.length_filter_le _ _) (by simp)
      omega
def TidyOut (zs : List (Int × Int)) (w : World) (base : Nat) (u : Value) (code : Int) : Prop :=
  (4096 < zs.length ∧ code = 5 ∧ u = .slice none 0 0) ∨ (zs.length ≤ 4096 ∧ zs.any farP = true ∧ code = 3 ∧ u = .slice none 0 0) ∨
  (zs.length ≤ 4096 ∧ zs.any farP = false ∧ code = 0 ∧ ∃ ys, Tidy ys ∧ (∀ p, p ∈ ys ↔ p ∈ zs) ∧ ORow w base u ys)
theorem Row.shape {w : World} {v : Value} {zs : List (Int × Int)} (h : Row w v zs) : ∃ a c, v = .slice a zs.length c ∧ zs.length ≤ maxLen := by
  rcases h with ⟨rfl, rfl⟩ | ⟨_, b, off, c, rfl, _, hl, hm, _⟩
  · exact ⟨none, 0, rfl, Nat.zero_le _⟩
  · exact ⟨_, c, rfl, Nat.le_trans hl hm⟩
set_option maxHeartbeats 400000 in
theorem tidy_any (v : Value) (zs : List (Int × Int)) (w : World) (h : Row w v zs) :
    Calls Tryz.prog 39 #[v] w fun e w' => ∃ u code, e = .returned (.tuple #[u, .int .i64 code]) ∧ Below w.heap.size w w' ∧ TidyOut zs w' w.heap.size u code := by
  obtain ⟨a, c, hv, hmx⟩ := h.shape
  unfold maxLen at hmx
  by_cases hbig : 4096 < zs.length
  · have hd : (4096 : Int) < (zs.length : Int) := by omega
    rw [hv]
    clear h
    go_enter Tryz.func39, Tryz.ntmps39
    go_wp2
    go_ret2
    exact ⟨_, _, rfl, Below.refl _ _, Or.inl ⟨hbig, rfl, rfl⟩⟩
  · have hd : ¬ (4096 : Int) < (zs.length : Int) := by omega
    have hle : zs.length ≤ 4096 := by omega
    have HR : Hid (Row w v zs) := h
    have h1 := contains_any v zs w h
    have H1 := h1
    clear h h1
    rw [hv] at H1 ⊢
    cases hf : zs.any farP
    · rw [hf] at H1
      have HF : Hid (zs.any farP = false) := hf
      have HV : Hid (v = .slice a zs.length c) := hv
      clear hf hv
      have HC := H1
      clear H1
      go_enter Tryz.func39, Tryz.ntmps39
      go_wp2_with fail
      refine HC.mono ?_
      rintro e w1 ⟨rfl, hb1⟩
      go_wp2_with fail
      refine (clone_any _ zs w1 ?_ hle).mono ?_
      · have := HR.out.below hb1
        rwa [HV.out] at this
      rintro e w2 ⟨u, rfl, hb2, hu⟩
      have hb12 : Below w.heap.size w w2 := hb1.trans (hb2.mono hb1.size)
      go_wp2_with fail
      refine (sort_any u w1.heap.size zs w2 hu hle).mono ?_
      rintro e w3 ⟨rfl, ys, hperm, hris, hrow, hb3⟩
      have hb123 : Below w.heap.size w w3 := hb12.trans (hb3.mono hb1.size)
      have hle' : ys.length ≤ 4096 := by rw [hperm.length_eq]; exact hle
      go_wp2_with fail
      refine (compact_row u w1.heap.size ys w3 hrow hle' hris).mono ?_
      rintro e w4 ⟨t, ts, rfl, htidy, hmem, hrow4, hb4⟩
      have hb1234 : Below w.heap.size w w4 := hb123.trans (hb4.mono hb1.size)
      go_wp2_with fail
      go_ret2
      exact ⟨_, _, rfl, hb1234, Or.inr (Or.inr ⟨hle, HF.out, rfl, ts, htidy, fun p => (hmem p).trans hperm.mem_iff, hrow4.mono hb1.size⟩)⟩
    · rw [hf] at H1
      have HF : Hid (zs.any farP = true) := hf
      clear hf
      have HC := H1
      clear H1
      go_enter Tryz.func39, Tryz.ntmps39
      go_wp2_with fail
      refine HC.mono ?_
      rintro e w1 ⟨rfl, hb1⟩
      go_wp2
      go_ret2
      exact ⟨_, _, rfl, hb1, Or.inr (Or.inl ⟨hle, HF.out, rfl, rfl⟩)⟩
end Go.Proofs.YtofbcngcblleaaaGreat

namespace Go.Proofs.YtofbcngcblleaaaGreat
open Go.RowKit Go.Lib Go.Sort
theorem below_drewN (w : World) (q : Nat) : Below w.heap.size w (w.drewN q) := ⟨rfl, rfl, rfl, Nat.le_refl _, fun _ _ => rfl⟩
end Go.Proofs.YtofbcngcblleaaaGreat

namespace Go.Proofs.YtofbcngcblleaaaGreat
open Go.RowKit Go.Lib Go.Sort
theorem mem_take_get {zs : List (Int × Int)} {k : Nat} {p : Int × Int} (h : p ∈ zs.take k) : ∃ j, j < k ∧ j < zs.length ∧ zs[j]! = p := by
  obtain ⟨j, hj, e⟩ := List.getElem_of_mem h
  have h1 : j < k ∧ j < zs.length := by simp at hj; omega
  refine ⟨j, h1.1, h1.2, ?_⟩
  rw [getElem!_pos zs j h1.2, ← e, List.getElem_take]
theorem mem_drop_get {zs : List (Int × Int)} {k : Nat} {p : Int × Int} (h : p ∈ zs.drop k) : ∃ j, k ≤ j ∧ j < zs.length ∧ zs[j]! = p := by
  obtain ⟨j, hj, e⟩ := List.getElem_of_mem h
  have h1 : k + j < zs.length := by simp at hj; omega
  refine ⟨k + j, by omega, h1, ?_⟩
  rw [getElem!_pos zs (k + j) h1, ← e, List.getElem_drop]
theorem tidy_get {zs : List (Int × Int)} (h : Tidy zs) {i j : Nat} (hij : i < j) (hj : j < zs.length) : ahead zs[i]! zs[j]! := by
  rw [getElem!_pos zs i (by omega), getElem!_pos zs j hj]
  exact List.pairwise_iff_getElem.1 h i j (by omega) hj hij
theorem put_tidy {zs : List (Int × Int)} {c : Int × Int} {k : Nat} (hT : Tidy zs) (hk : k ≤ zs.length) (hlo : ∀ j, j < k → ahead zs[j]! c) (hhi : ∀ j, k ≤ j → j < zs.length → ¬ ahead zs[j]! c) (hne : k < zs.length → zs[k]! ≠ c) :
    Tidy (zs.take k ++ c :: zs.drop k) ∧ ∀ p, p ∈ zs.take k ++ c :: zs.drop k ↔ p = c ∨ p ∈ zs := by
  have hT' : (zs.take k ++ zs.drop k).Pairwise ahead := by rw [List.take_append_drop]; exact hT
  obtain ⟨t1, t2, t3⟩ := List.pairwise_append.1 hT'
  have hc : ∀ p ∈ zs.drop k, ahead c p := by
    intro p hp
    obtain ⟨j, hj, hl, rfl⟩ := mem_drop_get hp
    rcases ahead_or zs[j]! c with h | h | h
    · exact absurd h (hhi j hj hl)
    · exfalso
      by_cases e : j = k
      · subst e; exact hne hl h
      · have := tidy_get hT (show k < j by omega) hl
        rw [h] at this
        exact hhi k (Nat.le_refl _) (by omega) this
    · exact h
  constructor
  · refine List.pairwise_append.2 ⟨t1, List.pairwise_cons.2 ⟨hc, t2⟩, fun p hp q hq => ?_⟩
    rcases List.mem_cons.1 hq with rfl | hq
    · obtain ⟨j, hj, _, rfl⟩ := mem_take_get hp
      exact hlo j hj
    · exact t3 p hp q hq
  · intro p
    rw [List.mem_append, List.mem_cons]
    have : p ∈ zs ↔ p ∈ zs.take k ∨ p ∈ zs.drop k := by
      rw [← List.mem_append, List.take_append_drop]
    rw [this]
    constructor
    · rintro (h | h | h)
      · exact Or.inr (Or.inl h)
      · exact Or.inl h
      · exact Or.inr (Or.inr h)
    · rintro (h | h | h)
      · exact Or.inr (Or.inl h)
      · exact Or.inl h
      · exact Or.inr (Or.inr h)
def cellsL (zs : List (Int × Int)) : List Value := zs.flatMap encPt
theorem cellsL_cons (p : Int × Int) (zs : List (Int × Int)) : cellsL (p :: zs) = .int .i64 p.1 :: .int .i64 p.2 :: cellsL zs := rfl
theorem cellsL_append (a b : List (Int × Int)) : cellsL (a ++ b) = cellsL a ++ cellsL b := List.flatMap_append
theorem cellsL_length : ∀ zs : List (Int × Int), (cellsL zs).length = zs.length * 2
  | [] => rfl
  | p :: zs => by rw [cellsL_cons, List.length_cons, List.length_cons, cellsL_length zs, List.length_cons]; omega
theorem cellsL_one (zs : List (Int × Int)) (u : Value) (h : u ∈ cellsL zs) : u.oneCell' = true := by
  obtain ⟨p, _, hu⟩ := List.mem_flatMap.1 h
  exact encPt_one p u hu
theorem cellsL_get : ∀ (zs : List (Int × Int)) (j : Nat), j < zs.length → (cellsL zs)[j * 2]? = some (.int .i64 (zs[j]!).1) ∧ (cellsL zs)[j * 2 + 1]? = some (.int .i64 (zs[j]!).2)
  | [], j, h => by simp at h
  | p :: zs, 0, _ => ⟨rfl, rfl⟩
  | p :: zs, j + 1, h => by
    have := cellsL_get zs j (by simpa using h)
    rw [cellsL_cons, show (j + 1) * 2 = j * 2 + 1 + 1 by omega, show j * 2 + 1 + 1 + 1 = (j * 2 + 1) + 1 + 1 by omega]
    simp only [List.getElem?_cons_succ]
    have e : (p :: zs)[j + 1]! = zs[j]! := by simp
    rw [e]
    exact this
theorem cellsL_take : ∀ (zs : List (Int × Int)) (k : Nat), cellsL (zs.take k) = (cellsL zs).take (k * 2)
  | [], k => by simp [cellsL]
  | p :: zs, 0 => rfl
  | p :: zs, k + 1 => by
    rw [List.take_succ_cons, cellsL_cons, cellsL_cons, cellsL_take zs k, show (k + 1) * 2 = k * 2 + 1 + 1 by omega, List.take_succ_cons, List.take_succ_cons]
theorem cellsL_drop : ∀ (zs : List (Int × Int)) (k : Nat), cellsL (zs.drop k) = (cellsL zs).drop (k * 2)
  | [], k => by simp [cellsL]
  | p :: zs, 0 => rfl
  | p :: zs, k + 1 => by
    rw [List.drop_succ_cons, cellsL_cons, cellsL_drop zs k, show (k + 1) * 2 = k * 2 + 1 + 1 by omega, List.drop_succ_cons, List.drop_succ_cons]
theorem holdsR_of_owns {w : World} {base g n cap : Nat} {zs : List (Int × Int)} (h : w.ownsRow base 52 2 (.slice (some ⟨g, 0, none⟩) n cap) n (cellsL zs)) : HoldsR w g 0 zs := by
  intro j hj
  obtain ⟨e0, e1⟩ := cellsL_get zs j hj
  have h0 := h.cells rfl _ _ e0
  have h1 := h.cells rfl _ _ e1
  rw [addP] at h0 h1
  exact ⟨h0, by rw [← h1]; congr 2⟩
theorem copy_run (w : World) (ty : TypeId) (g o dLen dCap : Nat) (a : Addr) (sLen sCap : Nat) (cur : Array Value) (t : TypeId) (cs : List Value) (n : Nat)
    (hg : w.heap[g]? = some (.cells cur t (0, 0))) (hn : n = Nat.min sLen dLen) (hl : cs.length = n * 2)
    (hsrc : ∀ j v, cs[j]? = some v → w.cell? (a.add j) = some v) (hfit : o + cs.length ≤ cur.size) (h1 : ∀ v ∈ cs, v.oneCell' = true) :
    (Builtin.copy_ #[24, 24] ty #[.slice (some ⟨g, o, none⟩) dLen dCap, .slice (some a) sLen sCap]).run Tryz.prog w =
      .ok (goInt n) (w.setRow g (cur.toList.take o ++ cs ++ cur.toList.drop (o + cs.length)).toArray) := by
  have hld := run_loadCells_list (P := Tryz.prog) w a cs hsrc
  have hst := run_storeCells_at Tryz.prog g o t cs 0 cur w hg (by simpa using hfit) h1
  rw [hl] at hld
  simp [Builtin.copy_, run_underlying Tryz.underlying24, Builtin.lenOf, Builtin.firstCells, Tryz.sizeOf52, ← hn, hld, hst]
end Go.Proofs.YtofbcngcblleaaaGreat
