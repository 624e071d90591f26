/- PlaneOrder: the walk of the law itself. -/
import Derived.Test.YtoppncaidhlenaaAlive
import Derived.Test.YtoppncaidhlenaaShift
namespace Go.Proofs.Ytoppncaidhlenaa
open Go.RowKit Go.Lib Go.Sort

attribute [local go_sem ↓] Go.wp_at_zero Go.wp_at_succ

theorem tidied_nil (ys : List (Int × Int)) (h : Tidied [] ys) : ys = [] := by
  cases ys with
  | nil => rfl
  | cons p r => exact absurd ((h.2 p).1 (by simp)).1 (by simp)

/-- a list, turned round at a place: the same cells -/
theorem turned_mem (zs : List (Int × Int)) (k : Nat) (p : Int × Int) : p ∈ zs.drop k ++ zs.take k ↔ p ∈ zs := by
  rw [List.mem_append, Or.comm, ← List.mem_append, List.take_append_drop]
theorem tcode_zero {zs : List (Int × Int)} : tcode zs = 0 ↔ zs.length ≤ 4096 ∧ zs.any farP = false := by
  unfold tcode
  by_cases h1 : 4096 < zs.length
  · rw [if_pos h1]; constructor
    · intro h; omega
    · intro h; omega
  · rw [if_neg h1]
    by_cases h2 : zs.any farP = true
    · rw [if_pos h2, h2]; constructor
      · intro h; omega
      · intro h; exact absurd h.2 (by simp)
    · rw [if_neg h2]
      exact ⟨fun _ => ⟨by omega, by simpa using h2⟩, fun _ => rfl⟩
theorem turned_code (zs : List (Int × Int)) (k : Nat) (h : tcode zs = 0) : tcode (zs.drop k ++ zs.take k) = 0 := by
  rw [tcode_zero] at *
  refine ⟨by simp; omega, ?_⟩
  rw [List.any_eq_false] at *
  intro p hp
  exact h.2 p ((turned_mem zs k p).1 hp)
theorem tidied_turned {zs ys ts : List (Int × Int)} {k : Nat} (hz : tcode zs = 0) (h : Tidied zs ys) (g : Tidied (zs.drop k ++ zs.take k) ts) : ts = ys :=
  tidy_unique _ _ g.1 h.1 fun p => by rw [g.2 p, h.2 p, turned_mem, turned_code zs k hz, hz]
theorem tidied_again {zs ys us : List (Int × Int)} (hz : tcode zs = 0) (h : Tidied zs ys) (g : Tidied ys us) : us = ys ∧ tcode ys = 0 := by
  have hc : tcode ys = 0 := tcode_zero.2 ⟨tidied_short h hz, tidied_near h⟩
  exact ⟨tidy_unique _ _ g.1 h.1 fun p => by rw [g.2 p, hc]; simp, hc⟩

set_option maxHeartbeats 2000000 in
theorem order_err (v : Value) (zs : List (Int × Int)) (at_ : Int) (w : World) (hn : zs.length * 16 ≤ 140737488355328) (h : RRow w v zs) (hc : tcode zs ≠ 0) :
    Calls Try.prog 8 #[v, .int .i64 at_] w fun e w' => e = .returned (.bool true) ∧ Below w.heap.size w w' := by
  have hne : (tcode zs != 0) = true := by simpa using hc
  have hT := fun c W (hr : Row W c zs) => tidy_told c zs W hr
  generalize tcode zs = code at *
  go_enter Try.func8, Try.ntmps8
  go_wp2_with fail
  refine (kcells_row v zs w hn h).mono ?_
  rintro e w1 ⟨c, rfl, hb1, hr1⟩
  go_wp2_with fail
  refine (hT c w1 hr1.row).mono ?_
  rintro e w2 ⟨a, ys, rfl, hb2, ht2, hr2⟩
  have hb12 : Below w.heap.size w w2 := hb1.trans (hb2.mono hb1.size)
  clear hT
  go_wp2_with fail
  refine (alive_any w2).mono ?_
  rintro e w3 ⟨rfl, hb3⟩
  go_wp2_with fail
  go_ret
  exact ⟨rfl, hb12.trans (hb3.mono hb12.size)⟩

set_option maxHeartbeats 2000000 in
theorem order_none (v : Value) (at_ : Int) (w : World) (h : RRow w v []) :
    Calls Try.prog 8 #[v, .int .i64 at_] w fun e w' => e = .returned (.bool true) ∧ Below w.heap.size w w' := by
  have hz : tcode [] = 0 := by decide
  have hk := kcells_row v [] w (by simp) h
  obtain ⟨a0, c0, rfl, _⟩ := h
  simp only [List.length_nil] at *
  go_enter Try.func8, Try.ntmps8
  go_wp2_with fail
  refine hk.mono ?_
  rintro e w1 ⟨c, rfl, hb1, hr1⟩
  go_wp2_with fail
  refine (tidy_told c [] w1 hr1.row).mono ?_
  rintro e w2 ⟨a, ys, rfl, hb2, ht2, hr2⟩
  have hy := tidied_nil ys ht2
  subst hy
  rw [hz]
  have ha : a = .slice none 0 0 := by
    rcases hr2 with ⟨_, ha⟩ | ⟨hne, _⟩
    · exact ha
    · exact absurd rfl hne
  subst ha
  have hb12 : Below w.heap.size w w2 := hb1.trans (hb2.mono hb1.size)
  clear hk hz
  go_wp2_with fail
  refine (alive_any w2).mono ?_
  rintro e w3 ⟨rfl, hb3⟩
  go_wp2_with fail
  go_ret
  exact ⟨rfl, hb12.trans (hb3.mono hb12.size)⟩

theorem step_append_own {P : Program} (w : World) {ops : Array Oper} {o : Oper} {a : Act} {K : Act → World → Prop} {Q : Exit → Act → World → Prop} {E : Prop} (hgd : o.guard = none) (s x : Operand) (t : TypeId)
    (ho : o.op = .call { callee := .builtin .append, args := #[s, x], argTypes := #[t, t] })
    (base : Nat) (e : TypeId) (i : TypeInfo) (z : Value) (size bytes : Nat) (ht : P.underlying t = some (.slice e)) (hi : P.info? e = some i) (hz : i.zero = some z)
    (hsize : i.size = size) (hby : i.bytes = bytes) (hzs : z.cells.size = size) (hsz : 0 < size)
    (v : Value) (n : Nat) (xs : List Value) (hs : a.eval s = v) (hown : w.ownsRow base e size v n xs)
    (ad : Addr) (m c : Nat) (news : List Value) (hx : a.eval x = .slice (some ad) m c) (hl : news.length = m * size) (hnews : ∀ j u, news[j]? = some u → w.cell? (ad.add j) = some u) (h1 : ∀ u, u ∈ news → u.oneCell' = true)
    (h63 : n + m ≤ maxLen) (hbytes : (n + m) * bytes ≤ 140737488355328) (hbase : base ≤ w.heap.size)
    (h : ∀ v' w', w'.ownsRow base e size v' (n + m) (xs ++ news) → w.grownBy w' v.ownBlock → (v' = .slice none 0 0 ↔ v = .slice none 0 0 ∧ m = 0) → K (a.put o.dst v') w') :
    if Region.wanted o (yielded ops a.tmps) = true then Oper.wp P o a w K Q else E := by
  have hw : Region.wanted o (yielded ops a.tmps) = true := by simp [Region.wanted, hgd]
  rw [if_pos hw]
  exact wp_append_own w s x t ho base e i z size bytes ht hi hz hsize hby hzs hsz v n xs hs hown ad m c news hx hl hnews h1 h63 hbytes hbase h

theorem cells_at {w : World} {b off : Nat} {zs : List (Int × Int)} (h : HoldsR w b off zs) (j : Nat) (u : Value) (hu : (cellsL zs)[j]? = some u) : w.cell? ((⟨b, off, none⟩ : Addr).add j) = some u := by
  have hj : j < zs.length * 2 := by rw [← cellsL_length]; exact (List.getElem?_eq_some_iff.1 hu).1
  obtain ⟨e0, e1⟩ := cellsL_get zs (j / 2) (by omega)
  obtain ⟨c0, c1⟩ := h (j / 2) (by omega)
  rw [addP]
  by_cases hm2 : j % 2 = 0
  · rw [show j / 2 * 2 = j by omega] at e0
    rw [e0] at hu
    rw [← hu, ← c0]
    congr 2
    omega
  · rw [show j / 2 * 2 + 1 = j by omega] at e1
    rw [e1] at hu
    rw [← hu, ← c1]
    congr 2
    omega
theorem HoldsR.take {w : World} {b off : Nat} {zs : List (Int × Int)} (h : HoldsR w b off zs) (k : Nat) : HoldsR w b off (zs.take k) := fun j hj => by
  have hj' : j < k ∧ j < zs.length := by simp at hj; omega
  have := h j hj'.2
  rw [getElem!_pos zs j hj'.2] at this
  rw [getElem!_pos (zs.take k) j hj, List.getElem_take]
  exact this
theorem HoldsR.drop {w : World} {b off : Nat} {zs : List (Int × Int)} (h : HoldsR w b off zs) (k : Nat) : HoldsR w b (off + k * 2) (zs.drop k) := fun j hj => by
  have hj' : k + j < zs.length := by simp at hj; omega
  have := h (k + j) hj'
  rw [getElem!_pos zs (k + j) hj'] at this
  rw [getElem!_pos (zs.drop k) j hj, List.getElem_drop, show off + k * 2 + j * 2 = off + (k + j) * 2 by omega]
  exact this

theorem kept_owns {w : World} {base : Nat} {v : Value} {zs : List (Int × Int)} {n k : Nat} (hl : zs.length = n) (h : Kept w base v (zs.drop k)) : w.ownsRow base 28 2 v (n - k) (cellsL (zs.drop k)) := by
  have h0 : w.ownsRow base 28 2 v (zs.drop k).length (cellsL (zs.drop k)) := by
    rcases h with ⟨e, rfl⟩ | ⟨_, h⟩
    · rw [e]; exact World.ownsRow_nil _ _ _ _
    · exact h
  rwa [List.length_drop, hl] at h0
theorem take_len {zs : List (Int × Int)} {n k : Nat} (hl : zs.length = n) (hk : k ≤ n) : (cellsL (zs.take k)).length = k * 2 := by
  rw [cellsL_length, List.length_take, hl, Nat.min_eq_left hk]
theorem turned_row {w : World} {base : Nat} {v : Value} {zs : List (Int × Int)} {n k : Nat} (hl : zs.length = n) (hk : k ≤ n) (hz : zs ≠ []) (h : w.ownsRow base 28 2 v (n - k + k) (cellsL (zs.drop k) ++ cellsL (zs.take k))) : Row w v (zs.drop k ++ zs.take k) := by
  have hne : zs.drop k ++ zs.take k ≠ [] := by
    intro e
    cases zs with
    | nil => exact hz rfl
    | cons p r => have := (turned_mem (p :: r) k p).2 (by simp); rw [e] at this; simp at this
  have hlen : (zs.drop k ++ zs.take k).length = n - k + k := by rw [List.length_append, List.length_drop, List.length_take, hl, Nat.min_eq_left hk]
  have : Kept w base v (zs.drop k ++ zs.take k) := Or.inr ⟨hne, by rw [hlen, cellsL_append]; exact h⟩
  exact this.row

set_option maxHeartbeats 4000000 in
theorem order_main (b off c : Nat) (zs : List (Int × Int)) (at_ : Int) (w : World) (hb : b < w.heap.size) (hlc : zs.length ≤ c) (hcm : c ≤ maxLen) (hz : zs ≠ []) (hH : HoldsR w b off zs) (hc : tcode zs = 0) :
    Calls Try.prog 8 #[.slice (some ⟨b, off, none⟩) zs.length c, .int .i64 at_] w fun e w' => e = .returned (.bool true) ∧ Below w.heap.size w w' := by
  have hr0 : RRow w (.slice (some ⟨b, off, none⟩) zs.length c) zs := ⟨_, c, rfl, hlc, hcm, (fun e => by cases e), Or.inr ⟨b, off, rfl, hb, hH⟩⟩
  have hshort := (tcode_zero.1 hc).1
  have hk := kcells_row _ zs w (by omega) hr0
  have hT := fun c W (hr : Row W c zs) => tidy_told c zs W hr
  have hpos : 0 < zs.length := by
    cases zs with
    | nil => exact absurd rfl hz
    | cons p r => simp
  obtain ⟨hs1, hs2⟩ := spotI_bound at_ (zs.length : Int) (by omega)
  have hsp := fun W => spot_any at_ (zs.length : Int) W (by omega) (by omega)
  obtain ⟨k, hkk⟩ : ∃ k : Nat, spotI at_ (zs.length : Int) = (k : Int) := ⟨(spotI at_ (zs.length : Int)).toNat, by omega⟩
  rw [hkk] at hs1 hs2 hsp
  clear hkk
  have HH : Hid (HoldsR w b off zs) := hH
  have HC : Hid (tcode zs = 0 ∧ zs ≠ []) := ⟨hc, hz⟩
  rw [hc] at hT
  unfold maxLen at hcm
  clear hH hr0 hc hz
  obtain ⟨i0, hi, hz0, hz1, hz2⟩ := info_parts Try.info28
  generalize hl : zs.length = n at *
  have HL : Hid (zs.length = n) := hl
  clear hl
  have hn0 : ((n : Int) == 0) = false := by simp; omega
  go_enter Try.func8, Try.ntmps8
  go_wp2_with fail
  refine hk.mono ?_
  rintro e w1 ⟨u1, rfl, hb1, hr1⟩
  go_wp2_with fail
  refine (hT u1 w1 hr1.row).mono ?_
  rintro e w2 ⟨va, ys, rfl, hb2, ht2, hr2⟩
  have hb12 : Below w.heap.size w w2 := hb1.trans (hb2.mono hb1.size)
  have HT : Hid (Tidied zs ys) := ht2
  have HR2 : Hid (Row w2 va ys) := hr2.read
  clear hk hT ht2 hr2 hr1 hb1 hb2
  go_wp2_with fail
  refine (hsp _).mono ?_
  rintro e w3 ⟨rfl, hw⟩
  have hw' := hw.symm
  subst hw'
  clear hw hsp
  have hs2' : k < n := by omega
  have hs3 : ¬ c = k := by omega
  have hs4 : (n : Int) ≤ (c : Int) := by omega
  have hs5 : (k : Int) ≤ (n : Int) := by omega
  have hs6 : (k : Int) ≤ (c : Int) := by omega
  have HH2 : Hid (HoldsR w2 b off zs) := fun j hj => by
    rw [hb12.cell (p := ⟨b, off + j * 2, none⟩) hb, hb12.cell (p := ⟨b, off + j * 2 + 1, none⟩) hb]
    exact HH.out j hj
  have hbw2 : b < w2.heap.size := Nat.lt_of_lt_of_le hb hb12.size
  have hkc := kcells_row (.slice (some ⟨b, off + k * 2, none⟩) (n - k) (c - k)) (zs.drop k) w2.drew (by rw [List.length_drop, HL.out]; omega)
    ⟨_, c - k, by rw [List.length_drop, HL.out], by rw [List.length_drop, HL.out]; omega, by unfold maxLen; omega, (fun e => by cases e), Or.inr ⟨b, off + k * 2, rfl, hbw2, HH2.out.drop k⟩⟩
  have HKC : Hid (Calls Try.prog 26 #[.slice (some ⟨b, off + k * 2, none⟩) (n - k) (c - k)] w2.drew fun e w' => ∃ u, e = .returned u ∧ Below w2.heap.size w2 w' ∧ Kept w' w2.heap.size u (zs.drop k)) :=
    hkc.mono fun e w' ⟨u, he, hbb, hkp⟩ => ⟨u, he, ⟨hbb.os, hbb.tape, hbb.output, hbb.size, hbb.block⟩, hkp⟩
  clear hkc
  go_wp2_with fail
  go_region_held3 (fun _ => True) (exact trivial)
    (first | (go_at_call 26; refine (HKC.out).mono ?_; rintro e w4 ⟨u4, rfl, hb4, hk4⟩) | (go_at_call 9; refine (tidy_told v5 (zs.drop k ++ zs.take k) w5 (turned_row HL.out (Nat.le_of_lt hs2') HC.out.2 hown5)).mono ?_; rintro e w6 ⟨vb, ts, rfl, hb6, ht6, hr6⟩) | (refine step_append_own _ (by rfl) _ _ 22 (by rfl) w2.heap.size 28 i0 (.agg #[.int .i64 0, .int .i64 0]) 2 16 Try.underlying22 hi hz0 hz1 hz2 rfl (by decide) u4 (n - k) (cellsL (zs.drop k)) (by rfl) (kept_owns HL.out hk4) ⟨b, off, none⟩ k c (cellsL (zs.take k)) (by rfl) (take_len HL.out (Nat.le_of_lt hs2')) (cells_at (fun j hj => by rw [hb4.cell (p := ⟨b, off + j * 2, none⟩) hbw2, hb4.cell (p := ⟨b, off + j * 2 + 1, none⟩) hbw2]; exact HH2.out.take k j hj)) (cellsL_one _) (by unfold maxLen; omega) (by omega) hb4.size ?_; intro v5 w5 hown5 hgrow5 hnil5))
  rw [turned_code zs k HC.out.1]
  have hts := tidied_turned HC.out.1 HT.out ht6
  subst hts
  have b25 : Below w2.heap.size w2 w5 := hb4.grown hgrow5 hb4.size (fun g hg => ((kept_owns HL.out hk4).lt g hg).1)
  have b26 : Below w2.heap.size w2 w6 := b25.trans (hb6.mono b25.size)
  have HR6 : Hid (Row w6 va ts ∧ Row w6 vb ts) := ⟨HR2.out.below b26, hr6.read⟩
  have hbw6 : Below w.heap.size w w6 := hb12.trans (b26.mono hb12.size)
  have hlen := tidied_short HT.out HC.out.1
  clear hr6 ht6 hown5 hgrow5 hnil5 hk4 hb4 hb6 b25 b26 HKC HH2 HH
  go_wp2_with fail
  refine (kcells_row va ts w6 (by omega) HR6.out.1.isRow).mono ?_
  rintro e w7 ⟨u7, rfl, hb7, hk7⟩
  go_wp2_with fail
  refine (tidy_told u7 ts w7 hk7.row).mono ?_
  rintro e w8 ⟨vc, us, rfl, hb8, ht8, hr8⟩
  obtain ⟨hus, htc⟩ := tidied_again HC.out.1 HT.out ht8
  subst hus
  rw [htc]
  have b68 : Below w6.heap.size w6 w8 := hb7.trans (hb8.mono hb7.size)
  have hbw8 : Below w.heap.size w w8 := hbw6.trans (b68.mono hbw6.size)
  have HR8 : Hid (Row w8 va us ∧ Row w8 vb us ∧ Row w8 vc us) := ⟨HR6.out.1.below b68, HR6.out.2.below b68, hr8.read⟩
  clear hr8 ht8 hk7 hb7 hb8 htc b68 hbw6
  have hne : us ≠ [] := by
    intro e
    have hin := HC.out.2
    cases zs with
    | nil => exact hin rfl
    | cons p r =>
      have := (HT.out.2 p).2 ⟨by simp, HC.out.1⟩
      rw [e] at this
      simp at this
  have hra := HR8.out.1
  rcases hra with ⟨e, _⟩ | ⟨_, ba, offa, ca, hva, hba, hla, hma, hHa⟩
  · exact absurd e hne
  subst hva
  have HA : Hid (HoldsR w8 ba offa us) := hHa
  have HTU : Hid (Tidy us) := HT.out.1
  clear hHa hne
  unfold maxLen at hma
  generalize hlu : us.length = m at *
  have HLU : Hid (us.length = m) := hlu
  clear hlu
  go_wp2_with fail
  go_loopg [12] m (fun g s wr => ∃ j : Nat, 1 ≤ j ∧ m - j ≤ g ∧ s = .int .i64 j ∧ Below w8.heap.size w8 wr ∧ (j ≤ m ∨ j = 1))
  case atStart => exact ⟨1, Nat.le_refl _, by omega, rfl, Below.refl _ _, Or.inr rfl⟩
  case round =>
    obtain ⟨j, hj1, hjg, rfl, hbr, hjm⟩ := hrel
    by_cases hlt : j < m
    · obtain ⟨c0, c1⟩ := HA.out (j - 1) (by rw [HLU.out]; omega)
      obtain ⟨d0, d1⟩ := HA.out j (by rw [HLU.out]; omega)
      rw [← hbr.cell (p := ⟨ba, offa + (j - 1) * 2, none⟩) hba] at c0
      rw [← hbr.cell (p := ⟨ba, offa + (j - 1) * 2 + 1, none⟩) hba] at c1
      rw [← hbr.cell (p := ⟨ba, offa + j * 2, none⟩) hba] at d0
      rw [← hbr.cell (p := ⟨ba, offa + j * 2 + 1, none⟩) hba] at d1
      have hah := tidy_get HTU.out (show j - 1 < j by omega) (by rw [HLU.out]; exact hlt)
      generalize us[j - 1]! = p at c0 c1 hah
      generalize us[j]! = r at d0 d1 hah
      obtain ⟨px, py⟩ := p
      obtain ⟨rx, ry⟩ := r
      simp only at c0 c1 d0 d1
      have hi1 : (1 : Int) ≤ (j : Int) := by omega
      have hi2 : (j : Int) < (m : Int) := by omega
      unfold ahead at hah
      simp only at hah
      have hd1 : decide (ry < py) = false := by simp; omega
      by_cases hyy : py = ry
      · subst hyy
        have hd2 : (py == py) = true := by simp
        have hd3 : decide (rx ≤ px) = false := by simp; omega
        clear hah
        go_wp2_with fail
        go_quiet (fail)
        go_wp2
        go_roundg (m - (j + 1))
        case measure => omega
        case rel => exact ⟨j + 1, by omega, Nat.le_refl _, by go_num, hbr.trans ((below_drewN wr _).mono hbr.size), Or.inl (by omega)⟩
      · have hd2 : (py == ry) = false := by simpa using hyy
        clear hah
        go_wp2_with fail
        go_quiet (fail)
        go_wp2
        go_roundg (m - (j + 1))
        case measure => omega
        case rel => exact ⟨j + 1, by omega, Nat.le_refl _, by go_num, hbr.trans ((below_drewN wr _).mono hbr.size), Or.inl (by omega)⟩
    · have hbw : Below w.heap.size w wr := hbw8.trans (hbr.mono hbw8.size)
      have HR9 : Hid (Row wr (.slice (some ⟨ba, offa, none⟩) m ca) us ∧ Row wr vb us ∧ Row wr vc us) := ⟨HR8.out.1.below hbr, HR8.out.2.1.below hbr, HR8.out.2.2.below hbr⟩
      go_wp2_with fail
      refine (alive_any wr).mono ?_
      rintro e w9 ⟨rfl, hb9⟩
      go_wp2_with fail
      refine (same_any _ vb us w9 (HR9.out.1.below hb9) (HR9.out.2.1.below hb9)).mono ?_
      rintro e w10 ⟨rfl, hb10⟩
      have b10 : Below wr.heap.size wr w10 := hb9.trans (hb10.mono hb9.size)
      go_wp2_with fail
      refine (same_any _ vc us w10 (HR9.out.1.below b10) (HR9.out.2.2.below b10)).mono ?_
      rintro e w11 ⟨rfl, hb11⟩
      go_wp2_with fail
      go_ret
      have b11 : Below wr.heap.size wr w11 := b10.trans (hb11.mono b10.size)
      exact ⟨rfl, hbw.trans (b11.mono hbw.size)⟩

theorem orders_any (v : Value) (zs : List (Int × Int)) (at_ : Int) (w : World) (hn : zs.length * 16 ≤ 140737488355328) (h : RRow w v zs) :
    Calls Try.prog 8 #[v, .int .i64 at_] w fun e w' => e = .returned (.bool true) ∧ Below w.heap.size w w' := by
  by_cases hc : tcode zs = 0
  · by_cases hz : zs = []
    · subst hz
      exact order_none v at_ w h
    · obtain ⟨a, c, rfl, hlc, hm, _, h⟩ := h
      rcases h with h | ⟨b, off, rfl, hb, hp⟩
      · exact absurd (List.length_eq_zero_iff.1 h) hz
      · exact order_main b off c zs at_ w hb hlc hm hz hp hc
  · exact order_err v zs at_ w hn h hc
end Go.Proofs.Ytoppncaidhlenaa
