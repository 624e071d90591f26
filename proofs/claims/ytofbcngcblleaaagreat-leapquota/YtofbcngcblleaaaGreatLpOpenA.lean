/- Arguments of the laws of leap, opened. -/
import Derived.Test.YtofbcngcblleaaaGreatPut
import Derived.Test.YtofbcngcblleaaaGreatBoxLaw
import Derived.Lib.SmallJoins
import Derived.Laws.IdiomArrays
import Derived.Carry
import Derived.Test.YtofbcngcblleaaaGreatRows
namespace Go.Proofs.YtofbcngcblleaaaGreat
open Go.RowKit Go.Lib Go.Sort
set_option maxHeartbeats 2000000 in
theorem put_nil (base : Nat) (c : Int × Int) (w : World) (hbase : base ≤ w.heap.size) :
    Calls Tryz.prog 63 #[.slice none 0 0, .agg #[.int .i64 c.1, .int .i64 c.2]] w fun e w' => PutOut base [] c w e w' := by
  obtain ⟨i0, hi, hz0, hz1, hz2⟩ := info_parts Tryz.info52
  go_enter Tryz.func63, Tryz.ntmps63
  go_wp2
  refine wp_loop_rounds 1 ?_
  rw [rounds_succ]
  go_wp2
  go_region
  go_wp2_with (at_builtin; refine wpList_append_lies _ rfl _ _ 24 rfl base 52 i0 (.agg #[.int .i64 0, .int .i64 0]) 2 16 Tryz.underlying24 hi hz0 hz1 hz2 rfl (by decide) (.slice none 0 0) 0 [] rfl (by exact World.ownsRow_nil _ _ _ _) ⟨w.heap.size + 1, 0, none⟩ 1 1 [.int .i64 c.1, .int .i64 c.2] rfl rfl (by intro j u hj; rw [addP]; match j, hj with | 0, hj => simp at hj; rw [← hj]; exact (World.cell?_alloc_at _ _ _ _ (by simp)).trans rfl | 1, hj => simp at hj; rw [← hj]; exact (World.cell?_alloc_at _ _ _ _ (by simp)).trans rfl) (by intro u hu; simp at hu; rcases hu with rfl | rfl <;> rfl) (by omega) (by unfold maxLen; omega) (by omega) (by simp; omega) (w.heap.size + 1 + 1) (by simp) ?_; intro g2 cap2 w1 hown2 hgrow hat hlt2)
  have hcap2 : 1 ≤ cap2 := by
    rcases hown2.2 with ⟨e, _⟩ | ⟨g', cap', cur, e, _, _, hle', _⟩
    · cases e
    · injection e with _ _ e3
      omega
  have hcm2 : cap2 ≤ 9223372036854775807 := by
    rcases hown2.2 with ⟨e, _⟩ | ⟨g', cap', cur, e, _, _, _, hmx, _⟩
    · cases e
    · injection e with _ _ e3
      unfold maxLen at hmx
      omega
  have hat' : g2 = w.heap.size + 1 + 1 := by
    rcases hat with h | h
    · simp [Value.ownBlock] at h
    · exact h
  clear hat
  have hj2 : (1 : Int) ≤ (cap2 : Int) := by omega
  obtain ⟨curL, hblk, hcl, htake⟩ := owns_block hown2
  clear hown2
  have hcp := copy_zero
  have b0 : w1.cell? ⟨w.heap.size, 0, none⟩ = some (.int .i64 c.1) := hgrow.cell (a := ⟨w.heap.size, 0, none⟩) (by show ((w.alloc _).alloc _).cell? _ = _; rw [World.cell?_alloc2_first]; rfl) (by simp [Value.ownBlock])
  have b1 : w1.cell? ⟨w.heap.size, 1, none⟩ = some (.int .i64 c.2) := hgrow.cell (a := ⟨w.heap.size, 1, none⟩) (by show ((w.alloc _).alloc _).cell? _ = _; rw [World.cell?_alloc2_first]; rfl) (by simp [Value.ownBlock])
  have hform : curL = cellsL (([] : List (Int × Int)).take 0) ++ .int .i64 c.1 :: .int .i64 c.2 :: (cellsL (([] : List (Int × Int)).drop 0) ++ curL.drop 2) := by
    have := List.take_append_drop 2 curL
    rw [show (2 : Nat) = (0 + 1) * 2 from rfl, htake] at this
    simpa [cellsL] using this.symm
  have hblk2 : w1.heap[g2]? = some (.cells (cellsL (([] : List (Int × Int)).take 0) ++ .int .i64 c.1 :: .int .i64 c.2 :: (cellsL (([] : List (Int × Int)).drop 0) ++ curL.drop 2)).toArray 52 (0, 0)) := by rw [← hform]; exact hblk
  have s0 : w1.cell? ⟨g2, 0, none⟩ = some (.int .i64 c.1) := cell_of_block w1 g2 0 _ hblk2
  have s1 : w1.cell? ⟨g2, 1, none⟩ = some (.int .i64 c.2) := cell_of_block w1 g2 1 _ hblk2
  have t0 := free_of_block w1 g2 0 _ hblk2
  have t1 := free_of_block w1 g2 1 _ hblk2
  have PF := @put_final w1 base g2 0 0 cap2 [] c _ _ _ (by omega) (by omega) rfl hcap2 hcm2 hblk2 (by rw [← hform]; exact hcl)
  have hB2 : Below base w w1 ∧ base ≤ g2 := ⟨(((Below.refl _ _).alloc (by omega) _).alloc (by simp; omega) _).drew.grown hgrow (by simp; omega) (by intro k hk; simp [Value.ownBlock] at hk), by omega⟩
  have LAST : Hid (PutOut base [] c w (.returned (.slice (some ⟨g2, 0, none⟩) 1 cap2)) (((w1.setCell ⟨g2, 0, none⟩ (.int .i64 c.1)).setCell ⟨g2, 1, none⟩ (.int .i64 c.2)).drew)) :=
    ⟨_, [c], rfl, List.pairwise_singleton _ _, fun p => by simp, by simp, by simp, PF, ((hB2.1.setCell hB2.2 _).setCell hB2.2 _).drew⟩
  have hne2 : w.heap.size < g2 := by omega
  clear PF hblk2 hblk hform htake hcl hB2 hgrow hat'
  by_cases hce : cap2 = 1
  · subst hce
    go_region
    go_wp2
    go_ret
    exact LAST.out
  · go_region
    go_wp2
    go_ret
    exact LAST.out
def Kept (w : World) (base : Nat) (v : Value) (ys : List (Int × Int)) : Prop := (ys = [] ∧ v = .slice none 0 0) ∨ (ys ≠ [] ∧ w.ownsRow base 52 2 v ys.length (cellsL ys))
theorem put_any (v : Value) (base : Nat) (ys : List (Int × Int)) (c : Int × Int) (w : World) (hbase : base ≤ w.heap.size) (h : Kept w base v ys) (hT : Tidy ys) (hn : ys.length ≤ 100000) :
    Calls Tryz.prog 63 #[v, .agg #[.int .i64 c.1, .int .i64 c.2]] w fun e w' => PutOut base ys c w e w' := by
  rcases h with ⟨rfl, rfl⟩ | ⟨hz, hown⟩
  · exact put_nil base c w hbase
  · rcases id hown with ⟨_, ⟨_, h0⟩ | ⟨g, cap, cur, hv, _⟩⟩
    · exact absurd (List.length_eq_zero_iff.1 h0) hz
    · subst hv
      exact put_some g cap base ys c w hown hT hn
theorem Kept.row {w : World} {base : Nat} {v : Value} {ys : List (Int × Int)} (h : Kept w base v ys) : Row w v ys := by
  rcases h with ⟨rfl, rfl⟩ | ⟨hz, hown⟩
  · exact Or.inl ⟨rfl, rfl⟩
  · rcases id hown with ⟨_, ⟨_, h0⟩ | ⟨g, cap, cur, hv, _, _, hc, hm, _⟩⟩
    · exact absurd (List.length_eq_zero_iff.1 h0) hz
    · subst hv
      exact Or.inr ⟨hz, g, 0, cap, rfl, (hown.lt g rfl).2, hc, hm, holdsR_of_owns hown⟩
theorem Kept.block {w w' : World} {base : Nat} {v : Value} {ys : List (Int × Int)} (h : Kept w base v ys) (hb : ∀ g, g < w.heap.size → w'.heap[g]? = w.heap[g]?) : Kept w' base v ys := by
  rcases h with h | ⟨hz, hown⟩
  · exact Or.inl h
  · exact Or.inr ⟨hz, owns_of_block hown (fun g hg => hb g (hown.lt g hg).2)⟩
end Go.Proofs.YtofbcngcblleaaaGreat

namespace Go.Proofs.YtofbcngcblleaaaGreat
open Go.RowKit Go.Lib Go.Sort
def RRow (w : World) (v : Value) (zs : List (Int × Int)) : Prop := IsRow w v zs.length (fun j => (zs[j]!).1) (fun j => (zs[j]!).2)
def TidyOutR (zs : List (Int × Int)) (w : World) (e : Ending) (w' : World) : Prop :=
  ∃ u code, e = .returned (.tuple #[u, .int .i64 code]) ∧ Below w.heap.size w w' ∧
    ((4096 < zs.length ∧ code = 5 ∧ u = .slice none 0 0) ∨ (zs.length ≤ 4096 ∧ zs.any farP = true ∧ code = 3 ∧ u = .slice none 0 0) ∨
    (zs.length ≤ 4096 ∧ zs.any farP = false ∧ code = 0 ∧ ∃ ys, Tidy ys ∧ (∀ p, p ∈ ys ↔ p ∈ zs) ∧ Row w' u ys))
theorem any_true_of {zs : List (Int × Int)} {k : Nat} (hk : k < zs.length) (h : farP zs[k]! = true) : zs.any farP = true := by
  rw [List.any_eq_true]
  exact ⟨zs[k]!, by rw [getElem!_pos zs k hk]; exact List.getElem_mem hk, h⟩
theorem any_false_of {zs : List (Int × Int)} (h : ∀ j, j < zs.length → farP zs[j]! = false) : zs.any farP = false := by
  rw [List.any_eq_false]
  intro p hp
  obtain ⟨j, hj, e⟩ := List.getElem_of_mem hp
  have := h j hj
  rw [getElem!_pos zs j hj, e] at this
  simp [this]
set_option maxHeartbeats 2000000 in
theorem refTidy_many (a : Option Addr) (c : Nat) (zs : List (Int × Int)) (w : World) (hbig : 4096 < zs.length) (hm : zs.length ≤ 9223372036854775807) :
    Calls Tryz.prog 32 #[.slice a zs.length c] w fun e w' => TidyOutR zs w e w' := by
  have hd : (4096 : Int) < (zs.length : Int) := by omega
  go_enter Tryz.func32, Tryz.ntmps32
  go_wp2
  go_ret2
  exact ⟨_, _, rfl, Below.refl _ _, Or.inl ⟨hbig, rfl, rfl⟩⟩
set_option maxHeartbeats 2000000 in
theorem refTidy_none (a : Option Addr) (c : Nat) (w : World) :
    Calls Tryz.prog 32 #[.slice a 0 c] w fun e w' => TidyOutR [] w e w' := by
  go_enter Tryz.func32, Tryz.ntmps32
  go_wp2
  refine wp_loop_rounds 1 ?_
  rw [rounds_succ]
  go_wp2
  refine wp_loop_rounds 1 ?_
  rw [rounds_succ]
  go_wp2
  go_ret2
  exact ⟨_, _, rfl, Below.refl _ _, Or.inr (Or.inr ⟨by simp, rfl, rfl, [], List.Pairwise.nil, fun p => Iff.rfl, Or.inl ⟨rfl, rfl⟩⟩)⟩
set_option maxHeartbeats 2000000 in
theorem refTidy_some (b off c : Nat) (zs : List (Int × Int)) (w : World) (hb : b < w.heap.size) (hn : zs.length ≤ 4096) (hH : HoldsR w b off zs) :
    Calls Tryz.prog 32 #[.slice (some ⟨b, off, none⟩) zs.length c] w fun e w' => TidyOutR zs w e w' := by
  have HH : Hid (HoldsR w b off zs) := hH
  clear hH
  generalize hl : zs.length = n at *
  have HL : Hid (zs.length = n) := hl
  clear hl
  have hd : ¬ (4096 : Int) < (n : Int) := by omega
  go_enter Tryz.func32, Tryz.ntmps32
  go_wp2
  go_loopg [13] n (fun g s wr => ∃ k : Nat, k + g = n ∧ s = .int .i64 k ∧ wr = w ∧ ∀ j, j < k → farP zs[j]! = false)
  case atStart => exact ⟨0, by omega, rfl, rfl, fun j hj => by omega⟩
  case round =>
    obtain ⟨k, hk, rfl, hw, hfar⟩ := hrel
    have hw' := hw.symm
    subst hw'
    clear hw
    have HK : Hid (k + gk = n) := hk
    have HF : Hid (∀ j, j < k → farP zs[j]! = false) := hfar
    have hkn : k ≤ n := by omega
    clear hk hfar
    by_cases hlt : k < n
    · obtain ⟨c0, c1⟩ := HH.out k (by rw [HL.out]; exact hlt)
      generalize hz : zs[k]! = z at c0 c1
      have HZ : Hid (zs[k]! = z) := hz
      clear hz
      obtain ⟨x, y⟩ := z
      have hcx := far_any x
      have hcy := far_any y
      have hi2 : (k : Int) < (n : Int) := by omega
      cases hx : farI x
      · rw [hx] at hcx
        cases hy : farI y
        · rw [hy] at hcy
          have HXY : Hid (farI x = false ∧ farI y = false) := ⟨hx, hy⟩
          clear hx hy
          go_wp2_with (first | (go_at_call_of 62 x; refine (hcx _).mono ?_; rintro e w' ⟨rfl, rfl⟩) | (go_at_call_of 62 y; refine (hcy _).mono ?_; rintro e w' ⟨rfl, rfl⟩))
          go_roundg (gk - 1)
          case measure => have := HK.out; omega
          case rel =>
            have := HK.out
            refine ⟨k + 1, by omega, by go_num, rfl, fun j hj => ?_⟩
            by_cases e : j = k
            · rw [e, HZ.out]; simp [farP, HXY.out.1, HXY.out.2]
            · exact HF.out j (by omega)
        · rw [hy] at hcy
          have HXY : Hid (farI y = true) := hy
          clear hx hy
          go_wp2_with (first | (go_at_call_of 62 x; refine (hcx _).mono ?_; rintro e w' ⟨rfl, rfl⟩) | (go_at_call_of 62 y; refine (hcy _).mono ?_; rintro e w' ⟨rfl, rfl⟩))
          go_ret2
          exact ⟨_, _, rfl, Below.refl _ _, Or.inr (Or.inl ⟨by rw [HL.out]; exact hn, any_true_of (k := k) (by rw [HL.out]; exact hlt) (by rw [HZ.out]; simp [farP, HXY.out]), rfl, rfl⟩)⟩
      · rw [hx] at hcx
        have HXY : Hid (farI x = true) := hx
        clear hx
        go_wp2_with (first | (go_at_call_of 62 x; refine (hcx _).mono ?_; rintro e w' ⟨rfl, rfl⟩))
        go_ret2
        exact ⟨_, _, rfl, Below.refl _ _, Or.inr (Or.inl ⟨by rw [HL.out]; exact hn, any_true_of (k := k) (by rw [HL.out]; exact hlt) (by rw [HZ.out]; simp [farP, HXY.out]), rfl, rfl⟩)⟩
    · have hke : k = n := by omega
      subst hke
      go_wp2
      go_loopg [5, 33] k (fun g s5 s33 wq => ∃ (m : Nat) (ys : List (Int × Int)), m + g = k ∧ s33 = .int .i64 m ∧ Kept wq w.heap.size s5 ys ∧ Tidy ys ∧ (∀ p, p ∈ ys ↔ ∃ j, j < m ∧ zs[j]! = p) ∧ ys.length ≤ m ∧ Below w.heap.size w wq)
      case atStart => exact ⟨0, [], by omega, rfl, Or.inl ⟨rfl, rfl⟩, List.Pairwise.nil, fun p => by simp, Nat.le_refl _, Below.refl _ _⟩
      case round =>
        obtain ⟨m, ys, hm, rfl, hkept, hty, hmem, hyl, hbel⟩ := hrel
        have HM : Hid (m + gk = k) := hm
        have HQ : Hid (Tidy ys ∧ (∀ p, p ∈ ys ↔ ∃ j, j < m ∧ zs[j]! = p) ∧ ys.length ≤ m) := ⟨hty, hmem, hyl⟩
        have KP : Hid (Kept wr w.heap.size u5 ys) := hkept
        have hmk : m ≤ k := by omega
        have hsz := hbel.size
        clear hm hty hmem hyl hkept
        by_cases hlt2 : m < k
        · obtain ⟨c0, c1⟩ := HH.out m (by rw [HL.out]; exact hlt2)
          rw [← hbel.cell (p := ⟨b, off + m * 2, none⟩) hb] at c0
          rw [← hbel.cell (p := ⟨b, off + m * 2 + 1, none⟩) hb] at c1
          generalize hz : zs[m]! = z at c0 c1
          have HZ : Hid (zs[m]! = z) := hz
          clear hz
          have hi2 : (m : Int) < (k : Int) := by omega
          go_wp2_with fail
          refine (put_any u5 w.heap.size ys z _ (by simp; omega) (KP.out.block (fun g hg => Below.heap_alloc _ _ _ hg)) HQ.out.1 (by have := HQ.out.2.2; omega)).mono ?_
          rintro e w1 ⟨u, ts, rfl, ht1, ht2, ht3, ht4, ht5, ht6⟩
          have hb1 : Below w.heap.size w w1 := (hbel.alloc hsz _).trans ht6
          have HN : Hid (Tidy ts ∧ (∀ p, p ∈ ts ↔ p = z ∨ p ∈ ys) ∧ ts ≠ [] ∧ ts.length ≤ ys.length + 1 ∧ w1.ownsRow w.heap.size 52 2 u ts.length (cellsL ts)) := ⟨ht1, ht2, ht3, ht4, ht5⟩
          clear ht1 ht2 ht3 ht4 ht5 ht6
          go_wp2
          go_roundg (gk - 1)
          case measure => have := HM.out; omega
          case rel =>
            have h1 := HM.out
            obtain ⟨q1, q2, q3⟩ := HQ.out
            obtain ⟨n1, n2, n3, n4, n5⟩ := HN.out
            refine ⟨m + 1, ts, by omega, by go_num, Or.inr ⟨n3, n5⟩, n1, fun p => ?_, by omega, hb1⟩
            rw [n2 p, q2 p]
            constructor
            · rintro (h | ⟨j, hj, e⟩)
              · exact ⟨m, by omega, by rw [HZ.out]; exact h.symm⟩
              · exact ⟨j, by omega, e⟩
            · rintro ⟨j, hj, e⟩
              by_cases h : j = m
              · left; rw [← e, h]; exact HZ.out
              · right; exact ⟨j, by omega, e⟩
        · go_wp2
          go_ret2
          obtain ⟨q1, q2, q3⟩ := HQ.out
          have hme : m = k := by omega
          refine ⟨_, _, rfl, hbel, Or.inr (Or.inr ⟨by rw [HL.out]; exact hn, any_false_of (fun j hj => HF.out j (by rw [HL.out] at hj; exact hj)), rfl, ys, q1, fun p => ?_, KP.out.row⟩)⟩
          rw [q2 p, hme]
          constructor
          · rintro ⟨j, hj, e⟩
            rw [← e, getElem!_pos zs j (by rw [HL.out]; exact hj)]
            exact List.getElem_mem _
          · intro hp
            obtain ⟨j, hj, e⟩ := List.getElem_of_mem hp
            exact ⟨j, by rw [← HL.out]; exact hj, by rw [getElem!_pos zs j hj]; exact e⟩
theorem refTidy_any (v : Value) (zs : List (Int × Int)) (w : World) (h : RRow w v zs) : Calls Tryz.prog 32 #[v] w fun e w' => TidyOutR zs w e w' := by
  obtain ⟨a, c, rfl, hc, hm, _, h⟩ := h
  unfold maxLen at hm
  by_cases hbig : 4096 < zs.length
  · exact refTidy_many a c zs w hbig (by omega)
  · rcases h with h | ⟨b, off, rfl, hb, hp⟩
    · have hz := List.length_eq_zero_iff.1 h
      subst hz
      exact refTidy_none a c w
    · exact refTidy_some b off c zs w hb (by omega) hp
end Go.Proofs.YtofbcngcblleaaaGreat

namespace Go.Proofs.YtofbcngcblleaaaGreat
open Go.ChangeShapes Go.WideShapes Go.ChangeAt Go.RowKit Go.Joins
theorem open_cellrow {H : Type} {enc : TypeId × Value → H} {W : World} {v : Value} {d : DataW H} {ps : List MemPlace} {ts : List TypeId} {ds : List (DataW H)} (j : Nat)
    (hs : (DataW.weightsEach Tryz.prog ts ds).all (· ≤ reachBytes) = true) (hj : ts[j]? = some 24) (hd : ds[j]? = some d)
    (h : DataW.Trod enc Tryz.prog W 0 (fun _ => true) true 24 v d ps) (hlt : ∀ x ∈ ps, x.block < W.heap.size) (hv : ∃ a len cap, v = .slice a len cap) :
    ∃ zs : List (Int × Int), RRow W v zs := by
  obtain ⟨n, X, Y, ⟨a, c, hv, hc, hm, ha, hp⟩, hn, hf⟩ := open_row j hs hj hd h hlt hv
  refine ⟨zip2 n X Y, a, c, by rw [zip2_length]; exact hv, by rw [zip2_length]; exact hc, hm, ha, ?_⟩
  rw [zip2_length]
  rcases hp with hp | ⟨b, off, e, hb, hp⟩
  · exact Or.inl hp
  · refine Or.inr ⟨b, off, e, hb, fun i hi => ?_⟩
    simp only [zip2_get n X Y i hi]
    exact hp i hi
theorem Tryz.cells23 : Tryz.prog.cellsOf 23 = 2 := by kernel_rfl
set_option maxRecDepth 100000 in
theorem open_arule {H : Type} {enc : TypeId × Value → H} {W : World} {v : Value} {d : DataW H} {p : List MemPlace} {r : Reach} {b0 : Nat} {spare : Nat → Bool}
    (hv : Value.okWide Tryz.prog W r b0 23 v) (h : DataW.Trod enc Tryz.prog W 0 spare true 23 v d p) :
    ∃ b l : Int, v = .agg #[.int .i64 b, .int .i64 l] ∧ p = [] ∧ ∀ (W' : World) (sp : Nat → Bool), DataW.Trod enc Tryz.prog W' 0 sp true 23 v d [] := by
  obtain ⟨v0, v1, ⟨y0, p0⟩, ⟨y1, p1⟩, n, rfl, rfl, rfl, h0, h1⟩ := open_agg2 Tryz.underlying23 (by kernel_rfl) Tryz.cells23 hv h
  obtain ⟨x, e0, d0, w0⟩ := DataW.trod_int Tryz.underlying3 h0
  obtain ⟨y, e1, d1, w1⟩ := DataW.trod_int Tryz.underlying3 h1
  simp only [List.cons.injEq, and_true, Prod.mk.injEq] at e0 e1 d0 d1
  obtain ⟨rfl, rfl⟩ := d0
  obtain ⟨rfl, rfl⟩ := d1
  subst e0 e1
  refine ⟨x, y, rfl, rfl, fun W' sp => ?_⟩
  exact shut_agg2 (y0 := (.lit (.int .i64 x), [])) (y1 := (.lit (.int .i64 y), [])) Tryz.underlying23 (by kernel_rfl) Tryz.cells23 ⟨_, trod_int_mk 0 Tryz.underlying3 w0⟩ ⟨_, trod_int_mk 0 Tryz.underlying3 w1⟩
section
variable {H : Type} {enc : TypeId × Value → H} {P : Program} {w : World} {base : Nat} {spare : Nat → Bool} {held : Bool}
theorem trodAll_4 {t t' t'' t3 : TypeId} {args : Array Value} {ds : List (DataW H)} {ps : List MemPlace} (h : DataW.TrodAll enc P w base spare held [t, t', t'', t3] args.toList ds ps) :
    ∃ v v' v'' v3 d d' d'' d3 p p' p'' p3, args = #[v, v', v'', v3] ∧ ds = [d, d', d'', d3] ∧ ps = p ++ p' ++ p'' ++ p3 ∧ DataW.Trod enc P w base spare held t v d p ∧ DataW.Trod enc P w base spare held t' v' d' p' ∧ DataW.Trod enc P w base spare held t'' v'' d'' p'' ∧ DataW.Trod enc P w base spare held t3 v3 d3 p3 := by
  obtain ⟨v, vs, d, ds', p, q, hargs, rfl, rfl, hd, hrest⟩ := trodAll_cons h
  obtain ⟨v', vs', d', ds'', p', q', rfl, rfl, rfl, hd', hrest'⟩ := trodAll_cons hrest
  obtain ⟨v'', vs'', d'', ds''', p'', q'', rfl, rfl, rfl, hd'', hrest''⟩ := trodAll_cons hrest'
  obtain ⟨v3, vs3, d3, ds3, p3, q3, rfl, rfl, rfl, hd3, hrest3⟩ := trodAll_cons hrest''
  obtain ⟨rfl, rfl, rfl⟩ := trodAll_nil hrest3
  exact ⟨v, v', v'', v3, d, d', d'', d3, p, p', p'', p3, by cases args; simp_all, rfl, by simp, hd, hd', hd'', hd3⟩
theorem trodAll_3b {t t' t'' : TypeId} {args : Array Value} {ds : List (DataW H)} {ps : List MemPlace} (h : DataW.TrodAll enc P w base spare held [t, t', t''] args.toList ds ps) :
    ∃ v v' v'' d d' d'' p p' p'', args = #[v, v', v''] ∧ ds = [d, d', d''] ∧ ps = p ++ p' ++ p'' ∧ DataW.Trod enc P w base spare held t v d p ∧ DataW.Trod enc P w base spare held t' v' d' p' ∧ DataW.Trod enc P w base spare held t'' v'' d'' p'' := by
  obtain ⟨v, vs, d, ds', p, q, hargs, rfl, rfl, hd, hrest⟩ := trodAll_cons h
  obtain ⟨v', vs', d', ds'', p', q', rfl, rfl, rfl, hd', hrest'⟩ := trodAll_cons hrest
  obtain ⟨v'', vs'', d'', ds''', p'', q'', rfl, rfl, rfl, hd'', hrest''⟩ := trodAll_cons hrest'
  obtain ⟨rfl, rfl, rfl⟩ := trodAll_nil hrest''
  exact ⟨v, v', v'', d, d', d'', p, p', p'', by cases args; simp_all, rfl, by simp, hd, hd', hd''⟩
end
end Go.Proofs.YtofbcngcblleaaaGreat
