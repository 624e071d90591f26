/- cellWords: cells as words. -/
import Derived.Test.YtpghbchbhjbbiaaGreatDoorSpRead
import Derived.Lib.ItoaLen
import Derived.Laws.MakeOwn
namespace Go.Proofs.YtpghbchbhjbbiaaGreatDoor
open Go.RowKit

def In64 (x : Int) : Prop := -9223372036854775808 ≤ x ∧ x ≤ 9223372036854775807
/-- a cell as a word -/
def cellW (c : Int × Int) : ByteArray := ⟨(Lib.itoa c.1).toArray⟩ ++ ⟨#[44]⟩ ++ ⟨(Lib.itoa c.2).toArray⟩
/-- texts in a row of the call's own -/
def SRow (w : World) (B : Nat) (v : Value) (ts : List ByteArray) : Prop := w.ownsRow B 9 1 v ts.length (ts.map Value.string)
theorem SRow.below {w w' : World} {B : Nat} {v : Value} {ts : List ByteArray} (h : SRow w B v ts) (hb : Below w.heap.size w w') : SRow w' B v ts :=
  World.ownsRow.kept (row := none) h ⟨hb.os, hb.tape, hb.output, hb.size, fun k hk _ => hb.block k hk⟩ (Classical.em _)
theorem Tryz.infoStr : (Tryz.prog.info? 9).map (fun i => (i.zero, i.size, i.bytes)) = some (some (.string ByteArray.empty), 1, 16) := by kernel_rfl

theorem step_append_own {P : Program} (w : World) {ops : Array Oper} {o : Oper} {a : Act} {K : Act → World → Prop} {Q : Exit → Act → World → Prop} {E : Prop} (hgd : o.guard = none) (s x : Operand) (t : TypeId)
    (ho : o.op = .call { callee := .builtin .append, args := #[s, x], argTypes := #[t, t] })
    (base : Nat) (e : TypeId) (i : TypeInfo) (z : Value) (size bytes : Nat) (ht : P.underlying t = some (.slice e)) (hi : P.info? e = some i) (hz : i.zero = some z)
    (hsize : i.size = size) (hby : i.bytes = bytes) (hzs : z.cells.size = size) (hsz : 0 < size)
    (v : Value) (n : Nat) (xs : List Value) (hs : a.eval s = v) (hown : w.ownsRow base e size v n xs)
    (ad : Addr) (m c : Nat) (news : List Value) (hx : a.eval x = .slice (some ad) m c) (hl : news.length = m * size) (hnews : ∀ j u, news[j]? = some u → w.cell? (ad.add j) = some u) (h1 : ∀ u, u ∈ news → u.oneCell' = true)
    (h63 : n + m ≤ maxLen) (hbytes : (n + m) * bytes ≤ 140737488355328) (hbase : base ≤ w.heap.size)
    (h : ∀ v' w', w'.ownsRow base e size v' (n + m) (xs ++ news) → w.grownBy w' v.ownBlock → (v' = .slice none 0 0 ↔ v = .slice none 0 0 ∧ m = 0) → K (a.put o.dst v') w') :
    if Region.wanted o (yielded ops a.tmps) = true then Oper.wp P o a w K Q else E := by
  have hw : Region.wanted o (yielded ops a.tmps) = true := by simp [Region.wanted, hgd]
  rw [if_pos hw]
  exact wp_append_own w s x t ho base e i z size bytes ht hi hz hsize hby hzs hsz v n xs hs hown ad m c news hx hl hnews h1 h63 hbytes hbase h

theorem cellsL_at (cs : List (Int × Int)) (k : Nat) (x y : Int) (h : cs[k]? = some (x, y)) : (cellsL cs)[k * 2]? = some (.int .i64 x) ∧ (cellsL cs)[k * 2 + 1]? = some (.int .i64 y) := by
  induction cs generalizing k with
  | nil => simp at h
  | cons c r ih =>
    cases k with
    | zero => simp at h; subst h; exact ⟨rfl, rfl⟩
    | succ k =>
      have := ih k (by simpa using h)
      rw [show c :: r = [c] ++ r from rfl, cellsL_append, show (k + 1) * 2 = k * 2 + 2 by omega, show k * 2 + 2 + 1 = k * 2 + 1 + 2 by omega]
      have e : ∀ j, (cellsL [c] ++ cellsL r)[j + 2]? = (cellsL r)[j]? := fun j => by
        rw [List.getElem?_append_right (by simp [cellsL])]
        simp [cellsL]
      rw [e, e]
      exact this
theorem CRow.at_ {w : World} {B : Nat} {g n cap : Nat} {cs : List (Int × Int)} (h : CRow w B (.slice (some ⟨g, 0, none⟩) n cap) cs) (k : Nat) (x y : Int) (hk : cs[k]? = some (x, y)) : w.cell? ⟨g, k * 2, none⟩ = some (.int .i64 x) ∧ w.cell? ⟨g, k * 2 + 1, none⟩ = some (.int .i64 y) := by
  rcases h.2 with ⟨h0, _⟩ | ⟨g', cap', cur, hv, _, hg, h1, _, hs, ht⟩
  · cases h0
  · cases hv
    obtain ⟨a, b⟩ := cellsL_at cs k x y hk
    rw [← ht] at a b
    have hl : k < cs.length := (List.getElem?_eq_some_iff.1 hk).1
    rw [List.getElem?_take, if_pos (by omega)] at a b
    refine ⟨?_, ?_⟩
    · rw [Lib.cell_of_heap hg]; simpa using a
    · rw [Lib.cell_of_heap hg]; simpa using b

set_option maxRecDepth 20000 in
set_option maxHeartbeats 2000000 in
theorem cellWords_any (v : Value) (cs : List (Int × Int)) (w : World) (h : CRow w 0 v cs) (hv : Vars w) (hin : ∀ c ∈ cs, In64 c.1 ∧ In64 c.2) :
    Calls Tryz.prog 47 #[v] w fun e w' => ∃ u, e = .returned u ∧ SRow w' w.heap.size u ((cs.take 6000).map cellW) ∧ Below w.heap.size w w' ∧ u ≠ .slice none 0 0 := by
  obtain ⟨i0, hi, hz0, hz1, hz2⟩ := info_parts Tryz.infoStr
  have hroom := hv.room
  obtain ⟨k, hk⟩ : ∃ k, k = min cs.length 6000 := ⟨_, rfl⟩
  obtain ⟨TS, hTS⟩ : ∃ TS, TS = (cs.take 6000).map cellW := ⟨_, rfl⟩
  rw [← hTS]
  have HTS : Hid (TS = (cs.take 6000).map cellW) := hTS
  clear hTS
  obtain ⟨w1, hmk, hown1, hgr1⟩ := run_make_own (P := Tryz.prog) w w.heap.size 41 9 i0 (.string ByteArray.empty) 1 Tryz.underlying41 hi hz0 hz1 .i64 .i64 k (by rw [hz2]; omega) (by unfold maxLen; omega) (Nat.le_refl _)
  have hb1 : Below w.heap.size w w1 := ⟨hgr1.os, hgr1.tape, hgr1.output, hgr1.size, fun j hj => hgr1.block j hj (by simp)⟩
  rcases h.2 with ⟨rfl, h0⟩ | ⟨g, cap, cur, rfl, _, hg, hnc, hcm, _⟩
  · have hc0 : cs = [] := List.eq_nil_of_length_eq_zero h0
    subst hc0
    have hk0 : k = 0 := by simpa using hk
    subst hk0
    have HO1 : Hid (w1.ownsRow w.heap.size 9 1 (.slice (some ⟨w.heap.size, 0, none⟩) 0 0) 0 []) := hown1
    have HB1 : Hid (Below w.heap.size w w1) := hb1
    have hmk2 : (Instr.makeSlice 41 (.int .i64 0) (.int .i64 0)).run Tryz.prog w = .ok (.slice (some ⟨w.heap.size, 0, none⟩) 0 0) w1 := hmk
    have hmin : min (0 : Int) 6000 = 0 := by decide
    clear h h0 hk hin hv hown1 hgr1 hb1 hmk
    go_enter Tryz.func47, Tryz.ntmps47
    go_wp2_with fail
    refine wp_loop_rounds 1 ?_
    rw [rounds_succ]
    go_wp2_with fail
    go_ret
    refine ⟨_, rfl, ?_, HB1.out, fun e => by cases e⟩
    rw [HTS.out]
    exact HO1.out
  · obtain ⟨n, hn⟩ : ∃ n, n = cs.length := ⟨_, rfl⟩
    rw [← hn] at hk hnc ⊢
    have hkk : min (n : Int) 6000 = (k : Int) := by omega
    unfold maxLen at hcm
    have hkc : (k : Int) ≤ (cap : Int) := by omega
    have HK : Hid (k ≤ n ∧ k ≤ 6000 ∧ n = cs.length ∧ (cs.take 6000) = cs.take k) := by
      refine ⟨by omega, by omega, hn, ?_⟩
      rw [List.take_eq_take_iff]; omega
    have hgl : g < w.heap.size := (Array.getElem?_eq_some_iff.1 hg).1
    have HC : Hid (∀ k x y, cs[k]? = some (x, y) → w.cell? ⟨g, k * 2, none⟩ = some (.int .i64 x) ∧ w.cell? ⟨g, k * 2 + 1, none⟩ = some (.int .i64 y)) := h.at_
    have HIN : Hid (∀ c ∈ cs, In64 c.1 ∧ In64 c.2) := hin
    have HV : Hid (Vars w) := hv
    have HO1 : Hid (w1.ownsRow w.heap.size 9 1 (.slice (some ⟨w.heap.size, 0, none⟩) 0 k) 0 []) := hown1
    have HB1 : Hid (Below w.heap.size w w1) := hb1
    clear h hk hn hg hin hv hown1 hgr1 hb1
    go_enter Tryz.func47, Tryz.ntmps47
    go_wp2_with fail
    clear hmk
    go_loopg [3, 16] k (fun gk s3 s16 wr => ∃ j : Nat, j + gk = k ∧ s16 = .int .i64 j ∧ SRow wr w.heap.size s3 ((cs.take j).map cellW) ∧ Below w.heap.size w wr ∧ s3 ≠ .slice none 0 0)
    case atStart => exact ⟨0, by omega, rfl, HO1.out, HB1.out, fun e => by cases e⟩
    case round =>
      obtain ⟨j, hj, rfl, hrow, hbr, hnn⟩ := hrel
      have HNN : Hid (u3 ≠ .slice none 0 0) := hnn
      clear hnn
      have HJ : Hid (j + gk = k) := hj
      have hjk : j ≤ k := by omega
      have HROW : Hid (SRow wr w.heap.size u3 ((cs.take j).map cellW)) := hrow
      have hsz := hbr.size
      clear hj hrow
      by_cases hlt : j < k
      · have hkl := HK.out
        obtain ⟨⟨x, y⟩, hxy⟩ : ∃ c, cs[j]? = some c := ⟨cs[j]'(by omega), List.getElem?_eq_getElem (by omega)⟩
        have HXY : Hid (cs[j]? = some (x, y)) := hxy
        obtain ⟨c0, c1⟩ := HC.out j x y hxy
        obtain ⟨⟨x0, x1⟩, y0, y1⟩ := HIN.out (x, y) (List.mem_of_getElem? hxy)
        simp only at x0 x1 y0 y1
        rw [← hbr.cell (p := ⟨g, j * 2, none⟩) hgl] at c0
        rw [← hbr.cell (p := ⟨g, j * 2 + 1, none⟩) hgl] at c1
        have cx := fun W hW => itoa_any x W x0 x1 hW
        have cy := fun W hW => itoa_any y W y0 y1 hW
        have lx : (⟨(Lib.itoa x).toArray⟩ : ByteArray).size ≤ 21 := by rw [ba_size]; exact Lib.itoa_length_le x x0 x1
        have ly : (⟨(Lib.itoa y).toArray⟩ : ByteArray).size ≤ 21 := by rw [ba_size]; exact Lib.itoa_length_le y y0 y1
        have HCW : Hid (cellW (x, y) = ⟨(Lib.itoa x).toArray⟩ ++ ⟨#[44]⟩ ++ ⟨(Lib.itoa y).toArray⟩) := rfl
        generalize (⟨(Lib.itoa x).toArray⟩ : ByteArray) = bx at *
        generalize (⟨(Lib.itoa y).toArray⟩ : ByteArray) = bY at *
        have hi1 : (0 : Int) ≤ (j : Int) := by omega
        have hi2 : (j : Int) < (k : Int) := by omega
        have HVR : Hid (Vars wr) := HV.out.go hbr hroom
        clear hkl hxy x0 x1 y0 y1
        go_wp2_with fail
        have p0 := PairIn.born wr x y 51
        have hba : Below wr.heap.size wr (wr.alloc (.cells #[.int .i64 x, .int .i64 y] 51)) := (Below.refl _ _).alloc (Nat.le_refl _) _
        have hva := HVR.out.below hba
        have hrowA := HROW.out.below hba
        generalize hwA : wr.alloc (.cells #[.int .i64 x, .int .i64 y] 51) = wA at *
        have HBA : Hid (Below wr.heap.size wr wA) := hba
        have h0 : wA.drew.cell? ⟨wr.heap.size, 0, none⟩ = some (.int .i64 x) ∧ wA.drew.cell? ⟨wr.heap.size, 1, none⟩ = some (.int .i64 y) ∧ wr.heap.size < wA.drew.heap.size ∧ Vars wA.drew := ⟨p0.1, p0.2.1, p0.2.2.2.2, hva.drew⟩
        have cx2 : ∀ W, (W.cell? ⟨wr.heap.size, 0, none⟩ = some (.int .i64 x) ∧ W.cell? ⟨wr.heap.size, 1, none⟩ = some (.int .i64 y) ∧ wr.heap.size < W.heap.size ∧ Vars W) → Calls Tryz.prog 48 #[.int .i64 x] W fun e w' => e = .returned (.string bx) ∧ Below W.heap.size W w' := fun W h => cx W h.2.2.2
        have cy2 : ∀ W, (W.cell? ⟨wr.heap.size, 0, none⟩ = some (.int .i64 x) ∧ W.cell? ⟨wr.heap.size, 1, none⟩ = some (.int .i64 y) ∧ wr.heap.size < W.heap.size ∧ Vars W) → Calls Tryz.prog 48 #[.int .i64 y] W fun e w' => e = .returned (.string bY) ∧ Below W.heap.size W w' := fun W h => cy W h.2.2.2
        have kp : ∀ W W', (W.cell? ⟨wr.heap.size, 0, none⟩ = some (.int .i64 x) ∧ W.cell? ⟨wr.heap.size, 1, none⟩ = some (.int .i64 y) ∧ wr.heap.size < W.heap.size ∧ Vars W) → Below W.heap.size W W' → (W'.cell? ⟨wr.heap.size, 0, none⟩ = some (.int .i64 x) ∧ W'.cell? ⟨wr.heap.size, 1, none⟩ = some (.int .i64 y) ∧ wr.heap.size < W'.heap.size ∧ Vars W') := fun W W' h hb => ⟨(hb.cell (p := ⟨wr.heap.size, 0, none⟩) h.2.2.1).trans h.1, (hb.cell (p := ⟨wr.heap.size, 1, none⟩) h.2.2.1).trans h.2.1, Nat.lt_of_lt_of_le h.2.2.1 hb.size, h.2.2.2.below hb⟩
        have hc1 : ¬ 9223372036854775807 < bx.size + 1 := by omega
        have hc2 : ¬ 9223372036854775807 < bx.size + 1 + bY.size := by omega
        clear cx cy hwA hba hva p0 HVR
        have hlow : ∀ q, u3.ownBlock = some q → w.heap.size ≤ q ∧ q < wr.heap.size := fun q hq => HROW.out.lt q hq
        have kg : ∀ W W', (W.cell? ⟨wr.heap.size, 0, none⟩ = some (.int .i64 x) ∧ W.cell? ⟨wr.heap.size, 1, none⟩ = some (.int .i64 y) ∧ wr.heap.size < W.heap.size ∧ Vars W) → W.grownBy W' u3.ownBlock → (W'.cell? ⟨wr.heap.size, 0, none⟩ = some (.int .i64 x) ∧ W'.cell? ⟨wr.heap.size, 1, none⟩ = some (.int .i64 y) ∧ wr.heap.size < W'.heap.size ∧ Vars W') := fun W W' h hg => by
          have hbl : W'.heap[wr.heap.size]? = W.heap[wr.heap.size]? := hg.block _ h.2.2.1 (fun e => by have := (hlow _ e.symm).2; omega)
          exact ⟨(cell_heap (a := ⟨wr.heap.size, 0, none⟩) hbl).trans h.1, (cell_heap (a := ⟨wr.heap.size, 1, none⟩) hbl).trans h.2.1, Nat.lt_of_lt_of_le h.2.2.1 hg.size, h.2.2.2.keep (fun q hq => hg.block q (by have := h.2.2.1; omega) (fun e => by have := (hlow _ e.symm).1; omega)) hg.size⟩
        have HLOW : Hid (∀ q, u3.ownBlock = some q → w.heap.size ≤ q ∧ q < wr.heap.size) := hlow
        have hjl : ((cs.take j).map cellW).length = j := by rw [List.length_map, List.length_take]; have := HK.out; omega
        have OWN : Hid (∀ W, SRow W w.heap.size u3 ((cs.take j).map cellW) → W.ownsRow w.heap.size 9 1 u3 j (((cs.take j).map cellW).map Value.string)) := fun W h => by have h' := h; unfold SRow at h'; rw [hjl] at h'; exact h'
        have hj6 : j ≤ 6000 := by have := HK.out; omega
        have hrowD : SRow wA.drew w.heap.size u3 ((cs.take j).map cellW) := hrowA
        have HSZ : Hid (w.heap.size ≤ wA.heap.size) := Nat.le_trans hsz HBA.out.size
        clear hlow hjl hrowA
        go_region_held3 (fun w' => w'.cell? ⟨wr.heap.size, 0, none⟩ = some (.int .i64 x) ∧ w'.cell? ⟨wr.heap.size, 1, none⟩ = some (.int .i64 y) ∧ wr.heap.size < w'.heap.size ∧ Vars w') (first | exact h0 | exact kp _ _ (by assumption) hb2 | exact kp _ _ (by assumption) hb1 | exact kp _ _ (by assumption) ((Below.refl _ _).alloc (Nat.le_refl _) _) | exact kg _ _ (by assumption) hgrow5)
          (first | (go_at_call_of 48 x; refine (cx2 _ (by first | assumption | exact h0)).mono ?_; rintro e w1' ⟨rfl, hb1⟩) | (go_at_call_of 48 y; refine (cy2 _ (by first | assumption | exact kp _ _ h0 hb1)).mono ?_; rintro e w2' ⟨rfl, hb2⟩) | (refine step_append_own _ (by rfl) _ _ 41 (by rfl) w.heap.size 9 i0 (.string ByteArray.empty) 1 16 Tryz.underlying41 hi hz0 hz1 hz2 rfl (by decide) u3 j (((cs.take j).map cellW).map Value.string) (by rfl) (World.ownsRow.alloc (OWN.out _ ((hrowD.below hb1).below hb2)) _) ⟨w2'.heap.size, 0, none⟩ 1 1 [.string (bx ++ ⟨#[44]⟩ ++ bY)] (by rfl) rfl (by intro q u hq; match q, hq with | 0, hq => simp at hq; subst hq; simp [Addr.add]) (by intro u hu; simp at hu; subst hu; rfl) (by unfold maxLen; omega) (by omega) (by have h1 := hb1.size; have h2 := hb2.size; have h3 := HSZ.out; simp at h1 h2 ⊢; omega) ?_; intro v5 w5 hown5 hgrow5 hnil5))
        go_wp2_with fail
        go_roundg (gk - 1)
        case measure => have := HJ.out; omega
        case rel =>
          have h1 := HJ.out
          have hts : (cs.take (j + 1)).map cellW = (cs.take j).map cellW ++ [bx ++ ⟨#[44]⟩ ++ bY] := by
            have hx := HXY.out
            obtain ⟨hlen, hget⟩ := List.getElem?_eq_some_iff.1 hx
            rw [List.take_succ_eq_append_getElem hlen, List.map_append, hget, List.map_singleton, HCW.out]
          have hbx : Below w.heap.size w w2' := ((hbr.trans (HBA.out.mono hbr.size)).drew.trans (hb1.mono (Nat.le_trans hbr.size HBA.out.size))).trans (hb2.mono (Nat.le_trans (Nat.le_trans hbr.size HBA.out.size) hb1.size))
          refine ⟨j + 1, by omega, by go_num, ?_, ?_, fun e => absurd (hnil5.1 e).2 (by omega)⟩
          · have hlen : ((cs.take (j + 1)).map cellW).length = j + 1 := by rw [List.length_map, List.length_take]; have := HK.out; omega
            rw [SRow, hlen, hts, List.map_append]
            exact hown5
          · exact (hbx.alloc hbx.size _).trans ⟨hgrow5.os, hgrow5.tape, hgrow5.output, hgrow5.size, fun q hq => hgrow5.block q (by have := hbx.size; simp; omega) (fun e => by have := (HLOW.out _ e.symm).1; omega)⟩
      · have hq : ¬ (j : Int) < (k : Int) := by omega
        have HE : Hid (j = k) := by show j = k; omega
        go_wp2_with fail
        go_ret
        refine ⟨_, rfl, ?_, hbr, HNN.out⟩
        rw [HTS.out, HK.out.2.2.2, ← HE.out]
        exact HROW.out
end Go.Proofs.YtpghbchbhjbbiaaGreatDoor
