/- Cells over any arena. -/
import Derived.Test.YtofbcngcblleaaaGreatLpStillLaw
namespace Go.Proofs.YtofbcngcblleaaaGreat.A
open Go.RowKit Go.Maps Go.ChangeMaps Go.WideElems

/-- the closure's own value -/
abbrev cFn (wv lv fv : Nat) : Value := .func (Fn.func 67) #[] #[.pointer (some ⟨wv, 0, none⟩), .pointer (some ⟨lv, 0, none⟩), .pointer (some ⟨fv, 0, none⟩)]
/-- a walker, its list and the closure in memory -/
structure CS (w : World) (wb m b nn t : Nat) (v : Value) (F : Nat → Prop) (A : Ar) (wv lv fv base : Nat) (zs : List (Int × Int)) : Prop where
  wg : ∃ k D, WG w wb m b nn t k v F A D
  cw : w.heap[wv]? = some (.cells #[.pointer (some ⟨wb, 0, none⟩)] 108 (0, 0))
  cf : w.heap[fv]? = some (.cells #[cFn wv lv fv] 112 (0, 0))
  cl : ∃ V, w.heap[lv]? = some (.cells #[V] 24 (0, 0)) ∧ w.ownsRow base 52 2 V zs.length (cL zs) ∧ (zs = [] → V = .slice none 0 0)
  lwb : wb < base
  lm : m < base
  lwv : wv < base
  llv : lv < base
  lfv : fv < base
  lF : ∀ k, F k → k < base
  n1 : wv ≠ wb ∧ wv ≠ m ∧ wv ≠ lv
  n2 : fv ≠ wb ∧ fv ≠ m ∧ fv ≠ lv
  n3 : lv ≠ wb ∧ lv ≠ m ∧ ¬ F lv
  lb : base ≤ w.heap.size
/-- what stays as it was -/
structure CO (w : World) (wb m lv base : Nat) (w' : World) : Prop where
  size : w.heap.size ≤ w'.heap.size
  os : w'.os = w.os
  tape : w'.tape = w.tape
  output : w'.output = w.output
  block : ∀ j, j < base → j ≠ wb → j ≠ m → j ≠ lv → w'.heap[j]? = w.heap[j]?
theorem CO.refl (w : World) (wb m lv base : Nat) : CO w wb m lv base w := ⟨Nat.le_refl _, rfl, rfl, rfl, fun _ _ _ _ _ => rfl⟩
theorem CO.trans {w w1 w2 : World} {wb m lv base : Nat} (h : CO w wb m lv base w1) (k : CO w1 wb m lv base w2) : CO w wb m lv base w2 :=
  ⟨Nat.le_trans h.size k.size, k.os.trans h.os, k.tape.trans h.tape, k.output.trans h.output, fun j a b c d => (k.block j a b c d).trans (h.block j a b c d)⟩
section
variable {w w1 : World} {wb m b nn t : Nat} {v : Value} {F : Nat → Prop} {A : Ar} {wv lv fv base : Nat} {zs : List (Int × Int)} {K : Int → Prop}
/-- a call of tally -/
theorem CS.tal (h : CS w wb m b nn t v F A wv lv fv base zs) (k : TG w wb m b nn t v F A K w1) : CS w1 wb m b nn t v F A wv lv fv base zs ∧ CO w wb m lv base w1 := by
  obtain ⟨kk, D, hw, _⟩ := k.wg
  obtain ⟨V, hV, hr, hnil⟩ := h.cl
  have l1 := h.lwv; have l2 := h.llv; have l3 := h.lfv; have l4 := h.lb; have l5 := h.lwb; have l6 := h.lm
  refine ⟨⟨⟨kk, D, hw⟩, (k.block wv (by omega) h.n1.1 h.n1.2.1).trans h.cw, (k.block fv (by omega) h.n2.1 h.n2.2.1).trans h.cf, ⟨V, (k.block lv (by omega) h.n3.1 h.n3.2.1).trans hV, row_other hr fun j hj => ?_, hnil⟩, h.lwb, h.lm, h.lwv, h.llv, h.lfv, h.lF, h.n1, h.n2, h.n3, Nat.le_trans l4 k.size⟩, ⟨k.size, k.os, k.tape, k.output, fun j a b c _ => k.block j (by omega) b c⟩⟩
  obtain ⟨a1, a2⟩ := World.ownsRow.lt hr j hj
  exact k.block j a2 (by omega) (by omega)
theorem CS.below (h : CS w wb m b nn t v F A wv lv fv base zs) (k : Below w.heap.size w w1) : CS w1 wb m b nn t v F A wv lv fv base zs ∧ CO w wb m lv base w1 := by
  obtain ⟨kk, D, hw⟩ := h.wg
  exact h.tal (TG.of (K := fun _ => True) hw k fun _ _ _ => trivial)
/-- a call of kids -/
theorem CS.kids (h : CS w wb m b nn t v F A wv lv fv base zs) (h2 : HandAt w1 wb b t 0 v) (hg : w.grownBy w1 (some wb)) (h4 : w1.cell? ⟨wb, 4, none⟩ = w.cell? ⟨wb, 4, none⟩) : CS w1 wb m b nn t v F A wv lv fv base zs ∧ CO w wb m lv base w1 := by
  obtain ⟨kk, D, hw⟩ := h.wg
  exact h.tal (K := fun _ => True) ⟨⟨kk, D, hw.kids h2 hg (h4.trans hw.c4), fun _ _ _ => trivial⟩, hg.size, hg.os, hg.tape, hg.output, fun j a b _ => hg.block j a (by simp; omega)⟩
/-- the list has grown -/
theorem CS.grown {W w5 : World} {ys : List (Int × Int)} {V5 : Value} (h : CS w wb m b nn t v F A wv lv fv base zs) (hW : Below w.heap.size w W) {V : Value} (hV : w.heap[lv]? = some (.cells #[V] 24 (0, 0))) (hr : w.ownsRow base 52 2 V zs.length (cL zs)) (hg : W.grownBy w5 V.ownBlock) (hown : w5.ownsRow base 52 2 V5 ys.length (cL ys)) (hnil : ys = [] → V5 = .slice none 0 0) :
    CS (w5.setCell ⟨lv, 0, none⟩ V5) wb m b nn t v F A wv lv fv base ys ∧ CO w wb m lv base (w5.setCell ⟨lv, 0, none⟩ V5) := by
  obtain ⟨kk, D, hw⟩ := h.wg
  have l1 := h.lwv; have l2 := h.llv; have l3 := h.lfv; have l4 := h.lb; have l5 := h.lwb; have l6 := h.lm
  have hs := hW.size
  have hs2 := hg.size
  have hk : ∀ j, j < base → w5.heap[j]? = w.heap[j]? := fun j hj => (hg.block j (by omega) (by
    intro e
    have := (World.ownsRow.lt hr j e.symm).1
    omega)).trans (hW.block j (by omega))
  have hk2 : ∀ j, j < base → j ≠ lv → (w5.setCell ⟨lv, 0, none⟩ V5).heap[j]? = w.heap[j]? := fun j hj hj2 => (heap_set hj2).trans (hk j hj)
  have hz : (w5.setCell ⟨lv, 0, none⟩ V5).heap.size = w5.heap.size := size_set
  refine ⟨⟨⟨kk, D, hw.other (by omega) fun j hj => hk2 j ?_ ?_⟩, (hk2 wv l1 h.n1.2.2).trans h.cw, (hk2 fv l3 h.n2.2.2).trans h.cf, ⟨V5, Go.Joins.block_setCell ((hk lv l2).trans hV) _, row_other hown fun j hj => heap_set ?_, hnil⟩, l5, l6, l1, l2, l3, h.lF, h.n1, h.n2, h.n3, by omega⟩, ⟨by omega, hg.os.trans hW.os, hg.tape.trans hW.tape, hg.output.trans hW.output, fun j a _ _ d => hk2 j a d⟩⟩
  · rcases hj with rfl | rfl | hj
    · exact l5
    · exact l6
    · exact h.lF j hj
  · rcases hj with rfl | rfl | hj
    · exact fun e => h.n3.1 e.symm
    · exact fun e => h.n3.2.1 e.symm
    · exact fun e => h.n3.2.2 (by rw [← e]; exact hj)
  · have := (World.ownsRow.lt hown j hj).1
    omega
end

theorem shift_app (x y : Int) (a b : List (Int × Int)) : shiftL x y (a ++ b) = shiftL x y a ++ shiftL x y b := by simp [shiftL]
theorem shift_shift (x y dx dy : Int) (a : List (Int × Int)) : shiftL x y (shiftL dx dy a) = shiftL (x + dx) (y + dy) a := by
  unfold shiftL
  rw [List.map_map]
  refine List.map_congr_left fun c _ => ?_
  show (c.1 + dx + x, c.2 + dy + y) = (c.1 + (x + dx), c.2 + (y + dy))
  exact Prod.ext (by show c.1 + dx + x = c.1 + (x + dx); omega) (by show c.2 + dy + y = c.2 + (y + dy); omega)
theorem corn_bd (n i : Nat) : 0 ≤ cornX ((2 ^ n : Nat) : Int) i ∧ cornX ((2 ^ n : Nat) : Int) i ≤ ((2 ^ n : Nat) : Int) ∧ 0 ≤ cornY ((2 ^ n : Nat) : Int) i ∧ cornY ((2 ^ n : Nat) : Int) i ≤ ((2 ^ n : Nat) : Int) := by
  have h : (0 : Int) ≤ ((2 ^ n : Nat) : Int) := Int.natCast_nonneg _
  unfold cornX cornY
  generalize ((2 ^ n : Nat) : Int) = z at *
  refine ⟨?_, ?_, ?_, ?_⟩ <;> split <;> omega
theorem two_new (W : World) (p q : Value) (T : TypeId) (k : Nat) (hk : k = W.heap.size) : ∀ (j : Nat) (u : Value), [p, q][j]? = some u → (W.alloc (.cells #[p, q] T)).cell? ((⟨k, 0, none⟩ : Addr).add j) = some u := by
  subst hk
  exact World.news_of_block (cs := #[p, q]) (t := T) (fr := (0, 0)) (heap_alloc_new W _)
/-- what the closure is asked -/
def CSpec (n : Nat) : Prop := ∀ (wb m b nn t : Nat) (v : Value) (F : Nat → Prop) (A : Ar) (wv lv fv base : Nat) (zs : List (Int × Int)) (w : World) (id x y level : Int), Inv A → t < 64 → (∀ x ∈ A.ths, x.mask < 18446744073709551616) → A.ths.length < 1000000 → n ≤ 44 → level = (n : Int) → levelF A.ths t id = some (n : Int) → zs.length + (cellsF A.ths n id).length ≤ 4096 → CS w wb m b nn t v F A wv lv fv base zs →
  -1152921504606846976 ≤ x → x + ((2 ^ n : Nat) : Int) ≤ 1152921504606846976 → -1152921504606846976 ≤ y → y + ((2 ^ n : Nat) : Int) ≤ 1152921504606846976 →
  Calls Tryz.prog 67 #[.int .i64 id, .int .i64 level, .int .i64 x, .int .i64 y, .pointer (some ⟨wv, 0, none⟩), .pointer (some ⟨lv, 0, none⟩), .pointer (some ⟨fv, 0, none⟩)] w fun e w' => e = .returned (.tuple #[]) ∧ CS w' wb m b nn t v F A wv lv fv base (zs ++ shiftL x y (cellsF A.ths n id)) ∧ CO w wb m lv base w'

set_option maxRecDepth 20000 in
set_option maxHeartbeats 8000000 in
theorem cells_step (n : Nat) (ih : CSpec n) (wb m b nn t : Nat) (v : Value) (F : Nat → Prop) (A : Ar) (wv lv fv base : Nat) (zs : List (Int × Int)) (w : World) (id x y level : Int) (th : Th) (hI : Inv A) (ht : t < 64) (hm : ∀ x ∈ A.ths, x.mask < 18446744073709551616) (hf : A.ths.length < 1000000) (hn : n < 44) (hlev : level = ((n + 1 : Nat) : Int)) (hl : levelF A.ths t id = some ((n + 1 : Nat) : Int)) (hlen : zs.length + (cellsF A.ths (n + 1) id).length ≤ 4096) (hC : CS w wb m b nn t v F A wv lv fv base zs)
    (hx0 : -1152921504606846976 ≤ x) (hx1 : x + ((2 ^ (n + 1) : Nat) : Int) ≤ 1152921504606846976) (hy0 : -1152921504606846976 ≤ y) (hy1 : y + ((2 ^ (n + 1) : Nat) : Int) ≤ 1152921504606846976) (hne : cellsF A.ths (n + 1) id ≠ []) (hsq : squareF A.ths t id = some th) (hth : thAt A.ths id = th) (hq : ∀ i, i < 4 → levelF A.ths t (quarterF th i) = some (n : Int)) :
    Calls Tryz.prog 67 #[.int .i64 id, .int .i64 level, .int .i64 x, .int .i64 y, .pointer (some ⟨wv, 0, none⟩), .pointer (some ⟨lv, 0, none⟩), .pointer (some ⟨fv, 0, none⟩)] w fun e w' => e = .returned (.tuple #[]) ∧ CS w' wb m b nn t v F A wv lv fv base (zs ++ shiftL x y (cellsF A.ths (n + 1) id)) ∧ CO w wb m lv base w' := by
  obtain ⟨k, D, hw⟩ := hC.wg
  have hr := fits_of hl hf
  have hta := tally_any wb m b nn t v F A hI ht hm hf (n + 1) id (by omega) hl (by omega) k D w level hlev hw
  have cw : w.cell? ⟨wv, 0, none⟩ = some (.pointer (some ⟨wb, 0, none⟩)) := Lib.cell_of_heap hC.cw 0
  have hlv1 : 1 ≤ level ∧ level ≤ 44 := by omega
  have hlv0 : (level == 0) = false := by simp; omega
  have HLEV : Hid (level = ((n + 1 : Nat) : Int)) := hlev
  clear hlev
  go_enter Tryz.func67, Tryz.ntmps67
  go_wp2_with fail
  refine hta.mono ?_
  rintro e w1 ⟨c, x0, y0, x1, y1, rfl, hT, T1⟩
  obtain ⟨C1, O1⟩ := hC.tal T1
  have hc0 : c ≠ 0 := fun e => hne (List.length_eq_zero_iff.1 (by have := hT.1; omega))
  have hc1 : (c == 0) = false := by simpa using hc0
  have hfz := field_tv c x0 y0 x1 y1 w1
  have cw1 : w1.cell? ⟨wv, 0, none⟩ = some (.pointer (some ⟨wb, 0, none⟩)) := Lib.cell_of_heap C1.cw 0
  obtain ⟨k1, D1, q1⟩ := C1.wg
  clear hta hT T1 cw hC hw hc0
  go_wp2_with fail
  refine (handKids_any wb b nn t id th v F A _ q1.hand q1.ar ht hm hr hsq).mono ?_
  rintro e w2 ⟨rfl, h2, g2, h24⟩
  obtain ⟨C2, O2⟩ := C1.kids h2 g2 h24
  have O12 := O1.trans O2
  clear C1 O1 O2 h2 g2 h24 q1 cw1
  go_wp2_with fail
  have hcor := fun (i : Nat) (hi : i < 4) W => corner_at n i level HLEV.out hn hi W
  have hkid := fun (i : Nat) (hi : i < 4) W => kids_at th i hi W
  have hpow : ((2 ^ (n + 1) : Nat) : Int) = ((2 ^ n : Nat) : Int) + ((2 ^ n : Nat) : Int) := by rw [Nat.pow_succ]; omega
  rw [hpow] at hx1 hy1
  have HLEN : Hid (∀ i, i ≤ 4 → zs.length + (accF A.ths n th i).length ≤ 4096) := fun i hi => by
    have := acc_mono A.ths n th (4 - i) i
    rw [show i + (4 - i) = 4 by omega, acc_four A.ths n th id hth] at this
    omega
  have HACC : Hid (accF A.ths n th 4 = cellsF A.ths (n + 1) id) := acc_four A.ths n th id hth
  have C20 : CS w2 wb m b nn t v F A wv lv fv base (zs ++ shiftL x y (accF A.ths n th 0)) := by
    have e : zs ++ shiftL x y (accF A.ths n th 0) = zs := by simp [accF, shiftL]
    rw [e]; exact C2
  clear hpow hlen hth hsq C2 hl
  go_loopg [34] 4 (fun g s34 wr => ∃ i : Nat, i + g = 4 ∧ s34 = .int .i64 (i : Int) ∧ CS wr wb m b nn t v F A wv lv fv base (zs ++ shiftL x y (accF A.ths n th i)) ∧ CO w wb m lv base wr)
  case atStart => exact ⟨0, by omega, rfl, C20, O12⟩
  case round =>
    obtain ⟨i, hig, rfl, C, O⟩ := hrel
    have HI : Hid (i + gk = 4) := hig
    clear hig C20
    by_cases hi4 : i < 4
    · have hki := fun W => hkid i hi4 W
      have hco := fun W => hcor i hi4 W
      have hil : (i : Int) < 4 := by omega
      have hi0 : (0 : Int) ≤ i := by omega
      have hcb := corn_bd n i
      have hl1 := HLEN.out (i + 1) (by omega)
      have hacc : (accF A.ths n th (i + 1)).length = (accF A.ths n th i).length + (cellsF A.ths n (quarterF th i)).length := by simp [accF, shift_len]
      have HNX : Hid (zs ++ shiftL x y (accF A.ths n th i) ++ shiftL (x + cornX ((2 ^ n : Nat) : Int) i) (y + cornY ((2 ^ n : Nat) : Int) i) (cellsF A.ths n (quarterF th i)) = zs ++ shiftL x y (accF A.ths n th (i + 1))) := by
        show _ = _
        rw [List.append_assoc]
        congr 1
        show _ = shiftL x y (accF A.ths n th i ++ _)
        rw [shift_app, shift_shift]
      have HIH := ih wb m b nn t v F A wv lv fv base (zs ++ shiftL x y (accF A.ths n th i)) wr (quarterF th i) (x + cornX ((2 ^ n : Nat) : Int) i) (y + cornY ((2 ^ n : Nat) : Int) i) (level - 1) hI ht hm hf (by omega) (by have := HLEV.out; omega) (hq i hi4) (by rw [List.length_append, shift_len]; omega) C (by omega) (by omega) (by omega) (by omega)
      have cf : wr.cell? ⟨fv, 0, none⟩ = some (cFn wv lv fv) := Lib.cell_of_heap C.cf 0
      obtain ⟨dx, hdx⟩ : ∃ dx, dx = cornX ((2 ^ n : Nat) : Int) i := ⟨_, rfl⟩
      obtain ⟨dy, hdy⟩ : ∃ dy, dy = cornY ((2 ^ n : Nat) : Int) i := ⟨_, rfl⟩
      rw [← hdx, ← hdy] at hco HIH hcb HNX
      have hp0 : (0 : Int) ≤ ((2 ^ n : Nat) : Int) := Int.natCast_nonneg _
      generalize ((2 ^ n : Nat) : Int) = pw at *
      clear hkid hcor C hacc hl1 hdx hdy
      go_wp2_with fail
      refine (hco _).mono ?_
      rintro e wk ⟨rfl, rfl⟩
      go_wp2_with fail
      refine HIH.mono ?_
      rintro e w3 ⟨rfl, C3, O3⟩
      rw [HNX.out] at C3
      go_wp2_with fail
      go_roundg (gk - 1)
      case measure => have := HI.out; omega
      case rel => exact ⟨i + 1, by have := HI.out; omega, by go_num, C3, O.trans O3⟩
    · have hi4' : i = 4 := by have := HI.out; omega
      subst hi4'
      rw [HACC.out] at C
      clear hkid hcor
      go_wp2_with fail
      go_end0
      exact ⟨rfl, C, O⟩

set_option maxRecDepth 20000 in
set_option maxHeartbeats 4000000 in
/-- of a square in which nothing lives -/
theorem cells_none (n wb m b nn t : Nat) (v : Value) (F : Nat → Prop) (A : Ar) (wv lv fv base : Nat) (zs : List (Int × Int)) (w : World) (id x y level : Int) (hI : Inv A) (ht : t < 64) (hm : ∀ x ∈ A.ths, x.mask < 18446744073709551616) (hf : A.ths.length < 1000000) (hn : n ≤ 44) (hlev : level = (n : Int)) (hl : levelF A.ths t id = some (n : Int)) (hC : CS w wb m b nn t v F A wv lv fv base zs) (hne : cellsF A.ths n id = []) :
    Calls Tryz.prog 67 #[.int .i64 id, .int .i64 level, .int .i64 x, .int .i64 y, .pointer (some ⟨wv, 0, none⟩), .pointer (some ⟨lv, 0, none⟩), .pointer (some ⟨fv, 0, none⟩)] w fun e w' => e = .returned (.tuple #[]) ∧ CS w' wb m b nn t v F A wv lv fv base (zs ++ shiftL x y (cellsF A.ths n id)) ∧ CO w wb m lv base w' := by
  obtain ⟨k, D, hw⟩ := hC.wg
  have hta := tally_any wb m b nn t v F A hI ht hm hf n id hn hl (by rw [hne]; decide) k D w level hlev hw
  have cw : w.cell? ⟨wv, 0, none⟩ = some (.pointer (some ⟨wb, 0, none⟩)) := Lib.cell_of_heap hC.cw 0
  have e0 : zs ++ shiftL x y (cellsF A.ths n id) = zs := by rw [hne]; simp [shiftL]
  rw [e0]
  clear hlev
  go_enter Tryz.func67, Tryz.ntmps67
  go_wp2_with fail
  refine hta.mono ?_
  rintro e w1 ⟨c, x0, y0, x1, y1, rfl, hT, T1⟩
  obtain ⟨C1, O1⟩ := hC.tal T1
  have hc0 : c = 0 := by have := hT.1; rw [hne] at this; simpa using this
  have hc1 : (c == 0) = true := by simpa using hc0
  have hfz := field_tv c x0 y0 x1 y1 w1
  clear hta hT T1 cw hC hw hc0
  go_wp2_with fail
  refine bodyPost_ret (v := .tuple #[]) ?_ rfl ⟨rfl, C1, O1⟩
  simp [results, Tryz.results67, go_sem]
set_option maxRecDepth 20000 in
set_option maxHeartbeats 4000000 in
/-- of a live cell -/
theorem cells_live (wb m b nn t : Nat) (v : Value) (F : Nat → Prop) (A : Ar) (wv lv fv base : Nat) (zs : List (Int × Int)) (w : World) (x y : Int) (hI : Inv A) (ht : t < 64) (hm : ∀ x ∈ A.ths, x.mask < 18446744073709551616) (hf : A.ths.length < 1000000) (hlen : zs.length + 1 ≤ 4096) (hC : CS w wb m b nn t v F A wv lv fv base zs) :
    Calls Tryz.prog 67 #[.int .i64 1, .int .i64 0, .int .i64 x, .int .i64 y, .pointer (some ⟨wv, 0, none⟩), .pointer (some ⟨lv, 0, none⟩), .pointer (some ⟨fv, 0, none⟩)] w fun e w' => e = .returned (.tuple #[]) ∧ CS w' wb m b nn t v F A wv lv fv base (zs ++ shiftL x y (cellsF A.ths 0 1)) ∧ CO w wb m lv base w' := by
  obtain ⟨k, D, hw⟩ := hC.wg
  have hta := tally_any wb m b nn t v F A hI ht hm hf 0 1 (by omega) rfl (by simp [cellsF]) k D w 0 rfl hw
  have cw : w.cell? ⟨wv, 0, none⟩ = some (.pointer (some ⟨wb, 0, none⟩)) := Lib.cell_of_heap hC.cw 0
  have e0 : zs ++ shiftL x y (cellsF A.ths 0 1) = zs ++ [(x, y)] := by simp [cellsF, shiftL]
  rw [e0]
  obtain ⟨i00, hi00, hz00, hz01, hz02⟩ := info_parts Tryz.info52
  go_enter Tryz.func67, Tryz.ntmps67
  go_wp2_with fail
  refine hta.mono ?_
  rintro e w1 ⟨c, x0, y0, x1, y1, rfl, hT, T1⟩
  obtain ⟨C1, O1⟩ := hC.tal T1
  have hc0 : c = 1 := by have := hT.1; simpa [cellsF] using this
  have hc1 : (c == 0) = false := by rw [hc0]; rfl
  have hfz := field_tv c x0 y0 x1 y1 w1
  obtain ⟨V, hV, hrow, _⟩ := C1.cl
  have cl : w1.cell? ⟨lv, 0, none⟩ = some V := Lib.cell_of_heap hV 0
  have zl := Lib.frozen_of_heap hV 0
  have hll : lv < w1.heap.size := (Array.getElem?_eq_some_iff.1 hV).1
  have l1 := C1.lb
  have l2 := C1.llv
  obtain ⟨a, cc, hva⟩ := row_slice hrow
  have bW : Below w1.heap.size w1 (w1.alloc (.cells #[.int .i64 x, .int .i64 y] 52)).drew := ((Below.refl _ _).alloc (Nat.le_refl _) _).drew
  have bW0 : Below w1.heap.size w1 (w1.alloc (.cells #[.int .i64 x, .int .i64 y] 52)) := (Below.refl _ _).alloc (Nat.le_refl _) _
  have OW : Hid (∀ o, (w1.alloc o).ownsRow base 52 2 V zs.length (cL zs)) := fun o => World.ownsRow.alloc hrow o
  have HFIN : Hid (∀ (W w5 : World) (g5 cap5 : Nat), Below w1.heap.size w1 W → w5.ownsRow base 52 2 (.slice (some ⟨g5, 0, none⟩) (zs.length + 1) cap5) (zs.length + 1) (cL zs ++ [.int .i64 x, .int .i64 y]) → W.grownBy w5 V.ownBlock → CS (w5.setCell ⟨lv, 0, none⟩ (.slice (some ⟨g5, 0, none⟩) (zs.length + 1) cap5)) wb m b nn t v F A wv lv fv base (zs ++ [(x, y)]) ∧ CO w wb m lv base (w5.setCell ⟨lv, 0, none⟩ (.slice (some ⟨g5, 0, none⟩) (zs.length + 1) cap5))) := fun W w5 g5 cap5 hW h1 h2 => by
    have e2 : cL (zs ++ [(x, y)]) = cL zs ++ [.int .i64 x, .int .i64 y] := by simp [cL]
    obtain ⟨r1, r2⟩ := C1.grown hW hV hrow h2 (ys := zs ++ [(x, y)]) (V5 := .slice (some ⟨g5, 0, none⟩) (zs.length + 1) cap5) (by rw [e2, List.length_append]; exact h1) (fun e => by simp at e)
    exact ⟨r1, O1.trans r2⟩
  have HLV : Hid (∀ (W w5 : World), Below w1.heap.size w1 W → W.grownBy w5 V.ownBlock → w5.heap[lv]? = w1.heap[lv]?) := fun W w5 hW h2 => (h2.block lv (Nat.lt_of_lt_of_le hll hW.size) (by
    intro e
    have := (World.ownsRow.lt hrow lv e.symm).1
    omega)).trans (hW.block lv hll)
  generalize zs.length = zl8 at *
  clear hta hT T1 cw hC hw hc0 C1 hrow
  subst hva
  have hzl : zl8 + 1 ≤ 4096 := hlen
  go_wp2_with (at_builtin; refine wpList_append_lies _ rfl _ _ 24 rfl base 52 i00 (.agg #[.int .i64 0, .int .i64 0]) 2 16 Tryz.underlying24 hi00 hz00 hz01 hz02 rfl (by decide) (.slice a zl8 cc) zl8 (cL zs) rfl (by exact OW.out _) ⟨w1.heap.size, 0, none⟩ 1 1 [.int .i64 x, .int .i64 y] rfl rfl (two_new _ _ _ _ _ rfl) (by intro u hu; simp at hu; rcases hu with rfl | rfl <;> rfl) (by omega) (by unfold maxLen; omega) (by omega) (by simp; omega) (w1.heap.size + 1) (by simp) ?_; intro g5 cap5 w5 hown5 hgrow5 hat5 hlt5; have hq5 := (HLV.out _ w5 bW0 hgrow5).trans hV; have c5 := Lib.cell_of_heap hq5 0; have z5 := Lib.frozen_of_heap hq5 0)
  refine bodyPost_ret (v := .tuple #[]) ?_ rfl ⟨rfl, HFIN.out _ w5 g5 cap5 bW0 hown5 hgrow5⟩
  simp [results, Tryz.results67, go_sem]

theorem closure_any : ∀ n, CSpec n
  | 0 => by
    intro wb m b nn t v F A wv lv fv base zs w id x y level hI ht hm hf hn hlev hl hlen hC _ _ _ _
    by_cases h0 : cellsF A.ths 0 id = []
    · exact cells_none 0 wb m b nn t v F A wv lv fv base zs w id x y level hI ht hm hf hn hlev hl hC h0
    · rcases glevel_zero hI.good (glevel_of hl) with rfl | rfl
      · exact absurd rfl h0
      · subst hlev
        exact cells_live wb m b nn t v F A wv lv fv base zs w x y hI ht hm hf (by simpa [cellsF] using hlen) hC
  | n + 1 => by
    intro wb m b nn t v F A wv lv fv base zs w id x y level hI ht hm hf hn hlev hl hlen hC hx0 hx1 hy0 hy1
    by_cases h0 : cellsF A.ths (n + 1) id = []
    · exact cells_none (n + 1) wb m b nn t v F A wv lv fv base zs w id x y level hI ht hm hf hn hlev hl hC h0
    · obtain ⟨th, hsq, hth, _, _, hq⟩ := square_of hI hl
      exact cells_step n (closure_any n) wb m b nn t v F A wv lv fv base zs w id x y level th hI ht hm hf (by omega) hlev hl hlen hC hx0 hx1 hy0 hy1 h0 hsq hth hq
end Go.Proofs.YtofbcngcblleaaaGreat.A

namespace Go.Proofs.YtofbcngcblleaaaGreat.A
open Go.RowKit Go.Maps Go.ChangeMaps Go.WideElems

set_option maxRecDepth 20000 in
set_option maxHeartbeats 8000000 in
/-- walker.cells -/
theorem wcells_any (wb m b nn t k n : Nat) (id level : Int) (v : Value) (F : Nat → Prop) (A : Ar) (D : DataW Unit) (w : World) (hI : Inv A) (ht : t < 64) (hm : ∀ x ∈ A.ths, x.mask < 18446744073709551616) (hf : A.ths.length < 1000000) (hn1 : 1 ≤ n) (hn : n ≤ 44) (hl : levelF A.ths t id = some (n : Int)) (hbig : (cellsF A.ths n id).length ≤ 4096) (hlev : level = (n : Int)) (hw : WG w wb m b nn t k v F A D) :
    Calls Tryz.prog 38 #[.pointer (some ⟨wb, 0, none⟩), .int .i64 id, .int .i64 level] w fun y w' => ∃ u, y = .returned u ∧ w'.ownsRow w.heap.size 52 2 u (cellsF A.ths n id).length (cL (shiftL (-(halfN n : Int)) (-(halfN n : Int)) (cellsF A.ths n id))) ∧ (cellsF A.ths n id = [] → u = .slice none 0 0) ∧ TG w wb m b nn t v F A (fun _ => True) w' := by
  have hh : ∀ W, Calls Tryz.prog 50 #[.int .i64 level] W fun x w' => x = .returned (.int .i64 (halfN n : Int)) ∧ w' = W := fun W => by rw [hlev]; exact half_any n W hn1 (by omega)
  have hbd := halfN_bd n (by omega)
  have hwl := hw.hand.lt
  have hml := hw.lt
  have hflt := hw.ar.flt
  have b3 : Below w.heap.size w (((w.alloc (.cells #[.pointer (some ⟨wb, 0, none⟩)] 108)).alloc (.cells #[.slice none 0 0] 24)).alloc (.cells #[cFn w.heap.size (w.heap.size + 1) (w.heap.size + 1 + 1)] 112)) := (((Below.refl _ _).alloc (Nat.le_refl _) _).alloc (by simp) _).alloc (by simp; omega) _
  have hs3 : (((w.alloc (.cells #[.pointer (some ⟨wb, 0, none⟩)] 108)).alloc (.cells #[.slice none 0 0] 24)).alloc (.cells #[cFn w.heap.size (w.heap.size + 1) (w.heap.size + 1 + 1)] 112)).heap.size = w.heap.size + 3 := by simp
  have e0 : (((w.alloc (.cells #[.pointer (some ⟨wb, 0, none⟩)] 108)).alloc (.cells #[.slice none 0 0] 24)).alloc (.cells #[cFn w.heap.size (w.heap.size + 1) (w.heap.size + 1 + 1)] 112)).heap[w.heap.size]? = some (.cells #[.pointer (some ⟨wb, 0, none⟩)] 108 (0, 0)) := (push_old (by simp; omega)).trans (heap_alloc2_old w _ _)
  have e1 : (((w.alloc (.cells #[.pointer (some ⟨wb, 0, none⟩)] 108)).alloc (.cells #[.slice none 0 0] 24)).alloc (.cells #[cFn w.heap.size (w.heap.size + 1) (w.heap.size + 1 + 1)] 112)).heap[w.heap.size + 1]? = some (.cells #[.slice none 0 0] 24 (0, 0)) := (push_old (by simp)).trans (heap_alloc2_new w _ _)
  have e2 : (((w.alloc (.cells #[.pointer (some ⟨wb, 0, none⟩)] 108)).alloc (.cells #[.slice none 0 0] 24)).alloc (.cells #[cFn w.heap.size (w.heap.size + 1) (w.heap.size + 1 + 1)] 112)).heap[w.heap.size + 1 + 1]? = some (.cells #[cFn w.heap.size (w.heap.size + 1) (w.heap.size + 1 + 1)] 112 (0, 0)) := by
    have := heap_alloc_new ((w.alloc (.cells #[.pointer (some ⟨wb, 0, none⟩)] 108)).alloc (.cells #[.slice none 0 0] 24)) (.cells #[cFn w.heap.size (w.heap.size + 1) (w.heap.size + 1 + 1)] 112)
    simpa using this
  have C0 : CS (((w.alloc (.cells #[.pointer (some ⟨wb, 0, none⟩)] 108)).alloc (.cells #[.slice none 0 0] 24)).alloc (.cells #[cFn w.heap.size (w.heap.size + 1) (w.heap.size + 1 + 1)] 112)) wb m b nn t v F A w.heap.size (w.heap.size + 1) (w.heap.size + 1 + 1) (w.heap.size + 3) [] :=
    ⟨⟨k, D, hw.below b3⟩, e0, e2, ⟨_, e1, World.ownsRow_nil _ _ _ _, fun _ => rfl⟩, by omega, by omega, by omega, by omega, by omega, fun k hk => by have := hflt k hk; omega, by omega, by omega, ⟨by omega, by omega, fun e => by have := hflt _ e; omega⟩, by omega⟩
  obtain ⟨hf', hhf⟩ : ∃ hf' : Int, hf' = (halfN n : Int) := ⟨_, rfl⟩
  rw [← hhf] at hh
  have hneg : IntKind.i64.wrap (-hf') = -hf' := by rw [IntKind.wrap_i64]; omega
  have hpow : ((2 ^ n : Nat) : Int) = hf' + hf' := by
    obtain ⟨q, rfl⟩ : ∃ q, n = q + 1 := ⟨n - 1, by omega⟩
    rw [hhf, halfN_succ, Nat.pow_succ]; omega
  have hpb : hf' ≤ 8796093022208 := by
    have : halfN n ≤ halfN 44 := Nat.pow_le_pow_right (by omega) (by omega)
    have e : halfN 44 = 8796093022208 := by decide
    omega
  generalize hW : (((w.alloc (.cells #[.pointer (some ⟨wb, 0, none⟩)] 108)).alloc (.cells #[.slice none 0 0] 24)).alloc (.cells #[cFn w.heap.size (w.heap.size + 1) (w.heap.size + 1 + 1)] 112)) = W at *
  have C1 := (C0.below (w1 := W.drew) ⟨rfl, rfl, rfl, Nat.le_refl _, fun _ _ => rfl⟩).1
  have HC := closure_any n wb m b nn t v F A w.heap.size (w.heap.size + 1) (w.heap.size + 1 + 1) (w.heap.size + 3) [] W.drew id (-hf') (-hf') level hI ht hm hf hn hlev hl (by simpa using hbig) C1 (by omega) (by omega) (by omega) (by omega)
  rw [List.nil_append] at HC
  have HFIN : Hid (∀ w', CS w' wb m b nn t v F A w.heap.size (w.heap.size + 1) (w.heap.size + 1 + 1) (w.heap.size + 3) (shiftL (-hf') (-hf') (cellsF A.ths n id)) → CO W.drew wb m (w.heap.size + 1) (w.heap.size + 3) w' → ∃ u, w'.cell? ⟨w.heap.size + 1, 0, none⟩ = some u ∧ w'.ownsRow w.heap.size 52 2 u (cellsF A.ths n id).length (cL (shiftL (-(halfN n : Int)) (-(halfN n : Int)) (cellsF A.ths n id))) ∧ (cellsF A.ths n id = [] → u = .slice none 0 0) ∧ TG w wb m b nn t v F A (fun _ => True) w') := fun w' h1 h2 => by
    obtain ⟨V, hV, hr, hnil⟩ := h1.cl
    obtain ⟨k', D', hw'⟩ := h1.wg
    rw [shift_len, hhf] at hr
    have hs2 : W.heap.size ≤ w'.heap.size := h2.size
    refine ⟨V, Lib.cell_of_heap hV 0, ?_, fun e => hnil (by rw [e]; rfl), ⟨⟨k', D', hw', fun _ _ _ => trivial⟩, by omega, h2.os.trans b3.os, h2.tape.trans b3.tape, h2.output.trans b3.output, fun j a1 a2 a3 => (h2.block j (by omega) a2 a3 (by omega)).trans (b3.block j a1)⟩⟩
    obtain ⟨q1, q2⟩ := hr
    refine ⟨q1, ?_⟩
    rcases q2 with q2 | ⟨g, cap, cur, q3, q4, q5⟩
    · exact Or.inl q2
    · exact Or.inr ⟨g, cap, cur, q3, by omega, q5⟩
  have hcf : W.cell? ⟨w.heap.size + 1 + 1, 0, none⟩ = some (cFn w.heap.size (w.heap.size + 1) (w.heap.size + 1 + 1)) := Lib.cell_of_heap e2 0
  have HKF : Hid (∀ w', CS w' wb m b nn t v F A w.heap.size (w.heap.size + 1) (w.heap.size + 1 + 1) (w.heap.size + 3) (shiftL (-hf') (-hf') (cellsF A.ths n id)) → w'.cell? ⟨w.heap.size + 1 + 1, 0, none⟩ = some (cFn w.heap.size (w.heap.size + 1) (w.heap.size + 1 + 1))) := fun w' h => Lib.cell_of_heap h.cf 0
  have HW : Hid ((((w.alloc (.cells #[.pointer (some ⟨wb, 0, none⟩)] 108)).alloc (.cells #[.slice none 0 0] 24)).alloc (.cells #[cFn w.heap.size (w.heap.size + 1) (w.heap.size + 1 + 1)] 112)) = W) := hW
  clear hhf hlev C0 C1 e0 e1 e2 hl hw hbd hpow
  clear hW
  go_enter Tryz.func38, Tryz.ntmps38
  go_wp2_with fail
  rw [HW.out]
  go_region_held3 (fun w' => w'.cell? ⟨w.heap.size + 1 + 1, 0, none⟩ = some (cFn w.heap.size (w.heap.size + 1) (w.heap.size + 1 + 1))) (first | exact hcf | exact HKF.out _ hR) ((first | (go_at_call 50; refine (hh _).mono ?_; rintro e w5 ⟨rfl, rfl⟩) | (go_at_call 67; refine HC.mono ?_; rintro e w6 ⟨rfl, hR, hO⟩)))
  all_goals
    obtain ⟨u, hu, hrow, hnil, hTG⟩ := HFIN.out _ hR hO
    have HNIL : Hid (cellsF A.ths n id = [] → u = .slice none 0 0) := hnil
    clear hnil
    go_wp2_with fail
    go_ret
    exact ⟨u, rfl, hrow, HNIL.out, hTG⟩

theorem row_of_own' {w : World} {B : Nat} {v : Value} {zs : List (Int × Int)} (h : w.ownsRow B 52 2 v zs.length (cL zs)) (hnil : zs = [] → v = .slice none 0 0) : Row w v zs := by
  by_cases h0 : zs = []
  · exact Or.inl ⟨h0, hnil h0⟩
  · have hh := h
    rcases h.2 with ⟨rfl, h1⟩ | ⟨g, cap, cur, rfl, hB, hg, hc, hm, hr⟩
    · exact absurd (List.length_eq_zero_iff.1 h1) h0
    · refine Or.inr ⟨h0, g, 0, cap, rfl, (Array.getElem?_eq_some_iff.1 hg).1, hc, hm, fun j hj => ?_⟩
      have h1 := hh.cellAt (j * 2) (by omega)
      have h2 := hh.cellAt (j * 2 + 1) (by omega)
      obtain ⟨e1, e2⟩ := cL_at zs j hj
      rw [Nat.zero_add]
      exact ⟨h1.trans e1, h2.trans e2⟩

set_option maxRecDepth 20000 in
set_option maxHeartbeats 4000000 in
/-- Cells of a root -/
theorem Cells_root (b n t lv : Nat) (id : Int) (F : Nat → Prop) (A : Ar) (w : World) (hA : ArAt w b F n A) (hI : Inv A) (ht : t < 64) (hm : ∀ x ∈ A.ths, x.mask < 18446744073709551616) (hf : A.ths.length < 1000000) (hl : levelF A.ths t id = some (lv : Int)) (hlv1 : 1 ≤ lv) (hlv : lv ≤ 44) (hbig : (cellsF A.ths lv id).length ≤ 4096) :
    Calls Tryz.prog 14 #[.pointer (some ⟨b, 0, none⟩), .int .i64 t, .int .i64 id] w fun x w' => ∃ u ys, x = .returned (.tuple #[u, .int .i64 (tcode (shiftL (-(halfN lv : Int)) (-(halfN lv : Int)) (cellsF A.ths lv id)))]) ∧ Tidied (shiftL (-(halfN lv : Int)) (-(halfN lv : Int)) (cellsF A.ths lv id)) ys ∧ ORow w' w.heap.size u ys ∧ Below w.heap.size w w' := by
  have hr := fits_of hl hf
  have hflt := hA.flt
  have hlev := fun W hb v (hh : HandAt W hb b t 0 v) (hW : ArAt W b F n A) (hn : ¬ F hb) => handLevel_ok hb b n t id 1 44 lv v F A W hh hW hn ht hm hr hl (by omega) (by omega)
  have hta := fun wb m v k D W => tally_any wb m b n t v F A hI ht hm hf lv id hlv hl (by omega) k D W (lv : Int) rfl
  have hce := fun wb m v k D W => wcells_any wb m b n t k lv id (lv : Int) v F A D W hI ht hm hf hlv1 hlv hl hbig rfl
  have HL : Hid (levelF A.ths t id = some (lv : Int)) := hl
  obtain ⟨zs, hzs⟩ : ∃ zs, zs = shiftL (-(halfN lv : Int)) (-(halfN lv : Int)) (cellsF A.ths lv id) := ⟨_, rfl⟩
  have HZS : Hid (zs = shiftL (-(halfN lv : Int)) (-(halfN lv : Int)) (cellsF A.ths lv id)) := hzs
  rw [← hzs]
  clear hl hzs
  go_enter Tryz.func14, Tryz.ntmps14
  go_wp2_with fail
  refine (newWalker_G b t _).mono ?_
  rintro x w1 ⟨g, m, D, rfl, hb1, hown, hkn, hmg, _, _, _⟩
  obtain ⟨Q0, b2⟩ := WG.born (g := g) (t := t) hA hf hb1 hown hkn hmg
  have hh := Q0.hand
  have hs1 := hb1.size
  go_wp2_with fail
  refine (hlev _ _ _ hh (hA.below b2) Q0.nFw).mono ?_
  rintro x w3 ⟨rfl, h3, g3, h34⟩
  have c2 := h3.c2
  have Q3 := Q0.kids h3 g3 (h34.trans Q0.c4)
  have b3 : Below w.heap.size w w3 := b2.trans ⟨g3.os, g3.tape, g3.output, g3.size, fun k hk => g3.block k (by have := b2.size; omega) (by simp; omega)⟩
  clear hlev
  go_wp2_with fail
  refine (hta _ _ _ 2 D _ Q3).mono ?_
  rintro x w4 ⟨c, x0, y0, x1, y1, rfl, hT, T4⟩
  obtain ⟨k4, D4, Q4, _⟩ := T4.wg
  have hlt3 := Q3.hand.lt
  have hfz := field_tv c x0 y0 x1 y1 w4
  have hcl : c = ((cellsF A.ths lv id).length : Int) := hT.1
  have hcb : ¬ (4096 : Int) < c := by omega
  have b4 : Below w.heap.size w w4 := ⟨T4.os.trans b3.os, T4.tape.trans b3.tape, T4.output.trans b3.output, Nat.le_trans b3.size T4.size, fun k hk => (T4.block k (by have := b3.size; omega) (by omega) (by omega)).trans (b3.block k hk)⟩
  clear hcl hT hta T4
  go_wp2_with fail
  refine (hce _ _ _ k4 D4 _ Q4).mono ?_
  rintro x w5 ⟨u, rfl, hrow, hnil, T5⟩
  obtain ⟨k5, D5, Q5, _⟩ := T5.wg
  have d2 := Q5.hand.c2
  have b5 : Below w.heap.size w w5 := ⟨T5.os.trans b4.os, T5.tape.trans b4.tape, T5.output.trans b4.output, Nat.le_trans b4.size T5.size, fun k hk => (T5.block k (by have := b4.size; omega) (by omega) (by omega)).trans (b4.block k hk)⟩
  have hzs := HZS.out
  have hrow2 : Row w5 u zs := by
    refine row_of_own' (B := w4.heap.size) ?_ ?_
    · rw [hzs, shift_len]; exact hrow
    · intro e
      refine hnil ?_
      rw [hzs] at e
      exact List.length_eq_zero_iff.1 (by have := congrArg List.length e; rw [shift_len] at this; simpa using this)
  have hTT := tidy_told u zs w5 hrow2
  clear hce hrow hnil T5 hzs hrow2
  go_wp2_with fail
  refine hTT.mono ?_
  rintro x w6 ⟨u6, ys, rfl, hb6, ht6, hr6⟩
  go_wp2_with fail
  go_ret2
  exact ⟨u6, ys, rfl, ht6, hr6.mono b5.size, b5.trans (hb6.mono b5.size)⟩
end Go.Proofs.YtofbcngcblleaaaGreat.A

namespace Go.Proofs.YtofbcngcblleaaaGreat.A
open Go.RowKit Go.Maps Go.ChangeMaps Go.WideElems

/-- a walker that has refused -/
structure WX (w : World) (wb m b t k : Nat) (e : Int) (v : Value) (l : List Th) (D : DataW Unit) : Prop where
  hand : HandAt w wb b t e v
  map : w.ownsMap Tryz.prog 3 talG m k D
  known : KnownG D l t
  c4 : w.cell? ⟨wb, 4, none⟩ = some (.map (some m))
section
variable {w w' : World} {wb m b t k : Nat} {e : Int} {v : Value} {l : List Th} {D : DataW Unit}
theorem WX.lt (h : WX w wb m b t k e v l D) : m < w.heap.size := by
  have hm0 : w.heap[m]? ≠ none := by obtain ⟨es, c, he, _⟩ := h.map; rw [he]; simp
  rw [Ne, Array.getElem?_eq_none_iff] at hm0; omega
theorem WX.below (h : WX w wb m b t k e v l D) (hb : Below w.heap.size w w') : WX w' wb m b t k e v l D :=
  ⟨h.hand.below hb, talG_other h.map (hb.block _ h.lt), h.known, (World.cell?_of_block (hb.block _ h.hand.lt)).trans h.c4⟩
set_option maxRecDepth 20000 in
set_option maxHeartbeats 4000000 in
theorem tallyX (h : WX w wb m b t k e v l D) (n : Nat) (id level : Int) (hi : Fits id) (hl : levelF l t id = some (n : Int)) (hh : Maps.has D (.int .i64 id) = true) :
    Calls Tryz.prog 36 #[.pointer (some ⟨wb, 0, none⟩), .int .i64 id, .int .i64 level] w fun x w' => ∃ c x0 y0 x1 y1, x = .returned (tv c x0 y0 x1 y1) ∧ Tal (cellsF l n id) c x0 y0 x1 y1 ∧ Below w.heap.size w w' := by
  have b1 : Below w.heap.size w (w.alloc (.cells #[.int .i64 0, .int .i64 0, .int .i64 0, .int .i64 0, .int .i64 0] 70)) := (Below.refl _ _).alloc (Nat.le_refl _) _
  have q1 := h.below b1
  obtain ⟨c, x0, y0, x1, y1, hT, hlook⟩ := tal_yes q1.map q1.known hi hl hh
  have hc' := q1.c4
  go_enter Tryz.func36, Tryz.ntmps36
  go_wp2_with fail
  refine bodyPost_ret (v := tv c x0 y0 x1 y1) ?_ rfl ⟨c, x0, y0, x1, y1, rfl, hT, ?_⟩
  · simp [results, Tryz.results36, go_sem]
  · exact ((Below.refl _ _).alloc (Nat.le_refl _) _).alloc (by simp) _
set_option maxRecDepth 20000 in
theorem kidsX (h : HandAt w wb b t e v) (he : e ≠ 0) (id : Int) :
    Calls Tryz.prog 41 #[.pointer (some ⟨wb, 0, none⟩), .int .i64 id] w fun r w' => r = .returned (quad4 0 0 0 0) ∧ Below w.heap.size w w' := by
  have hbx : Below w.heap.size w (w.alloc (.cells #[.int .i64 0, .int .i64 0, .int .i64 0, .int .i64 0] 76)) := (Below.refl _ _).alloc (Nat.le_refl _) _
  have c2 := (h.below hbx).c2
  have hX0 : (w.alloc (.cells #[.int .i64 0, .int .i64 0, .int .i64 0, .int .i64 0] 76)).heap[w.heap.size]? = some (.cells #[.int .i64 0, .int .i64 0, .int .i64 0, .int .i64 0] 76 (0, 0)) := heap_alloc_new w _
  have hf4 := four_any 0 (w.alloc (.cells #[.int .i64 0, .int .i64 0, .int .i64 0, .int .i64 0] 76))
  unfold quad4 at hf4
  generalize hW : w.alloc (.cells #[.int .i64 0, .int .i64 0, .int .i64 0, .int .i64 0] 76) = W at *
  go_enter Tryz.func41, Tryz.ntmps41
  go_wp2_with fail
  (try rw [hW])
  refine hf4.mono ?_
  rintro r w2 ⟨rfl, hb2⟩
  have hwl : w.heap.size < W.heap.size := (Array.getElem?_eq_some_iff.1 hX0).1
  have hX2 := (hb2.block w.heap.size hwl).trans hX0
  have j0 := Lib.cell_of_heap hX2 0
  have j1 := Lib.cell_of_heap hX2 1
  have j2 := Lib.cell_of_heap hX2 2
  have j3 := Lib.cell_of_heap hX2 3
  have z0 := Lib.frozen_of_heap hX2 0
  have z1 := Lib.frozen_of_heap hX2 1
  have z2 := Lib.frozen_of_heap hX2 2
  have z3 := Lib.frozen_of_heap hX2 3
  go_wp2_with fail
  have hR : ((((w2.setCell ⟨w.heap.size, 0, none⟩ (.int .i64 0)).setCell ⟨w.heap.size, 1, none⟩ (.int .i64 0)).setCell ⟨w.heap.size, 2, none⟩ (.int .i64 0)).setCell ⟨w.heap.size, 3, none⟩ (.int .i64 0)).heap[w.heap.size]? = some (.cells #[.int .i64 0, .int .i64 0, .int .i64 0, .int .i64 0] 76 (0, 0)) := Go.Joins.block_setCell (Go.Joins.block_setCell (Go.Joins.block_setCell (Go.Joins.block_setCell hX2 _) _) _) _
  have hbz : Below w.heap.size w ((((w2.setCell ⟨w.heap.size, 0, none⟩ (.int .i64 0)).setCell ⟨w.heap.size, 1, none⟩ (.int .i64 0)).setCell ⟨w.heap.size, 2, none⟩ (.int .i64 0)).setCell ⟨w.heap.size, 3, none⟩ (.int .i64 0)) := ((((hbx.trans (hb2.mono (by omega))).setCell (p := ⟨w.heap.size, 0, none⟩) (Nat.le_refl _) _).setCell (p := ⟨w.heap.size, 1, none⟩) (Nat.le_refl _) _).setCell (p := ⟨w.heap.size, 2, none⟩) (Nat.le_refl _) _).setCell (p := ⟨w.heap.size, 3, none⟩) (Nat.le_refl _) _
  refine bodyPost_ret (v := quad4 0 0 0 0) ?_ rfl ⟨rfl, hbz⟩
  simp [results, Tryz.results41, go_sem, Lib.cell_of_heap hR, quad4]
/-- a walker that has refused, and the walk's own things -/
structure CX (w : World) (wb m b t k : Nat) (e : Int) (v : Value) (l : List Th) (D : DataW Unit) (wv lv fv : Nat) : Prop where
  wx : WX w wb m b t k e v l D
  cw : w.heap[wv]? = some (.cells #[.pointer (some ⟨wb, 0, none⟩)] 108 (0, 0))
  cf : w.heap[fv]? = some (.cells #[cFn wv lv fv] 112 (0, 0))
theorem CX.below {wv lv fv : Nat} (h : CX w wb m b t k e v l D wv lv fv) (hb : Below w.heap.size w w') : CX w' wb m b t k e v l D wv lv fv :=
  ⟨h.wx.below hb, (hb.block _ (Array.getElem?_eq_some_iff.1 h.cw).1).trans h.cw, (hb.block _ (Array.getElem?_eq_some_iff.1 h.cf).1).trans h.cf⟩
set_option maxRecDepth 20000 in
set_option maxHeartbeats 4000000 in
/-- the walk over nothing -/
theorem walkX0 {wv lv fv : Nat} (h : CX w wb m b t k e v l D wv lv fv) (level x y : Int) :
    Calls Tryz.prog 67 #[.int .i64 0, .int .i64 level, .int .i64 x, .int .i64 y, .pointer (some ⟨wv, 0, none⟩), .pointer (some ⟨lv, 0, none⟩), .pointer (some ⟨fv, 0, none⟩)] w fun e w' => e = .returned (.tuple #[]) ∧ Below w.heap.size w w' := by
  have hta := tallyX h.wx 0 0 level (by unfold Fits; omega) (by simp [levelF]) h.wx.known.zero
  have cw : w.cell? ⟨wv, 0, none⟩ = some (.pointer (some ⟨wb, 0, none⟩)) := Lib.cell_of_heap h.cw 0
  go_enter Tryz.func67, Tryz.ntmps67
  go_wp2_with fail
  refine hta.mono ?_
  rintro e w1 ⟨c, x0, y0, x1, y1, rfl, hT, hb⟩
  have hc0 : c = 0 := by have := hT.1; simpa [cellsF] using this
  have hc1 : (c == 0) = true := by simpa using hc0
  have hfz := field_tv c x0 y0 x1 y1 w1
  clear hta hT cw hc0
  go_wp2_with fail
  refine bodyPost_ret (v := .tuple #[]) ?_ rfl ⟨rfl, hb⟩
  simp [results, Tryz.results67, go_sem]
set_option maxRecDepth 20000 in
set_option maxHeartbeats 8000000 in
/-- the walk over a root: its quarters are not told any more -/
theorem walkX {wv lv fv : Nat} (h : CX w wb m b t k e v l D wv lv fv) (he : e ≠ 0) (n : Nat) (hn : n < 44) (id level x y : Int) (hi : Fits id) (hl : levelF l t id = some ((n + 1 : Nat) : Int)) (hlev : level = ((n + 1 : Nat) : Int)) (hh : Maps.has D (.int .i64 id) = true) (hne : cellsF l (n + 1) id ≠ []) :
    Calls Tryz.prog 67 #[.int .i64 id, .int .i64 level, .int .i64 x, .int .i64 y, .pointer (some ⟨wv, 0, none⟩), .pointer (some ⟨lv, 0, none⟩), .pointer (some ⟨fv, 0, none⟩)] w fun e w' => e = .returned (.tuple #[]) ∧ Below w.heap.size w w' := by
  have hta := tallyX h.wx (n + 1) id level hi hl hh
  have cw : w.cell? ⟨wv, 0, none⟩ = some (.pointer (some ⟨wb, 0, none⟩)) := Lib.cell_of_heap h.cw 0
  have hlv1 : 1 ≤ level ∧ level ≤ 44 := by omega
  have hlv0 : (level == 0) = false := by simp; omega
  have HLEV : Hid (level = ((n + 1 : Nat) : Int)) := hlev
  have HC : Hid (CX w wb m b t k e v l D wv lv fv) := h
  have HN : Hid (n < 44) := hn
  clear hlev hl hh hi
  go_enter Tryz.func67, Tryz.ntmps67
  go_wp2_with fail
  refine hta.mono ?_
  rintro r w1 ⟨c, x0, y0, x1, y1, rfl, hT, hb⟩
  have C1 := HC.out.below hb
  have hc0 : c ≠ 0 := fun e => hne (List.length_eq_zero_iff.1 (by have := hT.1; omega))
  have hc1 : (c == 0) = false := by simpa using hc0
  have hfz := field_tv c x0 y0 x1 y1 w1
  have cw1 : w1.cell? ⟨wv, 0, none⟩ = some (.pointer (some ⟨wb, 0, none⟩)) := Lib.cell_of_heap C1.cw 0
  have hki := kidsX C1.wx.hand he id
  have HB : Hid (Below w.heap.size w w1) := hb
  unfold quad4 at hki
  clear hta hT cw hc0 hb C1 h hne
  go_wp2_with fail
  refine hki.mono ?_
  rintro r w2 ⟨rfl, hb2⟩
  have b2 : Below w.heap.size w w2 := HB.out.trans (hb2.mono HB.out.size)
  clear hki cw1 hfz hb2 hc1
  go_wp2_with fail
  have hcor := fun (i : Nat) (hi : i < 4) W => corner_at n i level HLEV.out HN.out hi W
  have hkid := fun (i : Nat) (hi : i < 4) (W : World) => kids_at { (default : Th) with p0 := 0, p1 := 0, p2 := 0, p3 := 0 } i hi W
  have hq0 : ∀ i, quarterF { (default : Th) with p0 := 0, p1 := 0, p2 := 0, p3 := 0 } i = 0 := fun i => by unfold quarterF; split <;> (try rfl); split <;> (try rfl); split <;> rfl
  go_loopg [34] 4 (fun g s34 wr => ∃ i : Nat, i + g = 4 ∧ s34 = .int .i64 (i : Int) ∧ Below w.heap.size w wr)
  case atStart => exact ⟨0, by omega, rfl, b2⟩
  case round =>
    obtain ⟨i, hig, rfl, hbr⟩ := hrel
    have HI : Hid (i + gk = 4) := hig
    clear hig
    by_cases hi4 : i < 4
    · have hki : ∀ W : World, (Instr.index 76 (.agg #[.int .i64 0, .int .i64 0, .int .i64 0, .int .i64 0]) (.int .i64 (i : Int))).run Tryz.prog W = .ok (.int .i64 0) W := fun W => by
        have := hkid i hi4 W
        rw [hq0] at this
        exact this
      have hco := fun W => hcor i hi4 W
      have hil : (i : Int) < 4 := by omega
      have hi0 : (0 : Int) ≤ i := by omega
      have C := HC.out.below hbr
      have HIH := fun X Y => walkX0 C (level - 1) X Y
      have cf : wr.cell? ⟨fv, 0, none⟩ = some (cFn wv lv fv) := Lib.cell_of_heap C.cf 0
      have HBR : Hid (Below w.heap.size w wr) := hbr
      obtain ⟨dx, hdx⟩ : ∃ dx, dx = cornX ((2 ^ n : Nat) : Int) i := ⟨_, rfl⟩
      obtain ⟨dy, hdy⟩ : ∃ dy, dy = cornY ((2 ^ n : Nat) : Int) i := ⟨_, rfl⟩
      rw [← hdx, ← hdy] at hco
      clear hkid hcor C hdx hdy hq0 b2 hbr
      go_wp2_with fail
      refine (hco _).mono ?_
      rintro r wk ⟨rfl, rfl⟩
      go_wp2_with fail
      refine (HIH _ _).mono ?_
      rintro r w3 ⟨rfl, hb3⟩
      have b3 : Below w.heap.size w w3 := HBR.out.trans (hb3.mono HBR.out.size)
      clear hb3
      go_wp2_with fail
      go_roundg (gk - 1)
      case measure => have := HI.out; omega
      case rel => exact ⟨i + 1, by have := HI.out; omega, by go_num, b3⟩
    · clear hkid hcor
      go_wp2_with fail
      go_end0
      exact ⟨rfl, hbr⟩
end
end Go.Proofs.YtofbcngcblleaaaGreat.A

namespace Go.Proofs.YtofbcngcblleaaaGreat.A
open Go.RowKit Go.Maps Go.ChangeMaps Go.WideElems

theorem tal_learnK {w : World} {m k n t : Nat} {D : DataW Unit} {l : List Th} {i c x0 y0 x1 y1 : Int} (h : w.ownsMap Tryz.prog 3 talG m k D) (hk : KnownG D l t) (hi : Fits i) (h2 : 2 ≤ i) (hlt : (i - 2).toNat < l.length) (hl : levelF l t i = some (n : Int)) (hT : Tal (cellsF l n i) c x0 y0 x1 y1) (hh : Maps.has D (.int .i64 i) = false) (hn : k + unk D l.length ≤ 2000000) :
    ∃ w' D', (Instr.mapUpdate 62 (.map (some m)) (.int .i64 i) (tv c x0 y0 x1 y1)).run Tryz.prog w = .ok () w' ∧ w'.ownsMap Tryz.prog 3 talG m (k + 1) D' ∧ KnownG D' l t ∧ k + 1 + unk D' l.length ≤ 2000000 ∧ w.mapTurned w' m ∧ (∀ j, Maps.has D' (.int .i64 j) = true → j = i ∨ Maps.has D (.int .i64 j) = true) ∧ Maps.has D' (.int .i64 i) = true := by
  obtain ⟨w', h1, h3, h4⟩ := h.store (int_keyed Tryz.underlying3) Tryz.underlying62 (show k < maxLen by unfold maxLen; omega) (keyOf_int_mk Tryz.underlying3 (wf_of_fits hi)) (talG_tv c x0 y0 x1 y1)
  have hkl : WideAt.IsKeyLit (.int .i64 i) := by unfold WideAt.IsKeyLit; trivial
  refine ⟨w', _, h1, h3, ⟨?_, ?_, fun j hj hhj => ?_⟩, ?_, h4, fun j hhj => ?_, has_put_same h.isMap hkl _⟩
  · rw [has_put_other (by intro e; cases e; omega)]; exact hk.zero
  · rw [has_put_other (by intro e; cases e; omega)]; exact hk.one
  · by_cases e : j = i
    · subst e
      exact ⟨n, c, x0, y0, x1, y1, hl, hT, atKey_put_same h.isMap hkl _ _⟩
    · have ne : (Lit.int .i64 j) ≠ .int .i64 i := by intro h; cases h; exact e rfl
      rw [has_put_other ne] at hhj
      obtain ⟨n', c', a, b, c'', d, f1, f2, f3⟩ := hk.tal j hj hhj
      exact ⟨n', c', a, b, c'', d, f1, f2, by rw [atKey_put_other ne]; exact f3⟩
  · obtain ⟨q, hq⟩ : ∃ q : Nat, i = (q : Int) + 2 := ⟨(i - 2).toNat, by omega⟩
    subst hq
    have := unk_put h.isMap (td c x0 y0 x1 y1) hh l.length
    rw [if_pos (by omega)] at this
    omega
  · by_cases e : j = i
    · exact Or.inl e
    · have ne : (Lit.int .i64 j) ≠ .int .i64 i := by intro h; cases h; exact e rfl
      rw [has_put_other ne] at hhj
      exact Or.inr hhj
set_option maxRecDepth 20000 in
set_option maxHeartbeats 8000000 in
theorem tally_stepK (wb m b nn t k n : Nat) (id level : Int) (v : Value) (F : Nat → Prop) (A : Ar) (x : Th) (D : DataW Unit) (w : World) (hw : WG w wb m b nn t k v F A D) (hi : Fits id) (hn : n < 44) (hlev : level = ((n + 1 : Nat) : Int)) (hl : levelF A.ths t id = some ((n + 1 : Nat) : Int)) (hh : Maps.has D (.int .i64 id) = false) (ht : t < 64) (hm : ∀ x ∈ A.ths, x.mask < 18446744073709551616) (hx : squareF A.ths t id = some x) (hth : thAt A.ths id = x) (hid2 : 2 ≤ id) (hidl : (id - 2).toNat < A.ths.length)
    (hbig : (cellsF A.ths (n + 1) id).length < 4611686018427387904) (hin : ∀ i, i < 4 → ∀ p ∈ cellsF A.ths n (quarterF x i), 0 ≤ p.1 ∧ p.1 < ((2 ^ n : Nat) : Int) ∧ 0 ≤ p.2 ∧ p.2 < ((2 ^ n : Nat) : Int))
    (ih : ∀ (i : Nat) (k : Nat) (D : DataW Unit) (w : World), i < 4 → WG w wb m b nn t k v F A D → Calls Tryz.prog 36 #[.pointer (some ⟨wb, 0, none⟩), .int .i64 (quarterF x i), .int .i64 (level - 1)] w fun y w' => ∃ c x0 y0 x1 y1, y = .returned (tv c x0 y0 x1 y1) ∧ Tal (cellsF A.ths n (quarterF x i)) c x0 y0 x1 y1 ∧ TG w wb m b nn t v F A (Kn D A.ths t n) w') :
    Calls Tryz.prog 36 #[.pointer (some ⟨wb, 0, none⟩), .int .i64 id, .int .i64 level] w fun y w' => ∃ c x0 y0 x1 y1, y = .returned (tv c x0 y0 x1 y1) ∧ Tal (cellsF A.ths (n + 1) id) c x0 y0 x1 y1 ∧ TG w wb m b nn t v F A (Kn D A.ths t (n + 1)) w' ∧ ∃ k2 D2, WG w' wb m b nn t k2 v F A D2 ∧ Maps.has D2 (.int .i64 id) = true := by
  have hml := hw.lt
  have hwl := hw.hand.lt
  have b1 : Below w.heap.size w (w.alloc (.cells #[.int .i64 0, .int .i64 0, .int .i64 0, .int .i64 0, .int .i64 0] 70)) := (Below.refl _ _).alloc (Nat.le_refl _) _
  have q1 := hw.below b1
  have hlook := tal_no q1.map hi hh
  have hc' := q1.c4
  have b0 : Below w.heap.size w (((w.alloc (.cells #[.int .i64 0, .int .i64 0, .int .i64 0, .int .i64 0, .int .i64 0] 70)).alloc (.cells #[.int .i64 0, .int .i64 0, .int .i64 0, .int .i64 0, .int .i64 0] 70)).alloc (.cells #[.int .i64 0, .int .i64 0, .int .i64 0, .int .i64 0, .int .i64 0] 70)) := ((b1.alloc b1.size _).alloc (b1.alloc b1.size _).size _)
  have q0 := hw.below b0
  have hcor := fun (i : Nat) (hi : i < 4) W => corner_at n i level hlev hn hi W
  have hkid := fun (i : Nat) (hi : i < 4) W => kids_at x i hi W
  have hlv1 : 1 ≤ level ∧ level ≤ 44 := by omega
  have HLEV : Hid (level = ((n + 1 : Nat) : Int)) := hlev
  have HIN : Hid (∀ i, i < 4 → ∀ p ∈ cellsF A.ths n (quarterF x i), 0 ≤ p.1 ∧ p.1 < ((2 ^ n : Nat) : Int) ∧ 0 ≤ p.2 ∧ p.2 < ((2 ^ n : Nat) : Int)) := hin
  clear hlev hin
  obtain ⟨i00, hi00, hz00, hz01, hz02⟩ := info_parts Tryz.info52
  go_enter Tryz.func36, Tryz.ntmps36
  go_wp2_with fail
  refine (handKids_any wb b nn t id x v F A _ q0.hand q0.ar ht hm hi hx).mono ?_
  rintro y w1 ⟨rfl, hw1, g1, hk4⟩
  have q2 := q0.kids hw1 g1 (hk4.trans q0.c4)
  go_wp2_with fail
  have hX : (((w.alloc (.cells #[.int .i64 0, .int .i64 0, .int .i64 0, .int .i64 0, .int .i64 0] 70)).alloc (.cells #[.int .i64 0, .int .i64 0, .int .i64 0, .int .i64 0, .int .i64 0] 70)).alloc (.cells #[.int .i64 0, .int .i64 0, .int .i64 0, .int .i64 0, .int .i64 0] 70)).heap[w.heap.size + 1 + 1]? = some (.cells #[.int .i64 0, .int .i64 0, .int .i64 0, .int .i64 0, .int .i64 0] 70 (0, 0)) := by
    have := heap_alloc_new ((w.alloc (.cells #[.int .i64 0, .int .i64 0, .int .i64 0, .int .i64 0, .int .i64 0] 70)).alloc (.cells #[.int .i64 0, .int .i64 0, .int .i64 0, .int .i64 0, .int .i64 0] 70)) (.cells #[.int .i64 0, .int .i64 0, .int .i64 0, .int .i64 0, .int .i64 0] 70)
    simpa using this
  have hY : (((w.alloc (.cells #[.int .i64 0, .int .i64 0, .int .i64 0, .int .i64 0, .int .i64 0] 70)).alloc (.cells #[.int .i64 0, .int .i64 0, .int .i64 0, .int .i64 0, .int .i64 0] 70)).alloc (.cells #[.int .i64 0, .int .i64 0, .int .i64 0, .int .i64 0, .int .i64 0] 70)).heap[w.heap.size]? = some (.cells #[.int .i64 0, .int .i64 0, .int .i64 0, .int .i64 0, .int .i64 0] 70 (0, 0)) := by
    rw [show (((w.alloc (.cells #[.int .i64 0, .int .i64 0, .int .i64 0, .int .i64 0, .int .i64 0] 70)).alloc (.cells #[.int .i64 0, .int .i64 0, .int .i64 0, .int .i64 0, .int .i64 0] 70)).alloc (.cells #[.int .i64 0, .int .i64 0, .int .i64 0, .int .i64 0, .int .i64 0] 70)).heap[w.heap.size]? = ((w.alloc (.cells #[.int .i64 0, .int .i64 0, .int .i64 0, .int .i64 0, .int .i64 0] 70)).alloc (.cells #[.int .i64 0, .int .i64 0, .int .i64 0, .int .i64 0, .int .i64 0] 70)).heap[w.heap.size]? from push_old (by simp; omega)]
    exact heap_alloc2_old w _ _
  have g01 : w.grownBy w1 (some wb) := grown_tr (grown_bl b0 _) g1
  have hsz0 : (((w.alloc (.cells #[.int .i64 0, .int .i64 0, .int .i64 0, .int .i64 0, .int .i64 0] 70)).alloc (.cells #[.int .i64 0, .int .i64 0, .int .i64 0, .int .i64 0, .int .i64 0] 70)).alloc (.cells #[.int .i64 0, .int .i64 0, .int .i64 0, .int .i64 0, .int .i64 0] 70)).heap.size = w.heap.size + 3 := by simp
  have L0 : LTq w w1 wb m b nn t v F A D n x 0 (.slice none 0 0) [] := by
    refine ⟨⟨⟨k, D, q2, fun _ _ hh => Or.inl hh⟩, g01.size, g01.os, g01.tape, g01.output, fun j h1 h2 _ => g01.block j h1 (by simp; omega)⟩, (g1.block (w.heap.size + 1 + 1) (by omega) (by simp; omega)).trans hX, (g1.block w.heap.size (by omega) (by simp; omega)).trans hY, World.ownsRow_nil _ _ _ _, Spans.nil, by simp, hwl, hml, fun k hk => hw.ar.flt k hk⟩
  have HBIG : Hid (∀ i, i ≤ 4 → (accF A.ths n x i).length < 4611686018427387904) := fun i hi => by
    have := acc_mono A.ths n x (4 - i) i
    rw [show i + (4 - i) = 4 by omega, acc_four A.ths n x id hth] at this
    omega
  clear hlook hc' hX hY q0 q1 hk4 hw1 b1 b0 hsz0 q2 g1 g01
  go_loopg [10, 32] 4 (fun g s10 s32 wr => ∃ (i : Nat) (cs : List (Int × Int)), i + g = 4 ∧ s32 = .int .i64 (i : Int) ∧ LTq w wr wb m b nn t v F A D n x i s10 cs)
  case atStart => exact ⟨0, [], by omega, rfl, L0⟩
  case round =>
    obtain ⟨i, cs, hig, rfl, L⟩ := hrel
    have HI : Hid (i + gk = 4) := hig
    clear hig
    by_cases hi4 : i < 4
    · have hki := fun W => hkid i hi4 W
      have hco := fun W => hcor i hi4 W
      obtain ⟨kk, D1, hW, hK1⟩ := L.tg.wg
      have HKK : Hid (∀ j, Fits j → Kn D1 A.ths t n j → Kn D A.ths t n j) := fun j hj h => by
        rcases h with h | h
        · exact hK1 j hj h
        · exact Or.inr h
      clear hK1
      have hil : (i : Int) < 4 := by omega
      have hi0 : (0 : Int) ≤ i := by omega
      have HIH := ih i kk D1 wr hi4 hW
      have HL : Hid (LTq w wr wb m b nn t v F A D n x i u10 cs) := L
      clear L hW hkid hcor ih L0 hw hh
      go_wp2_with fail
      refine HIH.mono ?_
      rintro y w2 ⟨c, x0, y0, x1, y1, rfl, hT, T2⟩
      have L2 := HL.out.called ⟨(by obtain ⟨k2, D2, h2, h3⟩ := T2.wg; exact ⟨k2, D2, h2, fun j hj hh => HKK.out j hj (h3 j hj hh)⟩), T2.size, T2.os, T2.tape, T2.output, T2.block⟩
      clear HIH HL T2
      have HT : Hid (Tal (cellsF A.ths n (quarterF x i)) c x0 y0 x1 y1) := hT
      have bP : Below w2.heap.size w2 (w2.alloc (.cells #[.int .i64 c, .int .i64 x0, .int .i64 y0, .int .i64 x1, .int .i64 y1] 70)) := (Below.refl _ _).alloc (Nat.le_refl _) _
      have L3 := L2.below bP
      have hcl : c = ((cellsF A.ths n (quarterF x i)).length : Int) := hT.1
      clear hT
      by_cases hc0 : c = 0
      · have hc1 : (c == 0) = true := by simpa using hc0
        have L4 := L3.skip (by rw [hc0] at hcl; exact List.length_eq_zero_iff.1 (by omega))
        clear hcl hc0
        go_wp2_with fail
        go_roundg (gk - 1)
        case measure => have := HI.out; omega
        case rel => exact ⟨i + 1, cs, by have := HI.out; omega, by go_num, L4⟩
      · have hc1 : (c == 0) = false := by simpa using hc0
        have hP3 : (w2.alloc (.cells #[.int .i64 c, .int .i64 x0, .int .i64 y0, .int .i64 x1, .int .i64 y1] 70)).heap[w2.heap.size]? = some (.cells #[.int .i64 c, .int .i64 x0, .int .i64 y0, .int .i64 x1, .int .i64 y1] 70 (0, 0)) := heap_alloc_new w2 _
        have hs0 := Lib.cell_of_heap L3.sum 0
        have hz0 := Lib.frozen_of_heap L3.sum 0
        have hlt2 : w.heap.size + 1 + 1 < w2.heap.size := (Array.getElem?_eq_some_iff.1 L2.sum).1
        have hacc : (accF A.ths n x (i + 1)).length = (accF A.ths n x i).length + (cellsF A.ths n (quarterF x i)).length := by simp [accF, shift_len]
        have hb4 := HBIG.out (i + 1) (by omega)
        obtain ⟨a, ha⟩ : ∃ a : Int, a = ((accF A.ths n x i).length : Int) := ⟨_, rfl⟩
        have hadd : ∀ W, Calls Tryz.prog 65 #[.int .i64 a, .int .i64 c] W fun y w' => y = .returned (.int .i64 (a + c)) ∧ w' = W := fun W => by
          have := add_any a c W (by omega) (by omega)
          rw [show addF a c = a + c by unfold addF; rw [if_neg (by omega)]] at this
          exact this
        have hs1 : (w2.alloc (.cells #[.int .i64 c, .int .i64 x0, .int .i64 y0, .int .i64 x1, .int .i64 y1] 70)).cell? ⟨w.heap.size + 1 + 1, 0, none⟩ = some (.int .i64 a) := by rw [ha]; exact hs0
        obtain ⟨dx, hdx⟩ : ∃ dx, dx = cornX ((2 ^ n : Nat) : Int) i := ⟨_, rfl⟩
        obtain ⟨dy, hdy⟩ : ∃ dy, dy = cornY ((2 ^ n : Nat) : Int) i := ⟨_, rfl⟩
        have hpw : ((2 ^ n : Nat) : Int) ≤ 8796093022208 := by
          have : (2 : Nat) ^ n ≤ 2 ^ 43 := Nat.pow_le_pow_right (by omega) (by omega)
          have e : (2 : Nat) ^ 43 = 8796093022208 := by decide
          omega
        have hpw0 : (0 : Int) ≤ ((2 ^ n : Nat) : Int) := Int.natCast_nonneg _
        have hdb : 0 ≤ dx ∧ dx ≤ 8796093022208 ∧ 0 ≤ dy ∧ dy ≤ 8796093022208 := by
          rw [hdx, hdy]; unfold cornX cornY
          generalize ((2 ^ n : Nat) : Int) = pw at *
          refine ⟨?_, ?_, ?_, ?_⟩ <;> split <;> omega
        have hxb : 0 ≤ x0 ∧ x0 ≤ 8796093022208 ∧ 0 ≤ y0 ∧ y0 ≤ 8796093022208 ∧ 0 ≤ x1 ∧ x1 ≤ 8796093022208 ∧ 0 ≤ y1 ∧ y1 ≤ 8796093022208 := by
          have hbx : IsBox (cellsF A.ths n (quarterF x i)) x0 y0 x1 y1 := by
            rcases HT.out.2 with ⟨h0, _⟩ | h0
            · exact absurd (by rw [hcl, h0]; rfl) hc0
            · exact h0
          have hq := HIN.out i hi4
          obtain ⟨p, hp, e0⟩ := hbx.a0
          obtain ⟨q, hqq, e1⟩ := hbx.b0
          obtain ⟨r, hr, e2⟩ := hbx.a1
          obtain ⟨s, hs, e3⟩ := hbx.b1
          have := hq p hp; have := hq q hqq; have := hq r hr; have := hq s hs
          omega
        have hab : 0 ≤ a ∧ a + c < 4611686018427387904 ∧ 0 ≤ c := by omega
        have hcomm : ((w2.alloc (.cells #[.int .i64 c, .int .i64 x0, .int .i64 y0, .int .i64 x1, .int .i64 y1] 70)).setCell ⟨w.heap.size + 1 + 1, 0, none⟩ (.int .i64 (a + c))) = ((w2.setCell ⟨w.heap.size + 1 + 1, 0, none⟩ (.int .i64 (a + c))).alloc (.cells #[.int .i64 c, .int .i64 x0, .int .i64 y0, .int .i64 x1, .int .i64 y1] 70)) := World.setCell_alloc_past _ _ _ _ hlt2
        have HMORE : Hid (∀ (o : Obj) (w5 : World) (g5 cap5 : Nat), w5.ownsRow (w.heap.size + 3) 52 2 (.slice (some ⟨g5, 0, none⟩) (cs.length + 2) cap5) (cs.length + 2) (cL cs ++ [.int .i64 (dx + x0), .int .i64 (dy + y0), .int .i64 (dx + x1), .int .i64 (dy + y1)]) → (((w2.setCell ⟨w.heap.size + 1 + 1, 0, none⟩ (.int .i64 (a + c))).alloc (.cells #[.int .i64 c, .int .i64 x0, .int .i64 y0, .int .i64 x1, .int .i64 y1] 70)).alloc o).grownBy w5 u10.ownBlock →
            LTq w w5 wb m b nn t v F A D n x (i + 1) (.slice (some ⟨g5, 0, none⟩) (cs.length + 2) cap5) (cs ++ [(dx + x0, dy + y0), (dx + x1, dy + y1)])) := fun o w5 g5 cap5 h1 h2 => by
          rw [← hcomm, ha] at h2
          rw [hdx, hdy] at h1 ⊢
          exact L3.more HT.out hc0 h1 h2
        rw [← hdx, ← hdy] at hco
        have hq4 : ∀ k, k ≠ w.heap.size + 1 + 1 → ((w2.setCell ⟨w.heap.size + 1 + 1, 0, none⟩ (.int .i64 (a + c))).alloc (.cells #[.int .i64 c, .int .i64 x0, .int .i64 y0, .int .i64 x1, .int .i64 y1] 70)).heap[k]? = (w2.alloc (.cells #[.int .i64 c, .int .i64 x0, .int .i64 y0, .int .i64 x1, .int .i64 y1] 70)).heap[k]? := fun k hk => by rw [← hcomm]; exact heap_set hk
        have hP4 := (hq4 w2.heap.size (by omega)).trans hP3
        have p0 := Lib.cell_of_heap hP4 0
        have p1 : ((w2.setCell ⟨w.heap.size + 1 + 1, 0, none⟩ (.int .i64 (a + c))).alloc (.cells #[.int .i64 c, .int .i64 x0, .int .i64 y0, .int .i64 x1, .int .i64 y1] 70)).cell? ⟨w2.heap.size, 1, none⟩ = some (.int .i64 x0) := Lib.cell_of_heap hP4 1
        have p2 : ((w2.setCell ⟨w.heap.size + 1 + 1, 0, none⟩ (.int .i64 (a + c))).alloc (.cells #[.int .i64 c, .int .i64 x0, .int .i64 y0, .int .i64 x1, .int .i64 y1] 70)).cell? ⟨w2.heap.size, 2, none⟩ = some (.int .i64 y0) := Lib.cell_of_heap hP4 2
        have p3 : ((w2.setCell ⟨w.heap.size + 1 + 1, 0, none⟩ (.int .i64 (a + c))).alloc (.cells #[.int .i64 c, .int .i64 x0, .int .i64 y0, .int .i64 x1, .int .i64 y1] 70)).cell? ⟨w2.heap.size, 3, none⟩ = some (.int .i64 x1) := Lib.cell_of_heap hP4 3
        have p4 : ((w2.setCell ⟨w.heap.size + 1 + 1, 0, none⟩ (.int .i64 (a + c))).alloc (.cells #[.int .i64 c, .int .i64 x0, .int .i64 y0, .int .i64 x1, .int .i64 y1] 70)).cell? ⟨w2.heap.size, 4, none⟩ = some (.int .i64 y1) := Lib.cell_of_heap hP4 4
        have OW : Hid (∀ o, (((w2.setCell ⟨w.heap.size + 1 + 1, 0, none⟩ (.int .i64 (a + c))).alloc (.cells #[.int .i64 c, .int .i64 x0, .int .i64 y0, .int .i64 x1, .int .i64 y1] 70)).alloc o).ownsRow (w.heap.size + 3) 52 2 u10 cs.length (cL cs)) := fun o => by
          refine World.ownsRow.alloc (row_other L3.row fun j hj => hq4 j ?_) o
          have := (World.ownsRow.lt L3.row j hj).1
          omega
        have hlen8 := L3.len
        obtain ⟨cl, hcl8⟩ : ∃ cl, cl = cs.length := ⟨_, rfl⟩
        have HCL : Hid (cl = cs.length) := hcl8
        have HDX : Hid (dx = cornX ((2 ^ n : Nat) : Int) i ∧ dy = cornY ((2 ^ n : Nat) : Int) i) := ⟨hdx, hdy⟩
        rw [← hcl8] at OW hlen8
        have hcl9 : cl ≤ 8 := by omega
        clear hcomm hs0 p0 hP4 hP3 hq4 hcl hacc hb4 ha hdx hdy hpw hpw0 hcl8 hlen8
        clear L2 L3 bP hc0
        go_wp2_with fail
        refine (hadd _).mono ?_
        rintro y w3 ⟨rfl, rfl⟩
        go_wp2_with fail
        refine (hco _).mono ?_
        rintro y w3 ⟨rfl, rfl⟩
        go_wp2_with (at_builtin; refine wpList_append_lies _ rfl _ _ 24 rfl (w.heap.size + 3) 52 i00 (.agg #[.int .i64 0, .int .i64 0]) 2 16 Tryz.underlying24 hi00 hz00 hz01 hz02 rfl (by decide) u10 cl (cL cs) rfl (by exact OW.out _) ⟨w2.heap.size + 1, 0, none⟩ 2 2 [.int .i64 (dx + x0), .int .i64 (dy + y0), .int .i64 (dx + x1), .int .i64 (dy + y1)] rfl rfl (four_new _ _ _ _ _ _ _ (by simp [World.setCell])) (by intro u hu; simp at hu; rcases hu with rfl | rfl | rfl | rfl <;> rfl) (by omega) (by unfold maxLen; omega) (by omega) (by simp [World.setCell]; omega) (w2.heap.size + 1 + 1) (by simp [World.setCell]) ?_; intro g5 cap5 w5 hown5 hgrow5 hat5 hlt5)
        go_roundg (gk - 1)
        case measure => have := HI.out; omega
        case rel => exact ⟨i + 1, _, by have := HI.out; omega, by go_num, by have := HMORE.out _ w5 g5 cap5 (by rw [← HCL.out]; exact hown5) hgrow5; rw [← HCL.out] at this; exact this⟩
    · have hi4' : i = 4 := by have := HI.out; omega
      subst hi4'
      have HL : Hid (LTq w wr wb m b nn t v F A D n x 4 u10 cs) := L
      obtain ⟨x0, y0, x1, y1, bl, hbox, hBd⟩ : ∃ x0 y0 x1 y1 bl, BoxOr cs x0 y0 x1 y1 ∧ Calls Tryz.prog 47 #[u10] wr fun e w' => e = .returned (.tuple #[.agg #[.int .i64 x0, .int .i64 y0, .int .i64 x1, .int .i64 y1], .bool bl]) ∧ Below wr.heap.size wr w' := by
        by_cases h0 : cs = []
        · have hr := own_isRow L.row
          subst h0
          exact ⟨0, 0, 0, 0, false, Or.inl ⟨rfl, rfl, rfl, rfl, rfl⟩, bounds_any u10 0 (fun j => (([] : List (Int × Int))[j]!).1) (fun j => (([] : List (Int × Int))[j]!).2) wr hr⟩
        · exact ⟨_, _, _, _, _, Or.inr (box_is h0), bounds_any u10 cs.length (fun j => (cs[j]!).1) (fun j => (cs[j]!).2) wr (own_isRow L.row)⟩
      have HTAL : Hid (Tal (cellsF A.ths (n + 1) id) ((accF A.ths n x 4).length : Int) x0 y0 x1 y1) := by
        show Tal _ _ _ _ _ _
        have := L.sp.boxOr hbox
        rw [acc_four A.ths n x id hth] at this ⊢
        exact ⟨rfl, this⟩
      clear L hbox L0 hkid hcor ih
      go_wp2_with fail
      refine hBd.mono ?_
      rintro y w6 ⟨rfl, d1⟩
      have L6 := HL.out.below d1
      obtain ⟨a, ha⟩ : ∃ a : Int, a = ((accF A.ths n x 4).length : Int) := ⟨_, rfl⟩
      have hX6 := L6.sum
      rw [← ha] at hX6 HTAL
      clear ha
      have hY6 := L6.res
      have s0 : w6.cell? ⟨w.heap.size + 1 + 1, 0, none⟩ = some (.int .i64 a) := Lib.cell_of_heap hX6 0
      have s1 : w6.cell? ⟨w.heap.size + 1 + 1, 1, none⟩ = some (.int .i64 0) := Lib.cell_of_heap hX6 1
      have s2 : w6.cell? ⟨w.heap.size + 1 + 1, 2, none⟩ = some (.int .i64 0) := Lib.cell_of_heap hX6 2
      have s3 : w6.cell? ⟨w.heap.size + 1 + 1, 3, none⟩ = some (.int .i64 0) := Lib.cell_of_heap hX6 3
      have s4 : w6.cell? ⟨w.heap.size + 1 + 1, 4, none⟩ = some (.int .i64 0) := Lib.cell_of_heap hX6 4
      have z1 := Lib.frozen_of_heap hX6 1
      have z2 := Lib.frozen_of_heap hX6 2
      have z3 := Lib.frozen_of_heap hX6 3
      have z4 := Lib.frozen_of_heap hX6 4
      have hXl : w.heap.size + 1 + 1 < w6.heap.size := (Array.getElem?_eq_some_iff.1 hX6).1
      have HL6 : Hid (LTq w w6 wb m b nn t v F A D n x 4 u10 cs) := L6
      clear L6 hBd HL d1
      go_wp2_with fail
      have hX7 : ((((w6.setCell ⟨w.heap.size + 1 + 1, 1, none⟩ (.int .i64 x0)).setCell ⟨w.heap.size + 1 + 1, 2, none⟩ (.int .i64 y0)).setCell ⟨w.heap.size + 1 + 1, 3, none⟩ (.int .i64 x1)).setCell ⟨w.heap.size + 1 + 1, 4, none⟩ (.int .i64 y1)).heap[w.heap.size + 1 + 1]? = some (.cells #[.int .i64 a, .int .i64 x0, .int .i64 y0, .int .i64 x1, .int .i64 y1] 70 (0, 0)) := Go.Joins.block_setCell (Go.Joins.block_setCell (Go.Joins.block_setCell (Go.Joins.block_setCell hX6 _) _) _) _
      have ho : ∀ k, k ≠ w.heap.size + 1 + 1 → ((((w6.setCell ⟨w.heap.size + 1 + 1, 1, none⟩ (.int .i64 x0)).setCell ⟨w.heap.size + 1 + 1, 2, none⟩ (.int .i64 y0)).setCell ⟨w.heap.size + 1 + 1, 3, none⟩ (.int .i64 x1)).setCell ⟨w.heap.size + 1 + 1, 4, none⟩ (.int .i64 y1)).heap[k]? = w6.heap[k]? := fun k hk => by
        rw [Below.heap_setCell _ _ _ _ hk, Below.heap_setCell _ _ _ _ hk, Below.heap_setCell _ _ _ _ hk, Below.heap_setCell _ _ _ _ hk]
      have hsz : ((((w6.setCell ⟨w.heap.size + 1 + 1, 1, none⟩ (.int .i64 x0)).setCell ⟨w.heap.size + 1 + 1, 2, none⟩ (.int .i64 y0)).setCell ⟨w.heap.size + 1 + 1, 3, none⟩ (.int .i64 x1)).setCell ⟨w.heap.size + 1 + 1, 4, none⟩ (.int .i64 y1)).heap.size = w6.heap.size := by simp [World.setCell]
      have hos : ((((w6.setCell ⟨w.heap.size + 1 + 1, 1, none⟩ (.int .i64 x0)).setCell ⟨w.heap.size + 1 + 1, 2, none⟩ (.int .i64 y0)).setCell ⟨w.heap.size + 1 + 1, 3, none⟩ (.int .i64 x1)).setCell ⟨w.heap.size + 1 + 1, 4, none⟩ (.int .i64 y1)).os = w6.os ∧ ((((w6.setCell ⟨w.heap.size + 1 + 1, 1, none⟩ (.int .i64 x0)).setCell ⟨w.heap.size + 1 + 1, 2, none⟩ (.int .i64 y0)).setCell ⟨w.heap.size + 1 + 1, 3, none⟩ (.int .i64 x1)).setCell ⟨w.heap.size + 1 + 1, 4, none⟩ (.int .i64 y1)).tape = w6.tape ∧ ((((w6.setCell ⟨w.heap.size + 1 + 1, 1, none⟩ (.int .i64 x0)).setCell ⟨w.heap.size + 1 + 1, 2, none⟩ (.int .i64 y0)).setCell ⟨w.heap.size + 1 + 1, 3, none⟩ (.int .i64 x1)).setCell ⟨w.heap.size + 1 + 1, 4, none⟩ (.int .i64 y1)).output = w6.output := ⟨rfl, rfl, rfl⟩
      clear s0 s1 s2 s3 s4 z1 z2 z3 z4
      generalize ((((w6.setCell ⟨w.heap.size + 1 + 1, 1, none⟩ (.int .i64 x0)).setCell ⟨w.heap.size + 1 + 1, 2, none⟩ (.int .i64 y0)).setCell ⟨w.heap.size + 1 + 1, 3, none⟩ (.int .i64 x1)).setCell ⟨w.heap.size + 1 + 1, 4, none⟩ (.int .i64 y1)) = w7 at *
      obtain ⟨k6, D6, q6, hK6⟩ := HL6.out.tg.wg
      have hfl := HL6.out.lF
      have q8 := q6.other (w' := w7) (by omega) (fun j hj => ho j (by rcases hj with h | h | h <;> first | omega | (have := hfl j h; omega)))
      have s0 : w7.cell? ⟨w.heap.size + 1 + 1, 0, none⟩ = some (.int .i64 a) := Lib.cell_of_heap hX7 0
      have s1 : w7.cell? ⟨w.heap.size + 1 + 1, 1, none⟩ = some (.int .i64 x0) := Lib.cell_of_heap hX7 1
      have s2 : w7.cell? ⟨w.heap.size + 1 + 1, 2, none⟩ = some (.int .i64 y0) := Lib.cell_of_heap hX7 2
      have s3 : w7.cell? ⟨w.heap.size + 1 + 1, 3, none⟩ = some (.int .i64 x1) := Lib.cell_of_heap hX7 3
      have s4 : w7.cell? ⟨w.heap.size + 1 + 1, 4, none⟩ = some (.int .i64 y1) := Lib.cell_of_heap hX7 4
      have c4 := q8.c4
      have hh6 : Maps.has D6 (.int .i64 id) = false := by
        cases e : Maps.has D6 (.int .i64 id) with
        | false => rfl
        | true =>
          rcases hK6 id hi e with h | ⟨q, hq, h⟩
          · rw [hh] at h; cases h
          · rw [hl] at h; have := Option.some.inj h; omega
      obtain ⟨w8, D8, run8, own8, kn8, cap8, tu8, hp8, hs8⟩ := tal_learnK (w := w7.drew) (talG_other q8.map rfl) q8.known hi hid2 hidl hl HTAL.out hh6 q8.cap
      have e8 : ∀ k, k ≠ m → w8.heap[k]? = w7.heap[k]? := fun k hk => turned_block (w := w7.drew) tu8 hk
      have gr8 := grown_of_turned tu8
      have hX8 := (e8 (w.heap.size + 1 + 1) (by omega)).trans hX7
      have hY8 := (e8 w.heap.size (by omega)).trans ((ho w.heap.size (by omega)).trans hY6)
      have t0 : w8.cell? ⟨w.heap.size + 1 + 1, 0, none⟩ = some (.int .i64 a) := Lib.cell_of_heap hX8 0
      have t1 : w8.cell? ⟨w.heap.size + 1 + 1, 1, none⟩ = some (.int .i64 x0) := Lib.cell_of_heap hX8 1
      have t2 : w8.cell? ⟨w.heap.size + 1 + 1, 2, none⟩ = some (.int .i64 y0) := Lib.cell_of_heap hX8 2
      have t3 : w8.cell? ⟨w.heap.size + 1 + 1, 3, none⟩ = some (.int .i64 x1) := Lib.cell_of_heap hX8 3
      have t4 : w8.cell? ⟨w.heap.size + 1 + 1, 4, none⟩ = some (.int .i64 y1) := Lib.cell_of_heap hX8 4
      have j0 : w8.cell? ⟨w.heap.size, 0, none⟩ = some (.int .i64 0) := Lib.cell_of_heap hY8 0
      have j1 : w8.cell? ⟨w.heap.size, 1, none⟩ = some (.int .i64 0) := Lib.cell_of_heap hY8 1
      have j2 : w8.cell? ⟨w.heap.size, 2, none⟩ = some (.int .i64 0) := Lib.cell_of_heap hY8 2
      have j3 : w8.cell? ⟨w.heap.size, 3, none⟩ = some (.int .i64 0) := Lib.cell_of_heap hY8 3
      have j4 : w8.cell? ⟨w.heap.size, 4, none⟩ = some (.int .i64 0) := Lib.cell_of_heap hY8 4
      have z0 := Lib.frozen_of_heap hY8 0
      have z1 := Lib.frozen_of_heap hY8 1
      have z2 := Lib.frozen_of_heap hY8 2
      have z3 := Lib.frozen_of_heap hY8 3
      have z4 := Lib.frozen_of_heap hY8 4
      have hR := set5 hY8 (.int .i64 a) (.int .i64 x0) (.int .i64 y0) (.int .i64 x1) (.int .i64 y1)
      have e9 : ∀ k, k ≠ w.heap.size → (((((w8.setCell ⟨w.heap.size, 0, none⟩ (.int .i64 a)).setCell ⟨w.heap.size, 1, none⟩ (.int .i64 x0)).setCell ⟨w.heap.size, 2, none⟩ (.int .i64 y0)).setCell ⟨w.heap.size, 3, none⟩ (.int .i64 x1)).setCell ⟨w.heap.size, 4, none⟩ (.int .i64 y1)).heap[k]? = w8.heap[k]? := fun k hk => by
        rw [Below.heap_setCell _ _ _ _ hk, Below.heap_setCell _ _ _ _ hk, Below.heap_setCell _ _ _ _ hk, Below.heap_setCell _ _ _ _ hk, Below.heap_setCell _ _ _ _ hk]
      have hs9 : (((((w8.setCell ⟨w.heap.size, 0, none⟩ (.int .i64 a)).setCell ⟨w.heap.size, 1, none⟩ (.int .i64 x0)).setCell ⟨w.heap.size, 2, none⟩ (.int .i64 y0)).setCell ⟨w.heap.size, 3, none⟩ (.int .i64 x1)).setCell ⟨w.heap.size, 4, none⟩ (.int .i64 y1)).heap.size = w8.heap.size := by simp [World.setCell]
      have HF : Hid (TG w wb m b nn t v F A (Kn D A.ths t (n + 1)) (((((w8.setCell ⟨w.heap.size, 0, none⟩ (.int .i64 a)).setCell ⟨w.heap.size, 1, none⟩ (.int .i64 x0)).setCell ⟨w.heap.size, 2, none⟩ (.int .i64 y0)).setCell ⟨w.heap.size, 3, none⟩ (.int .i64 x1)).setCell ⟨w.heap.size, 4, none⟩ (.int .i64 y1)) ∧ ∃ k2 D2, WG (((((w8.setCell ⟨w.heap.size, 0, none⟩ (.int .i64 a)).setCell ⟨w.heap.size, 1, none⟩ (.int .i64 x0)).setCell ⟨w.heap.size, 2, none⟩ (.int .i64 y0)).setCell ⟨w.heap.size, 3, none⟩ (.int .i64 x1)).setCell ⟨w.heap.size, 4, none⟩ (.int .i64 y1)) wb m b nn t k2 v F A D2 ∧ Maps.has D2 (.int .i64 id) = true) := by
        have W8 : WG w8 wb m b nn t (k6 + 1) v F A D8 := by
          refine ⟨q8.hand.go (e8 wb q8.ne), ?_, own8, kn8, cap8, (World.cell?_of_block (e8 wb q8.ne)).trans q8.c4, q8.ne, q8.nF, q8.nFw⟩
          exact q8.ar.other (Nat.le_trans (Nat.le_refl _) gr8.size) fun k hk => e8 k (fun e => q8.nF (by rw [← e]; exact hk))
        have hl6 := HL6.out.tg
        have a1 := gr8.size
        have a4 : w7.drew.heap.size = w7.heap.size := rfl
        have a5 := hl6.size
        have W9 := W8.other (w' := (((((w8.setCell ⟨w.heap.size, 0, none⟩ (.int .i64 a)).setCell ⟨w.heap.size, 1, none⟩ (.int .i64 x0)).setCell ⟨w.heap.size, 2, none⟩ (.int .i64 y0)).setCell ⟨w.heap.size, 3, none⟩ (.int .i64 x1)).setCell ⟨w.heap.size, 4, none⟩ (.int .i64 y1))) (by omega) (fun k hk => e9 k (by rcases hk with h | h | h <;> first | omega | (have := hfl k h; omega)))
        refine ⟨⟨⟨k6 + 1, D8, W9, fun j hj hjh => ?_⟩, by omega, ?_, ?_, ?_, fun k hk hk1 hk2 => ?_⟩, k6 + 1, D8, W9, hs8⟩
        · rcases hp8 j hjh with rfl | h
          · exact Or.inr ⟨n + 1, Nat.le_refl _, hl⟩
          · rcases hK6 j hj h with h | ⟨q, hq, h⟩
            · exact Or.inl h
            · exact Or.inr ⟨q, by omega, h⟩
        · exact gr8.os.trans (hos.1.trans hl6.os)
        · exact gr8.tape.trans (hos.2.1.trans hl6.tape)
        · exact gr8.output.trans (hos.2.2.trans hl6.output)
        · exact (e9 k (by omega)).trans ((e8 k hk2).trans ((ho k (by omega)).trans (hl6.block k hk hk1 hk2)))
      clear own8 kn8 cap8 tu8 gr8 q8 q6 hfl ho e8 e9 hs9 hK6 hp8 hs8 hh6
      go_region
      all_goals
        go_wp2_with fail
        refine bodyPost_ret (v := tv a x0 y0 x1 y1) ?_ rfl ⟨a, x0, y0, x1, y1, rfl, HTAL.out, HF.out⟩
        simp [results, Tryz.results36, go_sem, Lib.cell_of_heap hR]

/-- tally of a root that is not known yet: the walker knows it then -/
theorem tally_knows (wb m b nn t : Nat) (v : Value) (F : Nat → Prop) (A : Ar) (hI : Inv A) (ht : t < 64) (hm : ∀ x ∈ A.ths, x.mask < 18446744073709551616) (hf : A.ths.length < 1000000) (n : Nat) (id : Int) (hn : n + 1 ≤ 44) (hl : levelF A.ths t id = some ((n + 1 : Nat) : Int)) (hbig : (cellsF A.ths (n + 1) id).length < 4611686018427387904) (k : Nat) (D : DataW Unit) (w : World) (level : Int) (hlev : level = ((n + 1 : Nat) : Int)) (hh : Maps.has D (.int .i64 id) = false) (hw : WG w wb m b nn t k v F A D) :
    Calls Tryz.prog 36 #[.pointer (some ⟨wb, 0, none⟩), .int .i64 id, .int .i64 level] w fun y w' => ∃ c x0 y0 x1 y1, y = .returned (tv c x0 y0 x1 y1) ∧ Tal (cellsF A.ths (n + 1) id) c x0 y0 x1 y1 ∧ TG w wb m b nn t v F A (Kn D A.ths t (n + 1)) w' ∧ ∃ k2 D2, WG w' wb m b nn t k2 v F A D2 ∧ Maps.has D2 (.int .i64 id) = true := by
  obtain ⟨x, hx, hth, h2, hlt, hq⟩ := square_of hI hl
  refine tally_stepK wb m b nn t k n id level v F A x D w hw (fits_of hl hf) (by omega) hlev hl hh ht hm hx hth h2 hlt hbig (fun i hi p hp => cells_in hI.good n _ (glevel_of (hq i hi)) p hp) (fun i k D w hi hw => ?_)
  have hle := quarter_len A.ths n x i hi
  rw [acc_four A.ths n x id hth] at hle
  exact tally_any wb m b nn t v F A hI ht hm hf n (quarterF x i) (by omega) (hq i hi) (by omega) k D w (level - 1) (by omega) hw
/-- a walker that is new knows no square -/
theorem born_no {D : DataW Unit} (h : ∀ l u, KnownG D l u) {id : Int} (hi : Fits id) (h2 : 2 ≤ id) : Maps.has D (.int .i64 id) = false := by
  cases e : Maps.has D (.int .i64 id) with
  | false => rfl
  | true =>
    exfalso
    obtain ⟨n, _, _, _, _, _, hl, _⟩ := (h [] 0).tal id hi e
    unfold levelF at hl
    rw [if_neg (by omega)] at hl
    simp [ownF] at hl
end Go.Proofs.YtofbcngcblleaaaGreat.A

namespace Go.Proofs.YtofbcngcblleaaaGreat.A
open Go.RowKit Go.Maps Go.ChangeMaps Go.WideElems

section
variable {w w' : World} {wb m b t k : Nat} {e : Int} {v : Value} {l : List Th} {D : DataW Unit}
set_option maxRecDepth 20000 in
set_option maxHeartbeats 8000000 in
/-- walker.cells of a walker that has refused -/
theorem wcellsX (h : WX w wb m b t k e v l D) (he : e ≠ 0) (n : Nat) (hn : n < 44) (id level : Int) (hi : Fits id) (hl : levelF l t id = some ((n + 1 : Nat) : Int)) (hlev : level = ((n + 1 : Nat) : Int)) (hh : Maps.has D (.int .i64 id) = true) (hne : cellsF l (n + 1) id ≠ []) :
    Calls Tryz.prog 38 #[.pointer (some ⟨wb, 0, none⟩), .int .i64 id, .int .i64 level] w fun y w' => y = .returned (.slice none 0 0) ∧ Below w.heap.size w w' := by
  have hf : ∀ W, Calls Tryz.prog 50 #[.int .i64 level] W fun x w' => x = .returned (.int .i64 (halfN (n + 1) : Int)) ∧ w' = W := fun W => by rw [hlev]; exact half_any (n + 1) W (by omega) (by omega)
  have hpb : (halfN (n + 1) : Int) ≤ 8796093022208 := by
    have : halfN (n + 1) ≤ halfN 44 := Nat.pow_le_pow_right (by omega) (by omega)
    have e : halfN 44 = 8796093022208 := by decide
    omega
  have hp0 : (0 : Int) ≤ (halfN (n + 1) : Int) := Int.natCast_nonneg _
  have hneg : IntKind.i64.wrap (-(halfN (n + 1) : Int)) = -(halfN (n + 1) : Int) := by rw [IntKind.wrap_i64]; omega
  have b3 : Below w.heap.size w (((w.alloc (.cells #[.pointer (some ⟨wb, 0, none⟩)] 108)).alloc (.cells #[.slice none 0 0] 24)).alloc (.cells #[cFn w.heap.size (w.heap.size + 1) (w.heap.size + 1 + 1)] 112)) := (((Below.refl _ _).alloc (Nat.le_refl _) _).alloc (by simp) _).alloc (by simp; omega) _
  have e0 : (((w.alloc (.cells #[.pointer (some ⟨wb, 0, none⟩)] 108)).alloc (.cells #[.slice none 0 0] 24)).alloc (.cells #[cFn w.heap.size (w.heap.size + 1) (w.heap.size + 1 + 1)] 112)).heap[w.heap.size]? = some (.cells #[.pointer (some ⟨wb, 0, none⟩)] 108 (0, 0)) := (push_old (by simp; omega)).trans (heap_alloc2_old w _ _)
  have e1 : (((w.alloc (.cells #[.pointer (some ⟨wb, 0, none⟩)] 108)).alloc (.cells #[.slice none 0 0] 24)).alloc (.cells #[cFn w.heap.size (w.heap.size + 1) (w.heap.size + 1 + 1)] 112)).heap[w.heap.size + 1]? = some (.cells #[.slice none 0 0] 24 (0, 0)) := (push_old (by simp)).trans (heap_alloc2_new w _ _)
  have e2 : (((w.alloc (.cells #[.pointer (some ⟨wb, 0, none⟩)] 108)).alloc (.cells #[.slice none 0 0] 24)).alloc (.cells #[cFn w.heap.size (w.heap.size + 1) (w.heap.size + 1 + 1)] 112)).heap[w.heap.size + 1 + 1]? = some (.cells #[cFn w.heap.size (w.heap.size + 1) (w.heap.size + 1 + 1)] 112 (0, 0)) := by
    have := heap_alloc_new ((w.alloc (.cells #[.pointer (some ⟨wb, 0, none⟩)] 108)).alloc (.cells #[.slice none 0 0] 24)) (.cells #[cFn w.heap.size (w.heap.size + 1) (w.heap.size + 1 + 1)] 112)
    simpa using this
  generalize hW : (((w.alloc (.cells #[.pointer (some ⟨wb, 0, none⟩)] 108)).alloc (.cells #[.slice none 0 0] 24)).alloc (.cells #[cFn w.heap.size (w.heap.size + 1) (w.heap.size + 1 + 1)] 112)) = W at *
  have C0 : CX W wb m b t k e v l D w.heap.size (w.heap.size + 1) (w.heap.size + 1 + 1) := ⟨h.below b3, e0, e2⟩
  have hdr : Below W.heap.size W W.drew := ⟨rfl, rfl, rfl, Nat.le_refl _, fun _ _ => rfl⟩
  have C1 := C0.below hdr
  have HC := walkX C1 he n hn id level (-(halfN (n + 1) : Int)) (-(halfN (n + 1) : Int)) hi hl hlev hh hne
  have hcf : W.cell? ⟨w.heap.size + 1 + 1, 0, none⟩ = some (cFn w.heap.size (w.heap.size + 1) (w.heap.size + 1 + 1)) := Lib.cell_of_heap e2 0
  have HF : Hid (∀ w', Below W.drew.heap.size W.drew w' → w'.cell? ⟨w.heap.size + 1 + 1, 0, none⟩ = some (cFn w.heap.size (w.heap.size + 1) (w.heap.size + 1 + 1)) ∧ w'.cell? ⟨w.heap.size + 1, 0, none⟩ = some (.slice none 0 0) ∧ Below w.heap.size w w') := fun w' hb => by
    have hb2 := hdr.trans hb
    exact ⟨Lib.cell_of_heap ((hb2.block _ (Array.getElem?_eq_some_iff.1 e2).1).trans e2) 0, Lib.cell_of_heap ((hb2.block _ (Array.getElem?_eq_some_iff.1 e1).1).trans e1) 0, b3.trans (hb2.mono b3.size)⟩
  have HW : Hid ((((w.alloc (.cells #[.pointer (some ⟨wb, 0, none⟩)] 108)).alloc (.cells #[.slice none 0 0] 24)).alloc (.cells #[cFn w.heap.size (w.heap.size + 1) (w.heap.size + 1 + 1)] 112)) = W) := hW
  generalize (halfN (n + 1) : Int) = hf' at *
  clear hlev C0 C1 e0 e1 e2 hl b3 hdr
  clear hW
  go_enter Tryz.func38, Tryz.ntmps38
  go_wp2_with fail
  rw [HW.out]
  go_region_held3 (fun w' => w'.cell? ⟨w.heap.size + 1 + 1, 0, none⟩ = some (cFn w.heap.size (w.heap.size + 1) (w.heap.size + 1 + 1))) (first | exact hcf | exact (HF.out _ hR).1) ((first | (go_at_call 50; refine (hf _).mono ?_; rintro e w5 ⟨rfl, rfl⟩) | (go_at_call 67; refine HC.mono ?_; rintro e w6 ⟨rfl, hR⟩)))
  all_goals
    obtain ⟨_, hu, hB⟩ := HF.out _ hR
    clear hR
    go_wp2_with fail
    go_ret
    exact ⟨rfl, hB⟩
/-- an error is kept where there was none -/
theorem keep_sets (err : Int) (h : HandAt w wb b t 0 v) :
    Calls Tryz.prog 37 #[.pointer (some ⟨wb, 0, none⟩), .int .i64 err] w fun x w' => x = .returned (.tuple #[]) ∧ w' = w.setCell ⟨wb, 2, none⟩ (.int .i64 err) := by
  have c2 := h.c2
  have z2 := h.z2
  go_enter Tryz.func37, Tryz.ntmps37
  go_wp2_with fail
  go_end0
  exact ⟨rfl, rfl⟩
end
set_option maxRecDepth 20000 in
set_option maxHeartbeats 4000000 in
/-- Cells of a root with too many cells -/
theorem Cells_full (b n t lv : Nat) (id : Int) (F : Nat → Prop) (A : Ar) (w : World) (hA : ArAt w b F n A) (hI : Inv A) (ht : t < 64) (hm : ∀ x ∈ A.ths, x.mask < 18446744073709551616) (hf : A.ths.length < 1000000) (hl : levelF A.ths t id = some ((lv + 1 : Nat) : Int)) (hlv : lv + 1 ≤ 44) (hbig : 4096 < (cellsF A.ths (lv + 1) id).length) (hlen : (cellsF A.ths (lv + 1) id).length < 4611686018427387904) :
    Calls Tryz.prog 14 #[.pointer (some ⟨b, 0, none⟩), .int .i64 t, .int .i64 id] w fun x w' => x = .returned (.tuple #[.slice none 0 0, .int .i64 5]) ∧ Below w.heap.size w w' := by
  have hr := fits_of hl hf
  have hflt := hA.flt
  have hid2 : 2 ≤ id := by
    obtain ⟨x, _, _, h2, _⟩ := square_of hI hl
    exact h2
  have hta := fun wb m v k D W hh => tally_knows wb m b n t v F A hI ht hm hf lv id hlv hl hlen k D W ((lv + 1 : Nat) : Int) rfl hh
  have HX : Hid (∀ (wb m k : Nat) (v : Value) (D : DataW Unit) (W : World), WX W wb m b t k 5 v A.ths D → Maps.has D (.int .i64 id) = true → Calls Tryz.prog 38 #[.pointer (some ⟨wb, 0, none⟩), .int .i64 id, .int .i64 ((lv + 1 : Nat) : Int)] W fun y w' => y = .returned (.slice none 0 0) ∧ Below W.heap.size W w') := fun wb m k v D W h hh => wcellsX h (by decide) lv (by omega) id _ hr hl rfl hh (by intro e; rw [e] at hbig; simp at hbig)
  obtain ⟨N, hN⟩ : ∃ N, N = lv + 1 := ⟨_, rfl⟩
  have hN1 : 1 ≤ N := by omega
  rw [← hN] at hl hbig hlen hlv hta HX
  clear hN
  have hlev := fun W hb v (hh : HandAt W hb b t 0 v) (hW : ArAt W b F n A) (hn : ¬ F hb) => handLevel_ok hb b n t id 1 44 N v F A W hh hW hn ht hm hr hl (by omega) (by omega)
  clear hl
  go_enter Tryz.func14, Tryz.ntmps14
  go_wp2_with fail
  refine (newWalker_G b t _).mono ?_
  rintro x w1 ⟨g, m, D, rfl, hb1, hown, hkn, hmg, _, _, _⟩
  obtain ⟨Q0, b2⟩ := WG.born (g := g) (t := t) hA hf hb1 hown hkn hmg
  have hno := born_no hkn hr hid2
  have hh := Q0.hand
  have hs1 := hb1.size
  clear hkn hown
  go_wp2_with fail
  refine (hlev _ _ _ hh (hA.below b2) Q0.nFw).mono ?_
  rintro x w3 ⟨rfl, h3, g3, h34⟩
  have c2 := h3.c2
  have Q3 := Q0.kids h3 g3 (h34.trans Q0.c4)
  have b3 : Below w.heap.size w w3 := b2.trans ⟨g3.os, g3.tape, g3.output, g3.size, fun k hk => g3.block k (by have := b2.size; omega) (by simp; omega)⟩
  clear hlev
  go_wp2_with fail
  refine (hta _ _ _ 2 D _ hno Q3).mono ?_
  rintro x w4 ⟨c, x0, y0, x1, y1, rfl, hT, T4, k4, D4, Q4, hD4⟩
  have hlt3 := Q3.hand.lt
  have hfz := field_tv c x0 y0 x1 y1 w4
  have hcl : c = ((cellsF A.ths N id).length : Int) := hT.1
  have hcb : (4096 : Int) < c := by omega
  have b4 : Below w.heap.size w w4 := ⟨T4.os.trans b3.os, T4.tape.trans b3.tape, T4.output.trans b3.output, Nat.le_trans b3.size T4.size, fun k hk => (T4.block k (by have := b3.size; omega) (by omega) (by omega)).trans (b3.block k hk)⟩
  have hks := keep_sets 5 Q4.hand
  have X5 : WX (w4.setCell ⟨w1.heap.size, 2, none⟩ (.int .i64 5)) w1.heap.size m b t k4 5 (.slice (some ⟨g, 0, none⟩) 1 1) A.ths D4 := by
    have hm5 := Q4.ne
    refine ⟨Q4.hand.setE 5, talG_other Q4.map (heap_set fun e => hm5 e.symm), Q4.known, (cell_set_other (by omega)).trans Q4.c4⟩
  have b5 : Below w.heap.size w (w4.setCell ⟨w1.heap.size, 2, none⟩ (.int .i64 5)) := b4.setCell (p := ⟨w1.heap.size, 2, none⟩) (by show w.heap.size ≤ w1.heap.size; omega) _
  have hce := HX.out _ _ _ _ _ _ X5 hD4
  have d2 := fun W (hW : Below (w4.setCell ⟨w1.heap.size, 2, none⟩ (.int .i64 5)).heap.size (w4.setCell ⟨w1.heap.size, 2, none⟩ (.int .i64 5)) W) => (X5.below hW).hand.c2
  have HB5 : Hid (Below w.heap.size w (w4.setCell ⟨w1.heap.size, 2, none⟩ (.int .i64 5))) := b5
  clear hcl hT hta T4 Q4 X5 b5 b4 Q3 Q0 HX hno hD4
  go_wp2_with fail
  refine hks.mono ?_
  rintro x w5 ⟨rfl, rfl⟩
  go_wp2_with fail
  refine hce.mono ?_
  rintro x w6 ⟨rfl, hb6⟩
  have d6 := d2 _ hb6
  have b6 := HB5.out.trans (hb6.mono HB5.out.size)
  clear hce hb6 d2 hks
  go_wp2_with fail
  go_quiet (fail)
  go_wp2_with fail
  go_ret2
  exact ⟨rfl, ⟨b6.os, b6.tape, b6.output, b6.size, b6.block⟩⟩
end Go.Proofs.YtofbcngcblleaaaGreat.A

namespace Go.Proofs.YtofbcngcblleaaaGreat.A
open Go.RowKit Go.Maps Go.Proofs.YtofbcngcblleaaaGreat.L

variable {w : World} {o : Nat → Nat} {b t : Nat} {A : Ar} {PR : (Bool → Nat → Bool) → Int → Prop} {q : Nat → Int} {g : Gr} {id : Int}
/-- what Cells answers -/
def CellsR (g : Gr) (w : World) (x : Ending) (w' : World) : Prop :=
  ∃ zs : List (Int × Int), (∀ p : Int × Int, p ∈ zs ↔ g p.1 p.2 = true) ∧ zs.Nodup ∧ ((4096 < zs.length ∧ x = .returned (.tuple #[.slice none 0 0, .int .i64 5]) ∧ Below w.heap.size w w') ∨ (zs.length ≤ 4096 ∧ ∃ u ys, x = .returned (.tuple #[u, .int .i64 (tcode zs)]) ∧ Tidied zs ys ∧ ORow w' w.heap.size u ys ∧ Below w.heap.size w w'))
theorem shift_nodup {dx dy : Int} {zs : List (Int × Int)} (h : zs.Nodup) : (shiftL dx dy zs).Nodup := by
  unfold shiftL
  refine List.Pairwise.map _ (fun a b hab e => hab ?_) h
  have h1 := congrArg Prod.fst e
  have h2 := congrArg Prod.snd e
  simp only at h1 h2
  exact Prod.ext (by omega) (by omega)
theorem cells_rel {n : Nat} (hA : ArL w o b A) (hst : NxSt PR t q A) (ht : t < 64) (hrt : Rt A t n id g) (hn : n + 1 ≤ 44) (hlen : (cellsF A.ths (n + 1) id).length < 4611686018427387904) :
    Calls Tryz.prog 14 #[.pointer (some ⟨b, 0, none⟩), .int .i64 t, .int .i64 id] w (CellsR g w) := by
  obtain ⟨F, hFA, hF1⟩ := hA
  obtain ⟨L, hat⟩ := hFA.ar
  have hI := inv_of hst.s hst.g L
  have hl : levelF A.ths t id = some ((n + 1 : Nat) : Int) := by rw [levelF_V]; exact hrt.lev
  have hf : A.ths.length < 1000000 := by have := hst.s.len; have := hst.s.room1; omega
  have hG : Good A.ths := good_of hst.s hst.g
  have hmem := hrt.cells hst ht
  have hnd : (absC A.ths (n + 1) id).Nodup := shift_nodup (cells_nodup hG (n + 1) id (glevel_of hl))
  have hsl : (absC A.ths (n + 1) id).length = (cellsF A.ths (n + 1) id).length := shift_len _ _ _
  by_cases hbig : (cellsF A.ths (n + 1) id).length ≤ 4096
  · refine (Cells_root b _ t (n + 1) id F _ w hat hI ht hst.s.mask hf hl (by omega) hn hbig).mono ?_
    rintro x w' ⟨u, ys, rfl, h1, h2, h3⟩
    exact ⟨_, hmem, hnd, Or.inr ⟨by rw [hsl]; exact hbig, u, ys, rfl, h1, h2, h3⟩⟩
  · refine (Cells_full b _ t n id F _ w hat hI ht hst.s.mask hf hl hn (Nat.lt_of_not_le hbig) hlen).mono ?_
    rintro x w' ⟨rfl, h3⟩
    exact ⟨_, hmem, hnd, Or.inl ⟨by rw [hsl]; omega, rfl, h3⟩⟩
end Go.Proofs.YtofbcngcblleaaaGreat.A
