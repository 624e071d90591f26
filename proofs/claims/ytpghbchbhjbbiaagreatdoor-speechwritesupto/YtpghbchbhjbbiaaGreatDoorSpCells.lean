/- cells: a reader takes all words that are left. -/
import Derived.Test.YtpghbchbhjbbiaaGreatDoorSpCell
import Derived.Laws.AppendOwn
namespace Go.Proofs.YtpghbchbhjbbiaaGreatDoor
open Go.RowKit

/-- cells as they lie in a row -/
def cellsL (cs : List (Int × Int)) : List Value := cs.flatMap fun c => [.int .i64 c.1, .int .i64 c.2]
theorem cellsL_append (a b : List (Int × Int)) : cellsL (a ++ b) = cellsL a ++ cellsL b := by unfold cellsL; rw [List.flatMap_append]
theorem cellsL_length (cs : List (Int × Int)) : (cellsL cs).length = cs.length * 2 := by
  induction cs with
  | nil => rfl
  | cons c r ih => rw [show c :: r = [c] ++ r from rfl, cellsL_append, List.length_append, ih, List.length_append]; simp [cellsL]; omega
/-- cells in a row of the call's own -/
def CRow (w : World) (B : Nat) (v : Value) (cs : List (Int × Int)) : Prop := w.ownsRow B 51 2 v cs.length (cellsL cs)
theorem CRow.below {w w' : World} {B : Nat} {v : Value} {cs : List (Int × Int)} (h : CRow w B v cs) (hb : Below w.heap.size w w') : CRow w' B v cs :=
  World.ownsRow.kept (row := none) h ⟨hb.os, hb.tape, hb.output, hb.size, fun k hk _ => hb.block k hk⟩ (Classical.em _)
theorem crow_nil (w : World) (B : Nat) : CRow w B (.slice none 0 0) [] := World.ownsRow_nil _ _ _ _
theorem CRow.only {w w' : World} {B b : Nat} {v : Value} {cs : List (Int × Int)} (h : CRow w B v cs) (ho : Only b w w') (hb : b < B) : CRow w' B v cs := by
  have hne : v.ownBlock = none ∨ v.ownBlock ≠ some b := by
    rcases h.2 with ⟨rfl, _⟩ | ⟨g, cap, cur, rfl, hg, _⟩
    · exact Or.inl rfl
    · right
      intro e
      simp only [Value.ownBlock, Option.some.injEq] at e
      omega
  exact World.ownsRow.kept (row := some b) h ⟨ho.os, ho.tape, ho.output, ho.size, fun k hk hn => ho.block k hk (fun e => hn (by rw [e]))⟩ hne
theorem Tryz.infoCell : (Tryz.prog.info? 51).map (fun i => (i.zero, i.size, i.bytes)) = some (some (.agg #[.int .i64 0, .int .i64 0]), 2, 16) := by kernel_rfl
theorem grown_below {w w' : World} {B : Nat} {v : Value} {n : Nat} {e : TypeId} {z : Nat} {xs : List Value} (h : w.grownBy w' v.ownBlock) (hown : w.ownsRow B e z v n xs) (hB : B ≤ w.heap.size) : Below B w w' := by
  refine ⟨h.os, h.tape, h.output, h.size, fun k hk => ?_⟩
  refine h.block k (by omega) ?_
  intro e
  rcases hown.2 with ⟨rfl, _⟩ | ⟨g, cap, cur, rfl, hg, _⟩
  · cases e
  · simp only [Value.ownBlock, Option.some.injEq] at e
    omega
theorem RS.base {w w' : World} {b B : Nat} {r : Rd} (h : RS w b r) (hb : Below B w w') (hB : b < B) : RS w' b r :=
  ⟨h.at_.keep fun k hk => hb.block k (by omega), h.vars.go hb (by have := h.room; omega), h.room, h.small⟩
theorem Only.base {w w1 w2 : World} {b : Nat} (h : Only b w w1) (hb : Below w.heap.size w1 w2) : Only b w w2 :=
  ⟨hb.os.trans h.os, hb.tape.trans h.tape, hb.output.trans h.output, Nat.le_trans h.size hb.size, fun k hk hne => (hb.block k hk).trans (h.block k hk hne)⟩

def Rd.cellsN : Nat → Rd → List (Int × Int) × Rd
  | 0, r => ([], r)
  | k + 1, r => if r.e = 0 then (r.cell.1 :: (Rd.cellsN k r.cell.2).1, (Rd.cellsN k r.cell.2).2) else ([], r)
def Rd.cells (r : Rd) : List (Int × Int) × Rd := Rd.cellsN r.ws.length r
theorem cell_ws {y : ByteArray} {t : List ByteArray} : (Rd.cell ⟨y :: t, 0⟩).2.ws = t := by
  unfold Rd.cell
  simp only [need_ws]
  rfl
theorem cells_err {r : Rd} (h : r.e ≠ 0) : r.cells = ([], r) := by
  unfold Rd.cells
  cases h2 : r.ws.length with
  | zero => rfl
  | succ n => rw [Rd.cellsN, if_neg h]
theorem cells_nil {r : Rd} (h : r.ws = []) : r.cells = ([], r) := by
  unfold Rd.cells
  rw [h]
  rfl
theorem cells_cons {y : ByteArray} {t : List ByteArray} : (Rd.cells ⟨y :: t, 0⟩) = ((Rd.cell ⟨y :: t, 0⟩).1 :: (Rd.cells (Rd.cell ⟨y :: t, 0⟩).2).1, (Rd.cells (Rd.cell ⟨y :: t, 0⟩).2).2) := by
  conv => lhs; unfold Rd.cells
  rw [show (Rd.mk (y :: t) 0).ws.length = t.length + 1 from rfl, Rd.cellsN, if_pos rfl]
  unfold Rd.cells
  rw [cell_ws]

set_option maxRecDepth 20000 in
set_option maxHeartbeats 2000000 in
theorem cells_any (b : Nat) (r : Rd) (w : World) (h : RS w b r) (hn : r.ws.length ≤ 7000) :
    Calls Tryz.prog 37 #[.pointer (some ⟨b, 0, none⟩)] w fun e w' => (∃ v, e = .returned v ∧ CRow w' w.heap.size v r.cells.1) ∧ RS w' b r.cells.2 ∧ Only b w w' := by
  have hlt := h.at_.lt
  have HLT : Hid (b < w.heap.size) := hlt
  obtain ⟨i0, hi, hz0, hz1, hz2⟩ := info_parts Tryz.infoCell
  have hcell := fun r' W hW => cell_any b r' W hW
  go_enter Tryz.func37, Tryz.ntmps37
  go_wp2_with fail
  go_loopg [3] r.ws.length (fun g s3 wr => ∃ (r' : Rd) (acc : List (Int × Int)), r'.ws.length ≤ g ∧ acc.length + r'.ws.length ≤ 7000 ∧ r.cells = (acc ++ r'.cells.1, r'.cells.2) ∧ CRow wr w.heap.size s3 acc ∧ RS wr b r' ∧ Only b w wr)
  case atStart => exact ⟨r, [], Nat.le_refl _, by simpa using hn, rfl, crow_nil _ _, h, Only.refl _ _⟩
  case round =>
    obtain ⟨r', acc, hg, hal, hrc, hrow, hrs, ho⟩ := hrel
    have H : Hid (r'.ws.length ≤ gk ∧ acc.length + r'.ws.length ≤ 7000 ∧ r.cells = (acc ++ r'.cells.1, r'.cells.2)) := ⟨hg, hal, hrc⟩
    clear hg hal hrc h hn
    obtain ⟨v, hb, a, c, rfl, hlc, hc4, hws⟩ := id hrs.at_
    have c0 : wr.cell? ⟨b, 0, none⟩ = some (.slice a r'.ws.length c) := by rw [Lib.cell_of_heap hb]; rfl
    have c1 : wr.cell? ⟨b, 1, none⟩ = some (.int .i64 r'.e) := by rw [Lib.cell_of_heap hb]; rfl
    clear hb hws hlc hc4
    obtain ⟨ws, x⟩ := r'
    simp only at c0 c1
    by_cases hx : x = 0
    · subst hx
      cases ws with
      | nil =>
        have HE : Hid (r.cells = (acc, ⟨[], 0⟩)) := by show _ = _; have := H.out.2.2; rw [cells_nil (r := ⟨[], 0⟩) rfl] at this; simpa using this
        simp only [List.length_nil] at c0
        clear hcell
        go_wp2_with fail
        go_ret
        rw [HE.out]
        exact ⟨⟨_, rfl, hrow⟩, hrs, ho⟩
      | cons y t =>
        have hp : (0 : Int) < ((t.length : Int) + 1) := by omega
        simp only [List.length_cons] at c0
        have cc := hcell _ _ hrs
        have HC : Hid (r.cells = (acc ++ [(Rd.cell ⟨y :: t, 0⟩).1] ++ (Rd.cells (Rd.cell ⟨y :: t, 0⟩).2).1, (Rd.cells (Rd.cell ⟨y :: t, 0⟩).2).2)) := by
          show _ = _
          have := H.out.2.2
          rw [cells_cons] at this
          simpa using this
        have HW : Hid ((Rd.cell ⟨y :: t, 0⟩).2.ws = t) := cell_ws
        have hrow0 := hrow
        have hoo : Hid (Only b w wr) := ho
        generalize Rd.cell ⟨y :: t, 0⟩ = q at *
        obtain ⟨⟨qx, qy⟩, r2⟩ := q
        simp only at cc
        clear hcell hrow ho hrs
        have HL : Hid (acc.length + (t.length + 1) ≤ 7000) := H.out.2.1
        go_wp2_with (first | (go_at_call 59; refine cc.mono ?_; rintro e w1 ⟨rfl, hr1, ho1⟩; have hrow1 := hrow0.only ho1 HLT.out; have hoo1 := hoo.out.trans ho1) | (at_builtin; refine wpList_append_own _ rfl _ _ 24 rfl w.heap.size 51 i0 (.agg #[.int .i64 0, .int .i64 0]) 2 16 Tryz.underlying24 hi hz0 hz1 hz2 rfl (by decide) _ _ _ rfl (World.ownsRow.alloc hrow1 _) ⟨w1.heap.size, 0, none⟩ 1 1 [.int .i64 qx, .int .i64 qy] rfl rfl ?c1 ?c2 ?c3 ?c4 ?c5 ?_))
        case c1 =>
          intro j u hj
          match j, hj with
          | 0, hj => simp at hj; subst hj; simp [Addr.add]
          | 1, hj => simp at hj; subst hj; simp [Addr.add]
        case c2 => intro u hu; simp at hu; rcases hu with rfl | rfl <;> rfl
        case c3 => unfold maxLen; have := HL.out; omega
        case c4 => have := HL.out; omega
        case c5 => have := hoo1.size; simp; omega
        intro v' w4 hown' hgrow _
        go_wp2_with fail
        go_roundg (gk - 1)
        case measure => have := H.out.1; simp only [List.length_cons] at this; omega
        case rel =>
          have h1 := H.out.1
          have h2 := HL.out
          simp only [List.length_cons] at h1
          have hba : Below w1.heap.size w1 (w1.alloc (.cells #[.int .i64 qx, .int .i64 qy] 51)) := (Below.refl _ _).alloc (Nat.le_refl _) _
          have hbb : Below w.heap.size w1 w4 := (hba.mono hoo1.size).trans (grown_below hgrow (World.ownsRow.alloc hrow1 _) (by have := hoo1.size; simp; omega))
          refine ⟨r2, acc ++ [(qx, qy)], by rw [HW.out]; omega, by rw [HW.out, List.length_append]; simp only [List.length_cons, List.length_nil]; omega, HC.out, ?_, hr1.base hbb HLT.out, hoo1.base hbb⟩
          rw [CRow, List.length_append, cellsL_append]
          exact hown'
    · have hx2 : (x == 0) = false := by simpa using hx
      have HE : Hid (r.cells = (acc, ⟨ws, x⟩)) := by show _ = _; have := H.out.2.2; rw [cells_err (r := ⟨ws, x⟩) hx] at this; simpa using this
      clear hcell
      go_wp2_with fail
      go_ret
      rw [HE.out]
      exact ⟨⟨_, rfl, hrow⟩, hrs, ho⟩
end Go.Proofs.YtpghbchbhjbbiaaGreatDoor
