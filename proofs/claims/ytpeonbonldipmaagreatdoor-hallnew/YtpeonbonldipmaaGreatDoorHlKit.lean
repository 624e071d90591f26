/- Requests as a hall's laws take them: their cells, kept apart. -/
import Derived.Test.YtpeonbonldipmaaGreatDoorSpKit
import Derived.Laws.AppendOwn
namespace Go.Proofs.YtpeonbonldipmaaGreatDoor
open Go.RowKit

/-- cells as they lie in a row -/
def cellsL (cs : List (Int × Int)) : List Value := cs.flatMap fun c => [.int .i64 c.1, .int .i64 c.2]
theorem cellsL_append (a b : List (Int × Int)) : cellsL (a ++ b) = cellsL a ++ cellsL b := by unfold cellsL; rw [List.flatMap_append]
theorem cellsL_length (cs : List (Int × Int)) : (cellsL cs).length = cs.length * 2 := by
  induction cs with
  | nil => rfl
  | cons c r ih => rw [show c :: r = [c] ++ r from rfl, cellsL_append, List.length_append, ih, List.length_append]; simp [cellsL]; omega
theorem cellsL_at (cs : List (Int × Int)) (k : Nat) (x y : Int) (h : cs[k]? = some (x, y)) : (cellsL cs)[k * 2]? = some (.int .i64 x) ∧ (cellsL cs)[k * 2 + 1]? = some (.int .i64 y) := by
  induction cs generalizing k with
  | nil => simp at h
  | cons c r ih =>
    cases k with
    | zero => simp at h; subst h; exact ⟨rfl, rfl⟩
    | succ k =>
      have := ih k (by simpa using h)
      rw [show c :: r = [c] ++ r from rfl, cellsL_append, show (k + 1) * 2 = k * 2 + 2 by omega, show k * 2 + 2 + 1 = k * 2 + 1 + 2 by omega]
      have e : ∀ j, (cellsL [c] ++ cellsL r)[j + 2]? = (cellsL r)[j]? := fun j => by
        rw [List.getElem?_append_right (by simp [cellsL])]
        simp [cellsL]
      rw [e, e]
      exact this
theorem cellsL_one (cs : List (Int × Int)) : ∀ u ∈ cellsL cs, u.oneCell' = true := by
  intro u hu
  unfold cellsL at hu
  rw [List.mem_flatMap] at hu
  obtain ⟨c, _, hu⟩ := hu
  simp at hu
  rcases hu with rfl | rfl <;> rfl
theorem addr_add (g o j : Nat) : (⟨g, o, none⟩ : Addr).add j = ⟨g, o + j, none⟩ := by
  unfold Addr.add
  split
  · rename_i h; rw [h, Nat.add_zero]
  · rfl
/-- cells in a row of the call's own -/
def CRow (w : World) (B : Nat) (v : Value) (cs : List (Int × Int)) : Prop := w.ownsRow B 152 2 v cs.length (cellsL cs)
theorem crow_nil (w : World) (B : Nat) : CRow w B (.slice none 0 0) [] := World.ownsRow_nil _ _ _ _
theorem crow_slice {w : World} {B : Nat} {v : Value} {cs : List (Int × Int)} (h : CRow w B v cs) : ∃ a n c, v = .slice a n c := by
  rcases h.2 with ⟨rfl, _⟩ | ⟨g, cap, cur, rfl, _⟩
  · exact ⟨_, _, _, rfl⟩
  · exact ⟨_, _, _, rfl⟩
theorem Tryz.infoCell : (Tryz.prog.info? 152).map (fun i => (i.zero, i.size, i.bytes)) = some (some (.agg #[.int .i64 0, .int .i64 0]), 2, 16) := by kernel_rfl
/-- cells that can be read -/
def HR (w : World) (v : Value) (cs : List (Int × Int)) : Prop :=
  ∃ a c, v = .slice a cs.length c ∧ cs.length ≤ 9223372036854775807 ∧ (cs = [] ∨ ∃ g o, a = some ⟨g, o, none⟩ ∧ g < w.heap.size ∧ ∀ (k : Nat) x y, cs[k]? = some (x, y) → w.cell? ⟨g, o + k * 2, none⟩ = some (.int .i64 x) ∧ w.cell? ⟨g, o + k * 2 + 1, none⟩ = some (.int .i64 y))
theorem HR.below {w w' : World} {v : Value} {cs : List (Int × Int)} (h : HR w v cs) (hb : Below w.heap.size w w') : HR w' v cs := by
  obtain ⟨a, c, h1, h2, h3⟩ := h
  refine ⟨a, c, h1, h2, ?_⟩
  rcases h3 with h3 | ⟨g, o, h4, h5, h6⟩
  · exact Or.inl h3
  · exact Or.inr ⟨g, o, h4, Nat.lt_of_lt_of_le h5 hb.size, fun k x y hk => ⟨(hb.cell (p := ⟨g, o + k * 2, none⟩) h5).trans (h6 k x y hk).1, (hb.cell (p := ⟨g, o + k * 2 + 1, none⟩) h5).trans (h6 k x y hk).2⟩⟩
/-- a request -/
structure Rq where
  verb : Int
  name : ByteArray
  other : ByteArray
  born : Int
  live : Int
  n : Int
  cells : List (Int × Int)
def Rq.val (q : Rq) (v : Value) : Value := .agg #[.int .i64 q.verb, .string q.name, .string q.other, .int .i64 q.born, .int .i64 q.live, .int .i64 q.n, v]
/-- seven cells in a block, free to be written -/
def SevIn (Q : Nat) (a b c d e f g : Value) (w : World) : Prop := w.heap[Q]? = some (.cells #[a, b, c, d, e, f, g] 26 (0, 0))
theorem SevIn.lt {Q : Nat} {a b c d e f g : Value} {w : World} (h : SevIn Q a b c d e f g w) : Q < w.heap.size := (Array.getElem?_eq_some_iff.1 h).1
theorem SevIn.go {Q : Nat} {a b c d e f g : Value} {w w' : World} (h : SevIn Q a b c d e f g w) (hb : Below w.heap.size w w') : SevIn Q a b c d e f g w' := (hb.block Q h.lt).trans h
theorem SevIn.born (w : World) (a b c d e f g : Value) : SevIn w.heap.size a b c d e f g (w.alloc (.cells #[a, b, c, d, e, f, g] 26)) := by
  unfold SevIn
  rw [← World.alloc_eq]
  simp
theorem SevIn.cells {Q : Nat} {a b c d e f g : Value} {w : World} (h : SevIn Q a b c d e f g w) : w.cell? ⟨Q, 0, none⟩ = some a ∧ w.cell? ⟨Q, 1, none⟩ = some b ∧ w.cell? ⟨Q, 2, none⟩ = some c ∧ w.cell? ⟨Q, 3, none⟩ = some d ∧ w.cell? ⟨Q, 4, none⟩ = some e ∧ w.cell? ⟨Q, 5, none⟩ = some f ∧ w.cell? ⟨Q, 6, none⟩ = some g :=
  ⟨by rw [Lib.cell_of_heap h]; rfl, by rw [Lib.cell_of_heap h]; rfl, by rw [Lib.cell_of_heap h]; rfl, by rw [Lib.cell_of_heap h]; rfl, by rw [Lib.cell_of_heap h]; rfl, by rw [Lib.cell_of_heap h]; rfl, by rw [Lib.cell_of_heap h]; rfl⟩
theorem SevIn.frozen {Q : Nat} {a b c d e f g : Value} {w : World} (h : SevIn Q a b c d e f g w) (i : Nat) : w.frozen? ⟨Q, i, none⟩ = false := Lib.frozen_of_heap h i

/-- nothing but two blocks is written -/
structure Mid (R Q : Nat) (w w' : World) : Prop where
  os : w'.os = w.os
  tape : w'.tape = w.tape
  output : w'.output = w.output
  size : w'.heap.size = w.heap.size
  block : ∀ k, k ≠ R → k ≠ Q → w'.heap[k]? = w.heap[k]?
theorem Mid.refl (R Q : Nat) (w : World) : Mid R Q w w := ⟨rfl, rfl, rfl, rfl, fun _ _ _ => rfl⟩
theorem Mid.set {R Q k i : Nat} {v : Value} {w w1 : World} (h : Mid R Q w w1) (hk : k = R ∨ k = Q) : Mid R Q w (w1.setCell ⟨k, i, none⟩ v) :=
  ⟨h.os, h.tape, h.output, by rw [← h.size]; simp [World.setCell], fun j h1 h2 => (Below.heap_setCell _ _ _ _ (by show j ≠ k; omega)).trans (h.block j h1 h2)⟩
theorem Mid.drew {R Q : Nat} {w w1 : World} (h : Mid R Q w w1) : Mid R Q w w1.drew := ⟨h.os, h.tape, h.output, h.size, h.block⟩
theorem below_mid {R Q B : Nat} {w w1 w' : World} (h : Below B w w1) (hm : Mid R Q w1 w') (h1 : B ≤ R) (h2 : B ≤ Q) : Below B w w' :=
  ⟨hm.os.trans h.os, hm.tape.trans h.tape, hm.output.trans h.output, by rw [hm.size]; exact h.size, fun k hk => (hm.block k (by omega) (by omega)).trans (h.block k hk)⟩

set_option maxHeartbeats 1000000 in
theorem lawCells_any (v : Value) (cs : List (Int × Int)) (w : World) (hn : cs.length * 16 ≤ 140737488355328) (h : HR w v cs) (hnil : ∀ n c, v = .slice none n c → c = 0) :
    Calls Tryz.prog 11 #[v] w fun e w' => ∃ u, e = .returned u ∧ Below w.heap.size w w' ∧ CRow w' w.heap.size u cs := by
  obtain ⟨a, c, rfl, _, h⟩ := h
  obtain ⟨i0, hi, hz0, hz1, hz2⟩ := info_parts Tryz.infoCell
  cases a with
  | none =>
    have hc := hnil _ c rfl
    subst hc
    rcases h with rfl | ⟨g, o, h1, _⟩
    · go_enter Tryz.func11, Tryz.ntmps11
      go_wp2
      go_ret
      exact ⟨_, rfl, Below.refl _ _, crow_nil _ _⟩
    · cases h1
  | some ad =>
    have hcells : ∀ (j : Nat) u, (cellsL cs)[j]? = some u → w.cell? (ad.add j) = some u := by
      intro j u hu
      rcases h with rfl | ⟨g, o, h1, _, h3⟩
      · simp [cellsL] at hu
      · cases h1
        have hj : j < cs.length * 2 := by rw [← cellsL_length]; exact (List.getElem?_eq_some_iff.1 hu).1
        have hjj : j / 2 < cs.length := by omega
        obtain ⟨e0, e1⟩ := cellsL_at cs (j / 2) _ _ (show cs[j / 2]? = some ((cs[j / 2]).1, (cs[j / 2]).2) by rw [List.getElem?_eq_getElem hjj])
        obtain ⟨c0, c1⟩ := h3 (j / 2) _ _ (show cs[j / 2]? = some ((cs[j / 2]).1, (cs[j / 2]).2) by rw [List.getElem?_eq_getElem hjj])
        rw [addr_add]
        by_cases hm2 : j % 2 = 0
        · rw [show j / 2 * 2 = j by omega] at e0 c0
          rw [c0]
          rw [e0] at hu
          exact hu
        · rw [show j / 2 * 2 + 1 = j by omega] at e1
          rw [show o + j / 2 * 2 + 1 = o + j by omega] at c1
          rw [c1]
          rw [e1] at hu
          exact hu
    clear h
    go_enter Tryz.func11, Tryz.ntmps11
    go_wp2_with (at_builtin; refine wpList_append_own _ rfl _ _ 24 rfl w.heap.size 152 i0 (.agg #[.int .i64 0, .int .i64 0]) 2 16 Tryz.underlying24 hi hz0 hz1 hz2 rfl (by decide) (.slice none 0 0) 0 [] rfl (World.ownsRow_nil _ _ _ _) ad cs.length c (cellsL cs) rfl (cellsL_length cs) hcells (cellsL_one cs) (by unfold maxLen; omega) (by omega) (Nat.le_refl _) ?_; intro v' w1 hown hgrow hnil)
    go_ret
    rw [Nat.zero_add, List.nil_append] at hown
    exact ⟨v', rfl, (Below.refl _ _).grown hgrow (Nat.le_refl _) (by intro k hk; simp [Value.ownBlock] at hk), hown⟩

set_option linter.unusedSimpArgs false in
set_option maxRecDepth 20000 in
set_option maxHeartbeats 2000000 in
/-- request: the same, with cells of its own -/
theorem request_any (q : Rq) (v : Value) (w : World) (hrow : HR w v q.cells) (hnil : ∀ n c, v = .slice none n c → c = 0) (hlen : q.cells.length * 16 ≤ 140737488355328) :
    Calls Tryz.prog 7 #[q.val v] w fun e w' => (∃ a n c, e = .returned (q.val (.slice a n c))) ∧ Below w.heap.size w w' := by
  obtain ⟨va, vn, vc, rfl⟩ : ∃ a n c, v = .slice a n c := by obtain ⟨a, c, rfl, _⟩ := hrow; exact ⟨_, _, _, rfl⟩
  have hb0 : Below w.heap.size w (w.alloc (.cells #[.int .i64 q.verb, .string q.name, .string q.other, .int .i64 q.born, .int .i64 q.live, .int .i64 q.n, .slice va vn vc] 26)) := (Below.refl _ _).alloc (Nat.le_refl _) _
  have P0 := SevIn.born w (.int .i64 q.verb) (.string q.name) (.string q.other) (.int .i64 q.born) (.int .i64 q.live) (.int .i64 q.n) (.slice va vn vc)
  have hrow0 := hrow.below hb0
  generalize hw0 : w.alloc (.cells #[.int .i64 q.verb, .string q.name, .string q.other, .int .i64 q.born, .int .i64 q.live, .int .i64 q.n, .slice va vn vc] 26) = w0 at *
  have hb1 : Below w0.heap.size w0 (w0.alloc (.cells #[.int .i64 0, .string ⟨#[]⟩, .string ⟨#[]⟩, .int .i64 0, .int .i64 0, .int .i64 0, .slice none 0 0] 26)) := (Below.refl _ _).alloc (Nat.le_refl _) _
  have C1 := SevIn.born w0 (.int .i64 0) (.string ⟨#[]⟩) (.string ⟨#[]⟩) (.int .i64 0) (.int .i64 0) (.int .i64 0) (.slice none 0 0)
  have P1 := P0.go hb1
  have hrow1 := hrow0.below hb1
  have HLT : Hid (w.heap.size < w0.heap.size) := P0.lt
  generalize hw1 : w0.alloc (.cells #[.int .i64 0, .string ⟨#[]⟩, .string ⟨#[]⟩, .int .i64 0, .int .i64 0, .int .i64 0, .slice none 0 0] 26) = w1 at *
  have ck := lawCells_any (.slice va vn vc) q.cells w1 hlen hrow1 hnil
  have HB1 : Hid (Below w.heap.size w w1) := hb0.trans (hb1.mono hb0.size)
  have HP1 : Hid (SevIn w.heap.size (.int .i64 q.verb) (.string q.name) (.string q.other) (.int .i64 q.born) (.int .i64 q.live) (.int .i64 q.n) (.slice va vn vc) w1) := P1
  have HC1 : Hid (SevIn w0.heap.size (.int .i64 0) (.string ⟨#[]⟩) (.string ⟨#[]⟩) (.int .i64 0) (.int .i64 0) (.int .i64 0) (.slice none 0 0) w1) := C1
  obtain ⟨a0, a1, a2, a3, a4, a5, a6⟩ := P1.cells
  have hne : w.heap.size ≠ w0.heap.size := Nat.ne_of_lt P0.lt
  unfold Rq.val
  clear hrow hrow0 hrow1 hb0 hb1 P0 P1 C1 hnil hlen
  go_enter Tryz.func7, Tryz.ntmps7
  go_wp2_with fail
  refine ck.mono ?_
  rintro e w2 ⟨u, rfl, hb2, hu⟩
  obtain ⟨ua, un, uc, rfl⟩ := crow_slice hu
  have hP2 := HP1.out.go hb2
  have hC2 := HC1.out.go hb2
  have HB2 : Hid (Below w.heap.size w w2) := HB1.out.trans (hb2.mono HB1.out.size)
  obtain ⟨c0, c1, c2, c3, c4, c5, c6⟩ := hP2.cells
  obtain ⟨s0, s1, s2, s3, s4, s5, s6⟩ := hC2.cells
  have z6 := hP2.frozen 6
  have y0 := hC2.frozen 0
  have y1 := hC2.frozen 1
  have y2 := hC2.frozen 2
  have y3 := hC2.frozen 3
  have y4 := hC2.frozen 4
  have y5 := hC2.frozen 5
  have y6 := hC2.frozen 6
  clear ck a0 a1 a2 a3 a4 a5 a6 hw0 hw1 hb2 hu hP2 hC2
  go_wp2_with fail
  refine bodyPost_ret (v := .agg #[.int .i64 q.verb, .string q.name, .string q.other, .int .i64 q.born, .int .i64 q.live, .int .i64 q.n, .slice ua un uc]) ?_ rfl ⟨⟨ua, un, uc, rfl⟩, ?_⟩
  · simp [results, Tryz.results7, go_sem, c0, c1, c2, c3, c4, c5, c6, s0, s1, s2, s3, s4, s5, s6, hne, hne.symm]
  · refine below_mid (R := w.heap.size) (Q := w0.heap.size) HB2.out ?_ (Nat.le_refl _) (Nat.le_of_lt HLT.out)
    repeat (first | refine Mid.set ?_ (Or.inl rfl) | refine Mid.set ?_ (Or.inr rfl) | refine Mid.drew ?_ | exact Mid.refl _ _ _)
end Go.Proofs.YtpeonbonldipmaaGreatDoor
