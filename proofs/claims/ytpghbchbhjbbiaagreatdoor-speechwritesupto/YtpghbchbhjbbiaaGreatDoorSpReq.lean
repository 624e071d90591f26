/- request: the words of a line of the table. -/
import Derived.Test.YtpghbchbhjbbiaaGreatDoorSpCells
namespace Go.Proofs.YtpghbchbhjbbiaaGreatDoor
open Go.RowKit

/-- a request -/
structure Rq where
  verb : Int
  name : ByteArray
  other : ByteArray
  born : Int
  live : Int
  n : Int
  cells : List (Int × Int)
def Rq.val (q : Rq) (v : Value) : Value := .agg #[.int .i64 q.verb, .string q.name, .string q.other, .int .i64 q.born, .int .i64 q.live, .int .i64 q.n, v]
def noRq : Rq := ⟨0, ⟨#[]⟩, ⟨#[]⟩, 0, 0, 0, []⟩
def Rd.request (r : Rd) : Rq × Rd :=
  let v := r.verb.1
  let r1 := r.verb.2
  if v = 1 then (⟨v, r1.name.1, ⟨#[]⟩, r1.name.2.rule.1.1, r1.name.2.rule.1.2, 0, []⟩, r1.name.2.rule.2)
  else if v = 2 then (⟨v, r1.place.1, ⟨#[]⟩, 0, 0, 0, r1.place.2.cells.1⟩, r1.place.2.cells.2)
  else if v = 3 ∨ v = 5 ∨ v = 6 then (⟨v, r1.place.1, ⟨#[]⟩, 0, 0, 0, []⟩, r1.place.2)
  else if v = 4 then (⟨v, r1.place.1, ⟨#[]⟩, 0, 0, r1.place.2.num.1, []⟩, r1.place.2.num.2)
  else if v = 7 then (⟨v, r1.name.1, ⟨#[]⟩, 0, 0, 0, []⟩, r1.name.2)
  else if v = 8 then (⟨v, r1.place.1, r1.place.2.name.1, 0, 0, 0, []⟩, r1.place.2.name.2)
  else if v = 9 then (⟨v, r1.name.1, ⟨#[]⟩, 0, 0, r1.name.2.num.1, []⟩, r1.name.2.num.2)
  else (⟨v, ⟨#[]⟩, ⟨#[]⟩, 0, 0, 0, []⟩, r1)

/-- nothing but two blocks is written -/
structure Mid (R Q : Nat) (w w' : World) : Prop where
  os : w'.os = w.os
  tape : w'.tape = w.tape
  output : w'.output = w.output
  size : w'.heap.size = w.heap.size
  block : ∀ k, k ≠ R → k ≠ Q → w'.heap[k]? = w.heap[k]?
theorem Mid.refl (R Q : Nat) (w : World) : Mid R Q w w := ⟨rfl, rfl, rfl, rfl, fun _ _ _ => rfl⟩
theorem Mid.set {R Q k i : Nat} {v : Value} {w w1 : World} (h : Mid R Q w w1) (hk : k = R ∨ k = Q) : Mid R Q w (w1.setCell ⟨k, i, none⟩ v) :=
  ⟨h.os, h.tape, h.output, by rw [← h.size]; simp [World.setCell], fun j h1 h2 => (Below.heap_setCell _ _ _ _ (by show j ≠ k; omega)).trans (h.block j h1 h2)⟩
theorem RS.mid {R Q b : Nat} {w w' : World} {r : Rd} (h : RS w b r) (hm : Mid R Q w w') (h1 : b < R) (h2 : b < Q) : RS w' b r :=
  ⟨h.at_.keep fun k hk => hm.block k (by omega) (by omega), h.vars.keep (fun k hk => hm.block k (by have := h.room; omega) (by have := h.room; omega)) (Nat.le_of_eq hm.size.symm), h.room, h.small⟩
theorem Only.mid {R Q b : Nat} {w w1 w' : World} (h : Only b w w1) (hm : Mid R Q w1 w') (h1 : w.heap.size ≤ R) (h2 : w.heap.size ≤ Q) : Only b w w' :=
  ⟨hm.os.trans h.os, hm.tape.trans h.tape, hm.output.trans h.output, by rw [hm.size]; exact h.size, fun k hk hne => (hm.block k (by omega) (by omega)).trans (h.block k hk hne)⟩
theorem CRow.mid {R Q B B' : Nat} {w w' : World} {v : Value} {cs : List (Int × Int)} (h : CRow w B v cs) (hm : Mid R Q w w') (h1 : R < B) (h2 : Q < B) (hB : B' ≤ B) : CRow w' B' v cs := by
  refine ⟨h.1, ?_⟩
  rcases h.2 with hn | ⟨g, cap, cur, rfl, hb, hgg, rest⟩
  · exact .inl hn
  · exact .inr ⟨g, cap, cur, rfl, by omega, by rw [hm.block g (by omega) (by omega)]; exact hgg, rest⟩

theorem crow_slice {w : World} {B : Nat} {v : Value} {cs : List (Int × Int)} (h : CRow w B v cs) : ∃ a n c, v = .slice a n c := by
  rcases h.2 with ⟨rfl, _⟩ | ⟨g, cap, cur, rfl, _⟩
  · exact ⟨_, _, _, rfl⟩
  · exact ⟨_, _, _, rfl⟩

/-- seven cells in a block, free to be written -/
def SevIn (Q : Nat) (a b c d e f g : Value) (w : World) : Prop := w.heap[Q]? = some (.cells #[a, b, c, d, e, f, g] 26 (0, 0))
theorem SevIn.lt {Q : Nat} {a b c d e f g : Value} {w : World} (h : SevIn Q a b c d e f g w) : Q < w.heap.size := (Array.getElem?_eq_some_iff.1 h).1
theorem SevIn.only {Q k : Nat} {a b c d e f g : Value} {w w' : World} (h : SevIn Q a b c d e f g w) (ho : Only k w w') (hne : Q ≠ k) : SevIn Q a b c d e f g w' := (ho.block Q h.lt hne).trans h
theorem SevIn.go {Q : Nat} {a b c d e f g : Value} {w w' : World} (h : SevIn Q a b c d e f g w) (hb : Below w.heap.size w w') : SevIn Q a b c d e f g w' := (hb.block Q h.lt).trans h
theorem SevIn.born (w : World) (a b c d e f g : Value) : SevIn w.heap.size a b c d e f g (w.alloc (.cells #[a, b, c, d, e, f, g] 26)) := by
  unfold SevIn
  rw [← World.alloc_eq]
  simp
theorem SevIn.cells {Q : Nat} {a b c d e f g : Value} {w : World} (h : SevIn Q a b c d e f g w) : w.cell? ⟨Q, 0, none⟩ = some a ∧ w.cell? ⟨Q, 1, none⟩ = some b ∧ w.cell? ⟨Q, 2, none⟩ = some c ∧ w.cell? ⟨Q, 3, none⟩ = some d ∧ w.cell? ⟨Q, 4, none⟩ = some e ∧ w.cell? ⟨Q, 5, none⟩ = some f ∧ w.cell? ⟨Q, 6, none⟩ = some g :=
  ⟨by rw [Lib.cell_of_heap h]; rfl, by rw [Lib.cell_of_heap h]; rfl, by rw [Lib.cell_of_heap h]; rfl, by rw [Lib.cell_of_heap h]; rfl, by rw [Lib.cell_of_heap h]; rfl, by rw [Lib.cell_of_heap h]; rfl, by rw [Lib.cell_of_heap h]; rfl⟩
theorem SevIn.frozen {Q : Nat} {a b c d e f g : Value} {w : World} (h : SevIn Q a b c d e f g w) (i : Nat) : w.frozen? ⟨Q, i, none⟩ = false := Lib.frozen_of_heap h i

/-- what request answers -/
def ReqOut (b : Nat) (w : World) (p : Rq × Rd) (e : Ending) (w' : World) : Prop := (∃ v, e = .returned (p.1.val v) ∧ CRow w' w.heap.size v p.1.cells) ∧ RS w' b p.2 ∧ Only b w w'

set_option maxRecDepth 20000 in
set_option maxHeartbeats 2000000 in
theorem request_0 (b : Nat) (r : Rd) (w : World) (h : RS w b r) (hv : r.verb.1 = 0) :
    Calls Tryz.prog 17 #[.pointer (some ⟨b, 0, none⟩)] w (ReqOut b w r.request) := by
  have hlt := h.at_.lt
  have HLT : Hid (b < w.heap.size) := hlt
  have HREQ : Hid (r.request = (⟨0, ⟨#[]⟩, ⟨#[]⟩, 0, 0, 0, []⟩, r.verb.2)) := by
    show _ = _
    unfold Rd.request
    simp only [hv]
    rfl
  have R0 := SevIn.born w (.int .i64 0) (.string ⟨#[]⟩) (.string ⟨#[]⟩) (.int .i64 0) (.int .i64 0) (.int .i64 0) (.slice none 0 0)
  have hb0 : Below w.heap.size w (w.alloc (.cells #[.int .i64 0, .string ⟨#[]⟩, .string ⟨#[]⟩, .int .i64 0, .int .i64 0, .int .i64 0, .slice none 0 0] 26)) := (Below.refl _ _).alloc (Nat.le_refl _) _
  have c1 := verbS_any b r _ (h.go hb0)
  rw [hv] at c1
  generalize r.verb.2 = r1 at *
  generalize r.request = RQ at *
  clear h hlt hv
  generalize hw0 : w.alloc (.cells #[.int .i64 0, .string ⟨#[]⟩, .string ⟨#[]⟩, .int .i64 0, .int .i64 0, .int .i64 0, .slice none 0 0] 26) = w0 at *
  have HB0 : Hid (Below w.heap.size w w0) := hb0
  have HR0 : Hid (SevIn w.heap.size (.int .i64 0) (.string ⟨#[]⟩) (.string ⟨#[]⟩) (.int .i64 0) (.int .i64 0) (.int .i64 0) (.slice none 0 0) w0) := R0
  clear hb0 R0
  go_enter Tryz.func17, Tryz.ntmps17
  go_wp2_with fail
  clear hw0
  refine c1.mono ?_
  rintro e w1 ⟨rfl, hr1, ho1⟩
  have HO1 : Hid (Only b w w1) := (Only.of HB0.out).trans ho1
  have HR1 : Hid (SevIn w.heap.size (.int .i64 0) (.string ⟨#[]⟩) (.string ⟨#[]⟩) (.int .i64 0) (.int .i64 0) (.int .i64 0) (.slice none 0 0) w1) := HR0.out.only ho1 (by have := HLT.out; omega)
  clear c1 ho1 HR0 HB0
  have hbq : Below w1.heap.size w1 (w1.alloc (.cells #[.int .i64 0, .string ⟨#[]⟩, .string ⟨#[]⟩, .int .i64 0, .int .i64 0, .int .i64 0, .slice none 0 0] 26)) := (Below.refl _ _).alloc (Nat.le_refl _) _
  have HQ1 : Hid (SevIn w1.heap.size (.int .i64 0) (.string ⟨#[]⟩) (.string ⟨#[]⟩) (.int .i64 0) (.int .i64 0) (.int .i64 0) (.slice none 0 0) (w1.alloc (.cells #[.int .i64 0, .string ⟨#[]⟩, .string ⟨#[]⟩, .int .i64 0, .int .i64 0, .int .i64 0, .slice none 0 0] 26))) := SevIn.born _ _ _ _ _ _ _ _
  have HRQ : Hid (SevIn w.heap.size (.int .i64 0) (.string ⟨#[]⟩) (.string ⟨#[]⟩) (.int .i64 0) (.int .i64 0) (.int .i64 0) (.slice none 0 0) (w1.alloc (.cells #[.int .i64 0, .string ⟨#[]⟩, .string ⟨#[]⟩, .int .i64 0, .int .i64 0, .int .i64 0, .slice none 0 0] 26))) := HR1.out.go hbq
  have HOQ : Hid (Only b w (w1.alloc (.cells #[.int .i64 0, .string ⟨#[]⟩, .string ⟨#[]⟩, .int .i64 0, .int .i64 0, .int .i64 0, .slice none 0 0] 26))) := HO1.out.trans (Only.of hbq)
  have HLQ : Hid (b < w1.heap.size ∧ w.heap.size < w1.heap.size) := ⟨hr1.at_.lt, HR1.out.lt⟩
  have hrq := hr1.go hbq
  clear hbq hr1 HR1 HO1
  obtain ⟨s0, s1, s2, s3, s4, s5, s6⟩ := HRQ.out.cells
  obtain ⟨q0, q1, q2, q3, q4, q5, q6⟩ := HQ1.out.cells
  have zr0 := HRQ.out.frozen 0
  have zq0 := HQ1.out.frozen 0
  have zr1 := HRQ.out.frozen 1
  have zq1 := HQ1.out.frozen 1
  have zr2 := HRQ.out.frozen 2
  have zq2 := HQ1.out.frozen 2
  have zr3 := HRQ.out.frozen 3
  have zq3 := HQ1.out.frozen 3
  have zr4 := HRQ.out.frozen 4
  have zq4 := HQ1.out.frozen 4
  have zr5 := HRQ.out.frozen 5
  have zq5 := HQ1.out.frozen 5
  have zr6 := HRQ.out.frozen 6
  have zq6 := HQ1.out.frozen 6
  have hne : w.heap.size ≠ w1.heap.size := by have := HLQ.out; omega
  go_wp2_with fail
  have hl := HLT.out
  have hl2 := HLQ.out
  refine bodyPost_ret (v := Rq.val ⟨0, ⟨#[]⟩, ⟨#[]⟩, 0, 0, 0, []⟩ (.slice none 0 0)) ?_ rfl ?_
  · simp [results, Tryz.results17, go_sem, s0, s1, s2, s3, s4, s5, s6, Rq.val]
  · rw [HREQ.out]
    refine ⟨⟨_, rfl, crow_nil _ _⟩, RS.mid (R := w.heap.size) (Q := w1.heap.size) hrq ?_ (by omega) (by omega), Only.mid (R := w.heap.size) (Q := w1.heap.size) HOQ.out ?_ (by omega) (by omega)⟩
    all_goals repeat (first | refine Mid.set ?_ (by first | exact Or.inl rfl | exact Or.inr rfl) | exact Mid.refl _ _ _)

set_option maxRecDepth 20000 in
set_option maxHeartbeats 2000000 in
theorem request_1 (b : Nat) (r : Rd) (w : World) (h : RS w b r) (hv : r.verb.1 = 1) :
    Calls Tryz.prog 17 #[.pointer (some ⟨b, 0, none⟩)] w (ReqOut b w r.request) := by
  have hlt := h.at_.lt
  have HLT : Hid (b < w.heap.size) := hlt
  have HREQ : Hid (r.request = (⟨1, r.verb.2.name.1, ⟨#[]⟩, r.verb.2.name.2.rule.1.1, r.verb.2.name.2.rule.1.2, 0, []⟩, r.verb.2.name.2.rule.2)) := by
    show _ = _
    unfold Rd.request
    simp only [hv]
    rfl
  have R0 := SevIn.born w (.int .i64 0) (.string ⟨#[]⟩) (.string ⟨#[]⟩) (.int .i64 0) (.int .i64 0) (.int .i64 0) (.slice none 0 0)
  have hb0 : Below w.heap.size w (w.alloc (.cells #[.int .i64 0, .string ⟨#[]⟩, .string ⟨#[]⟩, .int .i64 0, .int .i64 0, .int .i64 0, .slice none 0 0] 26)) := (Below.refl _ _).alloc (Nat.le_refl _) _
  have c1 := verbS_any b r _ (h.go hb0)
  rw [hv] at c1
  generalize r.verb.2 = r1 at *
  have c2 := fun W hW => name_any b r1 W hW
  generalize r1.name = q0 at *
  obtain ⟨nm0, r2⟩ := q0
  simp only at c2 HREQ
  have c3 := fun W hW => rule_any b r2 W hW
  generalize r2.rule = q1 at *
  obtain ⟨⟨rb, rl⟩, r3⟩ := q1
  simp only at c3 HREQ
  generalize r.request = RQ at *
  clear h hlt hv
  generalize hw0 : w.alloc (.cells #[.int .i64 0, .string ⟨#[]⟩, .string ⟨#[]⟩, .int .i64 0, .int .i64 0, .int .i64 0, .slice none 0 0] 26) = w0 at *
  have HB0 : Hid (Below w.heap.size w w0) := hb0
  have HR0 : Hid (SevIn w.heap.size (.int .i64 0) (.string ⟨#[]⟩) (.string ⟨#[]⟩) (.int .i64 0) (.int .i64 0) (.int .i64 0) (.slice none 0 0) w0) := R0
  clear hb0 R0
  go_enter Tryz.func17, Tryz.ntmps17
  go_wp2_with fail
  clear hw0
  refine c1.mono ?_
  rintro e w1 ⟨rfl, hr1, ho1⟩
  have HO1 : Hid (Only b w w1) := (Only.of HB0.out).trans ho1
  have HR1 : Hid (SevIn w.heap.size (.int .i64 0) (.string ⟨#[]⟩) (.string ⟨#[]⟩) (.int .i64 0) (.int .i64 0) (.int .i64 0) (.slice none 0 0) w1) := HR0.out.only ho1 (by have := HLT.out; omega)
  clear c1 ho1 HR0 HB0
  have hbq : Below w1.heap.size w1 (w1.alloc (.cells #[.int .i64 1, .string ⟨#[]⟩, .string ⟨#[]⟩, .int .i64 0, .int .i64 0, .int .i64 0, .slice none 0 0] 26)) := (Below.refl _ _).alloc (Nat.le_refl _) _
  have HQ1 : Hid (SevIn w1.heap.size (.int .i64 1) (.string ⟨#[]⟩) (.string ⟨#[]⟩) (.int .i64 0) (.int .i64 0) (.int .i64 0) (.slice none 0 0) (w1.alloc (.cells #[.int .i64 1, .string ⟨#[]⟩, .string ⟨#[]⟩, .int .i64 0, .int .i64 0, .int .i64 0, .slice none 0 0] 26))) := SevIn.born _ _ _ _ _ _ _ _
  have HRQ : Hid (SevIn w.heap.size (.int .i64 0) (.string ⟨#[]⟩) (.string ⟨#[]⟩) (.int .i64 0) (.int .i64 0) (.int .i64 0) (.slice none 0 0) (w1.alloc (.cells #[.int .i64 1, .string ⟨#[]⟩, .string ⟨#[]⟩, .int .i64 0, .int .i64 0, .int .i64 0, .slice none 0 0] 26))) := HR1.out.go hbq
  have HOQ : Hid (Only b w (w1.alloc (.cells #[.int .i64 1, .string ⟨#[]⟩, .string ⟨#[]⟩, .int .i64 0, .int .i64 0, .int .i64 0, .slice none 0 0] 26))) := HO1.out.trans (Only.of hbq)
  have HLQ : Hid (b < w1.heap.size ∧ w.heap.size < w1.heap.size) := ⟨hr1.at_.lt, HR1.out.lt⟩
  have hrq := hr1.go hbq
  clear hbq hr1 HR1 HO1
  go_wp2_with fail
  refine (c2 _ hrq).mono ?_
  rintro e w2 ⟨rfl, hr2, ho2⟩
  have HQ2 : Hid (SevIn w1.heap.size (.int .i64 1) (.string ⟨#[]⟩) (.string ⟨#[]⟩) (.int .i64 0) (.int .i64 0) (.int .i64 0) (.slice none 0 0) w2) := HQ1.out.only ho2 (by have := HLQ.out; omega)
  have HR2 : Hid (SevIn w.heap.size (.int .i64 0) (.string ⟨#[]⟩) (.string ⟨#[]⟩) (.int .i64 0) (.int .i64 0) (.int .i64 0) (.slice none 0 0) w2) := HRQ.out.only ho2 (by have := HLT.out; omega)
  have HO2 : Hid (Only b w w2) := HOQ.out.trans ho2
  clear ho2 hrq HQ1 HRQ c2
  go_wp2_with fail
  refine (c3 _ hr2).mono ?_
  rintro e w3 ⟨rfl, hr3, ho3⟩
  have HQ3 : Hid (SevIn w1.heap.size (.int .i64 1) (.string ⟨#[]⟩) (.string ⟨#[]⟩) (.int .i64 0) (.int .i64 0) (.int .i64 0) (.slice none 0 0) w3) := HQ2.out.only ho3 (by have := HLQ.out; omega)
  have HR3 : Hid (SevIn w.heap.size (.int .i64 0) (.string ⟨#[]⟩) (.string ⟨#[]⟩) (.int .i64 0) (.int .i64 0) (.int .i64 0) (.slice none 0 0) w3) := HR2.out.only ho3 (by have := HLT.out; omega)
  have HO3 : Hid (Only b w w3) := HO2.out.trans ho3
  clear ho3 hr2 HQ2 HR2 c3
  obtain ⟨s0, s1, s2, s3, s4, s5, s6⟩ := HR3.out.cells
  obtain ⟨q0, q1, q2, q3, q4, q5, q6⟩ := HQ3.out.cells
  have zr0 := HR3.out.frozen 0
  have zq0 := HQ3.out.frozen 0
  have zr1 := HR3.out.frozen 1
  have zq1 := HQ3.out.frozen 1
  have zr2 := HR3.out.frozen 2
  have zq2 := HQ3.out.frozen 2
  have zr3 := HR3.out.frozen 3
  have zq3 := HQ3.out.frozen 3
  have zr4 := HR3.out.frozen 4
  have zq4 := HQ3.out.frozen 4
  have zr5 := HR3.out.frozen 5
  have zq5 := HQ3.out.frozen 5
  have zr6 := HR3.out.frozen 6
  have zq6 := HQ3.out.frozen 6
  have hne : w.heap.size ≠ w1.heap.size := by have := HLQ.out; omega
  go_wp2_with fail
  have hl := HLT.out
  have hl2 := HLQ.out
  refine bodyPost_ret (v := Rq.val ⟨1, nm0, ⟨#[]⟩, rb, rl, 0, []⟩ (.slice none 0 0)) ?_ rfl ?_
  · simp [results, Tryz.results17, go_sem, s0, s1, s2, s3, s4, s5, s6, Rq.val]
  · rw [HREQ.out]
    refine ⟨⟨_, rfl, crow_nil _ _⟩, RS.mid (R := w.heap.size) (Q := w1.heap.size) hr3 ?_ (by omega) (by omega), Only.mid (R := w.heap.size) (Q := w1.heap.size) HO3.out ?_ (by omega) (by omega)⟩
    all_goals repeat (first | refine Mid.set ?_ (by first | exact Or.inl rfl | exact Or.inr rfl) | exact Mid.refl _ _ _)

set_option maxRecDepth 20000 in
set_option maxHeartbeats 2000000 in
theorem request_2 (b : Nat) (r : Rd) (w : World) (h : RS w b r) (hv : r.verb.1 = 2) (hsm : r.verb.2.place.2.ws.length ≤ 7000) :
    Calls Tryz.prog 17 #[.pointer (some ⟨b, 0, none⟩)] w (ReqOut b w r.request) := by
  have hlt := h.at_.lt
  have HLT : Hid (b < w.heap.size) := hlt
  have HSM : Hid (r.verb.2.place.2.ws.length ≤ 7000) := hsm
  have HREQ : Hid (r.request = (⟨2, r.verb.2.place.1, ⟨#[]⟩, 0, 0, 0, r.verb.2.place.2.cells.1⟩, r.verb.2.place.2.cells.2)) := by
    show _ = _
    unfold Rd.request
    simp only [hv]
    rfl
  have R0 := SevIn.born w (.int .i64 0) (.string ⟨#[]⟩) (.string ⟨#[]⟩) (.int .i64 0) (.int .i64 0) (.int .i64 0) (.slice none 0 0)
  have hb0 : Below w.heap.size w (w.alloc (.cells #[.int .i64 0, .string ⟨#[]⟩, .string ⟨#[]⟩, .int .i64 0, .int .i64 0, .int .i64 0, .slice none 0 0] 26)) := (Below.refl _ _).alloc (Nat.le_refl _) _
  have c1 := verbS_any b r _ (h.go hb0)
  rw [hv] at c1
  generalize r.verb.2 = r1 at *
  have c2 := fun W hW => place_any b r1 W hW
  generalize r1.place = q0 at *
  obtain ⟨nm0, r2⟩ := q0
  simp only at c2 HREQ
  have c3 := fun W hW => cells_any b r2 W hW (by have := HSM.out; omega)
  generalize r2.cells = q1 at *
  obtain ⟨cs, r3⟩ := q1
  simp only at c3 HREQ
  generalize r.request = RQ at *
  clear h hlt hv
  generalize hw0 : w.alloc (.cells #[.int .i64 0, .string ⟨#[]⟩, .string ⟨#[]⟩, .int .i64 0, .int .i64 0, .int .i64 0, .slice none 0 0] 26) = w0 at *
  have HB0 : Hid (Below w.heap.size w w0) := hb0
  have HR0 : Hid (SevIn w.heap.size (.int .i64 0) (.string ⟨#[]⟩) (.string ⟨#[]⟩) (.int .i64 0) (.int .i64 0) (.int .i64 0) (.slice none 0 0) w0) := R0
  clear hb0 R0
  go_enter Tryz.func17, Tryz.ntmps17
  go_wp2_with fail
  clear hw0
  refine c1.mono ?_
  rintro e w1 ⟨rfl, hr1, ho1⟩
  have HO1 : Hid (Only b w w1) := (Only.of HB0.out).trans ho1
  have HR1 : Hid (SevIn w.heap.size (.int .i64 0) (.string ⟨#[]⟩) (.string ⟨#[]⟩) (.int .i64 0) (.int .i64 0) (.int .i64 0) (.slice none 0 0) w1) := HR0.out.only ho1 (by have := HLT.out; omega)
  clear c1 ho1 HR0 HB0
  have hbq : Below w1.heap.size w1 (w1.alloc (.cells #[.int .i64 2, .string ⟨#[]⟩, .string ⟨#[]⟩, .int .i64 0, .int .i64 0, .int .i64 0, .slice none 0 0] 26)) := (Below.refl _ _).alloc (Nat.le_refl _) _
  have HQ1 : Hid (SevIn w1.heap.size (.int .i64 2) (.string ⟨#[]⟩) (.string ⟨#[]⟩) (.int .i64 0) (.int .i64 0) (.int .i64 0) (.slice none 0 0) (w1.alloc (.cells #[.int .i64 2, .string ⟨#[]⟩, .string ⟨#[]⟩, .int .i64 0, .int .i64 0, .int .i64 0, .slice none 0 0] 26))) := SevIn.born _ _ _ _ _ _ _ _
  have HRQ : Hid (SevIn w.heap.size (.int .i64 0) (.string ⟨#[]⟩) (.string ⟨#[]⟩) (.int .i64 0) (.int .i64 0) (.int .i64 0) (.slice none 0 0) (w1.alloc (.cells #[.int .i64 2, .string ⟨#[]⟩, .string ⟨#[]⟩, .int .i64 0, .int .i64 0, .int .i64 0, .slice none 0 0] 26))) := HR1.out.go hbq
  have HOQ : Hid (Only b w (w1.alloc (.cells #[.int .i64 2, .string ⟨#[]⟩, .string ⟨#[]⟩, .int .i64 0, .int .i64 0, .int .i64 0, .slice none 0 0] 26))) := HO1.out.trans (Only.of hbq)
  have HLQ : Hid (b < w1.heap.size ∧ w.heap.size < w1.heap.size) := ⟨hr1.at_.lt, HR1.out.lt⟩
  have hrq := hr1.go hbq
  clear hbq hr1 HR1 HO1
  go_wp2_with fail
  refine (c2 _ hrq).mono ?_
  rintro e w2 ⟨rfl, hr2, ho2⟩
  have HQ2 : Hid (SevIn w1.heap.size (.int .i64 2) (.string ⟨#[]⟩) (.string ⟨#[]⟩) (.int .i64 0) (.int .i64 0) (.int .i64 0) (.slice none 0 0) w2) := HQ1.out.only ho2 (by have := HLQ.out; omega)
  have HR2 : Hid (SevIn w.heap.size (.int .i64 0) (.string ⟨#[]⟩) (.string ⟨#[]⟩) (.int .i64 0) (.int .i64 0) (.int .i64 0) (.slice none 0 0) w2) := HRQ.out.only ho2 (by have := HLT.out; omega)
  have HO2 : Hid (Only b w w2) := HOQ.out.trans ho2
  clear ho2 hrq HQ1 HRQ c2
  go_wp2_with fail
  refine (c3 _ hr2).mono ?_
  rintro e w3 ⟨⟨cv, rfl, hrow⟩, hr3, ho3⟩
  have HQ3 : Hid (SevIn w1.heap.size (.int .i64 2) (.string ⟨#[]⟩) (.string ⟨#[]⟩) (.int .i64 0) (.int .i64 0) (.int .i64 0) (.slice none 0 0) w3) := HQ2.out.only ho3 (by have := HLQ.out; omega)
  have HR3 : Hid (SevIn w.heap.size (.int .i64 0) (.string ⟨#[]⟩) (.string ⟨#[]⟩) (.int .i64 0) (.int .i64 0) (.int .i64 0) (.slice none 0 0) w3) := HR2.out.only ho3 (by have := HLT.out; omega)
  have HO3 : Hid (Only b w w3) := HO2.out.trans ho3
  have HROW : Hid (∃ B, w1.heap.size < B ∧ CRow w3 B cv cs) := ⟨_, HQ2.out.lt, hrow⟩
  obtain ⟨cva, cvn, cvc, hcv⟩ : ∃ a n c, cv = .slice a n c := crow_slice hrow
  subst hcv
  clear hrow
  clear ho3 hr2 HQ2 HR2 c3
  obtain ⟨s0, s1, s2, s3, s4, s5, s6⟩ := HR3.out.cells
  obtain ⟨q0, q1, q2, q3, q4, q5, q6⟩ := HQ3.out.cells
  have zr0 := HR3.out.frozen 0
  have zq0 := HQ3.out.frozen 0
  have zr1 := HR3.out.frozen 1
  have zq1 := HQ3.out.frozen 1
  have zr2 := HR3.out.frozen 2
  have zq2 := HQ3.out.frozen 2
  have zr3 := HR3.out.frozen 3
  have zq3 := HQ3.out.frozen 3
  have zr4 := HR3.out.frozen 4
  have zq4 := HQ3.out.frozen 4
  have zr5 := HR3.out.frozen 5
  have zq5 := HQ3.out.frozen 5
  have zr6 := HR3.out.frozen 6
  have zq6 := HQ3.out.frozen 6
  have hne : w.heap.size ≠ w1.heap.size := by have := HLQ.out; omega
  go_wp2_with fail
  have hl := HLT.out
  have hl2 := HLQ.out
  refine bodyPost_ret (v := Rq.val ⟨2, nm0, ⟨#[]⟩, 0, 0, 0, cs⟩ (.slice cva cvn cvc)) ?_ rfl ?_
  · simp [results, Tryz.results17, go_sem, s0, s1, s2, s3, s4, s5, s6, Rq.val]
  · rw [HREQ.out]
    refine ⟨⟨_, rfl, by obtain ⟨B, h1, h2⟩ := HROW.out; have := HLQ.out; refine h2.mid (R := w.heap.size) (Q := w1.heap.size) ?_ (by omega) (by omega) (by omega); repeat (first | refine Mid.set ?_ (by first | exact Or.inl rfl | exact Or.inr rfl) | exact Mid.refl _ _ _)⟩, RS.mid (R := w.heap.size) (Q := w1.heap.size) hr3 ?_ (by omega) (by omega), Only.mid (R := w.heap.size) (Q := w1.heap.size) HO3.out ?_ (by omega) (by omega)⟩
    all_goals repeat (first | refine Mid.set ?_ (by first | exact Or.inl rfl | exact Or.inr rfl) | exact Mid.refl _ _ _)

set_option maxRecDepth 20000 in
set_option maxHeartbeats 2000000 in
theorem request_3 (b : Nat) (r : Rd) (w : World) (h : RS w b r) (hv : r.verb.1 = 3) :
    Calls Tryz.prog 17 #[.pointer (some ⟨b, 0, none⟩)] w (ReqOut b w r.request) := by
  have hlt := h.at_.lt
  have HLT : Hid (b < w.heap.size) := hlt
  have HREQ : Hid (r.request = (⟨3, r.verb.2.place.1, ⟨#[]⟩, 0, 0, 0, []⟩, r.verb.2.place.2)) := by
    show _ = _
    unfold Rd.request
    simp only [hv]
    rfl
  have R0 := SevIn.born w (.int .i64 0) (.string ⟨#[]⟩) (.string ⟨#[]⟩) (.int .i64 0) (.int .i64 0) (.int .i64 0) (.slice none 0 0)
  have hb0 : Below w.heap.size w (w.alloc (.cells #[.int .i64 0, .string ⟨#[]⟩, .string ⟨#[]⟩, .int .i64 0, .int .i64 0, .int .i64 0, .slice none 0 0] 26)) := (Below.refl _ _).alloc (Nat.le_refl _) _
  have c1 := verbS_any b r _ (h.go hb0)
  rw [hv] at c1
  generalize r.verb.2 = r1 at *
  have c2 := fun W hW => place_any b r1 W hW
  generalize r1.place = q0 at *
  obtain ⟨nm0, r2⟩ := q0
  simp only at c2 HREQ
  generalize r.request = RQ at *
  clear h hlt hv
  generalize hw0 : w.alloc (.cells #[.int .i64 0, .string ⟨#[]⟩, .string ⟨#[]⟩, .int .i64 0, .int .i64 0, .int .i64 0, .slice none 0 0] 26) = w0 at *
  have HB0 : Hid (Below w.heap.size w w0) := hb0
  have HR0 : Hid (SevIn w.heap.size (.int .i64 0) (.string ⟨#[]⟩) (.string ⟨#[]⟩) (.int .i64 0) (.int .i64 0) (.int .i64 0) (.slice none 0 0) w0) := R0
  clear hb0 R0
  go_enter Tryz.func17, Tryz.ntmps17
  go_wp2_with fail
  clear hw0
  refine c1.mono ?_
  rintro e w1 ⟨rfl, hr1, ho1⟩
  have HO1 : Hid (Only b w w1) := (Only.of HB0.out).trans ho1
  have HR1 : Hid (SevIn w.heap.size (.int .i64 0) (.string ⟨#[]⟩) (.string ⟨#[]⟩) (.int .i64 0) (.int .i64 0) (.int .i64 0) (.slice none 0 0) w1) := HR0.out.only ho1 (by have := HLT.out; omega)
  clear c1 ho1 HR0 HB0
  have hbq : Below w1.heap.size w1 (w1.alloc (.cells #[.int .i64 3, .string ⟨#[]⟩, .string ⟨#[]⟩, .int .i64 0, .int .i64 0, .int .i64 0, .slice none 0 0] 26)) := (Below.refl _ _).alloc (Nat.le_refl _) _
  have HQ1 : Hid (SevIn w1.heap.size (.int .i64 3) (.string ⟨#[]⟩) (.string ⟨#[]⟩) (.int .i64 0) (.int .i64 0) (.int .i64 0) (.slice none 0 0) (w1.alloc (.cells #[.int .i64 3, .string ⟨#[]⟩, .string ⟨#[]⟩, .int .i64 0, .int .i64 0, .int .i64 0, .slice none 0 0] 26))) := SevIn.born _ _ _ _ _ _ _ _
  have HRQ : Hid (SevIn w.heap.size (.int .i64 0) (.string ⟨#[]⟩) (.string ⟨#[]⟩) (.int .i64 0) (.int .i64 0) (.int .i64 0) (.slice none 0 0) (w1.alloc (.cells #[.int .i64 3, .string ⟨#[]⟩, .string ⟨#[]⟩, .int .i64 0, .int .i64 0, .int .i64 0, .slice none 0 0] 26))) := HR1.out.go hbq
  have HOQ : Hid (Only b w (w1.alloc (.cells #[.int .i64 3, .string ⟨#[]⟩, .string ⟨#[]⟩, .int .i64 0, .int .i64 0, .int .i64 0, .slice none 0 0] 26))) := HO1.out.trans (Only.of hbq)
  have HLQ : Hid (b < w1.heap.size ∧ w.heap.size < w1.heap.size) := ⟨hr1.at_.lt, HR1.out.lt⟩
  have hrq := hr1.go hbq
  clear hbq hr1 HR1 HO1
  go_wp2_with fail
  refine (c2 _ hrq).mono ?_
  rintro e w2 ⟨rfl, hr2, ho2⟩
  have HQ2 : Hid (SevIn w1.heap.size (.int .i64 3) (.string ⟨#[]⟩) (.string ⟨#[]⟩) (.int .i64 0) (.int .i64 0) (.int .i64 0) (.slice none 0 0) w2) := HQ1.out.only ho2 (by have := HLQ.out; omega)
  have HR2 : Hid (SevIn w.heap.size (.int .i64 0) (.string ⟨#[]⟩) (.string ⟨#[]⟩) (.int .i64 0) (.int .i64 0) (.int .i64 0) (.slice none 0 0) w2) := HRQ.out.only ho2 (by have := HLT.out; omega)
  have HO2 : Hid (Only b w w2) := HOQ.out.trans ho2
  clear ho2 hrq HQ1 HRQ c2
  obtain ⟨s0, s1, s2, s3, s4, s5, s6⟩ := HR2.out.cells
  obtain ⟨q0, q1, q2, q3, q4, q5, q6⟩ := HQ2.out.cells
  have zr0 := HR2.out.frozen 0
  have zq0 := HQ2.out.frozen 0
  have zr1 := HR2.out.frozen 1
  have zq1 := HQ2.out.frozen 1
  have zr2 := HR2.out.frozen 2
  have zq2 := HQ2.out.frozen 2
  have zr3 := HR2.out.frozen 3
  have zq3 := HQ2.out.frozen 3
  have zr4 := HR2.out.frozen 4
  have zq4 := HQ2.out.frozen 4
  have zr5 := HR2.out.frozen 5
  have zq5 := HQ2.out.frozen 5
  have zr6 := HR2.out.frozen 6
  have zq6 := HQ2.out.frozen 6
  have hne : w.heap.size ≠ w1.heap.size := by have := HLQ.out; omega
  go_wp2_with fail
  have hl := HLT.out
  have hl2 := HLQ.out
  refine bodyPost_ret (v := Rq.val ⟨3, nm0, ⟨#[]⟩, 0, 0, 0, []⟩ (.slice none 0 0)) ?_ rfl ?_
  · simp [results, Tryz.results17, go_sem, s0, s1, s2, s3, s4, s5, s6, Rq.val]
  · rw [HREQ.out]
    refine ⟨⟨_, rfl, crow_nil _ _⟩, RS.mid (R := w.heap.size) (Q := w1.heap.size) hr2 ?_ (by omega) (by omega), Only.mid (R := w.heap.size) (Q := w1.heap.size) HO2.out ?_ (by omega) (by omega)⟩
    all_goals repeat (first | refine Mid.set ?_ (by first | exact Or.inl rfl | exact Or.inr rfl) | exact Mid.refl _ _ _)

set_option maxRecDepth 20000 in
set_option maxHeartbeats 2000000 in
theorem request_4 (b : Nat) (r : Rd) (w : World) (h : RS w b r) (hv : r.verb.1 = 4) :
    Calls Tryz.prog 17 #[.pointer (some ⟨b, 0, none⟩)] w (ReqOut b w r.request) := by
  have hlt := h.at_.lt
  have HLT : Hid (b < w.heap.size) := hlt
  have HREQ : Hid (r.request = (⟨4, r.verb.2.place.1, ⟨#[]⟩, 0, 0, r.verb.2.place.2.num.1, []⟩, r.verb.2.place.2.num.2)) := by
    show _ = _
    unfold Rd.request
    simp only [hv]
    rfl
  have R0 := SevIn.born w (.int .i64 0) (.string ⟨#[]⟩) (.string ⟨#[]⟩) (.int .i64 0) (.int .i64 0) (.int .i64 0) (.slice none 0 0)
  have hb0 : Below w.heap.size w (w.alloc (.cells #[.int .i64 0, .string ⟨#[]⟩, .string ⟨#[]⟩, .int .i64 0, .int .i64 0, .int .i64 0, .slice none 0 0] 26)) := (Below.refl _ _).alloc (Nat.le_refl _) _
  have c1 := verbS_any b r _ (h.go hb0)
  rw [hv] at c1
  generalize r.verb.2 = r1 at *
  have c2 := fun W hW => place_any b r1 W hW
  generalize r1.place = q0 at *
  obtain ⟨nm0, r2⟩ := q0
  simp only at c2 HREQ
  have c3 := fun W hW => num_any b r2 W hW
  generalize r2.num = q1 at *
  obtain ⟨nn, r3⟩ := q1
  simp only at c3 HREQ
  generalize r.request = RQ at *
  clear h hlt hv
  generalize hw0 : w.alloc (.cells #[.int .i64 0, .string ⟨#[]⟩, .string ⟨#[]⟩, .int .i64 0, .int .i64 0, .int .i64 0, .slice none 0 0] 26) = w0 at *
  have HB0 : Hid (Below w.heap.size w w0) := hb0
  have HR0 : Hid (SevIn w.heap.size (.int .i64 0) (.string ⟨#[]⟩) (.string ⟨#[]⟩) (.int .i64 0) (.int .i64 0) (.int .i64 0) (.slice none 0 0) w0) := R0
  clear hb0 R0
  go_enter Tryz.func17, Tryz.ntmps17
  go_wp2_with fail
  clear hw0
  refine c1.mono ?_
  rintro e w1 ⟨rfl, hr1, ho1⟩
  have HO1 : Hid (Only b w w1) := (Only.of HB0.out).trans ho1
  have HR1 : Hid (SevIn w.heap.size (.int .i64 0) (.string ⟨#[]⟩) (.string ⟨#[]⟩) (.int .i64 0) (.int .i64 0) (.int .i64 0) (.slice none 0 0) w1) := HR0.out.only ho1 (by have := HLT.out; omega)
  clear c1 ho1 HR0 HB0
  have hbq : Below w1.heap.size w1 (w1.alloc (.cells #[.int .i64 4, .string ⟨#[]⟩, .string ⟨#[]⟩, .int .i64 0, .int .i64 0, .int .i64 0, .slice none 0 0] 26)) := (Below.refl _ _).alloc (Nat.le_refl _) _
  have HQ1 : Hid (SevIn w1.heap.size (.int .i64 4) (.string ⟨#[]⟩) (.string ⟨#[]⟩) (.int .i64 0) (.int .i64 0) (.int .i64 0) (.slice none 0 0) (w1.alloc (.cells #[.int .i64 4, .string ⟨#[]⟩, .string ⟨#[]⟩, .int .i64 0, .int .i64 0, .int .i64 0, .slice none 0 0] 26))) := SevIn.born _ _ _ _ _ _ _ _
  have HRQ : Hid (SevIn w.heap.size (.int .i64 0) (.string ⟨#[]⟩) (.string ⟨#[]⟩) (.int .i64 0) (.int .i64 0) (.int .i64 0) (.slice none 0 0) (w1.alloc (.cells #[.int .i64 4, .string ⟨#[]⟩, .string ⟨#[]⟩, .int .i64 0, .int .i64 0, .int .i64 0, .slice none 0 0] 26))) := HR1.out.go hbq
  have HOQ : Hid (Only b w (w1.alloc (.cells #[.int .i64 4, .string ⟨#[]⟩, .string ⟨#[]⟩, .int .i64 0, .int .i64 0, .int .i64 0, .slice none 0 0] 26))) := HO1.out.trans (Only.of hbq)
  have HLQ : Hid (b < w1.heap.size ∧ w.heap.size < w1.heap.size) := ⟨hr1.at_.lt, HR1.out.lt⟩
  have hrq := hr1.go hbq
  clear hbq hr1 HR1 HO1
  go_wp2_with fail
  refine (c2 _ hrq).mono ?_
  rintro e w2 ⟨rfl, hr2, ho2⟩
  have HQ2 : Hid (SevIn w1.heap.size (.int .i64 4) (.string ⟨#[]⟩) (.string ⟨#[]⟩) (.int .i64 0) (.int .i64 0) (.int .i64 0) (.slice none 0 0) w2) := HQ1.out.only ho2 (by have := HLQ.out; omega)
  have HR2 : Hid (SevIn w.heap.size (.int .i64 0) (.string ⟨#[]⟩) (.string ⟨#[]⟩) (.int .i64 0) (.int .i64 0) (.int .i64 0) (.slice none 0 0) w2) := HRQ.out.only ho2 (by have := HLT.out; omega)
  have HO2 : Hid (Only b w w2) := HOQ.out.trans ho2
  clear ho2 hrq HQ1 HRQ c2
  go_wp2_with fail
  refine (c3 _ hr2).mono ?_
  rintro e w3 ⟨rfl, hr3, ho3⟩
  have HQ3 : Hid (SevIn w1.heap.size (.int .i64 4) (.string ⟨#[]⟩) (.string ⟨#[]⟩) (.int .i64 0) (.int .i64 0) (.int .i64 0) (.slice none 0 0) w3) := HQ2.out.only ho3 (by have := HLQ.out; omega)
  have HR3 : Hid (SevIn w.heap.size (.int .i64 0) (.string ⟨#[]⟩) (.string ⟨#[]⟩) (.int .i64 0) (.int .i64 0) (.int .i64 0) (.slice none 0 0) w3) := HR2.out.only ho3 (by have := HLT.out; omega)
  have HO3 : Hid (Only b w w3) := HO2.out.trans ho3
  clear ho3 hr2 HQ2 HR2 c3
  obtain ⟨s0, s1, s2, s3, s4, s5, s6⟩ := HR3.out.cells
  obtain ⟨q0, q1, q2, q3, q4, q5, q6⟩ := HQ3.out.cells
  have zr0 := HR3.out.frozen 0
  have zq0 := HQ3.out.frozen 0
  have zr1 := HR3.out.frozen 1
  have zq1 := HQ3.out.frozen 1
  have zr2 := HR3.out.frozen 2
  have zq2 := HQ3.out.frozen 2
  have zr3 := HR3.out.frozen 3
  have zq3 := HQ3.out.frozen 3
  have zr4 := HR3.out.frozen 4
  have zq4 := HQ3.out.frozen 4
  have zr5 := HR3.out.frozen 5
  have zq5 := HQ3.out.frozen 5
  have zr6 := HR3.out.frozen 6
  have zq6 := HQ3.out.frozen 6
  have hne : w.heap.size ≠ w1.heap.size := by have := HLQ.out; omega
  go_wp2_with fail
  have hl := HLT.out
  have hl2 := HLQ.out
  refine bodyPost_ret (v := Rq.val ⟨4, nm0, ⟨#[]⟩, 0, 0, nn, []⟩ (.slice none 0 0)) ?_ rfl ?_
  · simp [results, Tryz.results17, go_sem, s0, s1, s2, s3, s4, s5, s6, Rq.val]
  · rw [HREQ.out]
    refine ⟨⟨_, rfl, crow_nil _ _⟩, RS.mid (R := w.heap.size) (Q := w1.heap.size) hr3 ?_ (by omega) (by omega), Only.mid (R := w.heap.size) (Q := w1.heap.size) HO3.out ?_ (by omega) (by omega)⟩
    all_goals repeat (first | refine Mid.set ?_ (by first | exact Or.inl rfl | exact Or.inr rfl) | exact Mid.refl _ _ _)

set_option maxRecDepth 20000 in
set_option maxHeartbeats 2000000 in
theorem request_5 (b : Nat) (r : Rd) (w : World) (h : RS w b r) (hv : r.verb.1 = 5) :
    Calls Tryz.prog 17 #[.pointer (some ⟨b, 0, none⟩)] w (ReqOut b w r.request) := by
  have hlt := h.at_.lt
  have HLT : Hid (b < w.heap.size) := hlt
  have HREQ : Hid (r.request = (⟨5, r.verb.2.place.1, ⟨#[]⟩, 0, 0, 0, []⟩, r.verb.2.place.2)) := by
    show _ = _
    unfold Rd.request
    simp only [hv]
    rfl
  have R0 := SevIn.born w (.int .i64 0) (.string ⟨#[]⟩) (.string ⟨#[]⟩) (.int .i64 0) (.int .i64 0) (.int .i64 0) (.slice none 0 0)
  have hb0 : Below w.heap.size w (w.alloc (.cells #[.int .i64 0, .string ⟨#[]⟩, .string ⟨#[]⟩, .int .i64 0, .int .i64 0, .int .i64 0, .slice none 0 0] 26)) := (Below.refl _ _).alloc (Nat.le_refl _) _
  have c1 := verbS_any b r _ (h.go hb0)
  rw [hv] at c1
  generalize r.verb.2 = r1 at *
  have c2 := fun W hW => place_any b r1 W hW
  generalize r1.place = q0 at *
  obtain ⟨nm0, r2⟩ := q0
  simp only at c2 HREQ
  generalize r.request = RQ at *
  clear h hlt hv
  generalize hw0 : w.alloc (.cells #[.int .i64 0, .string ⟨#[]⟩, .string ⟨#[]⟩, .int .i64 0, .int .i64 0, .int .i64 0, .slice none 0 0] 26) = w0 at *
  have HB0 : Hid (Below w.heap.size w w0) := hb0
  have HR0 : Hid (SevIn w.heap.size (.int .i64 0) (.string ⟨#[]⟩) (.string ⟨#[]⟩) (.int .i64 0) (.int .i64 0) (.int .i64 0) (.slice none 0 0) w0) := R0
  clear hb0 R0
  go_enter Tryz.func17, Tryz.ntmps17
  go_wp2_with fail
  clear hw0
  refine c1.mono ?_
  rintro e w1 ⟨rfl, hr1, ho1⟩
  have HO1 : Hid (Only b w w1) := (Only.of HB0.out).trans ho1
  have HR1 : Hid (SevIn w.heap.size (.int .i64 0) (.string ⟨#[]⟩) (.string ⟨#[]⟩) (.int .i64 0) (.int .i64 0) (.int .i64 0) (.slice none 0 0) w1) := HR0.out.only ho1 (by have := HLT.out; omega)
  clear c1 ho1 HR0 HB0
  have hbq : Below w1.heap.size w1 (w1.alloc (.cells #[.int .i64 5, .string ⟨#[]⟩, .string ⟨#[]⟩, .int .i64 0, .int .i64 0, .int .i64 0, .slice none 0 0] 26)) := (Below.refl _ _).alloc (Nat.le_refl _) _
  have HQ1 : Hid (SevIn w1.heap.size (.int .i64 5) (.string ⟨#[]⟩) (.string ⟨#[]⟩) (.int .i64 0) (.int .i64 0) (.int .i64 0) (.slice none 0 0) (w1.alloc (.cells #[.int .i64 5, .string ⟨#[]⟩, .string ⟨#[]⟩, .int .i64 0, .int .i64 0, .int .i64 0, .slice none 0 0] 26))) := SevIn.born _ _ _ _ _ _ _ _
  have HRQ : Hid (SevIn w.heap.size (.int .i64 0) (.string ⟨#[]⟩) (.string ⟨#[]⟩) (.int .i64 0) (.int .i64 0) (.int .i64 0) (.slice none 0 0) (w1.alloc (.cells #[.int .i64 5, .string ⟨#[]⟩, .string ⟨#[]⟩, .int .i64 0, .int .i64 0, .int .i64 0, .slice none 0 0] 26))) := HR1.out.go hbq
  have HOQ : Hid (Only b w (w1.alloc (.cells #[.int .i64 5, .string ⟨#[]⟩, .string ⟨#[]⟩, .int .i64 0, .int .i64 0, .int .i64 0, .slice none 0 0] 26))) := HO1.out.trans (Only.of hbq)
  have HLQ : Hid (b < w1.heap.size ∧ w.heap.size < w1.heap.size) := ⟨hr1.at_.lt, HR1.out.lt⟩
  have hrq := hr1.go hbq
  clear hbq hr1 HR1 HO1
  go_wp2_with fail
  refine (c2 _ hrq).mono ?_
  rintro e w2 ⟨rfl, hr2, ho2⟩
  have HQ2 : Hid (SevIn w1.heap.size (.int .i64 5) (.string ⟨#[]⟩) (.string ⟨#[]⟩) (.int .i64 0) (.int .i64 0) (.int .i64 0) (.slice none 0 0) w2) := HQ1.out.only ho2 (by have := HLQ.out; omega)
  have HR2 : Hid (SevIn w.heap.size (.int .i64 0) (.string ⟨#[]⟩) (.string ⟨#[]⟩) (.int .i64 0) (.int .i64 0) (.int .i64 0) (.slice none 0 0) w2) := HRQ.out.only ho2 (by have := HLT.out; omega)
  have HO2 : Hid (Only b w w2) := HOQ.out.trans ho2
  clear ho2 hrq HQ1 HRQ c2
  obtain ⟨s0, s1, s2, s3, s4, s5, s6⟩ := HR2.out.cells
  obtain ⟨q0, q1, q2, q3, q4, q5, q6⟩ := HQ2.out.cells
  have zr0 := HR2.out.frozen 0
  have zq0 := HQ2.out.frozen 0
  have zr1 := HR2.out.frozen 1
  have zq1 := HQ2.out.frozen 1
  have zr2 := HR2.out.frozen 2
  have zq2 := HQ2.out.frozen 2
  have zr3 := HR2.out.frozen 3
  have zq3 := HQ2.out.frozen 3
  have zr4 := HR2.out.frozen 4
  have zq4 := HQ2.out.frozen 4
  have zr5 := HR2.out.frozen 5
  have zq5 := HQ2.out.frozen 5
  have zr6 := HR2.out.frozen 6
  have zq6 := HQ2.out.frozen 6
  have hne : w.heap.size ≠ w1.heap.size := by have := HLQ.out; omega
  go_wp2_with fail
  have hl := HLT.out
  have hl2 := HLQ.out
  refine bodyPost_ret (v := Rq.val ⟨5, nm0, ⟨#[]⟩, 0, 0, 0, []⟩ (.slice none 0 0)) ?_ rfl ?_
  · simp [results, Tryz.results17, go_sem, s0, s1, s2, s3, s4, s5, s6, Rq.val]
  · rw [HREQ.out]
    refine ⟨⟨_, rfl, crow_nil _ _⟩, RS.mid (R := w.heap.size) (Q := w1.heap.size) hr2 ?_ (by omega) (by omega), Only.mid (R := w.heap.size) (Q := w1.heap.size) HO2.out ?_ (by omega) (by omega)⟩
    all_goals repeat (first | refine Mid.set ?_ (by first | exact Or.inl rfl | exact Or.inr rfl) | exact Mid.refl _ _ _)

set_option maxRecDepth 20000 in
set_option maxHeartbeats 2000000 in
theorem request_6 (b : Nat) (r : Rd) (w : World) (h : RS w b r) (hv : r.verb.1 = 6) :
    Calls Tryz.prog 17 #[.pointer (some ⟨b, 0, none⟩)] w (ReqOut b w r.request) := by
  have hlt := h.at_.lt
  have HLT : Hid (b < w.heap.size) := hlt
  have HREQ : Hid (r.request = (⟨6, r.verb.2.place.1, ⟨#[]⟩, 0, 0, 0, []⟩, r.verb.2.place.2)) := by
    show _ = _
    unfold Rd.request
    simp only [hv]
    rfl
  have R0 := SevIn.born w (.int .i64 0) (.string ⟨#[]⟩) (.string ⟨#[]⟩) (.int .i64 0) (.int .i64 0) (.int .i64 0) (.slice none 0 0)
  have hb0 : Below w.heap.size w (w.alloc (.cells #[.int .i64 0, .string ⟨#[]⟩, .string ⟨#[]⟩, .int .i64 0, .int .i64 0, .int .i64 0, .slice none 0 0] 26)) := (Below.refl _ _).alloc (Nat.le_refl _) _
  have c1 := verbS_any b r _ (h.go hb0)
  rw [hv] at c1
  generalize r.verb.2 = r1 at *
  have c2 := fun W hW => place_any b r1 W hW
  generalize r1.place = q0 at *
  obtain ⟨nm0, r2⟩ := q0
  simp only at c2 HREQ
  generalize r.request = RQ at *
  clear h hlt hv
  generalize hw0 : w.alloc (.cells #[.int .i64 0, .string ⟨#[]⟩, .string ⟨#[]⟩, .int .i64 0, .int .i64 0, .int .i64 0, .slice none 0 0] 26) = w0 at *
  have HB0 : Hid (Below w.heap.size w w0) := hb0
  have HR0 : Hid (SevIn w.heap.size (.int .i64 0) (.string ⟨#[]⟩) (.string ⟨#[]⟩) (.int .i64 0) (.int .i64 0) (.int .i64 0) (.slice none 0 0) w0) := R0
  clear hb0 R0
  go_enter Tryz.func17, Tryz.ntmps17
  go_wp2_with fail
  clear hw0
  refine c1.mono ?_
  rintro e w1 ⟨rfl, hr1, ho1⟩
  have HO1 : Hid (Only b w w1) := (Only.of HB0.out).trans ho1
  have HR1 : Hid (SevIn w.heap.size (.int .i64 0) (.string ⟨#[]⟩) (.string ⟨#[]⟩) (.int .i64 0) (.int .i64 0) (.int .i64 0) (.slice none 0 0) w1) := HR0.out.only ho1 (by have := HLT.out; omega)
  clear c1 ho1 HR0 HB0
  have hbq : Below w1.heap.size w1 (w1.alloc (.cells #[.int .i64 6, .string ⟨#[]⟩, .string ⟨#[]⟩, .int .i64 0, .int .i64 0, .int .i64 0, .slice none 0 0] 26)) := (Below.refl _ _).alloc (Nat.le_refl _) _
  have HQ1 : Hid (SevIn w1.heap.size (.int .i64 6) (.string ⟨#[]⟩) (.string ⟨#[]⟩) (.int .i64 0) (.int .i64 0) (.int .i64 0) (.slice none 0 0) (w1.alloc (.cells #[.int .i64 6, .string ⟨#[]⟩, .string ⟨#[]⟩, .int .i64 0, .int .i64 0, .int .i64 0, .slice none 0 0] 26))) := SevIn.born _ _ _ _ _ _ _ _
  have HRQ : Hid (SevIn w.heap.size (.int .i64 0) (.string ⟨#[]⟩) (.string ⟨#[]⟩) (.int .i64 0) (.int .i64 0) (.int .i64 0) (.slice none 0 0) (w1.alloc (.cells #[.int .i64 6, .string ⟨#[]⟩, .string ⟨#[]⟩, .int .i64 0, .int .i64 0, .int .i64 0, .slice none 0 0] 26))) := HR1.out.go hbq
  have HOQ : Hid (Only b w (w1.alloc (.cells #[.int .i64 6, .string ⟨#[]⟩, .string ⟨#[]⟩, .int .i64 0, .int .i64 0, .int .i64 0, .slice none 0 0] 26))) := HO1.out.trans (Only.of hbq)
  have HLQ : Hid (b < w1.heap.size ∧ w.heap.size < w1.heap.size) := ⟨hr1.at_.lt, HR1.out.lt⟩
  have hrq := hr1.go hbq
  clear hbq hr1 HR1 HO1
  go_wp2_with fail
  refine (c2 _ hrq).mono ?_
  rintro e w2 ⟨rfl, hr2, ho2⟩
  have HQ2 : Hid (SevIn w1.heap.size (.int .i64 6) (.string ⟨#[]⟩) (.string ⟨#[]⟩) (.int .i64 0) (.int .i64 0) (.int .i64 0) (.slice none 0 0) w2) := HQ1.out.only ho2 (by have := HLQ.out; omega)
  have HR2 : Hid (SevIn w.heap.size (.int .i64 0) (.string ⟨#[]⟩) (.string ⟨#[]⟩) (.int .i64 0) (.int .i64 0) (.int .i64 0) (.slice none 0 0) w2) := HRQ.out.only ho2 (by have := HLT.out; omega)
  have HO2 : Hid (Only b w w2) := HOQ.out.trans ho2
  clear ho2 hrq HQ1 HRQ c2
  obtain ⟨s0, s1, s2, s3, s4, s5, s6⟩ := HR2.out.cells
  obtain ⟨q0, q1, q2, q3, q4, q5, q6⟩ := HQ2.out.cells
  have zr0 := HR2.out.frozen 0
  have zq0 := HQ2.out.frozen 0
  have zr1 := HR2.out.frozen 1
  have zq1 := HQ2.out.frozen 1
  have zr2 := HR2.out.frozen 2
  have zq2 := HQ2.out.frozen 2
  have zr3 := HR2.out.frozen 3
  have zq3 := HQ2.out.frozen 3
  have zr4 := HR2.out.frozen 4
  have zq4 := HQ2.out.frozen 4
  have zr5 := HR2.out.frozen 5
  have zq5 := HQ2.out.frozen 5
  have zr6 := HR2.out.frozen 6
  have zq6 := HQ2.out.frozen 6
  have hne : w.heap.size ≠ w1.heap.size := by have := HLQ.out; omega
  go_wp2_with fail
  have hl := HLT.out
  have hl2 := HLQ.out
  refine bodyPost_ret (v := Rq.val ⟨6, nm0, ⟨#[]⟩, 0, 0, 0, []⟩ (.slice none 0 0)) ?_ rfl ?_
  · simp [results, Tryz.results17, go_sem, s0, s1, s2, s3, s4, s5, s6, Rq.val]
  · rw [HREQ.out]
    refine ⟨⟨_, rfl, crow_nil _ _⟩, RS.mid (R := w.heap.size) (Q := w1.heap.size) hr2 ?_ (by omega) (by omega), Only.mid (R := w.heap.size) (Q := w1.heap.size) HO2.out ?_ (by omega) (by omega)⟩
    all_goals repeat (first | refine Mid.set ?_ (by first | exact Or.inl rfl | exact Or.inr rfl) | exact Mid.refl _ _ _)

set_option maxRecDepth 20000 in
set_option maxHeartbeats 2000000 in
theorem request_7 (b : Nat) (r : Rd) (w : World) (h : RS w b r) (hv : r.verb.1 = 7) :
    Calls Tryz.prog 17 #[.pointer (some ⟨b, 0, none⟩)] w (ReqOut b w r.request) := by
  have hlt := h.at_.lt
  have HLT : Hid (b < w.heap.size) := hlt
  have HREQ : Hid (r.request = (⟨7, r.verb.2.name.1, ⟨#[]⟩, 0, 0, 0, []⟩, r.verb.2.name.2)) := by
    show _ = _
    unfold Rd.request
    simp only [hv]
    rfl
  have R0 := SevIn.born w (.int .i64 0) (.string ⟨#[]⟩) (.string ⟨#[]⟩) (.int .i64 0) (.int .i64 0) (.int .i64 0) (.slice none 0 0)
  have hb0 : Below w.heap.size w (w.alloc (.cells #[.int .i64 0, .string ⟨#[]⟩, .string ⟨#[]⟩, .int .i64 0, .int .i64 0, .int .i64 0, .slice none 0 0] 26)) := (Below.refl _ _).alloc (Nat.le_refl _) _
  have c1 := verbS_any b r _ (h.go hb0)
  rw [hv] at c1
  generalize r.verb.2 = r1 at *
  have c2 := fun W hW => name_any b r1 W hW
  generalize r1.name = q0 at *
  obtain ⟨nm0, r2⟩ := q0
  simp only at c2 HREQ
  generalize r.request = RQ at *
  clear h hlt hv
  generalize hw0 : w.alloc (.cells #[.int .i64 0, .string ⟨#[]⟩, .string ⟨#[]⟩, .int .i64 0, .int .i64 0, .int .i64 0, .slice none 0 0] 26) = w0 at *
  have HB0 : Hid (Below w.heap.size w w0) := hb0
  have HR0 : Hid (SevIn w.heap.size (.int .i64 0) (.string ⟨#[]⟩) (.string ⟨#[]⟩) (.int .i64 0) (.int .i64 0) (.int .i64 0) (.slice none 0 0) w0) := R0
  clear hb0 R0
  go_enter Tryz.func17, Tryz.ntmps17
  go_wp2_with fail
  clear hw0
  refine c1.mono ?_
  rintro e w1 ⟨rfl, hr1, ho1⟩
  have HO1 : Hid (Only b w w1) := (Only.of HB0.out).trans ho1
  have HR1 : Hid (SevIn w.heap.size (.int .i64 0) (.string ⟨#[]⟩) (.string ⟨#[]⟩) (.int .i64 0) (.int .i64 0) (.int .i64 0) (.slice none 0 0) w1) := HR0.out.only ho1 (by have := HLT.out; omega)
  clear c1 ho1 HR0 HB0
  have hbq : Below w1.heap.size w1 (w1.alloc (.cells #[.int .i64 7, .string ⟨#[]⟩, .string ⟨#[]⟩, .int .i64 0, .int .i64 0, .int .i64 0, .slice none 0 0] 26)) := (Below.refl _ _).alloc (Nat.le_refl _) _
  have HQ1 : Hid (SevIn w1.heap.size (.int .i64 7) (.string ⟨#[]⟩) (.string ⟨#[]⟩) (.int .i64 0) (.int .i64 0) (.int .i64 0) (.slice none 0 0) (w1.alloc (.cells #[.int .i64 7, .string ⟨#[]⟩, .string ⟨#[]⟩, .int .i64 0, .int .i64 0, .int .i64 0, .slice none 0 0] 26))) := SevIn.born _ _ _ _ _ _ _ _
  have HRQ : Hid (SevIn w.heap.size (.int .i64 0) (.string ⟨#[]⟩) (.string ⟨#[]⟩) (.int .i64 0) (.int .i64 0) (.int .i64 0) (.slice none 0 0) (w1.alloc (.cells #[.int .i64 7, .string ⟨#[]⟩, .string ⟨#[]⟩, .int .i64 0, .int .i64 0, .int .i64 0, .slice none 0 0] 26))) := HR1.out.go hbq
  have HOQ : Hid (Only b w (w1.alloc (.cells #[.int .i64 7, .string ⟨#[]⟩, .string ⟨#[]⟩, .int .i64 0, .int .i64 0, .int .i64 0, .slice none 0 0] 26))) := HO1.out.trans (Only.of hbq)
  have HLQ : Hid (b < w1.heap.size ∧ w.heap.size < w1.heap.size) := ⟨hr1.at_.lt, HR1.out.lt⟩
  have hrq := hr1.go hbq
  clear hbq hr1 HR1 HO1
  go_wp2_with fail
  refine (c2 _ hrq).mono ?_
  rintro e w2 ⟨rfl, hr2, ho2⟩
  have HQ2 : Hid (SevIn w1.heap.size (.int .i64 7) (.string ⟨#[]⟩) (.string ⟨#[]⟩) (.int .i64 0) (.int .i64 0) (.int .i64 0) (.slice none 0 0) w2) := HQ1.out.only ho2 (by have := HLQ.out; omega)
  have HR2 : Hid (SevIn w.heap.size (.int .i64 0) (.string ⟨#[]⟩) (.string ⟨#[]⟩) (.int .i64 0) (.int .i64 0) (.int .i64 0) (.slice none 0 0) w2) := HRQ.out.only ho2 (by have := HLT.out; omega)
  have HO2 : Hid (Only b w w2) := HOQ.out.trans ho2
  clear ho2 hrq HQ1 HRQ c2
  obtain ⟨s0, s1, s2, s3, s4, s5, s6⟩ := HR2.out.cells
  obtain ⟨q0, q1, q2, q3, q4, q5, q6⟩ := HQ2.out.cells
  have zr0 := HR2.out.frozen 0
  have zq0 := HQ2.out.frozen 0
  have zr1 := HR2.out.frozen 1
  have zq1 := HQ2.out.frozen 1
  have zr2 := HR2.out.frozen 2
  have zq2 := HQ2.out.frozen 2
  have zr3 := HR2.out.frozen 3
  have zq3 := HQ2.out.frozen 3
  have zr4 := HR2.out.frozen 4
  have zq4 := HQ2.out.frozen 4
  have zr5 := HR2.out.frozen 5
  have zq5 := HQ2.out.frozen 5
  have zr6 := HR2.out.frozen 6
  have zq6 := HQ2.out.frozen 6
  have hne : w.heap.size ≠ w1.heap.size := by have := HLQ.out; omega
  go_wp2_with fail
  have hl := HLT.out
  have hl2 := HLQ.out
  refine bodyPost_ret (v := Rq.val ⟨7, nm0, ⟨#[]⟩, 0, 0, 0, []⟩ (.slice none 0 0)) ?_ rfl ?_
  · simp [results, Tryz.results17, go_sem, s0, s1, s2, s3, s4, s5, s6, Rq.val]
  · rw [HREQ.out]
    refine ⟨⟨_, rfl, crow_nil _ _⟩, RS.mid (R := w.heap.size) (Q := w1.heap.size) hr2 ?_ (by omega) (by omega), Only.mid (R := w.heap.size) (Q := w1.heap.size) HO2.out ?_ (by omega) (by omega)⟩
    all_goals repeat (first | refine Mid.set ?_ (by first | exact Or.inl rfl | exact Or.inr rfl) | exact Mid.refl _ _ _)

set_option maxRecDepth 20000 in
set_option maxHeartbeats 2000000 in
theorem request_8 (b : Nat) (r : Rd) (w : World) (h : RS w b r) (hv : r.verb.1 = 8) :
    Calls Tryz.prog 17 #[.pointer (some ⟨b, 0, none⟩)] w (ReqOut b w r.request) := by
  have hlt := h.at_.lt
  have HLT : Hid (b < w.heap.size) := hlt
  have HREQ : Hid (r.request = (⟨8, r.verb.2.place.1, r.verb.2.place.2.name.1, 0, 0, 0, []⟩, r.verb.2.place.2.name.2)) := by
    show _ = _
    unfold Rd.request
    simp only [hv]
    rfl
  have R0 := SevIn.born w (.int .i64 0) (.string ⟨#[]⟩) (.string ⟨#[]⟩) (.int .i64 0) (.int .i64 0) (.int .i64 0) (.slice none 0 0)
  have hb0 : Below w.heap.size w (w.alloc (.cells #[.int .i64 0, .string ⟨#[]⟩, .string ⟨#[]⟩, .int .i64 0, .int .i64 0, .int .i64 0, .slice none 0 0] 26)) := (Below.refl _ _).alloc (Nat.le_refl _) _
  have c1 := verbS_any b r _ (h.go hb0)
  rw [hv] at c1
  generalize r.verb.2 = r1 at *
  have c2 := fun W hW => place_any b r1 W hW
  generalize r1.place = q0 at *
  obtain ⟨nm0, r2⟩ := q0
  simp only at c2 HREQ
  have c3 := fun W hW => name_any b r2 W hW
  generalize r2.name = q1 at *
  obtain ⟨nm1, r3⟩ := q1
  simp only at c3 HREQ
  generalize r.request = RQ at *
  clear h hlt hv
  generalize hw0 : w.alloc (.cells #[.int .i64 0, .string ⟨#[]⟩, .string ⟨#[]⟩, .int .i64 0, .int .i64 0, .int .i64 0, .slice none 0 0] 26) = w0 at *
  have HB0 : Hid (Below w.heap.size w w0) := hb0
  have HR0 : Hid (SevIn w.heap.size (.int .i64 0) (.string ⟨#[]⟩) (.string ⟨#[]⟩) (.int .i64 0) (.int .i64 0) (.int .i64 0) (.slice none 0 0) w0) := R0
  clear hb0 R0
  go_enter Tryz.func17, Tryz.ntmps17
  go_wp2_with fail
  clear hw0
  refine c1.mono ?_
  rintro e w1 ⟨rfl, hr1, ho1⟩
  have HO1 : Hid (Only b w w1) := (Only.of HB0.out).trans ho1
  have HR1 : Hid (SevIn w.heap.size (.int .i64 0) (.string ⟨#[]⟩) (.string ⟨#[]⟩) (.int .i64 0) (.int .i64 0) (.int .i64 0) (.slice none 0 0) w1) := HR0.out.only ho1 (by have := HLT.out; omega)
  clear c1 ho1 HR0 HB0
  have hbq : Below w1.heap.size w1 (w1.alloc (.cells #[.int .i64 8, .string ⟨#[]⟩, .string ⟨#[]⟩, .int .i64 0, .int .i64 0, .int .i64 0, .slice none 0 0] 26)) := (Below.refl _ _).alloc (Nat.le_refl _) _
  have HQ1 : Hid (SevIn w1.heap.size (.int .i64 8) (.string ⟨#[]⟩) (.string ⟨#[]⟩) (.int .i64 0) (.int .i64 0) (.int .i64 0) (.slice none 0 0) (w1.alloc (.cells #[.int .i64 8, .string ⟨#[]⟩, .string ⟨#[]⟩, .int .i64 0, .int .i64 0, .int .i64 0, .slice none 0 0] 26))) := SevIn.born _ _ _ _ _ _ _ _
  have HRQ : Hid (SevIn w.heap.size (.int .i64 0) (.string ⟨#[]⟩) (.string ⟨#[]⟩) (.int .i64 0) (.int .i64 0) (.int .i64 0) (.slice none 0 0) (w1.alloc (.cells #[.int .i64 8, .string ⟨#[]⟩, .string ⟨#[]⟩, .int .i64 0, .int .i64 0, .int .i64 0, .slice none 0 0] 26))) := HR1.out.go hbq
  have HOQ : Hid (Only b w (w1.alloc (.cells #[.int .i64 8, .string ⟨#[]⟩, .string ⟨#[]⟩, .int .i64 0, .int .i64 0, .int .i64 0, .slice none 0 0] 26))) := HO1.out.trans (Only.of hbq)
  have HLQ : Hid (b < w1.heap.size ∧ w.heap.size < w1.heap.size) := ⟨hr1.at_.lt, HR1.out.lt⟩
  have hrq := hr1.go hbq
  clear hbq hr1 HR1 HO1
  go_wp2_with fail
  refine (c2 _ hrq).mono ?_
  rintro e w2 ⟨rfl, hr2, ho2⟩
  have HQ2 : Hid (SevIn w1.heap.size (.int .i64 8) (.string ⟨#[]⟩) (.string ⟨#[]⟩) (.int .i64 0) (.int .i64 0) (.int .i64 0) (.slice none 0 0) w2) := HQ1.out.only ho2 (by have := HLQ.out; omega)
  have HR2 : Hid (SevIn w.heap.size (.int .i64 0) (.string ⟨#[]⟩) (.string ⟨#[]⟩) (.int .i64 0) (.int .i64 0) (.int .i64 0) (.slice none 0 0) w2) := HRQ.out.only ho2 (by have := HLT.out; omega)
  have HO2 : Hid (Only b w w2) := HOQ.out.trans ho2
  clear ho2 hrq HQ1 HRQ c2
  go_wp2_with fail
  refine (c3 _ hr2).mono ?_
  rintro e w3 ⟨rfl, hr3, ho3⟩
  have HQ3 : Hid (SevIn w1.heap.size (.int .i64 8) (.string ⟨#[]⟩) (.string ⟨#[]⟩) (.int .i64 0) (.int .i64 0) (.int .i64 0) (.slice none 0 0) w3) := HQ2.out.only ho3 (by have := HLQ.out; omega)
  have HR3 : Hid (SevIn w.heap.size (.int .i64 0) (.string ⟨#[]⟩) (.string ⟨#[]⟩) (.int .i64 0) (.int .i64 0) (.int .i64 0) (.slice none 0 0) w3) := HR2.out.only ho3 (by have := HLT.out; omega)
  have HO3 : Hid (Only b w w3) := HO2.out.trans ho3
  clear ho3 hr2 HQ2 HR2 c3
  obtain ⟨s0, s1, s2, s3, s4, s5, s6⟩ := HR3.out.cells
  obtain ⟨q0, q1, q2, q3, q4, q5, q6⟩ := HQ3.out.cells
  have zr0 := HR3.out.frozen 0
  have zq0 := HQ3.out.frozen 0
  have zr1 := HR3.out.frozen 1
  have zq1 := HQ3.out.frozen 1
  have zr2 := HR3.out.frozen 2
  have zq2 := HQ3.out.frozen 2
  have zr3 := HR3.out.frozen 3
  have zq3 := HQ3.out.frozen 3
  have zr4 := HR3.out.frozen 4
  have zq4 := HQ3.out.frozen 4
  have zr5 := HR3.out.frozen 5
  have zq5 := HQ3.out.frozen 5
  have zr6 := HR3.out.frozen 6
  have zq6 := HQ3.out.frozen 6
  have hne : w.heap.size ≠ w1.heap.size := by have := HLQ.out; omega
  go_wp2_with fail
  have hl := HLT.out
  have hl2 := HLQ.out
  refine bodyPost_ret (v := Rq.val ⟨8, nm0, nm1, 0, 0, 0, []⟩ (.slice none 0 0)) ?_ rfl ?_
  · simp [results, Tryz.results17, go_sem, s0, s1, s2, s3, s4, s5, s6, Rq.val]
  · rw [HREQ.out]
    refine ⟨⟨_, rfl, crow_nil _ _⟩, RS.mid (R := w.heap.size) (Q := w1.heap.size) hr3 ?_ (by omega) (by omega), Only.mid (R := w.heap.size) (Q := w1.heap.size) HO3.out ?_ (by omega) (by omega)⟩
    all_goals repeat (first | refine Mid.set ?_ (by first | exact Or.inl rfl | exact Or.inr rfl) | exact Mid.refl _ _ _)

set_option maxRecDepth 20000 in
set_option maxHeartbeats 2000000 in
theorem request_9 (b : Nat) (r : Rd) (w : World) (h : RS w b r) (hv : r.verb.1 = 9) :
    Calls Tryz.prog 17 #[.pointer (some ⟨b, 0, none⟩)] w (ReqOut b w r.request) := by
  have hlt := h.at_.lt
  have HLT : Hid (b < w.heap.size) := hlt
  have HREQ : Hid (r.request = (⟨9, r.verb.2.name.1, ⟨#[]⟩, 0, 0, r.verb.2.name.2.num.1, []⟩, r.verb.2.name.2.num.2)) := by
    show _ = _
    unfold Rd.request
    simp only [hv]
    rfl
  have R0 := SevIn.born w (.int .i64 0) (.string ⟨#[]⟩) (.string ⟨#[]⟩) (.int .i64 0) (.int .i64 0) (.int .i64 0) (.slice none 0 0)
  have hb0 : Below w.heap.size w (w.alloc (.cells #[.int .i64 0, .string ⟨#[]⟩, .string ⟨#[]⟩, .int .i64 0, .int .i64 0, .int .i64 0, .slice none 0 0] 26)) := (Below.refl _ _).alloc (Nat.le_refl _) _
  have c1 := verbS_any b r _ (h.go hb0)
  rw [hv] at c1
  generalize r.verb.2 = r1 at *
  have c2 := fun W hW => name_any b r1 W hW
  generalize r1.name = q0 at *
  obtain ⟨nm0, r2⟩ := q0
  simp only at c2 HREQ
  have c3 := fun W hW => num_any b r2 W hW
  generalize r2.num = q1 at *
  obtain ⟨nn, r3⟩ := q1
  simp only at c3 HREQ
  generalize r.request = RQ at *
  clear h hlt hv
  generalize hw0 : w.alloc (.cells #[.int .i64 0, .string ⟨#[]⟩, .string ⟨#[]⟩, .int .i64 0, .int .i64 0, .int .i64 0, .slice none 0 0] 26) = w0 at *
  have HB0 : Hid (Below w.heap.size w w0) := hb0
  have HR0 : Hid (SevIn w.heap.size (.int .i64 0) (.string ⟨#[]⟩) (.string ⟨#[]⟩) (.int .i64 0) (.int .i64 0) (.int .i64 0) (.slice none 0 0) w0) := R0
  clear hb0 R0
  go_enter Tryz.func17, Tryz.ntmps17
  go_wp2_with fail
  clear hw0
  refine c1.mono ?_
  rintro e w1 ⟨rfl, hr1, ho1⟩
  have HO1 : Hid (Only b w w1) := (Only.of HB0.out).trans ho1
  have HR1 : Hid (SevIn w.heap.size (.int .i64 0) (.string ⟨#[]⟩) (.string ⟨#[]⟩) (.int .i64 0) (.int .i64 0) (.int .i64 0) (.slice none 0 0) w1) := HR0.out.only ho1 (by have := HLT.out; omega)
  clear c1 ho1 HR0 HB0
  have hbq : Below w1.heap.size w1 (w1.alloc (.cells #[.int .i64 9, .string ⟨#[]⟩, .string ⟨#[]⟩, .int .i64 0, .int .i64 0, .int .i64 0, .slice none 0 0] 26)) := (Below.refl _ _).alloc (Nat.le_refl _) _
  have HQ1 : Hid (SevIn w1.heap.size (.int .i64 9) (.string ⟨#[]⟩) (.string ⟨#[]⟩) (.int .i64 0) (.int .i64 0) (.int .i64 0) (.slice none 0 0) (w1.alloc (.cells #[.int .i64 9, .string ⟨#[]⟩, .string ⟨#[]⟩, .int .i64 0, .int .i64 0, .int .i64 0, .slice none 0 0] 26))) := SevIn.born _ _ _ _ _ _ _ _
  have HRQ : Hid (SevIn w.heap.size (.int .i64 0) (.string ⟨#[]⟩) (.string ⟨#[]⟩) (.int .i64 0) (.int .i64 0) (.int .i64 0) (.slice none 0 0) (w1.alloc (.cells #[.int .i64 9, .string ⟨#[]⟩, .string ⟨#[]⟩, .int .i64 0, .int .i64 0, .int .i64 0, .slice none 0 0] 26))) := HR1.out.go hbq
  have HOQ : Hid (Only b w (w1.alloc (.cells #[.int .i64 9, .string ⟨#[]⟩, .string ⟨#[]⟩, .int .i64 0, .int .i64 0, .int .i64 0, .slice none 0 0] 26))) := HO1.out.trans (Only.of hbq)
  have HLQ : Hid (b < w1.heap.size ∧ w.heap.size < w1.heap.size) := ⟨hr1.at_.lt, HR1.out.lt⟩
  have hrq := hr1.go hbq
  clear hbq hr1 HR1 HO1
  go_wp2_with fail
  refine (c2 _ hrq).mono ?_
  rintro e w2 ⟨rfl, hr2, ho2⟩
  have HQ2 : Hid (SevIn w1.heap.size (.int .i64 9) (.string ⟨#[]⟩) (.string ⟨#[]⟩) (.int .i64 0) (.int .i64 0) (.int .i64 0) (.slice none 0 0) w2) := HQ1.out.only ho2 (by have := HLQ.out; omega)
  have HR2 : Hid (SevIn w.heap.size (.int .i64 0) (.string ⟨#[]⟩) (.string ⟨#[]⟩) (.int .i64 0) (.int .i64 0) (.int .i64 0) (.slice none 0 0) w2) := HRQ.out.only ho2 (by have := HLT.out; omega)
  have HO2 : Hid (Only b w w2) := HOQ.out.trans ho2
  clear ho2 hrq HQ1 HRQ c2
  go_wp2_with fail
  refine (c3 _ hr2).mono ?_
  rintro e w3 ⟨rfl, hr3, ho3⟩
  have HQ3 : Hid (SevIn w1.heap.size (.int .i64 9) (.string ⟨#[]⟩) (.string ⟨#[]⟩) (.int .i64 0) (.int .i64 0) (.int .i64 0) (.slice none 0 0) w3) := HQ2.out.only ho3 (by have := HLQ.out; omega)
  have HR3 : Hid (SevIn w.heap.size (.int .i64 0) (.string ⟨#[]⟩) (.string ⟨#[]⟩) (.int .i64 0) (.int .i64 0) (.int .i64 0) (.slice none 0 0) w3) := HR2.out.only ho3 (by have := HLT.out; omega)
  have HO3 : Hid (Only b w w3) := HO2.out.trans ho3
  clear ho3 hr2 HQ2 HR2 c3
  obtain ⟨s0, s1, s2, s3, s4, s5, s6⟩ := HR3.out.cells
  obtain ⟨q0, q1, q2, q3, q4, q5, q6⟩ := HQ3.out.cells
  have zr0 := HR3.out.frozen 0
  have zq0 := HQ3.out.frozen 0
  have zr1 := HR3.out.frozen 1
  have zq1 := HQ3.out.frozen 1
  have zr2 := HR3.out.frozen 2
  have zq2 := HQ3.out.frozen 2
  have zr3 := HR3.out.frozen 3
  have zq3 := HQ3.out.frozen 3
  have zr4 := HR3.out.frozen 4
  have zq4 := HQ3.out.frozen 4
  have zr5 := HR3.out.frozen 5
  have zq5 := HQ3.out.frozen 5
  have zr6 := HR3.out.frozen 6
  have zq6 := HQ3.out.frozen 6
  have hne : w.heap.size ≠ w1.heap.size := by have := HLQ.out; omega
  go_wp2_with fail
  have hl := HLT.out
  have hl2 := HLQ.out
  refine bodyPost_ret (v := Rq.val ⟨9, nm0, ⟨#[]⟩, 0, 0, nn, []⟩ (.slice none 0 0)) ?_ rfl ?_
  · simp [results, Tryz.results17, go_sem, s0, s1, s2, s3, s4, s5, s6, Rq.val]
  · rw [HREQ.out]
    refine ⟨⟨_, rfl, crow_nil _ _⟩, RS.mid (R := w.heap.size) (Q := w1.heap.size) hr3 ?_ (by omega) (by omega), Only.mid (R := w.heap.size) (Q := w1.heap.size) HO3.out ?_ (by omega) (by omega)⟩
    all_goals repeat (first | refine Mid.set ?_ (by first | exact Or.inl rfl | exact Or.inr rfl) | exact Mid.refl _ _ _)

set_option maxRecDepth 20000 in
set_option maxHeartbeats 2000000 in
theorem request_10 (b : Nat) (r : Rd) (w : World) (h : RS w b r) (hv : r.verb.1 = 10) :
    Calls Tryz.prog 17 #[.pointer (some ⟨b, 0, none⟩)] w (ReqOut b w r.request) := by
  have hlt := h.at_.lt
  have HLT : Hid (b < w.heap.size) := hlt
  have HREQ : Hid (r.request = (⟨10, ⟨#[]⟩, ⟨#[]⟩, 0, 0, 0, []⟩, r.verb.2)) := by
    show _ = _
    unfold Rd.request
    simp only [hv]
    rfl
  have R0 := SevIn.born w (.int .i64 0) (.string ⟨#[]⟩) (.string ⟨#[]⟩) (.int .i64 0) (.int .i64 0) (.int .i64 0) (.slice none 0 0)
  have hb0 : Below w.heap.size w (w.alloc (.cells #[.int .i64 0, .string ⟨#[]⟩, .string ⟨#[]⟩, .int .i64 0, .int .i64 0, .int .i64 0, .slice none 0 0] 26)) := (Below.refl _ _).alloc (Nat.le_refl _) _
  have c1 := verbS_any b r _ (h.go hb0)
  rw [hv] at c1
  generalize r.verb.2 = r1 at *
  generalize r.request = RQ at *
  clear h hlt hv
  generalize hw0 : w.alloc (.cells #[.int .i64 0, .string ⟨#[]⟩, .string ⟨#[]⟩, .int .i64 0, .int .i64 0, .int .i64 0, .slice none 0 0] 26) = w0 at *
  have HB0 : Hid (Below w.heap.size w w0) := hb0
  have HR0 : Hid (SevIn w.heap.size (.int .i64 0) (.string ⟨#[]⟩) (.string ⟨#[]⟩) (.int .i64 0) (.int .i64 0) (.int .i64 0) (.slice none 0 0) w0) := R0
  clear hb0 R0
  go_enter Tryz.func17, Tryz.ntmps17
  go_wp2_with fail
  clear hw0
  refine c1.mono ?_
  rintro e w1 ⟨rfl, hr1, ho1⟩
  have HO1 : Hid (Only b w w1) := (Only.of HB0.out).trans ho1
  have HR1 : Hid (SevIn w.heap.size (.int .i64 0) (.string ⟨#[]⟩) (.string ⟨#[]⟩) (.int .i64 0) (.int .i64 0) (.int .i64 0) (.slice none 0 0) w1) := HR0.out.only ho1 (by have := HLT.out; omega)
  clear c1 ho1 HR0 HB0
  have hbq : Below w1.heap.size w1 (w1.alloc (.cells #[.int .i64 10, .string ⟨#[]⟩, .string ⟨#[]⟩, .int .i64 0, .int .i64 0, .int .i64 0, .slice none 0 0] 26)) := (Below.refl _ _).alloc (Nat.le_refl _) _
  have HQ1 : Hid (SevIn w1.heap.size (.int .i64 10) (.string ⟨#[]⟩) (.string ⟨#[]⟩) (.int .i64 0) (.int .i64 0) (.int .i64 0) (.slice none 0 0) (w1.alloc (.cells #[.int .i64 10, .string ⟨#[]⟩, .string ⟨#[]⟩, .int .i64 0, .int .i64 0, .int .i64 0, .slice none 0 0] 26))) := SevIn.born _ _ _ _ _ _ _ _
  have HRQ : Hid (SevIn w.heap.size (.int .i64 0) (.string ⟨#[]⟩) (.string ⟨#[]⟩) (.int .i64 0) (.int .i64 0) (.int .i64 0) (.slice none 0 0) (w1.alloc (.cells #[.int .i64 10, .string ⟨#[]⟩, .string ⟨#[]⟩, .int .i64 0, .int .i64 0, .int .i64 0, .slice none 0 0] 26))) := HR1.out.go hbq
  have HOQ : Hid (Only b w (w1.alloc (.cells #[.int .i64 10, .string ⟨#[]⟩, .string ⟨#[]⟩, .int .i64 0, .int .i64 0, .int .i64 0, .slice none 0 0] 26))) := HO1.out.trans (Only.of hbq)
  have HLQ : Hid (b < w1.heap.size ∧ w.heap.size < w1.heap.size) := ⟨hr1.at_.lt, HR1.out.lt⟩
  have hrq := hr1.go hbq
  clear hbq hr1 HR1 HO1
  obtain ⟨s0, s1, s2, s3, s4, s5, s6⟩ := HRQ.out.cells
  obtain ⟨q0, q1, q2, q3, q4, q5, q6⟩ := HQ1.out.cells
  have zr0 := HRQ.out.frozen 0
  have zq0 := HQ1.out.frozen 0
  have zr1 := HRQ.out.frozen 1
  have zq1 := HQ1.out.frozen 1
  have zr2 := HRQ.out.frozen 2
  have zq2 := HQ1.out.frozen 2
  have zr3 := HRQ.out.frozen 3
  have zq3 := HQ1.out.frozen 3
  have zr4 := HRQ.out.frozen 4
  have zq4 := HQ1.out.frozen 4
  have zr5 := HRQ.out.frozen 5
  have zq5 := HQ1.out.frozen 5
  have zr6 := HRQ.out.frozen 6
  have zq6 := HQ1.out.frozen 6
  have hne : w.heap.size ≠ w1.heap.size := by have := HLQ.out; omega
  go_wp2_with fail
  have hl := HLT.out
  have hl2 := HLQ.out
  refine bodyPost_ret (v := Rq.val ⟨10, ⟨#[]⟩, ⟨#[]⟩, 0, 0, 0, []⟩ (.slice none 0 0)) ?_ rfl ?_
  · simp [results, Tryz.results17, go_sem, s0, s1, s2, s3, s4, s5, s6, Rq.val]
  · rw [HREQ.out]
    refine ⟨⟨_, rfl, crow_nil _ _⟩, RS.mid (R := w.heap.size) (Q := w1.heap.size) hrq ?_ (by omega) (by omega), Only.mid (R := w.heap.size) (Q := w1.heap.size) HOQ.out ?_ (by omega) (by omega)⟩
    all_goals repeat (first | refine Mid.set ?_ (by first | exact Or.inl rfl | exact Or.inr rfl) | exact Mid.refl _ _ _)

end Go.Proofs.YtpghbchbhjbbiaaGreatDoor
