/- speech.Read of the line of one question mark: it is refused with 4. -/
import Derived.Test.YtpldaghhledjlaaGreatDoorSpVerb
import Derived.Test.YtpldaghhledjlaaGreatDoorSpShelf
import Derived.Test.YtpldaghhledjlaaGreatDoorHoLab
namespace Go.Proofs.YtpldaghhledjlaaGreatDoor
open Go.RowKit

/-- a reader of short words, where the listed variables are as they are laid -/
structure RS (w : World) (b : Nat) (r : Rd) : Prop where
  at_ : RdAt w b r
  vars : Vars w
  room : 9 ≤ b
  small : ∀ x ∈ r.ws, x.size ≤ 6000
theorem need_ws (r : Rd) (ok : Bool) (e : Int) : (r.need ok e).ws = r.ws := by
  unfold Rd.need
  split <;> rfl
theorem RS.only {w w' : World} {b : Nat} {r r' : Rd} (h : RS w b r) (ho : Only b w w') (hr : RdAt w' b r') (hs : ∀ x ∈ r'.ws, x ∈ r.ws) : RS w' b r' :=
  ⟨hr, h.vars.only ho h.room, h.room, fun x hx => h.small x (hs x hx)⟩
theorem RS.go {w w' : World} {b : Nat} {r : Rd} (h : RS w b r) (hb : Below w.heap.size w w') : RS w' b r := ⟨h.at_.go hb, h.vars.below hb, h.room, h.small⟩
theorem RS.other {w w' : World} {b c : Nat} {r : Rd} (h : RS w b r) (ho : Only c w w') (hc : b < c) : RS w' b r := ⟨h.at_.other ho hc, h.vars.only ho (by have := h.room; omega), h.room, h.small⟩
theorem word_ws (r : Rd) : ∀ x ∈ r.word.2.ws, x ∈ r.ws := by
  unfold Rd.word
  split
  · split
    · rename_i h; intro x hx; simp at hx
    · rename_i y t h; intro x hx; rw [h]; exact List.mem_cons_of_mem _ hx
  · intro x hx; exact hx
theorem word_small {w : World} {b : Nat} {r : Rd} (h : RS w b r) : r.word.1.size ≤ 6000 := by
  unfold Rd.word
  split
  · split
    · exact Nat.zero_le _
    · rename_i y t hy; exact h.small y (by rw [hy]; exact List.mem_cons_self)
  · exact Nat.zero_le _
theorem wordS_any (b : Nat) (r : Rd) (w : World) (h : RS w b r) :
    Calls Tryz.prog 121 #[.pointer (some ⟨b, 0, none⟩)] w fun e w' => e = .returned (.string r.word.1) ∧ RS w' b r.word.2 ∧ Only b w w' :=
  (word_any b r w h.at_).mono fun _ _ ⟨he, hr, ho⟩ => ⟨he, h.only ho hr (word_ws r), ho⟩
theorem needS_any (b : Nat) (r : Rd) (ok : Bool) (e0 : Int) (w : World) (h : RS w b r) :
    Calls Tryz.prog 86 #[.pointer (some ⟨b, 0, none⟩), .bool ok, .int .i64 e0] w fun e w' => e = .returned (.tuple #[]) ∧ RS w' b (r.need ok e0) ∧ Only b w w' :=
  (need_any b r ok e0 w h.at_).mono fun _ _ ⟨he, hr, ho⟩ => ⟨he, h.only ho hr (by rw [need_ws]; exact fun _ hx => hx), ho⟩
theorem verbS_any (b : Nat) (r : Rd) (w : World) (h : RS w b r) :
    Calls Tryz.prog 80 #[.pointer (some ⟨b, 0, none⟩)] w fun e w' => e = .returned (.int .i64 r.verb.1) ∧ RS w' b r.verb.2 ∧ Only b w w' :=
  (verb_any b r w h.at_ h.vars h.room).mono fun _ _ ⟨he, hr, ho⟩ => ⟨he, h.only ho hr (by unfold Rd.verb; rw [need_ws]; exact word_ws r), ho⟩

/-- a request -/
structure Rq where
  verb : Int
  name : ByteArray
  other : ByteArray
  born : Int
  live : Int
  n : Int
  cells : List (Int × Int)
def Rq.val (q : Rq) (v : Value) : Value := .agg #[.int .i64 q.verb, .string q.name, .string q.other, .int .i64 q.born, .int .i64 q.live, .int .i64 q.n, v]
def noRq : Rq := ⟨0, ⟨#[]⟩, ⟨#[]⟩, 0, 0, 0, []⟩
/-- nothing but two blocks is written -/
structure Mid (R Q : Nat) (w w' : World) : Prop where
  os : w'.os = w.os
  tape : w'.tape = w.tape
  output : w'.output = w.output
  size : w'.heap.size = w.heap.size
  block : ∀ k, k ≠ R → k ≠ Q → w'.heap[k]? = w.heap[k]?
theorem Mid.refl (R Q : Nat) (w : World) : Mid R Q w w := ⟨rfl, rfl, rfl, rfl, fun _ _ _ => rfl⟩
theorem Mid.set {R Q k i : Nat} {v : Value} {w w1 : World} (h : Mid R Q w w1) (hk : k = R ∨ k = Q) : Mid R Q w (w1.setCell ⟨k, i, none⟩ v) :=
  ⟨h.os, h.tape, h.output, by rw [← h.size]; simp [World.setCell], fun j h1 h2 => (Below.heap_setCell _ _ _ _ (by show j ≠ k; omega)).trans (h.block j h1 h2)⟩
theorem RS.mid {R Q b : Nat} {w w' : World} {r : Rd} (h : RS w b r) (hm : Mid R Q w w') (h1 : b < R) (h2 : b < Q) : RS w' b r :=
  ⟨h.at_.keep fun k hk => hm.block k (by omega) (by omega), h.vars.keep (fun k hk => hm.block k (by have := h.room; omega) (by have := h.room; omega)) (Nat.le_of_eq hm.size.symm), h.room, h.small⟩
theorem Only.mid {R Q b : Nat} {w w1 w' : World} (h : Only b w w1) (hm : Mid R Q w1 w') (h1 : w.heap.size ≤ R) (h2 : w.heap.size ≤ Q) : Only b w w' :=
  ⟨hm.os.trans h.os, hm.tape.trans h.tape, hm.output.trans h.output, by rw [hm.size]; exact h.size, fun k hk hne => (hm.block k (by omega) (by omega)).trans (h.block k hk hne)⟩
/-- seven cells in a block, free to be written -/
def SevIn (Q : Nat) (a b c d e f g : Value) (w : World) : Prop := w.heap[Q]? = some (.cells #[a, b, c, d, e, f, g] 101 (0, 0))
theorem SevIn.lt {Q : Nat} {a b c d e f g : Value} {w : World} (h : SevIn Q a b c d e f g w) : Q < w.heap.size := (Array.getElem?_eq_some_iff.1 h).1
theorem SevIn.only {Q k : Nat} {a b c d e f g : Value} {w w' : World} (h : SevIn Q a b c d e f g w) (ho : Only k w w') (hne : Q ≠ k) : SevIn Q a b c d e f g w' := (ho.block Q h.lt hne).trans h
theorem SevIn.go {Q : Nat} {a b c d e f g : Value} {w w' : World} (h : SevIn Q a b c d e f g w) (hb : Below w.heap.size w w') : SevIn Q a b c d e f g w' := (hb.block Q h.lt).trans h
theorem SevIn.born (w : World) (a b c d e f g : Value) : SevIn w.heap.size a b c d e f g (w.alloc (.cells #[a, b, c, d, e, f, g] 101)) := by
  unfold SevIn
  rw [← World.alloc_eq]
  simp
theorem SevIn.cells {Q : Nat} {a b c d e f g : Value} {w : World} (h : SevIn Q a b c d e f g w) : w.cell? ⟨Q, 0, none⟩ = some a ∧ w.cell? ⟨Q, 1, none⟩ = some b ∧ w.cell? ⟨Q, 2, none⟩ = some c ∧ w.cell? ⟨Q, 3, none⟩ = some d ∧ w.cell? ⟨Q, 4, none⟩ = some e ∧ w.cell? ⟨Q, 5, none⟩ = some f ∧ w.cell? ⟨Q, 6, none⟩ = some g :=
  ⟨by rw [Lib.cell_of_heap h]; rfl, by rw [Lib.cell_of_heap h]; rfl, by rw [Lib.cell_of_heap h]; rfl, by rw [Lib.cell_of_heap h]; rfl, by rw [Lib.cell_of_heap h]; rfl, by rw [Lib.cell_of_heap h]; rfl, by rw [Lib.cell_of_heap h]; rfl⟩
theorem SevIn.frozen {Q : Nat} {a b c d e f g : Value} {w : World} (h : SevIn Q a b c d e f g w) (i : Nat) : w.frozen? ⟨Q, i, none⟩ = false := Lib.frozen_of_heap h i

set_option maxRecDepth 20000 in
set_option maxHeartbeats 2000000 in
theorem request_0 (b : Nat) (r : Rd) (w : World) (h : RS w b r) (hv : r.verb.1 = 0) :
    Calls Tryz.prog 57 #[.pointer (some ⟨b, 0, none⟩)] w fun e w' => e = .returned (noRq.val (.slice none 0 0)) ∧ RS w' b r.verb.2 ∧ Only b w w' := by
  have hlt := h.at_.lt
  have HLT : Hid (b < w.heap.size) := hlt
  have R0 := SevIn.born w (.int .i64 0) (.string ⟨#[]⟩) (.string ⟨#[]⟩) (.int .i64 0) (.int .i64 0) (.int .i64 0) (.slice none 0 0)
  have hb0 : Below w.heap.size w (w.alloc (.cells #[.int .i64 0, .string ⟨#[]⟩, .string ⟨#[]⟩, .int .i64 0, .int .i64 0, .int .i64 0, .slice none 0 0] 101)) := (Below.refl _ _).alloc (Nat.le_refl _) _
  have c1 := verbS_any b r _ (h.go hb0)
  rw [hv] at c1
  generalize r.verb.2 = r1 at *
  clear h hlt hv
  generalize hw0 : w.alloc (.cells #[.int .i64 0, .string ⟨#[]⟩, .string ⟨#[]⟩, .int .i64 0, .int .i64 0, .int .i64 0, .slice none 0 0] 101) = w0 at *
  have HB0 : Hid (Below w.heap.size w w0) := hb0
  have HR0 : Hid (SevIn w.heap.size (.int .i64 0) (.string ⟨#[]⟩) (.string ⟨#[]⟩) (.int .i64 0) (.int .i64 0) (.int .i64 0) (.slice none 0 0) w0) := R0
  clear hb0 R0
  go_enter Tryz.func57, Tryz.ntmps57
  go_wp2_with fail
  clear hw0
  refine c1.mono ?_
  rintro e w1 ⟨rfl, hr1, ho1⟩
  have HO1 : Hid (Only b w w1) := (Only.of HB0.out).trans ho1
  have HR1 : Hid (SevIn w.heap.size (.int .i64 0) (.string ⟨#[]⟩) (.string ⟨#[]⟩) (.int .i64 0) (.int .i64 0) (.int .i64 0) (.slice none 0 0) w1) := HR0.out.only ho1 (by have := HLT.out; omega)
  clear c1 ho1 HR0 HB0
  have hbq : Below w1.heap.size w1 (w1.alloc (.cells #[.int .i64 0, .string ⟨#[]⟩, .string ⟨#[]⟩, .int .i64 0, .int .i64 0, .int .i64 0, .slice none 0 0] 101)) := (Below.refl _ _).alloc (Nat.le_refl _) _
  have HQ1 : Hid (SevIn w1.heap.size (.int .i64 0) (.string ⟨#[]⟩) (.string ⟨#[]⟩) (.int .i64 0) (.int .i64 0) (.int .i64 0) (.slice none 0 0) (w1.alloc (.cells #[.int .i64 0, .string ⟨#[]⟩, .string ⟨#[]⟩, .int .i64 0, .int .i64 0, .int .i64 0, .slice none 0 0] 101))) := SevIn.born _ _ _ _ _ _ _ _
  have HRQ : Hid (SevIn w.heap.size (.int .i64 0) (.string ⟨#[]⟩) (.string ⟨#[]⟩) (.int .i64 0) (.int .i64 0) (.int .i64 0) (.slice none 0 0) (w1.alloc (.cells #[.int .i64 0, .string ⟨#[]⟩, .string ⟨#[]⟩, .int .i64 0, .int .i64 0, .int .i64 0, .slice none 0 0] 101))) := HR1.out.go hbq
  have HOQ : Hid (Only b w (w1.alloc (.cells #[.int .i64 0, .string ⟨#[]⟩, .string ⟨#[]⟩, .int .i64 0, .int .i64 0, .int .i64 0, .slice none 0 0] 101))) := HO1.out.trans (Only.of hbq)
  have HLQ : Hid (b < w1.heap.size ∧ w.heap.size < w1.heap.size) := ⟨hr1.at_.lt, HR1.out.lt⟩
  have hrq := hr1.go hbq
  clear hbq hr1 HR1 HO1
  obtain ⟨s0, s1, s2, s3, s4, s5, s6⟩ := HRQ.out.cells
  obtain ⟨q0, q1, q2, q3, q4, q5, q6⟩ := HQ1.out.cells
  have zr0 := HRQ.out.frozen 0
  have zq0 := HQ1.out.frozen 0
  have zr1 := HRQ.out.frozen 1
  have zq1 := HQ1.out.frozen 1
  have zr2 := HRQ.out.frozen 2
  have zq2 := HQ1.out.frozen 2
  have zr3 := HRQ.out.frozen 3
  have zq3 := HQ1.out.frozen 3
  have zr4 := HRQ.out.frozen 4
  have zq4 := HQ1.out.frozen 4
  have zr5 := HRQ.out.frozen 5
  have zq5 := HQ1.out.frozen 5
  have zr6 := HRQ.out.frozen 6
  have zq6 := HQ1.out.frozen 6
  have hne : w.heap.size ≠ w1.heap.size := by have := HLQ.out; omega
  go_wp2_with fail
  have hl := HLT.out
  have hl2 := HLQ.out
  refine bodyPost_ret (v := Rq.val ⟨0, ⟨#[]⟩, ⟨#[]⟩, 0, 0, 0, []⟩ (.slice none 0 0)) ?_ rfl ?_
  · simp [results, Tryz.results57, go_sem, s0, s1, s2, s3, s4, s5, s6, Rq.val]
  · refine ⟨rfl, RS.mid (R := w.heap.size) (Q := w1.heap.size) hrq ?_ (by omega) (by omega), Only.mid (R := w.heap.size) (Q := w1.heap.size) HOQ.out ?_ (by omega) (by omega)⟩
    all_goals repeat (first | refine Mid.set ?_ (by first | exact Or.inl rfl | exact Or.inr rfl) | exact Mid.refl _ _ _)

def Rd.end_ (r : Rd) : Rd := r.need (decide (r.ws.length = 0)) 2
set_option maxRecDepth 20000 in
theorem end_any (b : Nat) (r : Rd) (w : World) (h : RS w b r) :
    Calls Tryz.prog 58 #[.pointer (some ⟨b, 0, none⟩)] w fun e w' => e = .returned (.tuple #[]) ∧ RS w' b r.end_ ∧ Only b w w' := by
  have c := needS_any b r (decide (r.ws.length = 0)) 2 w h
  obtain ⟨v, hb, a, k, rfl, hlc, hc4, hws⟩ := id h.at_
  have c0 : w.cell? ⟨b, 0, none⟩ = some (.slice a r.ws.length k) := by rw [Lib.cell_of_heap hb]; rfl
  have hq : ((r.ws.length : Int) == 0) = decide (r.ws.length = 0) := by by_cases h : r.ws.length = 0 <;> simp [h]
  have HE : Hid (r.end_ = r.need (decide (r.ws.length = 0)) 2) := rfl
  generalize r.ws.length = n at *
  generalize decide (n = 0) = ok at *
  clear hb hws hlc hc4 h
  go_enter Tryz.func58, Tryz.ntmps58
  go_wp2_with (go_at_call 86; refine c.mono ?_; rintro e w1 ⟨rfl, hr1, ho1⟩)
  go_end0
  rw [HE.out]
  exact ⟨rfl, hr1, ho1⟩

theorem split_q : Lib.splitB ⟨#[32]⟩ 0 (Lib.countB H.qm ⟨#[32]⟩) H.qm = [H.qm] := by decide
theorem count_q : Lib.countB H.qm ⟨#[32]⟩ = 0 := by decide
set_option maxRecDepth 20000 in
set_option maxHeartbeats 1000000 in
theorem begin_q (w : World) (hv : Vars w) :
    Calls Tryz.prog 56 #[.string H.qm] w fun e w' => ∃ b, e = .returned (.pointer (some ⟨b, 0, none⟩)) ∧ w.heap.size ≤ b ∧ RS w' b ⟨[H.qm], 0⟩ ∧ Below w.heap.size w w' := by
  have hroom := hv.room
  obtain ⟨m, hm⟩ := hv.max
  have hsz : H.qm.size = 1 := rfl
  have c := Tryz.strings_Split H.qm ⟨#[32]⟩ m w (by rw [hsz]; omega) hm (by decide)
  rw [split_q, count_q] at c
  have hi : ¬ (6000 : Int) < ((H.qm).size : Int) := by rw [hsz]; omega
  have HSM : Hid (∀ x ∈ [H.qm], x.size ≤ 6000) := fun x hx => by simp at hx; subst hx; rw [hsz]; omega
  generalize H.qm = q at *
  clear hsz
  go_enter Tryz.func56, Tryz.ntmps56
  go_wp2_with (go_at_call 79; refine c.mono ?_; rintro e w1 ⟨rfl, hw1⟩; have HW1 : Hid (w1 = w.alloc (.cells ([q].map Value.string).toArray 9)) := hw1; clear hw1)
  go_ret
  have hw1 := HW1.out
  have hb1 : Below w.heap.size w w1 := by rw [hw1]; exact (Below.refl _ _).alloc (Nat.le_refl _) _
  have hs1 : w1.heap.size = w.heap.size + 1 := by rw [hw1]; simp
  have hb : Below w1.heap.size w1 (w1.alloc (.cells #[.slice (some ⟨w.heap.size, 0, none⟩) 1 1, .int .i64 0] 127)) := (Below.refl _ _).alloc (Nat.le_refl _) _
  refine ⟨w1.heap.size, rfl, by omega, ?_, hb1.trans (hb.mono hb1.size)⟩
  refine ⟨⟨.slice (some ⟨w.heap.size, 0, none⟩) 1 1, by rw [← World.alloc_eq]; simp, some ⟨w.heap.size, 0, none⟩, 1, rfl, Nat.le_refl _, by omega, Or.inr ⟨w.heap.size, 0, rfl, by omega, ?_⟩⟩, (hv.below hb1).below hb, by omega, HSM.out⟩
  intro j x hj
  rw [World.cell?_alloc_past _ _ _ (by show w.heap.size < w1.heap.size; omega), hw1, World.cell?_alloc_new]
  match j, hj with
  | 0, hj => simp at hj; subst hj; simp
  | j + 1, hj => simp at hj
theorem vf_q : verbF H.qm = 0 := by decide
theorem verb_q : (⟨[H.qm], 0⟩ : Rd).verb = (0, ⟨[], 4⟩) := by
  unfold Rd.verb
  rw [show (⟨[H.qm], 0⟩ : Rd).word = (H.qm, ⟨[], 0⟩) from rfl, vf_q]
  rfl
theorem Mid.drewN {R Q : Nat} {w w1 : World} (h : Mid R Q w w1) (q : Nat) : Mid R Q w (w1.drewN q) := ⟨h.os, h.tape, h.output, h.size, h.block⟩
theorem Mid.drew {R Q : Nat} {w w1 : World} (h : Mid R Q w w1) : Mid R Q w w1.drew := ⟨h.os, h.tape, h.output, h.size, h.block⟩
theorem below_mid {R Q B : Nat} {w w1 w' : World} (h : Below B w w1) (hm : Mid R Q w1 w') (h1 : B ≤ R) (h2 : B ≤ Q) : Below B w w' :=
  ⟨hm.os.trans h.os, hm.tape.trans h.tape, hm.output.trans h.output, by rw [hm.size]; exact h.size, fun k hk => (hm.block k (by omega) (by omega)).trans (h.block k hk)⟩
set_option maxRecDepth 20000 in
set_option maxHeartbeats 2000000 in
theorem Read_q (w : World) (hv : Vars w) : Calls Tryz.prog 41 #[.string H.qm] w fun e w' => e = .returned (.tuple #[noRq.val (.slice none 0 0), .int .i64 4]) ∧ Below w.heap.size w w' := by
  have R0 := SevIn.born w (.int .i64 0) (.string ⟨#[]⟩) (.string ⟨#[]⟩) (.int .i64 0) (.int .i64 0) (.int .i64 0) (.slice none 0 0)
  have hb0 : Below w.heap.size w (w.alloc (.cells #[.int .i64 0, .string ⟨#[]⟩, .string ⟨#[]⟩, .int .i64 0, .int .i64 0, .int .i64 0, .slice none 0 0] 101)) := (Below.refl _ _).alloc (Nat.le_refl _) _
  have c1 := begin_q _ (hv.below hb0)
  have c2 := fun b W hW => request_0 b ⟨[H.qm], 0⟩ W hW (by rw [verb_q])
  have c3 := fun b W hW => end_any b ⟨[], 4⟩ W hW
  have he3 : (⟨[], 4⟩ : Rd).end_ = ⟨[], 4⟩ := rfl
  rw [he3] at c3
  rw [verb_q] at c2
  simp only at c2
  clear he3
  clear hv
  generalize hw0 : w.alloc (.cells #[.int .i64 0, .string ⟨#[]⟩, .string ⟨#[]⟩, .int .i64 0, .int .i64 0, .int .i64 0, .slice none 0 0] 101) = w0 at *
  have HB0 : Hid (Below w.heap.size w w0) := hb0
  have HR0 : Hid (SevIn w.heap.size (.int .i64 0) (.string ⟨#[]⟩) (.string ⟨#[]⟩) (.int .i64 0) (.int .i64 0) (.int .i64 0) (.slice none 0 0) w0) := R0
  clear hb0 R0
  go_enter Tryz.func41, Tryz.ntmps41
  go_wp2_with fail
  clear hw0
  refine c1.mono ?_
  rintro e w1 ⟨b, rfl, hbl, hr1, hb1⟩
  have HL1 : Hid (w.heap.size < b) := Nat.lt_of_lt_of_le HR0.out.lt hbl
  have HR1 : Hid (SevIn w.heap.size (.int .i64 0) (.string ⟨#[]⟩) (.string ⟨#[]⟩) (.int .i64 0) (.int .i64 0) (.int .i64 0) (.slice none 0 0) w1) := HR0.out.go hb1
  have HB1 : Hid (Below w.heap.size w w1) := HB0.out.trans (hb1.mono HB0.out.size)
  clear c1 HR0 HB0 hb1 hbl
  go_wp2_with fail
  refine (c2 b _ hr1).mono ?_
  rintro e w2 ⟨rfl, hr2, ho2⟩
  have HR2 : Hid (SevIn w.heap.size (.int .i64 0) (.string ⟨#[]⟩) (.string ⟨#[]⟩) (.int .i64 0) (.int .i64 0) (.int .i64 0) (.slice none 0 0) w2) := HR1.out.only ho2 (by have := HL1.out; omega)
  have HB2 : Hid (Below w.heap.size w w2) := HB1.out.trans (ho2.below (Nat.le_of_lt HL1.out) HB1.out.size)
  have hbw : b < w1.heap.size := hr1.at_.lt
  clear c2 ho2 HR1 HB1
  have hbq : Below w2.heap.size w2 (w2.alloc (.cells #[.int .i64 0, .string ⟨#[]⟩, .string ⟨#[]⟩, .int .i64 0, .int .i64 0, .int .i64 0, .slice none 0 0] 101)) := (Below.refl _ _).alloc (Nat.le_refl _) _
  have hq3 := SevIn.born w2 (.int .i64 0) (.string ⟨#[]⟩) (.string ⟨#[]⟩) (.int .i64 0) (.int .i64 0) (.int .i64 0) (.slice none 0 0)
  have hR3 := HR2.out.go hbq
  have hr3 := hr2.go hbq
  have HB3 : Hid (Below w.heap.size w (w2.alloc (.cells #[.int .i64 0, .string ⟨#[]⟩, .string ⟨#[]⟩, .int .i64 0, .int .i64 0, .int .i64 0, .slice none 0 0] 101))) := HB2.out.trans (hbq.mono HB2.out.size)
  have HLB : Hid (b < w2.heap.size ∧ w.heap.size < w2.heap.size) := ⟨hr2.at_.lt, HR2.out.lt⟩
  clear hr2 HR2 HB2 hbq hr1
  unfold noRq Rq.val
  go_wp2_with fail
  refine (c3 b _ hr3).mono ?_
  rintro e w4 ⟨rfl, hr4, ho4⟩
  have hl := HL1.out
  have hlb := HLB.out
  have hq4 := hq3.only ho4 (by omega)
  have hR4 := hR3.only ho4 (by omega)
  have HB4 : Hid (Below w.heap.size w w4) := HB3.out.trans (ho4.below (Nat.le_of_lt HL1.out) HB3.out.size)
  obtain ⟨u4, hb4, _⟩ := hr4.at_
  have ce : w4.cell? ⟨b, 1, none⟩ = some (.int .i64 4) := by rw [Lib.cell_of_heap hb4]; rfl
  clear hq3 hR3 ho4 hr3 hb4 hr4 c3
  obtain ⟨s0, s1, s2, s3, s4, s5, s6⟩ := hR4.cells
  obtain ⟨q0, q1, q2, q3, q4, q5, q6⟩ := hq4.cells
  have zr0 := hR4.frozen 0
  have zr1 := hR4.frozen 1
  have zr2 := hR4.frozen 2
  have zr3 := hR4.frozen 3
  have zr4 := hR4.frozen 4
  have zr5 := hR4.frozen 5
  have zr6 := hR4.frozen 6
  have hne : w.heap.size ≠ w2.heap.size := by omega
  have hne2 : w.heap.size ≠ b := by omega
  clear hl hlb hbw
  go_wp2_with fail
  go_region
  go_wp2_with fail
  refine bodyPost_ret (v := .tuple #[noRq.val (.slice none 0 0), .int .i64 4]) ?_ rfl ?_
  · simp [results, Tryz.results41, go_sem, s0, s1, s2, s3, s4, s5, s6, Rq.val, noRq]
  · refine ⟨rfl, ?_⟩
    refine below_mid (R := w.heap.size) (Q := w.heap.size) HB4.out ?_ (Nat.le_refl _) (Nat.le_refl _)
    refine Mid.drew ?_
    repeat (first | refine Mid.set ?_ (Or.inl rfl) | exact Mid.refl _ _ _)
end Go.Proofs.YtpldaghhledjlaaGreatDoor
