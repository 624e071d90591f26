/- begin, end and Read. -/
import Derived.Test.YtpghbchbhjbbiaaGreatDoorSpReq
import Derived.Test.YtpghbchbhjbbiaaGreatDoorSpPure
namespace Go.Proofs.YtpghbchbhjbbiaaGreatDoor
open Go.RowKit

theorem verb_le (r : Rd) : r.verb.1 ≤ 10 := by
  show verbF r.word.1 ≤ 10
  unfold verbF
  repeat' split
  all_goals omega
theorem verb_ws (r : Rd) : ∀ x ∈ r.verb.2.ws, x ∈ r.ws := by
  unfold Rd.verb
  rw [need_ws]
  exact word_ws r
theorem word_len (r : Rd) : r.word.2.ws.length ≤ r.ws.length := by
  unfold Rd.word
  split
  · split
    · simp
    · rename_i y t h; rw [h]; simp
  · exact Nat.le_refl _
theorem request_any (b : Nat) (r : Rd) (w : World) (h : RS w b r) (hn : r.ws.length ≤ 7000) :
    Calls Tryz.prog 17 #[.pointer (some ⟨b, 0, none⟩)] w (ReqOut b w r.request) := by
  have hle := verb_le r
  have h2 : r.verb.2.place.2.ws.length ≤ 7000 := by
    unfold Rd.place
    rw [need_ws]
    have h3 := word_len r.verb.2
    have h4 : r.verb.2.ws.length ≤ r.ws.length := by
      unfold Rd.verb
      rw [need_ws]
      exact word_len r
    omega
  have hc : r.verb.1 = 0 ∨ r.verb.1 = 1 ∨ r.verb.1 = 2 ∨ r.verb.1 = 3 ∨ r.verb.1 = 4 ∨ r.verb.1 = 5 ∨ r.verb.1 = 6 ∨ r.verb.1 = 7 ∨ r.verb.1 = 8 ∨ r.verb.1 = 9 ∨ r.verb.1 = 10 := by omega
  rcases hc with h0 | h0 | h0 | h0 | h0 | h0 | h0 | h0 | h0 | h0 | h0
  · exact request_0 b r w h h0
  · exact request_1 b r w h h0
  · exact request_2 b r w h h0 h2
  · exact request_3 b r w h h0
  · exact request_4 b r w h h0
  · exact request_5 b r w h h0
  · exact request_6 b r w h h0
  · exact request_7 b r w h h0
  · exact request_8 b r w h h0
  · exact request_9 b r w h h0
  · exact request_10 b r w h h0

def Rd.end_ (r : Rd) : Rd := r.need (decide (r.ws.length = 0)) 2
set_option maxRecDepth 20000 in
theorem end_any (b : Nat) (r : Rd) (w : World) (h : RS w b r) :
    Calls Tryz.prog 18 #[.pointer (some ⟨b, 0, none⟩)] w fun e w' => e = .returned (.tuple #[]) ∧ RS w' b r.end_ ∧ Only b w w' := by
  have c := needS_any b r (decide (r.ws.length = 0)) 2 w h
  obtain ⟨v, hb, a, k, rfl, hlc, hc4, hws⟩ := id h.at_
  have c0 : w.cell? ⟨b, 0, none⟩ = some (.slice a r.ws.length k) := by rw [Lib.cell_of_heap hb]; rfl
  have hq : ((r.ws.length : Int) == 0) = decide (r.ws.length = 0) := by by_cases h : r.ws.length = 0 <;> simp [h]
  have HE : Hid (r.end_ = r.need (decide (r.ws.length = 0)) 2) := rfl
  generalize r.ws.length = n at *
  generalize decide (n = 0) = ok at *
  clear hb hws hlc hc4 h
  go_enter Tryz.func18, Tryz.ntmps18
  go_wp2_with (go_at_call 39; refine c.mono ?_; rintro e w1 ⟨rfl, hr1, ho1⟩)
  go_end0
  rw [HE.out]
  exact ⟨rfl, hr1, ho1⟩

def beginF (s : ByteArray) : Rd := if s.size > 6000 then ⟨[], 1⟩ else ⟨wordsOf s, 0⟩
theorem words_len (s : ByteArray) : (wordsOf s).length = Lib.countB s ⟨#[32]⟩ + 1 := Lib.splitB_all ⟨#[32]⟩ (by decide) 0 _ s rfl

set_option maxRecDepth 20000 in
set_option maxHeartbeats 1000000 in
theorem begin_any (s : ByteArray) (w : World) (hv : Vars w) :
    Calls Tryz.prog 16 #[.string s] w fun e w' => ∃ b, e = .returned (.pointer (some ⟨b, 0, none⟩)) ∧ w.heap.size ≤ b ∧ RS w' b (beginF s) ∧ Below w.heap.size w w' := by
  have hroom := hv.room
  by_cases h : s.size > 6000
  · have HB : Hid (beginF s = ⟨[], 1⟩) := by show _ = _; unfold beginF; rw [if_pos h]
    have hi : (6000 : Int) < (s.size : Int) := by omega
    go_enter Tryz.func16, Tryz.ntmps16
    go_wp2_with fail
    go_ret
    have hb : Below w.heap.size w (w.alloc (.cells #[.slice none 0 0, .int .i64 1] 43)) := (Below.refl _ _).alloc (Nat.le_refl _) _
    refine ⟨w.heap.size, rfl, Nat.le_refl _, ?_, hb⟩
    rw [HB.out]
    refine ⟨⟨.slice none 0 0, by rw [← World.alloc_eq]; simp, none, 0, rfl, Nat.le_refl _, by omega, Or.inl rfl⟩, hv.below hb, hroom, fun x hx => by simp at hx⟩
  · have HB : Hid (beginF s = ⟨wordsOf s, 0⟩) := by show _ = _; unfold beginF; rw [if_neg h]
    have hi : ¬ (6000 : Int) < (s.size : Int) := by omega
    obtain ⟨m, hm⟩ := hv.max
    have c := Tryz.strings_Split s ⟨#[32]⟩ m w (by omega) hm (by decide)
    have hle := Lib.countB_le ⟨#[32]⟩ (by decide) s.size s (Nat.le_refl _)
    have hwl := words_len s
    have e1 : Lib.splitB ⟨#[32]⟩ 0 (Lib.countB s ⟨#[32]⟩) s = wordsOf s := rfl
    rw [e1] at c
    generalize Lib.countB s ⟨#[32]⟩ = k at *
    have HW : Hid ((wordsOf s).length = k + 1 ∧ k ≤ s.size ∧ s.size ≤ 6000) := ⟨hwl, hle, by omega⟩
    have HSM : Hid (∀ x ∈ wordsOf s, x.size ≤ 6000) := fun x hx => by have := words_small s x hx; omega
    generalize wordsOf s = ws at *
    clear hwl hle e1
    go_enter Tryz.func16, Tryz.ntmps16
    go_wp2_with (go_at_call 32; refine c.mono ?_; rintro e w1 ⟨rfl, hw1⟩; have HW1 : Hid (w1 = w.alloc (.cells (ws.map Value.string).toArray 9)) := hw1; clear hw1)
    go_ret
    have hw1 := HW1.out
    have hb1 : Below w.heap.size w w1 := by rw [hw1]; exact (Below.refl _ _).alloc (Nat.le_refl _) _
    have hs1 : w1.heap.size = w.heap.size + 1 := by rw [hw1]; simp
    have hb : Below w1.heap.size w1 (w1.alloc (.cells #[.slice (some ⟨w.heap.size, 0, none⟩) (k + 1) (k + 1), .int .i64 0] 43)) := (Below.refl _ _).alloc (Nat.le_refl _) _
    have hx := HW.out
    refine ⟨w1.heap.size, rfl, by omega, ?_, hb1.trans (hb.mono hb1.size)⟩
    rw [HB.out]
    refine ⟨⟨.slice (some ⟨w.heap.size, 0, none⟩) (k + 1) (k + 1), by rw [← World.alloc_eq]; simp, some ⟨w.heap.size, 0, none⟩, k + 1, by rw [hx.1], by rw [hx.1]; exact Nat.le_refl _, by omega, Or.inr ⟨w.heap.size, 0, rfl, by omega, ?_⟩⟩, (hv.below hb1).below hb, by omega, HSM.out⟩
    intro j x hj
    rw [World.cell?_alloc_past _ _ _ (by show w.heap.size < w1.heap.size; omega), hw1, World.cell?_alloc_new]
    simp [hj]

theorem Mid.drewN {R Q : Nat} {w w1 : World} (h : Mid R Q w w1) (q : Nat) : Mid R Q w (w1.drewN q) := ⟨h.os, h.tape, h.output, h.size, h.block⟩
theorem Mid.drew {R Q : Nat} {w w1 : World} (h : Mid R Q w w1) : Mid R Q w w1.drew := ⟨h.os, h.tape, h.output, h.size, h.block⟩
theorem below_mid {R Q B : Nat} {w w1 w' : World} (h : Below B w w1) (hm : Mid R Q w1 w') (h1 : B ≤ R) (h2 : B ≤ Q) : Below B w w' :=
  ⟨hm.os.trans h.os, hm.tape.trans h.tape, hm.output.trans h.output, by rw [hm.size]; exact h.size, fun k hk => (hm.block k (by omega) (by omega)).trans (h.block k hk)⟩
/-- what Read answers -/
def readRq (s : ByteArray) : Rq × Int := if (beginF s).request.2.end_.e = 0 then ((beginF s).request.1, 0) else (noRq, (beginF s).request.2.end_.e)
def ReadOut (s : ByteArray) (w : World) (e : Ending) (w' : World) : Prop := Below w.heap.size w w' ∧ ∃ v, e = .returned (.tuple #[(readRq s).1.val v, .int .i64 (readRq s).2]) ∧ CRow w' w.heap.size v (readRq s).1.cells

set_option maxRecDepth 20000 in
set_option maxHeartbeats 2000000 in
theorem Read_any (s : ByteArray) (w : World) (hv : Vars w) : Calls Tryz.prog 7 #[.string s] w (ReadOut s w) := by
  have R0 := SevIn.born w (.int .i64 0) (.string ⟨#[]⟩) (.string ⟨#[]⟩) (.int .i64 0) (.int .i64 0) (.int .i64 0) (.slice none 0 0)
  have hb0 : Below w.heap.size w (w.alloc (.cells #[.int .i64 0, .string ⟨#[]⟩, .string ⟨#[]⟩, .int .i64 0, .int .i64 0, .int .i64 0, .slice none 0 0] 26)) := (Below.refl _ _).alloc (Nat.le_refl _) _
  have c1 := begin_any s _ (hv.below hb0)
  have hn : (beginF s).ws.length ≤ 7000 := by
    unfold beginF
    split
    · simp
    · have := words_count s; simp only; omega
  have c2 := fun b W hW => request_any b (beginF s) W hW hn
  have HR : Hid (readRq s = if (beginF s).request.2.end_.e = 0 then ((beginF s).request.1, 0) else (noRq, (beginF s).request.2.end_.e)) := rfl
  generalize beginF s = r0 at *
  generalize r0.request = rq at *
  obtain ⟨q, r1⟩ := rq
  have c3 := fun b W hW => end_any b r1 W hW
  simp only at HR
  generalize r1.end_ = r2 at *
  clear hn hv
  generalize hw0 : w.alloc (.cells #[.int .i64 0, .string ⟨#[]⟩, .string ⟨#[]⟩, .int .i64 0, .int .i64 0, .int .i64 0, .slice none 0 0] 26) = w0 at *
  have HB0 : Hid (Below w.heap.size w w0) := hb0
  have HR0 : Hid (SevIn w.heap.size (.int .i64 0) (.string ⟨#[]⟩) (.string ⟨#[]⟩) (.int .i64 0) (.int .i64 0) (.int .i64 0) (.slice none 0 0) w0) := R0
  clear hb0 R0
  go_enter Tryz.func7, Tryz.ntmps7
  go_wp2_with fail
  clear hw0
  refine c1.mono ?_
  rintro e w1 ⟨b, rfl, hbl, hr1, hb1⟩
  have HL1 : Hid (w.heap.size < b) := Nat.lt_of_lt_of_le HR0.out.lt hbl
  have HR1 : Hid (SevIn w.heap.size (.int .i64 0) (.string ⟨#[]⟩) (.string ⟨#[]⟩) (.int .i64 0) (.int .i64 0) (.int .i64 0) (.slice none 0 0) w1) := HR0.out.go hb1
  have HB1 : Hid (Below w.heap.size w w1) := HB0.out.trans (hb1.mono HB0.out.size)
  clear c1 HR0 HB0 hb1 hbl
  go_wp2_with fail
  refine (c2 b _ hr1).mono ?_
  rintro e w2 ⟨⟨v, rfl, hrow⟩, hr2, ho2⟩
  have HR2 : Hid (SevIn w.heap.size (.int .i64 0) (.string ⟨#[]⟩) (.string ⟨#[]⟩) (.int .i64 0) (.int .i64 0) (.int .i64 0) (.slice none 0 0) w2) := HR1.out.only ho2 (by have := HL1.out; omega)
  have HB2 : Hid (Below w.heap.size w w2) := HB1.out.trans (ho2.below (Nat.le_of_lt HL1.out) HB1.out.size)
  have hbw : b < w1.heap.size := hr1.at_.lt
  obtain ⟨va, vn, vc, rfl⟩ := crow_slice hrow
  clear c2 ho2 HR1 HB1
  have hbq : Below w2.heap.size w2 (w2.alloc (.cells #[.int .i64 q.verb, .string q.name, .string q.other, .int .i64 q.born, .int .i64 q.live, .int .i64 q.n, .slice va vn vc] 26)) := (Below.refl _ _).alloc (Nat.le_refl _) _
  have hq3 := SevIn.born w2 (.int .i64 q.verb) (.string q.name) (.string q.other) (.int .i64 q.born) (.int .i64 q.live) (.int .i64 q.n) (.slice va vn vc)
  have hR3 := HR2.out.go hbq
  have hrow3 := hrow.below hbq
  have hr3 := hr2.go hbq
  have HB3 : Hid (Below w.heap.size w (w2.alloc (.cells #[.int .i64 q.verb, .string q.name, .string q.other, .int .i64 q.born, .int .i64 q.live, .int .i64 q.n, .slice va vn vc] 26))) := HB2.out.trans (hbq.mono HB2.out.size)
  have HLB : Hid (b < w2.heap.size ∧ w.heap.size < w2.heap.size) := ⟨hr2.at_.lt, HR2.out.lt⟩
  clear hrow hr2 HR2 HB2 hbq hr1
  unfold Rq.val
  go_wp2_with fail
  refine (c3 b _ hr3).mono ?_
  rintro e w4 ⟨rfl, hr4, ho4⟩
  have hl := HL1.out
  have hlb := HLB.out
  have hq4 := hq3.only ho4 (by omega)
  have hR4 := hR3.only ho4 (by omega)
  have hrow4 := hrow3.only ho4 hbw
  have HB4 : Hid (Below w.heap.size w w4) := HB3.out.trans (ho4.below (Nat.le_of_lt HL1.out) HB3.out.size)
  obtain ⟨u4, hb4, _⟩ := hr4.at_
  have ce : w4.cell? ⟨b, 1, none⟩ = some (.int .i64 r2.e) := by rw [Lib.cell_of_heap hb4]; rfl
  clear hq3 hR3 hrow3 ho4 hr3 hb4 hr4 c3
  obtain ⟨s0, s1, s2, s3, s4, s5, s6⟩ := hR4.cells
  obtain ⟨q0, q1, q2, q3, q4, q5, q6⟩ := hq4.cells
  have zr0 := hR4.frozen 0
  have zr1 := hR4.frozen 1
  have zr2 := hR4.frozen 2
  have zr3 := hR4.frozen 3
  have zr4 := hR4.frozen 4
  have zr5 := hR4.frozen 5
  have zr6 := hR4.frozen 6
  have hne : w.heap.size ≠ w2.heap.size := by omega
  have hne2 : w.heap.size ≠ b := by omega
  have HROW : Hid (CRow w4 w1.heap.size (.slice va vn vc) q.cells ∧ w.heap.size < w1.heap.size) := ⟨hrow4, by omega⟩
  clear hrow4 hl hlb hbw
  by_cases he : r2.e = 0
  · have hd : (r2.e == 0) = true := by simpa using he
    have HRR : Hid (readRq s = (q, 0)) := by show _ = _; rw [HR.out, if_pos he]
    rw [he] at ce
    clear he hd
    go_wp2_with fail
    refine bodyPost_ret (v := .tuple #[q.val (.slice va vn vc), .int .i64 0]) ?_ rfl ?_
    · simp [results, Tryz.results7, go_sem, s0, s1, s2, s3, s4, s5, s6, Rq.val]
    · refine ⟨?_, .slice va vn vc, ?_, ?_⟩
      · refine below_mid (R := w.heap.size) (Q := w.heap.size) HB4.out ?_ (Nat.le_refl _) (Nat.le_refl _)
        repeat (first | refine Mid.set ?_ (Or.inl rfl) | exact Mid.refl _ _ _)
      · rw [HRR.out]
      · rw [HRR.out]
        refine HROW.out.1.mid (R := w.heap.size) (Q := w.heap.size) ?_ HROW.out.2 HROW.out.2 (Nat.le_of_lt HROW.out.2)
        repeat (first | refine Mid.set ?_ (Or.inl rfl) | exact Mid.refl _ _ _)
  · have hd : (r2.e == 0) = false := by simpa using he
    have hd2 : (r2.e != 0) = true := by simpa using he
    have HRR : Hid (readRq s = (noRq, r2.e)) := by show _ = _; rw [HR.out, if_neg he]
    go_wp2_with fail
    go_region
    go_wp2_with fail
    refine bodyPost_ret (v := .tuple #[noRq.val (.slice none 0 0), .int .i64 r2.e]) ?_ rfl ?_
    · simp [results, Tryz.results7, go_sem, s0, s1, s2, s3, s4, s5, s6, Rq.val, noRq]
    · refine ⟨?_, .slice none 0 0, ?_, ?_⟩
      · refine below_mid (R := w.heap.size) (Q := w.heap.size) HB4.out ?_ (Nat.le_refl _) (Nat.le_refl _)
        refine Mid.drew ?_
        repeat (first | refine Mid.set ?_ (Or.inl rfl) | exact Mid.refl _ _ _)
      · rw [HRR.out]
      · rw [HRR.out]
        exact crow_nil _ _
end Go.Proofs.YtpghbchbhjbbiaaGreatDoor
