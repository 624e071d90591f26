/- rule and cell: a reader takes a word, and answers a struct. -/
import Derived.Test.YtpghbchbhjbbiaaGreatDoorSpTake
namespace Go.Proofs.YtpghbchbhjbbiaaGreatDoor
open Go.RowKit

theorem Only.cell {b : Nat} {w w' : World} (h : Only b w w') {k o : Nat} (hk : k < w.heap.size) (hne : k ≠ b) : w'.cell? ⟨k, o, none⟩ = w.cell? ⟨k, o, none⟩ := cell_heap (a := ⟨k, o, none⟩) (h.block k hk hne)
theorem Only.frozen {b : Nat} {w w' : World} (h : Only b w w') {k o : Nat} (hk : k < w.heap.size) (hne : k ≠ b) : w'.frozen? ⟨k, o, none⟩ = w.frozen? ⟨k, o, none⟩ := by
  unfold World.frozen?
  rw [show (⟨k, o, none⟩ : Addr).block = k from rfl, h.block k hk hne]
/-- two numbers in a block, free to be written -/
def PairIn (R : Nat) (x y : Int) (w : World) : Prop :=
  w.cell? ⟨R, 0, none⟩ = some (.int .i64 x) ∧ w.cell? ⟨R, 1, none⟩ = some (.int .i64 y) ∧ w.frozen? ⟨R, 0, none⟩ = false ∧ w.frozen? ⟨R, 1, none⟩ = false ∧ R < w.heap.size
theorem PairIn.born (w : World) (x y : Int) (t : TypeId) : PairIn w.heap.size x y (w.alloc (.cells #[.int .i64 x, .int .i64 y] t)) :=
  ⟨by rw [World.cell?_alloc_new]; rfl, by rw [World.cell?_alloc_new]; rfl, by simp [World.frozen?_alloc_new], by simp [World.frozen?_alloc_new], by simp⟩
theorem PairIn.only {R b : Nat} {x y : Int} {w w' : World} (h : PairIn R x y w) (ho : Only b w w') (hne : R ≠ b) : PairIn R x y w' := by
  obtain ⟨h1, h2, h3, h4, h5⟩ := h
  exact ⟨(ho.cell h5 hne).trans h1, (ho.cell h5 hne).trans h2, (ho.frozen h5 hne).trans h3, (ho.frozen h5 hne).trans h4, Nat.lt_of_lt_of_le h5 ho.size⟩
theorem PairIn.go {R : Nat} {x y : Int} {w w' : World} (h : PairIn R x y w) (hb : Below w.heap.size w w') : PairIn R x y w' := h.only (b := w.heap.size) (Only.of hb) (Nat.ne_of_lt h.2.2.2.2)
theorem PairIn.set0 {R : Nat} {x y : Int} {w : World} (h : PairIn R x y w) (x' : Int) : PairIn R x' y (w.setCell ⟨R, 0, none⟩ (.int .i64 x')) := by
  obtain ⟨h1, h2, h3, h4, h5⟩ := h
  exact ⟨World.cell?_setCell_same _ _ _ h1, by rw [World.cell?_setCell_other _ _ _ _ (by simp)]; exact h2, by rw [World.frozen?_setCell]; exact h3, by rw [World.frozen?_setCell]; exact h4, by simpa [World.setCell] using h5⟩
theorem PairIn.set1 {R : Nat} {x y : Int} {w : World} (h : PairIn R x y w) (y' : Int) : PairIn R x y' (w.setCell ⟨R, 1, none⟩ (.int .i64 y')) := by
  obtain ⟨h1, h2, h3, h4, h5⟩ := h
  exact ⟨by rw [World.cell?_setCell_other _ _ _ _ (by simp)]; exact h1, World.cell?_setCell_same _ _ _ h2, by rw [World.frozen?_setCell]; exact h3, by rw [World.frozen?_setCell]; exact h4, by simpa [World.setCell] using h5⟩
theorem Only.fresh {b R : Nat} {w w' w2 : World} (h : Only b w w') (k : Only R w' w2) (hR : w.heap.size ≤ R) : Only b w w2 :=
  ⟨k.os.trans h.os, k.tape.trans h.tape, k.output.trans h.output, Nat.le_trans h.size k.size, fun i hi hne => (k.block i (Nat.lt_of_lt_of_le hi h.size) (by omega)).trans (h.block i hi hne)⟩

set_option maxRecDepth 20000 in
set_option maxHeartbeats 1000000 in
theorem rule_any (b : Nat) (r : Rd) (w : World) (h : RS w b r) :
    Calls Tryz.prog 35 #[.pointer (some ⟨b, 0, none⟩)] w fun e w' => e = .returned (.agg #[.int .i64 r.rule.1.1, .int .i64 r.rule.1.2]) ∧ RS w' b r.rule.2 ∧ Only b w w' := by
  have hlt := h.at_.lt
  have hb0 : Below w.heap.size w (w.alloc (.cells #[.int .i64 0, .int .i64 0] 23)) := (Below.refl _ _).alloc (Nat.le_refl _) _
  have p0 := PairIn.born w 0 0 23
  have c1 := wordS_any b r _ (h.go hb0)
  have hsm := word_small h
  unfold Rd.rule
  generalize r.word = p at *
  obtain ⟨x, r1⟩ := p
  simp only at c1 hsm ⊢
  have c2 := fun m W hm => read_any x m W (by omega) hm
  generalize readF x.data.toList = q at *
  obtain ⟨qb, ql, qe⟩ := q
  simp only at c2 ⊢
  have c3 := fun W hW => needS_any b r1 (decide (qe = 0)) 2 W hW
  have hq0 : (qe == 0) = decide (qe = 0) := by by_cases h : qe = 0 <;> simp [h]
  generalize decide (qe = 0) = ok at *
  have HLT : Hid (b < w.heap.size) := hlt
  clear h hlt
  generalize hw0 : w.alloc (.cells #[.int .i64 0, .int .i64 0] 23) = w0 at *
  go_enter Tryz.func35, Tryz.ntmps35
  go_wp2_with fail
  clear hw0
  refine c1.mono ?_
  rintro e w1 ⟨rfl, hr1, ho1⟩
  have p1 := p0.only ho1 (by have := HLT.out; omega)
  obtain ⟨m, hm⟩ := hr1.vars.max
  have HS1 : Hid (Only b w w1) := (Only.of hb0).trans ho1
  clear c1 p0 hb0
  go_wp2_with (go_at_call 57; refine (c2 m _ hm).mono ?_; rintro e w2 ⟨rfl, hb2⟩)
  have hr2 := hr1.go hb2
  have p2 := p1.go hb2
  have hb3 : Below w2.heap.size w2 (w2.alloc (.cells #[.int .i64 qb, .int .i64 ql] 23)) := (Below.refl _ _).alloc (Nat.le_refl _) _
  have p3 := p2.go hb3
  have q3 := PairIn.born w2 qb ql 23
  have hlt2 : b < w2.heap.size := hr2.at_.lt
  refine (c3 _ (hr2.go hb3)).mono ?_
  rintro e w4 ⟨rfl, hr4, ho4⟩
  have p4 := p3.only ho4 (by have := HLT.out; omega)
  have q4 := q3.only ho4 (by omega)
  have HO : Hid (Only b w w4) := ((HS1.out.trans (Only.of hb2)).trans (Only.of hb3)).trans ho4
  have HR : Hid (RS w4 b (r1.need ok 2)) := hr4
  clear hr1 hr2 p1 p2 p3 q3 hm ho1 hb2 hb3 ho4 hr4 c2 c3
  obtain ⟨p40, p41, p42, p43, p44⟩ := id p4
  obtain ⟨q40, q41, q42, q43, q44⟩ := q4
  go_wp2_with fail
  obtain ⟨s0, s1, _⟩ := (p4.set0 qb).set1 ql
  have hlt := HLT.out
  refine bodyPost_ret (v := .agg #[.int .i64 qb, .int .i64 ql]) (by simp [results, Tryz.results35, go_sem, s0, s1]) rfl ⟨rfl, ?_, ?_⟩
  · exact (HR.out.other (c := w.heap.size) (Only.set _ _ _) hlt).other (c := w.heap.size) (Only.set _ _ _) hlt
  · exact (HO.out.fresh (R := w.heap.size) (Only.set _ _ _) (Nat.le_refl _)).fresh (R := w.heap.size) (Only.set _ _ _) (Nat.le_refl _)

def Rd.cell (r : Rd) : (Int × Int) × Rd :=
  let c := Lib.cut r.word.1.data.toList [44]
  (((numOf c.1).1, (numOf c.2.1).1), r.word.2.need ((numOf c.1).2 && (numOf c.2.1).2) 2)

theorem cut_len (L sep : List UInt8) : (Lib.cut L sep).1.length ≤ L.length ∧ (Lib.cut L sep).2.1.length ≤ L.length := by
  unfold Lib.cut
  split
  · simp only [List.length_take, List.length_drop]; omega
  · simp
set_option maxRecDepth 20000 in
set_option maxHeartbeats 1000000 in
theorem cell_any (b : Nat) (r : Rd) (w : World) (h : RS w b r) :
    Calls Tryz.prog 59 #[.pointer (some ⟨b, 0, none⟩)] w fun e w' => e = .returned (.agg #[.int .i64 r.cell.1.1, .int .i64 r.cell.1.2]) ∧ RS w' b r.cell.2 ∧ Only b w w' := by
  have hlt := h.at_.lt
  have hb0 : Below w.heap.size w (w.alloc (.cells #[.int .i64 0, .int .i64 0] 51)) := (Below.refl _ _).alloc (Nat.le_refl _) _
  have p0 := PairIn.born w 0 0 51
  have c1 := wordS_any b r _ (h.go hb0)
  have hsm := word_small h
  unfold Rd.cell
  generalize r.word = p at *
  obtain ⟨x, r1⟩ := p
  simp only at c1 hsm ⊢
  have c2 := fun m W hm => Tryz.strings_Cut x ⟨#[44]⟩ m W (by omega) hm
  have hcl := cut_len x.data.toList [44]
  rw [ba_len] at hcl
  simp only at c2
  generalize Lib.cut x.data.toList [44] = q at *
  obtain ⟨qx, qy, qf⟩ := q
  simp only at c2 hcl ⊢
  obtain ⟨hx1, hx2⟩ := hcl
  have n1 := fun W hW => numberOf_any ⟨qx.toArray⟩ W (by rw [ba_size]; omega) hW
  have n2 := fun W hW => numberOf_any ⟨qy.toArray⟩ W (by rw [ba_size]; omega) hW
  simp only at n1 n2
  generalize numOf qx = ax at *
  obtain ⟨ax, okx⟩ := ax
  generalize numOf qy = ay at *
  obtain ⟨ay, oky⟩ := ay
  simp only at n1 n2 ⊢
  generalize (⟨qx.toArray⟩ : ByteArray) = bx at *
  generalize (⟨qy.toArray⟩ : ByteArray) = bY at *
  have c3 := fun W hW => needS_any b r1 (okx && oky) 2 W hW
  have HLT : Hid (b < w.heap.size) := hlt
  clear h hlt hx1 hx2
  generalize hw0 : w.alloc (.cells #[.int .i64 0, .int .i64 0] 51) = w0 at *
  go_enter Tryz.func59, Tryz.ntmps59
  go_wp2_with fail
  clear hw0
  refine c1.mono ?_
  rintro e w1 ⟨rfl, hr1, ho1⟩
  have p1 := p0.only ho1 (by have := HLT.out; omega)
  obtain ⟨m, hm⟩ := hr1.vars.max
  have HS1 : Hid (Only b w w1) := (Only.of hb0).trans ho1
  clear c1 p0 hb0 ho1
  go_wp2_with fail
  refine (c2 m _ hm).mono ?_
  rintro e w2 ⟨rfl, dn, hw2⟩
  have hb2 : Below w1.heap.size w1 w2 := by rw [hw2]; exact ⟨rfl, rfl, rfl, Nat.le_refl _, fun _ _ => rfl⟩
  have hr2 := hr1.go hb2
  have p2 := p1.go hb2
  have HS2 : Hid (Only b w w2) := HS1.out.trans (Only.of hb2)
  clear hw2 hb2 hr1 p1 hm c2
  have hb3 : Below w2.heap.size w2 (w2.alloc (.cells #[.int .i64 0, .int .i64 0] 51)) := (Below.refl _ _).alloc (Nat.le_refl _) _
  have p3 := p2.go hb3
  have q3 := PairIn.born w2 0 0 51
  have hr3 := hr2.go hb3
  have HLT2 : Hid (b < w2.heap.size ∧ w.heap.size < w2.heap.size) := ⟨hr2.at_.lt, p2.2.2.2.2⟩
  have HS3 : Hid (Only b w (w2.alloc (.cells #[.int .i64 0, .int .i64 0] 51))) := HS2.out.trans (Only.of hb3)
  clear hb3 p2 hr2
  go_wp2_with fail
  refine (n1 _ hr3.vars).mono ?_
  rintro e w4 ⟨rfl, hb4⟩
  have p4 := p3.go hb4
  have q4 := q3.go hb4
  have hr4 := hr3.go hb4
  have HS4 : Hid (Only b w w4) := HS3.out.trans (Only.of hb4)
  clear p3 q3 hr3 hb4 n1
  obtain ⟨q40, q41, q42, q43, q44⟩ := id q4
  go_wp2_with fail
  have q5 := q4.set0 ax
  have hlts := HLT2.out
  have p5 := p4.only (b := w2.heap.size) (Only.set w4 0 (.int .i64 ax)) (by omega)
  have hr5 := hr4.other (c := w2.heap.size) (Only.set w4 0 (.int .i64 ax)) hlts.1
  have HS5 : Hid (Only b w (w4.setCell ⟨w2.heap.size, 0, none⟩ (.int .i64 ax))) := HS4.out.fresh (R := w2.heap.size) (Only.set _ _ _) (by omega)
  refine (n2 _ hr5.vars).mono ?_
  rintro e w6 ⟨rfl, hb6⟩
  have p6 := p5.go hb6
  have q6 := q5.go hb6
  have hr6 := hr5.go hb6
  have HS6 : Hid (Only b w w6) := HS5.out.trans (Only.of hb6)
  clear p4 q4 hr4 p5 q5 hr5 hb6 n2 q40 q41 q42 q43 q44
  obtain ⟨q60, q61, q62, q63, q64⟩ := id q6
  have q7 := q6.set1 ay
  have p7 := p6.only (b := w2.heap.size) (Only.set w6 1 (.int .i64 ay)) (by omega)
  have hr7 := hr6.other (c := w2.heap.size) (Only.set w6 1 (.int .i64 ay)) hlts.1
  have HS7 : Hid (Only b w (w6.setCell ⟨w2.heap.size, 1, none⟩ (.int .i64 ay))) := HS6.out.fresh (R := w2.heap.size) (Only.set _ _ _) (by omega)
  have c4 := c3 _ hr7
  clear p6 q6 hr6 c3 hlts
  have H7 : Hid (PairIn w2.heap.size ax ay (w6.setCell ⟨w2.heap.size, 1, none⟩ (.int .i64 ay)) ∧ PairIn w.heap.size 0 0 (w6.setCell ⟨w2.heap.size, 1, none⟩ (.int .i64 ay))) := ⟨q7, p7⟩
  clear q7 p7 hr7
  cases okx
  all_goals
    go_wp2_with fail
    refine c4.mono ?_
    rintro e w8 ⟨rfl, hr8, ho8⟩
    have hl := HLT.out
    have hl2 := HLT2.out
    have q8 := H7.out.1.only ho8 (by omega)
    have p8 := H7.out.2.only ho8 (by omega)
    have HO : Hid (Only b w w8) := HS7.out.trans ho8
    have HR := hr8
    clear c4 ho8 q60 q61 q62 q63 q64 hl hl2
    obtain ⟨p80, p81, p82, p83, p84⟩ := id p8
    obtain ⟨q80, q81, q82, q83, q84⟩ := q8
    go_wp2_with fail
    obtain ⟨s0, s1, _⟩ := (p8.set0 ax).set1 ay
    have hlt := HLT.out
    refine bodyPost_ret (v := .agg #[.int .i64 ax, .int .i64 ay]) (by simp [results, Tryz.results59, go_sem, s0, s1]) rfl ⟨rfl, ?_, ?_⟩
    · exact (HR.other (c := w.heap.size) (Only.set _ _ _) hlt).other (c := w.heap.size) (Only.set _ _ _) hlt
    · exact (HO.out.fresh (R := w.heap.size) (Only.set _ _ _) (Nat.le_refl _)).fresh (R := w.heap.size) (Only.set _ _ _) (Nat.le_refl _)
end Go.Proofs.YtpghbchbhjbbiaaGreatDoor
