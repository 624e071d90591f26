/- A leaper's small deeds: number, level, join. -/
import Derived.Test.YtofbcngcblleaaaGreatLpMem
import Derived.BigQuiet
import Derived.Deep.CutRange
namespace Go.Proofs.YtofbcngcblleaaaGreat.A
open Go.RowKit Go.Proofs.YtofbcngcblleaaaGreat.L

variable {w : World} {o : Nat → Nat} {lb b t : Nat} {rb rl e : Int} {A : Ar}
/-- a rule's number in notes -/
def rnum (rb rl : Int) : Int := bits BinOp.xor IntKind.i64 (-1) (bits BinOp.or IntKind.i64 (rb * 512) rl)
theorem rnum_fits (rb rl : Int) : Fits (rnum rb rl) := by
  unfold rnum
  generalize bits BinOp.or IntKind.i64 (rb * 512) rl = x
  unfold bits
  simp only
  rw [IntKind.wrap_i64]
  unfold Fits
  omega
set_option maxRecDepth 20000 in
theorem number_any (h : LS w o lb b t rb rl e A) (h0 : 0 ≤ rb) (h1 : rb ≤ 511) :
    Calls Tryz.prog 100 #[.pointer (some ⟨lb, 0, none⟩)] w fun e w' => e = .returned (.int .i64 (rnum rb rl)) ∧ ∃ n, w' = w.drewN n := by
  obtain ⟨_, _, c2, c3, _, _⟩ := h.cells
  clear h
  go_enter Tryz.func100, Tryz.ntmps100
  go_wp2_with fail
  go_quiet (fail)
  go_wp2_with fail
  go_ret
  all_goals first | exact ⟨rfl, _, rfl⟩ | (rename_i hh; exact absurd hh (by decide))
/-- the level of a square -/
theorem lpLevel_ok (h : LS w o lb b t rb rl 0 A) (hS : Sound A) (ht : t < 64) (id : Int) (hid : Fits id) :
    Calls Tryz.prog 82 #[.pointer (some ⟨lb, 0, none⟩), .int .i64 id] w fun e w' => e = .returned (.int .i64 ((levelF A.ths t id).getD 0)) ∧ ∃ o', LS w' o' lb b t rb rl (lack (levelF A.ths t id)) A ∧ Ch AL o w o' w' := by
  obtain ⟨c0, c1, _, _, c4, z4⟩ := h.cells
  obtain ⟨F, ha, hF⟩ := h.ar
  obtain ⟨LL, r, D, hr, _⟩ := ha.drew'
  have hl := Level_any b 0 t id r A.ths w.drew hr.raw hr.ths ht hS.mask hid
  have HH : Hid (LS w o lb b t rb rl 0 A) := h
  have KC : Hid (∀ W, Below w.drew.heap.size w.drew W → W.cell? ⟨lb, 4, none⟩ = some (.int .i64 0) ∧ W.frozen? ⟨lb, 4, none⟩ = false) := fun W hW => by
    obtain ⟨_, _, _, _, k4, k5⟩ := (HH.out.drew.below hW).cells
    exact ⟨k4, k5⟩
  generalize levelF A.ths t id = ol at *
  clear h ha hr
  go_enter Tryz.func82, Tryz.ntmps82
  go_wp2_with fail
  go_region_with (go_at_call 30; refine hl.mono ?_; rintro e w1 ⟨rfl, hb1⟩; obtain ⟨q4, q5⟩ := KC.out w1 hb1)
  all_goals
    go_wp2_with fail
    go_ret
    have h1 := HH.out.drew.below hb1
    obtain ⟨h2, k2⟩ := h1.setE (lack ol)
    exact ⟨rfl, _, h2, Ch.trans (Ch.ofBelow (o := o) (⟨hb1.os, hb1.tape, hb1.output, hb1.size, hb1.block⟩ : Below w.heap.size w w1) 0) k2⟩
set_option maxRecDepth 20000 in
set_option maxHeartbeats 2000000 in
/-- a square of four -/
theorem lpJoin_ok (h : LS w o lb b t rb rl 0 A) (hS : Sound A) (ht : t < 64) (q0 q1 q2 q3 : Int) (h0 : Fits q0) (h1 : Fits q1) (h2 : Fits q2) (h3 : Fits q3) :
    Calls Tryz.prog 120 #[.pointer (some ⟨lb, 0, none⟩), quad4 q0 q1 q2 q3] w fun e w' => e = .returned (.int .i64 (A.joinP t q0 q1 q2 q3).2.1) ∧ ∃ o', LS w' o' lb b t rb rl (A.joinP t q0 q1 q2 q3).2.2 (A.joinP t q0 q1 q2 q3).1 ∧ Ch AL o w o' w' := by
  have hbx : Below w.heap.size w (w.alloc (.cells #[.int .i64 q0, .int .i64 q1, .int .i64 q2, .int .i64 q3] 76)) := (Below.refl _ _).alloc (Nat.le_refl _) _
  have hx := h.below hbx
  obtain ⟨c0, c1, _, _, c4, z4⟩ := hx.cells
  have HK : Hid (Ch AL o w (ext o w.heap.size 0) (w.alloc (.cells #[.int .i64 q0, .int .i64 q1, .int .i64 q2, .int .i64 q3] 76))) := Ch.ofBelow hbx 0
  generalize ext o w.heap.size 0 = o1 at *
  generalize hwx : w.alloc (.cells #[.int .i64 q0, .int .i64 q1, .int .i64 q2, .int .i64 q3] 76) = wx at *
  have HWX : Hid (w.alloc (.cells #[.int .i64 q0, .int .i64 q1, .int .i64 q2, .int .i64 q3] 76) = wx) := hwx
  have d0 : wx.cell? ⟨w.heap.size, 0, none⟩ = some (.int .i64 q0) := by rw [← hwx]; simp
  have d1 : wx.cell? ⟨w.heap.size, 1, none⟩ = some (.int .i64 q1) := by rw [← hwx]; simp
  have d2 : wx.cell? ⟨w.heap.size, 2, none⟩ = some (.int .i64 q2) := by rw [← hwx]; simp
  have d3 : wx.cell? ⟨w.heap.size, 3, none⟩ = some (.int .i64 q3) := by rw [← hwx]; simp
  obtain ⟨F, ha, hF⟩ := hx.drew.ar
  have hj := joinP_any b t q0 q1 q2 q3 F A wx.drew ha hS ht h0 h1 h2 h3
  have HX : Hid (LS wx o1 lb b t rb rl 0 A ∧ ∀ k, F k → o1 k = 1) := ⟨hx, hF⟩
  unfold JoinPOut at hj
  obtain ⟨P, hP⟩ : ∃ P, P = A.joinP t q0 q1 q2 q3 := ⟨_, rfl⟩
  rw [← hP] at hj ⊢
  clear hP h hbx hx ha hF
  unfold quad4 at hj ⊢
  go_enter Tryz.func120, Tryz.ntmps120
  go_wp2_with fail
  (try rw [hwx])
  clear hwx
  go_region_with (go_at_call 45; refine hj.mono ?_; rintro e w1 ⟨rfl, hled⟩; obtain ⟨a1, k1⟩ := led_ch HX.out.2 hled; have hs1 := HX.out.1.drew.setA k1 a1; obtain ⟨_, _, _, _, q4, q5⟩ := hs1.cells)
  all_goals
    go_wp2_with fail
    go_ret
    obtain ⟨h2, k2⟩ := hs1.setE P.2.2
    exact ⟨rfl, _, h2, (HK.out.drew.trans (k1.mono one_AL)).trans k2⟩
end Go.Proofs.YtofbcngcblleaaaGreat.A
