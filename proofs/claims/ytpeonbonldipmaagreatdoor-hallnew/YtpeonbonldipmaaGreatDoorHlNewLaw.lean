/- HallNew: the law. -/
import Derived.Test.YtpeonbonldipmaaGreatDoorHlNew
namespace Go.Proofs.YtpeonbonldipmaaGreatDoor
open Go.RowKit

/-- an answer that has nothing but a code -/
def codeOnly (c : Int) : Value := .agg #[.int .i64 c, .int .i64 0, .int .i64 0, .int .i64 0, .int .i64 0, .int .i64 0, .int .i64 0, .int .i64 0, .string ⟨#[]⟩, .slice none 0 0]
set_option maxRecDepth 20000 in
set_option maxHeartbeats 1000000 in
theorem do_nil (q : Rq) (a : Option Addr) (n c : Nat) (w : World) : Calls Tryz.prog 6 #[.pointer none, q.val (.slice a n c)] w fun e w' => e = .returned (codeOnly 11) ∧ Below w.heap.size w w' := by
  unfold Rq.val
  go_enter Tryz.func6, Tryz.ntmps6
  go_wp2_with fail
  refine bodyPost_ret (v := codeOnly 11) ?_ rfl ⟨rfl, ?_⟩
  · simp [results, Tryz.results6, go_sem, codeOnly]
  · repeat (first | exact Below.refl _ _ | refine Below.alloc ?_ (by simp) _ | refine Below.setCell ?_ (by simp) _)
theorem Tryz.code_of (c : Int) (w : World) : (Instr.field 37 (.agg #[.int .i64 c, .int .i64 0, .int .i64 0, .int .i64 0, .int .i64 0, .int .i64 0, .int .i64 0, .int .i64 0, .string ⟨#[]⟩, .slice none 0 0]) 0).run Tryz.prog w = .ok (.int .i64 c) w := by kernel_rfl
set_option maxRecDepth 20000 in
set_option maxHeartbeats 4000000 in
theorem new_law (tenant draw : Int) (q : Rq) (v : Value) (w : World) (hrow : HR w v q.cells) (hnil : ∀ n c, v = .slice none n c → c = 0) (hlen : q.cells.length * 16 ≤ 140737488355328) :
    Calls Tryz.prog 3 #[.int .i64 tenant, .int .i64 draw, q.val v] w fun e w' => e = .returned (.bool true) ∧ Below w.heap.size w w' := by
  obtain ⟨va, vn, vc, rfl⟩ : ∃ a n c, v = .slice a n c := by obtain ⟨a, c, rfl, _⟩ := hrow; exact ⟨_, _, _, rfl⟩
  have hr := fun W (h : HR W (.slice va vn vc) q.cells) => request_any q (.slice va vn vc) W h hnil hlen
  have hd := fun a n c W => do_nil q a n c W
  have HROW : Hid (HR w (.slice va vn vc) q.cells) := hrow
  have HB0 : Hid (Below w.heap.size w (w.alloc (.cells #[.int .i64 q.verb, .string q.name, .string q.other, .int .i64 q.born, .int .i64 q.live, .int .i64 q.n, .slice va vn vc] 26))) := (Below.refl _ _).alloc (Nat.le_refl _) _
  have HP0 : Hid (SevIn w.heap.size (.int .i64 q.verb) (.string q.name) (.string q.other) (.int .i64 q.born) (.int .i64 q.live) (.int .i64 q.n) (.slice va vn vc) (w.alloc (.cells #[.int .i64 q.verb, .string q.name, .string q.other, .int .i64 q.born, .int .i64 q.live, .int .i64 q.n, .slice va vn vc] 26))) := SevIn.born _ _ _ _ _ _ _ _
  unfold Rq.val at hr hd ⊢
  unfold codeOnly at hd
  clear hrow hnil hlen
  have hfc := fun W => Tryz.code_of 11 W
  by_cases ht : tenant < 0 ∨ 64 ≤ tenant
  · have hh := fun a W => hall_range a tenant draw W ht
    by_cases h0 : tenant < 0
    · clear ht
      go_enter Tryz.func3, Tryz.ntmps3
      go_wp2_with fail
      refine (arena_new _).mono ?_
      rintro e w1 ⟨rfl, hb1'⟩
      have hb1 := HB0.out.trans (hb1'.mono HB0.out.size)
      have hp1 := HP0.out.go hb1'
      clear hb1'
      go_wp2_with fail
      refine (hh _ _).mono ?_
      rintro e w2 ⟨rfl, rfl⟩
      go_wp2_with fail
      refine (hall_nil draw _).mono ?_
      rintro e w2 ⟨rfl, rfl⟩
      have hrow1 := HROW.out.below hb1
      obtain ⟨a0, a1, a2, a3, a4, a5, a6⟩ := hp1.cells
      go_wp2_with fail
      refine (hr _ hrow1).mono ?_
      rintro e w3 ⟨⟨a, n, c, rfl⟩, hb3⟩
      go_wp2_with fail
      refine (hd a n c _).mono ?_
      rintro e w4 ⟨rfl, hb4⟩
      go_wp2_with fail
      go_ret
      exact ⟨rfl, (hb1.trans (hb3.mono hb1.size)).trans (hb4.mono (Nat.le_trans hb1.size hb3.size))⟩
    · have h1 : 64 ≤ tenant := by omega
      have h2 : ¬ tenant < 64 := by omega
      clear ht
      go_enter Tryz.func3, Tryz.ntmps3
      go_wp2_with fail
      refine (arena_new _).mono ?_
      rintro e w1 ⟨rfl, hb1'⟩
      have hb1 := HB0.out.trans (hb1'.mono HB0.out.size)
      have hp1 := HP0.out.go hb1'
      clear hb1'
      go_wp2_with fail
      refine (hh _ _).mono ?_
      rintro e w2 ⟨rfl, rfl⟩
      go_wp2_with fail
      refine (hall_nil draw _).mono ?_
      rintro e w2 ⟨rfl, rfl⟩
      have hrow1 := HROW.out.below hb1
      obtain ⟨a0, a1, a2, a3, a4, a5, a6⟩ := hp1.cells
      go_wp2_with fail
      refine (hr _ hrow1).mono ?_
      rintro e w3 ⟨⟨a, n, c, rfl⟩, hb3⟩
      go_wp2_with fail
      refine (hd a n c _).mono ?_
      rintro e w4 ⟨rfl, hb4⟩
      go_wp2_with fail
      go_ret
      exact ⟨rfl, (hb1.trans (hb3.mono hb1.size)).trans (hb4.mono (Nat.le_trans hb1.size hb3.size))⟩
  · have h0 : ¬ tenant < 0 := by omega
    have h1 : ¬ 64 ≤ tenant := by omega
    have hh := fun a W => hall_good a tenant draw W (by omega) (by omega)
    clear ht
    go_enter Tryz.func3, Tryz.ntmps3
    go_wp2_with fail
    refine (arena_new _).mono ?_
    rintro e w1 ⟨rfl, hb1'⟩
    have hb1 := HB0.out.trans (hb1'.mono HB0.out.size)
    have hp1 := HP0.out.go hb1'
    clear hb1'
    go_wp2_with fail
    refine (hh _ _).mono ?_
    rintro e w2 ⟨rfl, hb2⟩
    go_wp2_with fail
    refine (hall_nil draw _).mono ?_
    rintro e w2b ⟨rfl, rfl⟩
    have hrow1 := (HROW.out.below hb1).below hb2
    obtain ⟨a0, a1, a2, a3, a4, a5, a6⟩ := (hp1.go hb2).cells
    go_wp2_with fail
    refine (hr _ hrow1).mono ?_
    rintro e w3 ⟨⟨a, n, c, rfl⟩, hb3⟩
    go_wp2_with fail
    refine (hd a n c _).mono ?_
    rintro e w4 ⟨rfl, hb4⟩
    go_wp2_with fail
    go_ret
    have hb12 := hb1.trans (hb2.mono hb1.size)
    exact ⟨rfl, (hb12.trans (hb3.mono hb12.size)).trans (hb4.mono (Nat.le_trans hb12.size hb3.size))⟩
end Go.Proofs.YtpeonbonldipmaaGreatDoor
