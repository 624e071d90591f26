/- Four neighbours out of two rows. -/
import Derived.Test.YtofbcngcblleaaaGreatLpMid
import Derived.BigRegion
namespace Go.Proofs.YtofbcngcblleaaaGreat.A
open Go.RowKit Go.Proofs.YtofbcngcblleaaaGreat.L

variable {w : World}
set_option maxRecDepth 20000 in
set_option maxHeartbeats 2000000 in
theorem window_any (pb o0 o1 n x : Nat) (hx : x + 1 < n) (hn : n ≤ 4) (a b c d : Int) (hl : pb < w.heap.size) (ha : w.cell? ⟨pb, o0 + x, none⟩ = some (.int .i64 a)) (hb : w.cell? ⟨pb, o0 + (x + 1), none⟩ = some (.int .i64 b)) (hc : w.cell? ⟨pb, o1 + x, none⟩ = some (.int .i64 c)) (hd : w.cell? ⟨pb, o1 + (x + 1), none⟩ = some (.int .i64 d)) :
    Calls Tryz.prog 121 #[.slice (some ⟨pb, o0, none⟩) n n, .slice (some ⟨pb, o1, none⟩) n n, .int .i64 x] w fun r w' => r = .returned (quad4 a b c d) ∧ Below w.heap.size w w' := by
  have hbx : Below w.heap.size w (w.alloc (.cells #[.int .i64 0, .int .i64 0, .int .i64 0, .int .i64 0] 76)) := (Below.refl _ _).alloc (Nat.le_refl _) _
  have Q : Hid (Q4 (w.alloc (.cells #[.int .i64 0, .int .i64 0, .int .i64 0, .int .i64 0] 76)) w.heap.size 0 0 0 0 ∧ Below w.heap.size w (w.alloc (.cells #[.int .i64 0, .int .i64 0, .int .i64 0, .int .i64 0] 76))) := ⟨heap_alloc_new w _, hbx⟩
  have ka := (hbx.cell (p := ⟨pb, o0 + x, none⟩) hl).trans ha
  have kb := (hbx.cell (p := ⟨pb, o0 + (x + 1), none⟩) hl).trans hb
  have kc := (hbx.cell (p := ⟨pb, o1 + x, none⟩) hl).trans hc
  have kd := (hbx.cell (p := ⟨pb, o1 + (x + 1), none⟩) hl).trans hd
  obtain ⟨⟨r0, r1, r2, r3⟩, z0, z1, z2, z3⟩ := Q.out.1.cells
  generalize hW : w.alloc (.cells #[.int .i64 0, .int .i64 0, .int .i64 0, .int .i64 0] 76) = W at *
  clear ha hb hc hd hbx
  go_enter Tryz.func121, Tryz.ntmps121
  go_wp2_with fail
  (try rw [hW])
  clear hW
  go_region
  all_goals
    go_wp2_with fail
    have hQ : Q4 ((((W.setCell ⟨w.heap.size, 0, none⟩ (.int .i64 a)).setCell ⟨w.heap.size, 1, none⟩ (.int .i64 b)).setCell ⟨w.heap.size, 2, none⟩ (.int .i64 c)).setCell ⟨w.heap.size, 3, none⟩ (.int .i64 d)).drew w.heap.size a b c d := Go.Joins.block_setCell (Go.Joins.block_setCell (Go.Joins.block_setCell (Go.Joins.block_setCell Q.out.1 _) _) _) _
    refine bodyPost_ret (v := quad4 a b c d) ?_ rfl ⟨rfl, ((((Q.out.2.setCell (p := ⟨w.heap.size, 0, none⟩) (Nat.le_refl _) _).setCell (p := ⟨w.heap.size, 1, none⟩) (Nat.le_refl _) _).setCell (p := ⟨w.heap.size, 2, none⟩) (Nat.le_refl _) _).setCell (p := ⟨w.heap.size, 3, none⟩) (Nat.le_refl _) _).drew⟩
    simp [results, Tryz.results121, go_sem, Lib.cell_of_heap (show _ = _ from hQ), quad4]
end Go.Proofs.YtofbcngcblleaaaGreat.A
