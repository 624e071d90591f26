/- PlaneBoxes: both Bounds answer the same box of every list. The walk of the law itself. -/
import Derived.Test.YtmpjlbafjmocbadGreatDoorBoxWalk
import Derived.Test.YtmpjlbafjmocbadGreatDoorBoxRef
import Derived.Test.YtmpjlbafjmocbadGreatDoorOpen
namespace Go.Proofs.YtmpjlbafjmocbadGreatDoor
open Go.RowKit

/-- what both answer -/
def boxOf (X Y : Nat → Int) (n : Nat) : Value := .tuple #[.agg #[.int .i64 (lo' X n), .int .i64 (lo' Y n), .int .i64 (hi' X n), .int .i64 (hi' Y n)], .bool (decide (0 < n))]

theorem boxOf_zero (X Y : Nat → Int) : boxOf X Y 0 = .tuple #[.agg #[.int .i64 0, .int .i64 0, .int .i64 0, .int .i64 0], .bool false] := rfl
theorem boxOf_pos (X Y : Nat → Int) (n : Nat) (h : 0 < n) : boxOf X Y n = .tuple #[.agg #[.int .i64 (lo X (n - 1)), .int .i64 (lo Y (n - 1)), .int .i64 (hi X (n - 1)), .int .i64 (hi Y (n - 1))], .bool true] := by
  cases n with
  | zero => omega
  | succ n => simp [boxOf, lo', hi']

theorem bounds_any (v : Value) (n : Nat) (X Y : Nat → Int) (w : World) (h : IsRow w v n X Y) :
    Calls Tryz.prog 12 #[v] w fun e w' => e = .returned (boxOf X Y n) ∧ Below w.heap.size w w' := by
  obtain ⟨a, c, rfl, hc, hm, _, h⟩ := h
  by_cases h0 : n = 0
  · subst h0; rw [boxOf_zero]; exact bounds_none a c w
  · rcases h with h | ⟨b, off, rfl, hb, hp⟩
    · exact absurd h h0
    rw [boxOf_pos _ _ _ (by omega)]
    by_cases h1 : c = 1
    · subst h1
      have hn : n = 1 := by omega
      subst hn
      have h := hp 0 (by omega)
      exact bounds_one b off (X 0) (Y 0) w hb (by simpa using h.1) (by simpa using h.2)
    · exact bounds_some b off n c X Y w (by omega) hc hm hb hp h1

theorem boxes_eq (a b c d : Int) (w : World) : (binOp .eql 36 (.agg #[.int .i64 a, .int .i64 b, .int .i64 c, .int .i64 d]) (.agg #[.int .i64 a, .int .i64 b, .int .i64 c, .int .i64 d])).run Tryz.prog w = .ok (.bool true) w := by
  have hS : Tryz.prog.underlying 36 = some (.struct (Tryz.prog.fieldsOf 36)) := by kernel_rfl
  have hp : Tryz.prog.stoodInHeld 36 = false := by kernel_rfl
  rw [run_eql_struct, show (10000 : Nat) = 9999 + 1 from rfl, run_equalIn_agg w 9999 36 _ _ hS hp]
  simp only [Program.fieldsOf, Tryz.underlying36]
  go_simp

end Go.Proofs.YtmpjlbafjmocbadGreatDoor
