/- strconv.FormatUint to base 16. -/
import Derived.Test.YtekjcmejnhhpaaaDoorKyRow
import Derived.Test.YtekjcmejnhhpaaaDoorSpShelf
import Derived.Lib.ItoaLen
import Derived.Laws.IdiomStrings
namespace Go.Proofs.YtekjcmejnhhpaaaDoor
open Go.RowKit

/-- what the listed package-level variables hold -/
structure Vars (w : World) : Prop where
  pow : Lib.TabIs Tryd.prog w "internal/strconv.uint64pow10" .u64 Lib.pow10Tab
  deb : w.cell? ⟨2, 15, none⟩ = some (.int .u8 4)
  room : (2 + 1) ≤ w.heap.size
theorem Tryd.gPow : Tryd.prog.globalNamed "internal/strconv.uint64pow10" = some 0 := by kernel_rfl
theorem Vars.keep {w w' : World} (h : Vars w) (hk : ∀ k, k < (2 + 1) → w'.heap[k]? = w.heap[k]?) (hs : w.heap.size ≤ w'.heap.size) : Vars w' := by
  obtain ⟨hp, hd, hr⟩ := h
  refine ⟨?_, (World.cell?_of_block (a := ⟨2, 15, none⟩) (hk _ (by show 2 < (2 + 1); omega))).trans hd, Nat.le_trans hr hs⟩
  unfold Lib.TabIs World.var? at *
  rw [Tryd.gPow] at *
  simp only [Option.bind_some] at *
  rw [hk _ (by omega)]
  exact hp
theorem Vars.go {w w' : World} {B : Nat} (h : Vars w) (hb : Below B w w') (hB : (2 + 1) ≤ B) : Vars w' := h.keep (fun k hk => hb.block k (by omega)) hb.size
theorem Vars.below {w w' : World} (h : Vars w) (hb : Below w.heap.size w w') : Vars w' := h.go hb h.room
theorem Vars.drew {w : World} (h : Vars w) : Vars w.drew := h.keep (fun _ _ => rfl) (Nat.le_refl _)

/-- the digits and letters -/
def digL : List UInt8 := [48, 49, 50, 51, 52, 53, 54, 55, 56, 57, 97, 98, 99, 100, 101, 102]
def dig (n : Nat) : UInt8 := digL.getD n 0
/-- a number to base 16 -/
def hexT (u : Nat) : List UInt8 := if u < 16 then [dig u] else hexT (u / 16) ++ [dig (u % 16)]
termination_by u
decreasing_by omega
theorem hexT_low {u : Nat} (h : u < 16) : hexT u = [dig u] := by rw [hexT, if_pos h]
theorem hexT_high {u : Nat} (h : 16 ≤ u) : hexT u = hexT (u / 16) ++ [dig (u % 16)] := by rw [hexT, if_neg (by omega)]

theorem pow2_any (w : World) : Calls Tryd.prog 60 #[.int .i64 16] w fun e w' => e = .returned (.bool true) ∧ w' = w := by
  have hb : (bits BinOp.and IntKind.i64 16 15 == 0) = true := by decide +kernel
  go_enter Tryd.func60, Tryd.ntmps60
  go_wp2
  go_ret
  exact ⟨rfl, rfl⟩
theorem tz64_core (x : Nat) (w : World) (hx0 : ((x : Int) == 0) = false) (key : IntKind.u64.wrap (bits BinOp.and IntKind.u64 (x : Int) (IntKind.u64.wrap (-(x : Int))) * 285870213051353865) / 288230376151711744 = ((15 : Nat) : Int)) (hcell : w.cell? ⟨2, 15, none⟩ = some (.int .u8 4)) :
    Calls Tryd.prog 64 #[.int .u64 x] w fun e w' => e = .returned (.int .i64 4) ∧ w' = w := by
  go_enter Tryd.func64, Tryd.ntmps64
  go_wp2_with (simp only [key])
  go_ret
  exact ⟨rfl, rfl⟩
theorem tz64_any (w : World) (hv : Vars w) : Calls Tryd.prog 64 #[.int .u64 16] w fun e w' => e = .returned (.int .i64 4) ∧ w' = w :=
  tz64_core 16 w (by decide) (by decide +kernel) hv.deb
theorem tz_any (w : World) (hv : Vars w) : Calls Tryd.prog 61 #[.int .u64 16] w fun e w' => e = .returned (.int .i64 4) ∧ w' = w := by
  have c := tz64_any w hv
  go_enter Tryd.func61, Tryd.ntmps61
  go_wp2_with (go_at_call 64; refine c.mono ?_; rintro e w' ⟨rfl, rfl⟩)
  go_ret
  exact ⟨rfl, rfl⟩
/-- the digits from place i on lie in the array -/
def Hx (w : World) (g i : Nat) (T : List UInt8) : Prop := T.length + i = 65 ∧ ∃ cur, w.heap[g]? = some (.cells cur 81 (0, 0)) ∧ cur.size = 65 ∧ ∀ j, j < T.length → cur[i + j]? = some (.int .u8 (T.getD j 0).toNat)
theorem Hx.put {w : World} {g i : Nat} {T : List UInt8} (h : Hx w g (i + 1) T) (b : UInt8) : Hx (w.setCell ⟨g, i, none⟩ (.int .u8 b.toNat)) g i (b :: T) := by
  obtain ⟨hl, cur, hg, hs, hc⟩ := h
  refine ⟨by simp; omega, _, Go.Joins.block_setCell hg _, by simp [hs], fun j hj => ?_⟩
  cases j with
  | zero => rw [Nat.add_zero, Array.getElem?_setIfInBounds_self_of_lt (by omega)]; rfl
  | succ j =>
    have := hc j (by simpa using hj)
    rw [Array.getElem?_setIfInBounds_ne (by omega), show i + (j + 1) = i + 1 + j by omega, this]
    rfl
end Go.Proofs.YtekjcmejnhhpaaaDoor
