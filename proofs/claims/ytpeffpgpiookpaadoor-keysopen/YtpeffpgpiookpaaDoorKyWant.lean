/- Keys that are asked for; spot. -/
import Derived.Test.YtpeffpgpiookpaaDoorKyMint
namespace Go.Proofs.YtpeffpgpiookpaaDoor
open Go.RowKit

/-- a key that is asked for -/
structure Wt where
  name : ByteArray
  rights : Int
  draw : Int
/-- one and a number counted round below 3 -/
def sp3 (v : Int) : Int := if v.tmod 3 < 0 then v.tmod 3 + 3 else v.tmod 3
theorem sp3_lo (v : Int) : 0 ≤ sp3 v := by
  have := Int.lt_tmod_of_pos v (show (0 : Int) < 3 by decide)
  unfold sp3; split <;> omega
theorem sp3_hi (v : Int) : sp3 v ≤ 2 := by
  have := Int.tmod_lt_of_pos v (show (0 : Int) < 3 by decide)
  unfold sp3; split <;> omega
/-- the key that is minted at the i-th place -/
def mkKy (i : Nat) (x : Wt) : Ky := ⟨⟨(keyT i x.draw).toArray⟩, x.name, 1 + sp3 x.rights⟩
def keysOf (ls : List Wt) : List Ky := ls.mapIdx mkKy
theorem keysOf_len (ls : List Wt) : (keysOf ls).length = ls.length := by unfold keysOf; simp
theorem keysOf_step (ls : List Wt) (j : Nat) (x : Wt) (h : ls[j]? = some x) : keysOf (ls.take (j + 1)) = keysOf (ls.take j) ++ [mkKy j x] := by
  obtain ⟨h1, h2⟩ := List.getElem?_eq_some_iff.1 h
  unfold keysOf
  rw [List.take_succ_eq_append_getElem h1, List.mapIdx_concat, List.length_take, Nat.min_eq_left (by omega), h2]
theorem keysOf_at (ls : List Wt) (j : Nat) (x : Wt) (h : ls[j]? = some x) : (keysOf ls)[j]? = some (mkKy j x) := by
  unfold keysOf
  rw [List.getElem?_mapIdx, h]
  rfl
/-- the cells of one that is asked for -/
def WAt (w : World) (b off : Nat) (x : Wt) : Prop := w.cell? ⟨b, off, none⟩ = some (.string x.name) ∧ w.cell? ⟨b, off + 1, none⟩ = some (.int .i64 x.rights) ∧ w.cell? ⟨b, off + 2, none⟩ = some (.int .i64 x.draw)
theorem WAt.keep {w w' : World} {b off : Nat} {x : Wt} (h : WAt w b off x) (hb : w'.heap[b]? = w.heap[b]?) : WAt w' b off x :=
  ⟨(cell_heap (a := ⟨b, off, none⟩) hb).trans h.1, (cell_heap (a := ⟨b, off + 1, none⟩) hb).trans h.2.1, (cell_heap (a := ⟨b, off + 2, none⟩) hb).trans h.2.2⟩
def HWt (w : World) (v : Value) (ls : List Wt) : Prop :=
  ∃ p cap, v = .slice p ls.length cap ∧ ls.length ≤ cap ∧ cap ≤ 9223372036854775807 ∧ (ls.length = 0 ∨ ∃ b off, p = some ⟨b, off, none⟩ ∧ b < w.heap.size ∧ ∀ k x, ls[k]? = some x → WAt w b (off + k * 3) x)
theorem HWt.below {w w' : World} {v : Value} {ls : List Wt} (h : HWt w v ls) (hb : Below w.heap.size w w') : HWt w' v ls := by
  obtain ⟨p, cap, h1, h2, h3, h4⟩ := h
  refine ⟨p, cap, h1, h2, h3, ?_⟩
  rcases h4 with h4 | ⟨b, off, e, hlt, hc⟩
  · exact .inl h4
  · exact .inr ⟨b, off, e, Nat.lt_of_lt_of_le hlt hb.size, fun k x hk => (hc k x hk).keep (hb.block b hlt)⟩
theorem spot_any (v : Int) (w : World) :
    Calls Tryd.prog 12 #[.int .i64 v, .int .i64 3] w fun e w' => e = .returned (.int .i64 (sp3 v)) ∧ w' = w := by
  have h1 := Int.lt_tmod_of_pos v (show (0 : Int) < 3 by decide)
  have h2 := Int.tmod_lt_of_pos v (show (0 : Int) < 3 by decide)
  by_cases hn : v.tmod 3 < 0
  · have e : sp3 v = v.tmod 3 + 3 := by rw [sp3, if_pos hn]
    rw [e]
    go_enter Tryd.func12, Tryd.ntmps12
    go_wp2
    go_ret
    exact ⟨rfl, rfl⟩
  · have e : sp3 v = v.tmod 3 := by rw [sp3, if_neg hn]
    rw [e]
    go_enter Tryd.func12, Tryd.ntmps12
    go_wp2
    go_ret
    exact ⟨rfl, rfl⟩
end Go.Proofs.YtpeffpgpiookpaaDoor
