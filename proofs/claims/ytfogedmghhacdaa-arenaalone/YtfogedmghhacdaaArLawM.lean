/- The numbers that each of four tenants made, in memory. -/
import Derived.Test.YtfogedmghhacdaaArRoomP
namespace Go.Proofs.Ytfogedmghhacdaa.A
open Go.RowKit Go.Maps

def spotI (v n : Int) : Int := if v.tmod n < 0 then v.tmod n + n else v.tmod n
theorem spotI_bound (v n : Int) (hn : 0 < n) : 0 ≤ spotI v n ∧ spotI v n < n := by
  have h1 := Int.lt_tmod_of_pos v hn
  have h2 := Int.tmod_lt_of_pos v hn
  unfold spotI
  split <;> omega
set_option maxHeartbeats 1000000 in
theorem spot_any (v n : Int) (w : World) (hn : 0 < n) (hn2 : n ≤ 4611686018427387904) : Calls Try.prog 13 #[.int .i64 v, .int .i64 n] w fun e w' => e = .returned (.int .i64 (spotI v n)) ∧ w' = w := by
  have h1 := Int.lt_tmod_of_pos v hn
  have h2 := Int.tmod_lt_of_pos v hn
  have hz : (n == 0) = false := by simp; omega
  by_cases h0 : v.tmod n < 0
  · have e : spotI v n = v.tmod n + n := by rw [spotI, if_pos h0]
    rw [e]
    go_enter Try.func13, Try.ntmps13
    go_wp2
    go_ret
    exact ⟨rfl, rfl⟩
  · have e : spotI v n = v.tmod n := by rw [spotI, if_neg h0]
    rw [e]
    go_enter Try.func13, Try.ntmps13
    go_wp2
    go_ret
    exact ⟨rfl, rfl⟩

/-- four rows of numbers, each in a block of its own -/
structure MadeAt (W : World) (B mb : Nat) (vs : Nat → Value) (M : Nat → List Int) : Prop where
  blk : W.heap[mb]? = some (.cells #[vs 0, vs 1, vs 2, vs 3] 54 (0, 0))
  row : ∀ t, t < 4 → W.ownsRow B 3 1 (vs t) (M t).length ((M t).map (Value.int .i64))
  apt : ∀ t u, t < 4 → u < 4 → t ≠ u → ∀ k, (vs t).ownBlock = some k → (vs u).ownBlock ≠ some k
  ne : ∀ t, t < 4 → (vs t).ownBlock ≠ some mb
  hb : B ≤ mb
def MadeOwn (vs : Nat → Value) (mb k : Nat) : Prop := k = mb ∨ ∃ t, t < 4 ∧ (vs t).ownBlock = some k
section
variable {W W' : World} {B mb : Nat} {vs : Nat → Value} {M : Nat → List Int}
theorem MadeAt.lt (h : MadeAt W B mb vs M) {k : Nat} (hk : MadeOwn vs mb k) : B ≤ k ∧ k < W.heap.size := by
  rcases hk with rfl | ⟨t, ht, e⟩
  · exact ⟨h.hb, (Array.getElem?_eq_some_iff.1 h.blk).1⟩
  · exact (h.row t ht).lt k e
theorem MadeAt.keep (h : MadeAt W B mb vs M) (hk : ∀ k, MadeOwn vs mb k → W'.heap[k]? = W.heap[k]?) : MadeAt W' B mb vs M :=
  ⟨(hk mb (.inl rfl)).trans h.blk, fun t ht => row_other (h.row t ht) fun k e => hk k (.inr ⟨t, ht, e⟩), h.apt, h.ne, h.hb⟩
theorem MadeAt.below (h : MadeAt W B mb vs M) (hb : Below W.heap.size W W') : MadeAt W' B mb vs M := h.keep fun k hk => hb.block k (h.lt hk).2
theorem MadeAt.cell (h : MadeAt W B mb vs M) {t : Nat} (ht : t < 4) : W.cell? ⟨mb, t, none⟩ = some (vs t) ∧ W.frozen? ⟨mb, t, none⟩ = false := by
  refine ⟨?_, Lib.frozen_of_heap h.blk t⟩
  rw [Lib.cell_of_heap h.blk t]
  match t, ht with
  | 0, _ => rfl
  | 1, _ => rfl
  | 2, _ => rfl
  | 3, _ => rfl
end
/-- a number that was made, counted round; 0 and 1 are Dead and Alive -/
def idOf (M : List Int) (n : Int) : Int := if spotI n ((M.length : Int) + 2) < 2 then spotI n ((M.length : Int) + 2) else M[(spotI n ((M.length : Int) + 2) - 2).toNat]!
theorem idOf_fits {M : List Int} (h : ∀ x ∈ M, Fits x) (n : Int) : Fits (idOf M n) := by
  have hb := spotI_bound n ((M.length : Int) + 2) (by omega)
  unfold idOf
  split
  · exact ⟨by omega, by omega⟩
  · rw [getElem!_pos M _ (by omega)]
    exact h _ (List.getElem_mem _)

set_option maxRecDepth 20000 in
set_option maxHeartbeats 2000000 in
theorem roomId_any (t : Nat) (n : Int) (B mb tb : Nat) (vs : Nat → Value) (M : Nat → List Int) (W : World) (h : MadeAt W B mb vs M) (ht : t < 4) (hl : (M t).length < 1000000) (htb : W.cell? ⟨tb, 0, none⟩ = some (.int .i64 t)) :
    Calls Try.prog 16 #[.int .i64 n, .pointer (some ⟨mb, 0, none⟩), .pointer (some ⟨tb, 0, none⟩)] W fun e w' => e = .returned (.int .i64 (idOf (M t) n)) ∧ w' = W := by
  have hc := (h.cell ht).1
  have hrow := h.row t ht
  obtain ⟨a, c, hv⟩ : ∃ a c, vs t = .slice a (M t).length c := by
    rcases hrow.2 with ⟨h1, h2⟩ | ⟨g, cap, cur, h1, _⟩
    · exact ⟨none, 0, by rw [h1, h2]⟩
    · exact ⟨_, _, h1⟩
  have h0 : (0 : Int) ≤ (t : Int) := by omega
  have h1 : (t : Int) < 4 := by omega
  rw [hv] at hc hrow
  have hsp := spot_any n (((M t).length : Int) + 2) W (by omega) (by omega)
  have hb := spotI_bound n (((M t).length : Int) + 2) (by omega)
  have HI : Hid (idOf (M t) n = if spotI n (((M t).length : Int) + 2) < 2 then spotI n (((M t).length : Int) + 2) else (M t)[(spotI n (((M t).length : Int) + 2) - 2).toNat]!) := rfl
  obtain ⟨ln, hln⟩ : ∃ x, x = (M t).length := ⟨_, rfl⟩
  rw [← hln] at hc hsp hb HI hl hrow
  have HL : Hid (ln = (M t).length) := hln
  have hw1 : IntKind.i64.wrap ((ln : Int) + 2) = (ln : Int) + 2 := by rw [IntKind.wrap_i64]; omega
  generalize spotI n ((ln : Int) + 2) = k at *
  clear hln hv
  by_cases hk : k < 2
  · have HI2 : Hid (idOf (M t) n = k) := HI.out.trans (if_pos hk)
    clear HI hrow
    go_enter Try.func16, Try.ntmps16
    go_wp2_with fail
    refine hsp.mono ?_
    rintro e w1 ⟨rfl, rfl⟩
    go_wp2_with fail
    go_ret
    exact ⟨by rw [HI2.out]; rfl, rfl⟩
  · obtain ⟨i, hi⟩ := Int.eq_ofNat_of_zero_le (show 0 ≤ k - 2 by omega)
    have HI2 : Hid (idOf (M t) n = (M t)[i]!) := HI.out.trans ((if_neg hk).trans (by rw [hi]; rfl))
    have hil : i < ln := by omega
    obtain ⟨g, rfl⟩ : ∃ g, a = some ⟨g, 0, none⟩ := by
      rcases hrow.2 with ⟨h1, h2⟩ | ⟨g, cap, cur, h1, _⟩
      · omega
      · simp only [Value.slice.injEq] at h1; exact ⟨g, h1.1⟩
    have hcell : W.cell? ⟨g, i, none⟩ = some (.int .i64 (M t)[i]!) := by
      rw [hrow.cellAt i (by omega), List.getElem?_map, List.getElem?_eq_getElem (by rw [← HL.out]; exact hil), getElem!_pos (M t) i (by rw [← HL.out]; exact hil)]
      rfl
    have k0 : (0 : Int) ≤ (i : Int) := by omega
    have k1 : (i : Int) < (ln : Int) := by omega
    have hw2 : IntKind.i64.wrap (k - 2) = (i : Int) := by rw [IntKind.wrap_i64]; omega
    generalize (M t)[i]! = x at *
    clear HI hrow hi
    go_enter Try.func16, Try.ntmps16
    go_wp2_with fail
    refine hsp.mono ?_
    rintro e w1 ⟨rfl, rfl⟩
    go_wp2_with fail
    go_ret
    exact ⟨by rw [HI2.out]; rfl, rfl⟩
end Go.Proofs.Ytfogedmghhacdaa.A
