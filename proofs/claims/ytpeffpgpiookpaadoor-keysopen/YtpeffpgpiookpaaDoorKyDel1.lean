/- Keys put into a row, a row cleared and cut. -/
import Derived.Test.YtpeffpgpiookpaaDoorKyTable
import Derived.Deep.Upon
import Derived.Laws.IdiomCopy
namespace Go.Proofs.YtpeffpgpiookpaaDoor
open Go.RowKit

theorem keysL_set (d : List Ky) (i : Nat) (x : Ky) (hi : i < d.length) : keysL (d.set i x) = (((keysL d).set (i * 3) (.string x.text)).set (i * 3 + 1) (.string x.name)).set (i * 3 + 2) (.int .i64 x.rights) := by
  induction d generalizing i with
  | nil => simp at hi
  | cons a r ih =>
    have hc : ∀ (y : Ky) (l : List Ky), keysL (y :: l) = .string y.text :: .string y.name :: .int .i64 y.rights :: keysL l := fun y l => rfl
    cases i with
    | zero => rw [List.set_cons_zero, hc, hc]; rfl
    | succ i =>
      rw [List.set_cons_succ, hc, hc, ih i (by simpa using hi), show (i + 1) * 3 = i * 3 + 1 + 1 + 1 by omega]
      simp only [List.set_cons_succ]
/-- a store of a whole key into a row -/
def putAt (w : World) (g o : Nat) (x : Ky) : World := ((w.setCell ⟨g, o, none⟩ (.string x.text)).setCell ⟨g, o + 1, none⟩ (.string x.name)).setCell ⟨g, o + 2, none⟩ (.int .i64 x.rights)
theorem KRow.put {w : World} {B g n cap : Nat} {d : List Ky} (h : KRow w B (.slice (some ⟨g, 0, none⟩) n cap) d) (i : Nat) (x : Ky) (hi : i < d.length) : KRow (putAt w g (i * 3) x) B (.slice (some ⟨g, 0, none⟩) n cap) (d.set i x) := by
  rcases h.2 with ⟨h0, _⟩ | ⟨g', cap', cur, hv, hb, hg, h1, h2, hs, ht⟩
  · cases h0
  · cases hv
    refine ⟨by rw [keysL_len], .inr ⟨g, cap, ((cur.setIfInBounds (i * 3) (.string x.text)).setIfInBounds (i * 3 + 1) (.string x.name)).setIfInBounds (i * 3 + 2) (.int .i64 x.rights), by rw [List.length_set], hb, Go.Joins.block_setCell (Go.Joins.block_setCell (Go.Joins.block_setCell hg _) _) _, by rw [List.length_set]; exact h1, h2, by simp [hs], ?_⟩⟩
    rw [keysL_set d i x hi, List.length_set, ← ht]
    simp only [Array.toList_setIfInBounds, List.take_set]
theorem putAt_far {w : World} {g o : Nat} {x : Ky} (k : Nat) (h : k ≠ g) : (putAt w g o x).heap[k]? = w.heap[k]? := by
  unfold putAt
  rw [Below.heap_setCell _ _ _ _ h, Below.heap_setCell _ _ _ _ h, Below.heap_setCell _ _ _ _ h]
theorem putAt_size {w : World} {g o : Nat} {x : Ky} : (putAt w g o x).heap.size = w.heap.size := by unfold putAt; simp [World.setCell]
theorem Only.putAt {g : Nat} {w w' : World} (h : Only g w w') (o : Nat) (x : Ky) : Only g w (putAt w' g o x) :=
  ⟨h.os, h.tape, h.output, by rw [putAt_size]; exact h.size, fun k hk hne => by rw [putAt_far k hne]; exact h.block k hk hne⟩
theorem Only.setCells {b : Nat} {w w' : World} (h : Only b w w') (o : Nat) (vs : List Value) : Only b w (w'.setCells b o vs) := by
  induction vs generalizing o w' with
  | nil => exact h
  | cons v r ih => exact ih (h.trans (Only.set w' o v)) (o + 1)
/-- the zero cells of a key -/
def zeroKy : Array Value := #[.string ⟨#[]⟩, .string ⟨#[]⟩, .int .i64 0]
theorem heap_setCells {w : World} {g : Nat} {cur : Array Value} {t : TypeId} {fr : Nat × Nat} (vs : List Value) (o : Nat) (h : w.heap[g]? = some (.cells cur t fr)) : ∃ cur', (w.setCells g o vs).heap[g]? = some (.cells cur' t fr) ∧ cur'.size = cur.size ∧ ∀ j, j < o → cur'[j]? = cur[j]? := by
  induction vs generalizing o w cur with
  | nil => exact ⟨cur, h, rfl, fun _ _ => rfl⟩
  | cons v r ih =>
    obtain ⟨cur', h1, h2, h3⟩ := ih (o + 1) (Go.Joins.block_setCell (i := o) h v)
    refine ⟨cur', h1, by rw [h2]; simp, fun j hj => ?_⟩
    rw [h3 j (by omega), Array.getElem?_setIfInBounds_ne (by omega)]
theorem KRow.cut {w : World} {B g n cap : Nat} {d : List Ky} (h : KRow w B (.slice (some ⟨g, 0, none⟩) n cap) d) (i : Nat) (hi : i ≤ d.length) (vs : List Value) : KRow (w.setCells g (i * 3) vs) B (.slice (some ⟨g, 0, none⟩) i cap) (d.take i) := by
  rcases h.2 with ⟨h0, _⟩ | ⟨g', cap', cur, hv, hb, hg, h1, h2, hs, ht⟩
  · cases h0
  · cases hv
    obtain ⟨cur', e1, e2, e3⟩ := heap_setCells vs (i * 3) hg
    have hl : (d.take i).length = i := by rw [List.length_take]; omega
    refine ⟨by rw [keysL_len], .inr ⟨g, cap, cur', by rw [hl], hb, e1, by omega, h2, by rw [e2, hs], ?_⟩⟩
    rw [hl]
    have hk : keysL (d.take i) = (keysL d).take (i * 3) := by
      have := keysL_append (d.take i) (d.drop i)
      rw [List.take_append_drop] at this
      have hkl : (keysL (d.take i)).length = i * 3 := by rw [keysL_len, hl]
      have h3 : (keysL (d.take i) ++ keysL (d.drop i)).take (i * 3) = keysL (d.take i) := by rw [← hkl, List.take_left]
      rw [← this] at h3
      exact h3.symm
    rw [hk, ← ht, List.take_take, Nat.min_eq_left (by omega)]
    apply List.ext_getElem?
    intro j
    rw [List.getElem?_take, List.getElem?_take]
    by_cases hj : j < i * 3
    · rw [if_pos hj, if_pos hj]; simpa using e3 j hj
    · rw [if_neg hj, if_neg hj]
theorem KRow.free {w : World} {B g n cap : Nat} {d : List Ky} (h : KRow w B (.slice (some ⟨g, 0, none⟩) n cap) d) (j : Nat) (hj : j < d.length * 3) : (w.cell? ⟨g, j, none⟩).isSome = true ∧ w.frozen? ⟨g, j, none⟩ = false := by
  rcases h.2 with ⟨h0, _⟩ | ⟨g', cap', cur, hv, hb, hg, h1, h2, hs, ht⟩
  · cases h0
  · cases hv
    have hjc : j < cur.size := by rw [hs]; omega
    refine ⟨?_, by simp [World.frozen?, hg]⟩
    rw [Lib.cell_of_heap hg, Array.getElem?_eq_getElem hjc]
    rfl
theorem KRow.at_ {w : World} {B g n cap : Nat} {d : List Ky} (h : KRow w B (.slice (some ⟨g, 0, none⟩) n cap) d) (k : Nat) (x : Ky) (hk : d[k]? = some x) : KAt w g (k * 3) x := by
  obtain ⟨p, cap', hv, _, _, _, h4⟩ := h.hk
  cases hv
  rcases h4 with h4 | ⟨b, off, e, _, hc⟩
  · have := (List.getElem?_eq_some_iff.1 hk).1; omega
  · cases e
    have := hc k x hk
    rwa [Nat.zero_add] at this
theorem KRow.cells {w : World} {B g n cap : Nat} {d : List Ky} (h : KRow w B (.slice (some ⟨g, 0, none⟩) n cap) d) (k : Nat) (hk : k < d.length) : ∃ x : Ky, w.cell? ⟨g, k * 3, none⟩ = some (.string x.text) ∧ w.cell? ⟨g, k * 3 + 1, none⟩ = some (.string x.name) ∧ w.cell? ⟨g, k * 3 + 2, none⟩ = some (.int .i64 x.rights) := ⟨d[k], h.at_ k _ (List.getElem?_eq_getElem hk)⟩
theorem KRow.frees {w : World} {B g n cap : Nat} {d : List Ky} (h : KRow w B (.slice (some ⟨g, 0, none⟩) n cap) d) (k : Nat) (hk : k < d.length) : w.frozen? ⟨g, k * 3, none⟩ = false ∧ w.frozen? ⟨g, k * 3 + 1, none⟩ = false ∧ w.frozen? ⟨g, k * 3 + 2, none⟩ = false := ⟨(h.free _ (by omega)).2, (h.free _ (by omega)).2, (h.free _ (by omega)).2⟩
/-- 'clear' of a slice of keys -/
theorem clear_run (w : World) (ty : TypeId) (b o n c : Nat) (hn : 0 < n) (hc : ∀ j, j < n * 3 → (w.cell? ⟨b, o + j, none⟩).isSome = true ∧ w.frozen? ⟨b, o + j, none⟩ = false) :
    (Builtin.clear_ #[22] ty #[.slice (some ⟨b, o, none⟩) n c]).run Tryd.prog w = .ok (.tuple #[]) (w.setCells b o (Builtin.zeroCells zeroKy n).toList) := by
  have hl : (Builtin.zeroCells zeroKy n).toList.length = n * 3 := by
    rw [Array.length_toList, size_zeroCells]; rfl
  have h1 : ∀ v ∈ (Builtin.zeroCells zeroKy n).toList, v.oneCell' = true := by
    intro v hv
    simp only [Builtin.zeroCells, Array.toList_map, List.mem_map] at hv
    obtain ⟨i, _, rfl⟩ := hv
    have : i % 3 < 3 := Nat.mod_lt _ (by omega)
    rcases (by omega : i % 3 = 0 ∨ i % 3 = 1 ∨ i % 3 = 2) with h | h | h <;> simp [h, zeroKy] <;> rfl
  have hst := run_storeCells_cells (P := Tryd.prog) b o (Builtin.zeroCells zeroKy n).toList 0 w (by rw [hl]; simpa using fun j hj => (hc j hj).1) (by rw [hl]; simpa using fun j hj => (hc j hj).2) h1
  simp only [Nat.add_zero] at hst
  obtain ⟨m, rfl⟩ : ∃ m, n = m + 1 := ⟨n - 1, by omega⟩
  unfold zeroKy at hst ⊢
  simp [Builtin.clear_, run_underlying Tryd.underlying22, Value.cells, hst]
end Go.Proofs.YtpeffpgpiookpaaDoor
