/- own and level. -/
import Derived.Test.YtfogedmghhacdaaArRaw
import Derived.WalkSpells
import Derived.Laws.CopyOwn
import Derived.Deep.MidRow
namespace Go.Proofs.Ytfogedmghhacdaa.A
open Go.RowKit

def thsL (l : List Th) : List Value := l.flatMap Th.cells
theorem thsL_length (l : List Th) : (thsL l).length = l.length * 8 := by
  induction l with
  | nil => rfl
  | cons x r ih => simp [thsL, Th.cells] at *; omega
theorem thsL_at : ∀ (l : List Th) (i : Nat) (x : Th) (j : Nat), l[i]? = some x → j < 8 → (thsL l)[i * 8 + j]? = x.cells[j]?
  | [], i, x, j, h, _ => by simp at h
  | y :: r, 0, x, j, h, hj => by
    simp at h; subst h
    have : (thsL (y :: r)) = y.cells ++ thsL r := by simp [thsL]
    rw [this, List.getElem?_append_left (by simp [Th.cells]; omega)]
    simp
  | y :: r, i + 1, x, j, h, hj => by
    have : (thsL (y :: r)) = y.cells ++ thsL r := by simp [thsL]
    rw [this, List.getElem?_append_right (by simp [Th.cells]; omega)]
    rw [← thsL_at r i x j (by simpa using h) hj]
    congr 1
    simp [Th.cells]; omega

/-- the things' slice -/
def ThRow (w : World) (B : Nat) (v : Value) (l : List Th) : Prop := w.ownsRow B 82 8 v l.length (thsL l)
theorem ThRow.shape {w : World} {B : Nat} {v : Value} {l : List Th} (h : ThRow w B v l) : ∃ a c, v = .slice a l.length c := by
  rcases h.2 with ⟨h1, h2⟩ | ⟨g, cap, cur, h1, _⟩
  · exact ⟨none, 0, by rw [h1, h2]⟩
  · exact ⟨_, _, h1⟩
theorem ThRow.shape' {w : World} {B : Nat} {v : Value} {l : List Th} (h : ThRow w B v l) (h0 : 0 < l.length) : ∃ g c, v = .slice (some ⟨g, 0, none⟩) l.length c := by
  rcases h.2 with ⟨h1, h2⟩ | ⟨g, cap, cur, h1, _⟩
  · omega
  · exact ⟨_, _, h1⟩
theorem ThRow.cells {w : World} {B g c i : Nat} {l : List Th} {x : Th} (h : ThRow w B (.slice (some ⟨g, 0, none⟩) l.length c) l) (hi : l[i]? = some x) :
    w.cell? ⟨g, i * 8, none⟩ = some (.int .i64 x.k) ∧ w.cell? ⟨g, i * 8 + 1, none⟩ = some (.int .i64 x.p0) ∧ w.cell? ⟨g, i * 8 + 2, none⟩ = some (.int .i64 x.p1) ∧ w.cell? ⟨g, i * 8 + 3, none⟩ = some (.int .i64 x.p2) ∧ w.cell? ⟨g, i * 8 + 4, none⟩ = some (.int .i64 x.p3) ∧ w.cell? ⟨g, i * 8 + 5, none⟩ = some (.int .i64 x.lv) ∧ w.cell? ⟨g, i * 8 + 6, none⟩ = some (.int .i64 x.va) ∧ w.cell? ⟨g, i * 8 + 7, none⟩ = some (.int .u64 x.mask) := by
  have hlt : i < l.length := (List.getElem?_eq_some_iff.1 hi).1
  have key : ∀ j, j < 8 → w.cell? ⟨g, i * 8 + j, none⟩ = x.cells[j]? := fun j hj => by
    rw [h.cellAt (i * 8 + j) (by omega), thsL_at l i x j hi hj]
  exact ⟨key 0 (by omega), key 1 (by omega), key 2 (by omega), key 3 (by omega), key 4 (by omega), key 5 (by omega), key 6 (by omega), key 7 (by omega)⟩

def noTh : Th := ⟨0, 0, 0, 0, 0, 0, 0, 0⟩
/-- the thing of a number, if it is a tenant's own -/
def ownF (l : List Th) (t : Nat) (id : Int) : Option Th := if 2 ≤ id then (l[(id - 2).toNat]?).filter (fun x => x.mask.testBit t) else none

/-- eight cells of a block, set one behind the other -/
theorem set8 {w : World} {g : Nat} {T : TypeId} {fr : Nat × Nat} {a0 a1 a2 a3 a4 a5 a6 a7 : Value} (h : w.heap[g]? = some (.cells #[a0, a1, a2, a3, a4, a5, a6, a7] T fr)) (b0 b1 b2 b3 b4 b5 b6 b7 : Value) :
    ((((((((w.setCell ⟨g, 0, none⟩ b0).setCell ⟨g, 1, none⟩ b1).setCell ⟨g, 2, none⟩ b2).setCell ⟨g, 3, none⟩ b3).setCell ⟨g, 4, none⟩ b4).setCell ⟨g, 5, none⟩ b5).setCell ⟨g, 6, none⟩ b6).setCell ⟨g, 7, none⟩ b7).heap[g]? = some (.cells #[b0, b1, b2, b3, b4, b5, b6, b7] T fr) := by
  have h0 : (w.setCell ⟨g, 0, none⟩ b0).heap[g]? = some (.cells #[b0, a1, a2, a3, a4, a5, a6, a7] T fr) := Go.Joins.block_setCell h b0
  have h1 : ((w.setCell ⟨g, 0, none⟩ b0).setCell ⟨g, 1, none⟩ b1).heap[g]? = some (.cells #[b0, b1, a2, a3, a4, a5, a6, a7] T fr) := Go.Joins.block_setCell h0 b1
  have h2 : (((w.setCell ⟨g, 0, none⟩ b0).setCell ⟨g, 1, none⟩ b1).setCell ⟨g, 2, none⟩ b2).heap[g]? = some (.cells #[b0, b1, b2, a3, a4, a5, a6, a7] T fr) := Go.Joins.block_setCell h1 b2
  have h3 : ((((w.setCell ⟨g, 0, none⟩ b0).setCell ⟨g, 1, none⟩ b1).setCell ⟨g, 2, none⟩ b2).setCell ⟨g, 3, none⟩ b3).heap[g]? = some (.cells #[b0, b1, b2, b3, a4, a5, a6, a7] T fr) := Go.Joins.block_setCell h2 b3
  have h4 : (((((w.setCell ⟨g, 0, none⟩ b0).setCell ⟨g, 1, none⟩ b1).setCell ⟨g, 2, none⟩ b2).setCell ⟨g, 3, none⟩ b3).setCell ⟨g, 4, none⟩ b4).heap[g]? = some (.cells #[b0, b1, b2, b3, b4, a5, a6, a7] T fr) := Go.Joins.block_setCell h3 b4
  have h5 : ((((((w.setCell ⟨g, 0, none⟩ b0).setCell ⟨g, 1, none⟩ b1).setCell ⟨g, 2, none⟩ b2).setCell ⟨g, 3, none⟩ b3).setCell ⟨g, 4, none⟩ b4).setCell ⟨g, 5, none⟩ b5).heap[g]? = some (.cells #[b0, b1, b2, b3, b4, b5, a6, a7] T fr) := Go.Joins.block_setCell h4 b5
  have h6 : (((((((w.setCell ⟨g, 0, none⟩ b0).setCell ⟨g, 1, none⟩ b1).setCell ⟨g, 2, none⟩ b2).setCell ⟨g, 3, none⟩ b3).setCell ⟨g, 4, none⟩ b4).setCell ⟨g, 5, none⟩ b5).setCell ⟨g, 6, none⟩ b6).heap[g]? = some (.cells #[b0, b1, b2, b3, b4, b5, b6, a7] T fr) := Go.Joins.block_setCell h5 b6
  have h7 : ((((((((w.setCell ⟨g, 0, none⟩ b0).setCell ⟨g, 1, none⟩ b1).setCell ⟨g, 2, none⟩ b2).setCell ⟨g, 3, none⟩ b3).setCell ⟨g, 4, none⟩ b4).setCell ⟨g, 5, none⟩ b5).setCell ⟨g, 6, none⟩ b6).setCell ⟨g, 7, none⟩ b7).heap[g]? = some (.cells #[b0, b1, b2, b3, b4, b5, b6, b7] T fr) := Go.Joins.block_setCell h6 b7
  exact h7
theorem set8_below {w w0 : World} {g B : Nat} (h : Below B w0 w) (hB : B ≤ g) (b0 b1 b2 b3 b4 b5 b6 b7 : Value) :
    Below B w0 ((((((((w.setCell ⟨g, 0, none⟩ b0).setCell ⟨g, 1, none⟩ b1).setCell ⟨g, 2, none⟩ b2).setCell ⟨g, 3, none⟩ b3).setCell ⟨g, 4, none⟩ b4).setCell ⟨g, 5, none⟩ b5).setCell ⟨g, 6, none⟩ b6).setCell ⟨g, 7, none⟩ b7) :=
  (((((((h.setCell (p := ⟨g, 0, none⟩) hB b0).setCell (p := ⟨g, 1, none⟩) hB b1).setCell (p := ⟨g, 2, none⟩) hB b2).setCell (p := ⟨g, 3, none⟩) hB b3).setCell (p := ⟨g, 4, none⟩) hB b4).setCell (p := ⟨g, 5, none⟩) hB b5).setCell (p := ⟨g, 6, none⟩) hB b6).setCell (p := ⟨g, 7, none⟩) hB b7
theorem cells8 {w : World} {g : Nat} {T : TypeId} {fr : Nat × Nat} {a0 a1 a2 a3 a4 a5 a6 a7 : Value} (h : w.heap[g]? = some (.cells #[a0, a1, a2, a3, a4, a5, a6, a7] T fr)) :
    w.cell? ⟨g, 0, none⟩ = some a0 ∧ w.cell? ⟨g, 1, none⟩ = some a1 ∧ w.cell? ⟨g, 2, none⟩ = some a2 ∧ w.cell? ⟨g, 3, none⟩ = some a3 ∧ w.cell? ⟨g, 4, none⟩ = some a4 ∧ w.cell? ⟨g, 5, none⟩ = some a5 ∧ w.cell? ⟨g, 6, none⟩ = some a6 ∧ w.cell? ⟨g, 7, none⟩ = some a7 :=
  ⟨Lib.cell_of_heap h 0, Lib.cell_of_heap h 1, Lib.cell_of_heap h 2, Lib.cell_of_heap h 3, Lib.cell_of_heap h 4, Lib.cell_of_heap h 5, Lib.cell_of_heap h 6, Lib.cell_of_heap h 7⟩
theorem free8 {w : World} {g : Nat} {T : TypeId} {a : Array Value} (h : w.heap[g]? = some (.cells a T (0, 0))) :
    w.frozen? ⟨g, 0, none⟩ = false ∧ w.frozen? ⟨g, 1, none⟩ = false ∧ w.frozen? ⟨g, 2, none⟩ = false ∧ w.frozen? ⟨g, 3, none⟩ = false ∧ w.frozen? ⟨g, 4, none⟩ = false ∧ w.frozen? ⟨g, 5, none⟩ = false ∧ w.frozen? ⟨g, 6, none⟩ = false ∧ w.frozen? ⟨g, 7, none⟩ = false :=
  ⟨Lib.frozen_of_heap h 0, Lib.frozen_of_heap h 1, Lib.frozen_of_heap h 2, Lib.frozen_of_heap h 3, Lib.frozen_of_heap h 4, Lib.frozen_of_heap h 5, Lib.frozen_of_heap h 6, Lib.frozen_of_heap h 7⟩
theorem filter_some {l : List Th} {i t : Nat} {x : Th} (hx : l[i]? = some x) : (l[i]?).filter (fun x => x.mask.testBit t) = if x.mask.testBit t = true then some x else none := by
  rw [hx, Option.filter_some]
set_option maxHeartbeats 2000000 in
theorem own_any (b B t : Nat) (id : Int) (r : Raw) (l : List Th) (w : World) (h : RawAt w b r) (hl : ThRow w B r.vth l) (ht : t < 64) (hm : ∀ x ∈ l, x.mask < 18446744073709551616) (hid : -9223372036854775808 ≤ id ∧ id ≤ 9223372036854775807) :
    Calls Try.prog 53 #[.pointer (some ⟨b, 0, none⟩), .int .i64 t, .int .i64 id] w fun e w' => e = .returned (.tuple #[((ownF l t id).getD noTh).val, .bool (ownF l t id).isSome]) ∧ Below w.heap.size w w' := by
  have hb0 : Below w.heap.size w (w.alloc (.cells #[.int .i64 0, .int .i64 0, .int .i64 0, .int .i64 0, .int .i64 0, .int .i64 0, .int .i64 0, .int .u64 0] 82)) := (Below.refl _ _).alloc (Nat.le_refl _) _
  have c1 := h.at 1 (by omega)
  rw [Raw.c1] at c1
  have hblt := h.lt
  by_cases h2 : 2 ≤ id
  · obtain ⟨i, hi⟩ := Int.eq_ofNat_of_zero_le (show 0 ≤ id - 2 by omega)
    obtain rfl : id = (i : Int) + 2 := by omega
    have HO : Hid (ownF l t ((i : Int) + 2) = (l[i]?).filter (fun x => x.mask.testBit t)) := by
      show _ = _
      unfold ownF
      rw [if_pos h2, show ((i : Int) + 2 - 2).toNat = i by omega]
    have hn2 : ¬ (i : Int) + 2 < 2 := by omega
    clear hi
    by_cases hlt : i < l.length
    · obtain ⟨g, c, hv⟩ := hl.shape' (by omega)
      rw [hv] at c1 hl
      have hx : l[i]? = some l[i] := List.getElem?_eq_getElem hlt
      obtain ⟨d0, d1, d2, d3, d4, d5, d6, d7⟩ := hl.cells hx
      have hglt := (hl.lt g rfl).2
      have hmx := hm l[i] (List.getElem_mem _)
      have hio := fun W => isOwn_any l[i] t W hmx ht
      generalize l[i] = x at *
      have HF : Hid (ownF l t ((i : Int) + 2) = if x.mask.testBit t = true then some x else none) := HO.out.trans (filter_some hx)
      have hii : (i : Int) < (l.length : Int) := by omega
      have hi0 : (0 : Int) ≤ i := by omega
      clear hx hm HO hl hlt
      generalize l.length = n at *
      go_enter Try.func53, Try.ntmps53
      go_wp2_with fail
      refine (hio _).mono ?_
      rintro e w1 ⟨rfl, hb1⟩
      have hb1' := hb0.trans (hb1.mono hb0.size)
      have e1 := cell_later hb1' c1
      have g0 := cell_later hb1' d0
      have g1 := cell_later hb1' d1
      have g2 := cell_later hb1' d2
      have g3 := cell_later hb1' d3
      have g4 := cell_later hb1' d4
      have g5 := cell_later hb1' d5
      have g6 := cell_later hb1' d6
      have g7 := cell_later hb1' d7
      have hA : w1.heap[w.heap.size]? = some (.cells #[.int .i64 0, .int .i64 0, .int .i64 0, .int .i64 0, .int .i64 0, .int .i64 0, .int .i64 0, .int .u64 0] 82 (0, 0)) := (hb1.block w.heap.size (by simp)).trans (heap_alloc_new w _)
      obtain ⟨k0, k1, k2, k3, k4, k5, k6, k7⟩ := cells8 hA
      obtain ⟨z0, z1, z2, z3, z4, z5, z6, z7⟩ := free8 hA
      cases hbit : x.mask.testBit t with
      | true =>
        rw [hbit] at HF
        go_wp2_with fail
        have hR := set8 hA (.int .i64 x.k) (.int .i64 x.p0) (.int .i64 x.p1) (.int .i64 x.p2) (.int .i64 x.p3) (.int .i64 x.lv) (.int .i64 x.va) (.int .u64 x.mask)
        refine bodyPost_ret (v := .tuple #[x.val, .bool true]) ?_ rfl ⟨?_, ?_⟩
        · simp [results, Try.results53, go_sem, Th.val, Lib.cell_of_heap hR]
        · rw [HF.out]; rfl
        · exact set8_below hb1' (Nat.le_refl _) _ _ _ _ _ _ _ _
      | false =>
        rw [hbit] at HF
        go_wp2_with fail
        have hR := set8 hA (.int .i64 0) (.int .i64 0) (.int .i64 0) (.int .i64 0) (.int .i64 0) (.int .i64 0) (.int .i64 0) (.int .u64 0)
        refine bodyPost_ret (v := .tuple #[noTh.val, .bool false]) ?_ rfl ⟨?_, ?_⟩
        · simp [results, Try.results53, go_sem, noTh, Th.val, Lib.cell_of_heap hR]
        · rw [HF.out]; rfl
        · exact set8_below hb1' (Nat.le_refl _) _ _ _ _ _ _ _ _
    · have hnlt : ¬ (i : Int) < (l.length : Int) := by omega
      obtain ⟨a, c, hv⟩ := hl.shape
      rw [hv] at c1
      have HF : Hid (ownF l t ((i : Int) + 2) = none) := by
        show _ = _
        rw [HO.out, List.getElem?_eq_none (by omega)]; rfl
      clear HO hl hlt hm
      generalize l.length = n at *
      go_enter Try.func53, Try.ntmps53
      go_wp2_with fail
      refine bodyPost_ret (v := .tuple #[noTh.val, .bool false]) ?_ rfl ⟨?_, ?_⟩
      · simp [results, Try.results53, go_sem, noTh, Th.val]
      · rw [HF.out]; rfl
      · exact hb0
  · have hn2 : id < 2 := by omega
    have HO : Hid (ownF l t id = none) := by
      show _ = _
      unfold ownF
      rw [if_neg h2]
    go_enter Try.func53, Try.ntmps53
    go_wp2_with fail
    refine bodyPost_ret (v := .tuple #[noTh.val, .bool false]) ?_ rfl ⟨?_, ?_⟩
    · simp [results, Try.results53, go_sem, noTh, Th.val]
    · rw [HO.out]; rfl
    · exact hb0
end Go.Proofs.Ytfogedmghhacdaa.A
