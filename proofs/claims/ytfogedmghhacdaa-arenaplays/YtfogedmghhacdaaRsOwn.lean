/- The plain store: owned. -/
import Derived.Test.YtfogedmghhacdaaRsRead
namespace Go.Proofs.Ytfogedmghhacdaa.A
open Go.RowKit

theorem set9 {w : World} {g : Nat} {T : TypeId} {fr : Nat × Nat} {a0 a1 a2 a3 a4 a5 a6 a7 a8 : Value} (h : w.heap[g]? = some (.cells #[a0, a1, a2, a3, a4, a5, a6, a7, a8] T fr)) (b0 b1 b2 b3 b4 b5 b6 b7 b8 : Value) :
    (((((((((w.setCell ⟨g, 0, none⟩ b0).setCell ⟨g, 1, none⟩ b1).setCell ⟨g, 2, none⟩ b2).setCell ⟨g, 3, none⟩ b3).setCell ⟨g, 4, none⟩ b4).setCell ⟨g, 5, none⟩ b5).setCell ⟨g, 6, none⟩ b6).setCell ⟨g, 7, none⟩ b7).setCell ⟨g, 8, none⟩ b8).heap[g]? = some (.cells #[b0, b1, b2, b3, b4, b5, b6, b7, b8] T fr) := by
  have h0 : (w.setCell ⟨g, 0, none⟩ b0).heap[g]? = some (.cells #[b0, a1, a2, a3, a4, a5, a6, a7, a8] T fr) := Go.Joins.block_setCell h b0
  have h1 : ((w.setCell ⟨g, 0, none⟩ b0).setCell ⟨g, 1, none⟩ b1).heap[g]? = some (.cells #[b0, b1, a2, a3, a4, a5, a6, a7, a8] T fr) := Go.Joins.block_setCell h0 b1
  have h2 : (((w.setCell ⟨g, 0, none⟩ b0).setCell ⟨g, 1, none⟩ b1).setCell ⟨g, 2, none⟩ b2).heap[g]? = some (.cells #[b0, b1, b2, a3, a4, a5, a6, a7, a8] T fr) := Go.Joins.block_setCell h1 b2
  have h3 : ((((w.setCell ⟨g, 0, none⟩ b0).setCell ⟨g, 1, none⟩ b1).setCell ⟨g, 2, none⟩ b2).setCell ⟨g, 3, none⟩ b3).heap[g]? = some (.cells #[b0, b1, b2, b3, a4, a5, a6, a7, a8] T fr) := Go.Joins.block_setCell h2 b3
  have h4 : (((((w.setCell ⟨g, 0, none⟩ b0).setCell ⟨g, 1, none⟩ b1).setCell ⟨g, 2, none⟩ b2).setCell ⟨g, 3, none⟩ b3).setCell ⟨g, 4, none⟩ b4).heap[g]? = some (.cells #[b0, b1, b2, b3, b4, a5, a6, a7, a8] T fr) := Go.Joins.block_setCell h3 b4
  have h5 : ((((((w.setCell ⟨g, 0, none⟩ b0).setCell ⟨g, 1, none⟩ b1).setCell ⟨g, 2, none⟩ b2).setCell ⟨g, 3, none⟩ b3).setCell ⟨g, 4, none⟩ b4).setCell ⟨g, 5, none⟩ b5).heap[g]? = some (.cells #[b0, b1, b2, b3, b4, b5, a6, a7, a8] T fr) := Go.Joins.block_setCell h4 b5
  have h6 : (((((((w.setCell ⟨g, 0, none⟩ b0).setCell ⟨g, 1, none⟩ b1).setCell ⟨g, 2, none⟩ b2).setCell ⟨g, 3, none⟩ b3).setCell ⟨g, 4, none⟩ b4).setCell ⟨g, 5, none⟩ b5).setCell ⟨g, 6, none⟩ b6).heap[g]? = some (.cells #[b0, b1, b2, b3, b4, b5, b6, a7, a8] T fr) := Go.Joins.block_setCell h5 b6
  have h7 : ((((((((w.setCell ⟨g, 0, none⟩ b0).setCell ⟨g, 1, none⟩ b1).setCell ⟨g, 2, none⟩ b2).setCell ⟨g, 3, none⟩ b3).setCell ⟨g, 4, none⟩ b4).setCell ⟨g, 5, none⟩ b5).setCell ⟨g, 6, none⟩ b6).setCell ⟨g, 7, none⟩ b7).heap[g]? = some (.cells #[b0, b1, b2, b3, b4, b5, b6, b7, a8] T fr) := Go.Joins.block_setCell h6 b7
  exact Go.Joins.block_setCell h7 b8
theorem set9_below {w w0 : World} {g B : Nat} (h : Below B w0 w) (hB : B ≤ g) (b0 b1 b2 b3 b4 b5 b6 b7 b8 : Value) :
    Below B w0 (((((((((w.setCell ⟨g, 0, none⟩ b0).setCell ⟨g, 1, none⟩ b1).setCell ⟨g, 2, none⟩ b2).setCell ⟨g, 3, none⟩ b3).setCell ⟨g, 4, none⟩ b4).setCell ⟨g, 5, none⟩ b5).setCell ⟨g, 6, none⟩ b6).setCell ⟨g, 7, none⟩ b7).setCell ⟨g, 8, none⟩ b8) :=
  ((((((((h.setCell (p := ⟨g, 0, none⟩) hB b0).setCell (p := ⟨g, 1, none⟩) hB b1).setCell (p := ⟨g, 2, none⟩) hB b2).setCell (p := ⟨g, 3, none⟩) hB b3).setCell (p := ⟨g, 4, none⟩) hB b4).setCell (p := ⟨g, 5, none⟩) hB b5).setCell (p := ⟨g, 6, none⟩) hB b6).setCell (p := ⟨g, 7, none⟩) hB b7).setCell (p := ⟨g, 8, none⟩) hB b8
theorem cells9 {w : World} {g : Nat} {T : TypeId} {fr : Nat × Nat} {a0 a1 a2 a3 a4 a5 a6 a7 a8 : Value} (h : w.heap[g]? = some (.cells #[a0, a1, a2, a3, a4, a5, a6, a7, a8] T fr)) :
    w.cell? ⟨g, 0, none⟩ = some a0 ∧ w.cell? ⟨g, 1, none⟩ = some a1 ∧ w.cell? ⟨g, 2, none⟩ = some a2 ∧ w.cell? ⟨g, 3, none⟩ = some a3 ∧ w.cell? ⟨g, 4, none⟩ = some a4 ∧ w.cell? ⟨g, 5, none⟩ = some a5 ∧ w.cell? ⟨g, 6, none⟩ = some a6 ∧ w.cell? ⟨g, 7, none⟩ = some a7 ∧ w.cell? ⟨g, 8, none⟩ = some a8 :=
  ⟨Lib.cell_of_heap h 0, Lib.cell_of_heap h 1, Lib.cell_of_heap h 2, Lib.cell_of_heap h 3, Lib.cell_of_heap h 4, Lib.cell_of_heap h 5, Lib.cell_of_heap h 6, Lib.cell_of_heap h 7, Lib.cell_of_heap h 8⟩
theorem free9 {w : World} {g : Nat} {T : TypeId} {a : Array Value} (h : w.heap[g]? = some (.cells a T (0, 0))) :
    w.frozen? ⟨g, 0, none⟩ = false ∧ w.frozen? ⟨g, 1, none⟩ = false ∧ w.frozen? ⟨g, 2, none⟩ = false ∧ w.frozen? ⟨g, 3, none⟩ = false ∧ w.frozen? ⟨g, 4, none⟩ = false ∧ w.frozen? ⟨g, 5, none⟩ = false ∧ w.frozen? ⟨g, 6, none⟩ = false ∧ w.frozen? ⟨g, 7, none⟩ = false ∧ w.frozen? ⟨g, 8, none⟩ = false :=
  ⟨Lib.frozen_of_heap h 0, Lib.frozen_of_heap h 1, Lib.frozen_of_heap h 2, Lib.frozen_of_heap h 3, Lib.frozen_of_heap h 4, Lib.frozen_of_heap h 5, Lib.frozen_of_heap h 6, Lib.frozen_of_heap h 7, Lib.frozen_of_heap h 8⟩

/-- a tenant's own thing of a kind -/
def ownedF (l : List Rt) (t : Nat) (id k : Int) : Option Rt :=
  if k = 0 ∧ (id = 0 ∨ id = 1) then some noRt else match atF l id with
  | some i => match l[i]? with | some x => if x.k = k ∧ x.mask.testBit t = true then some x else none | none => none
  | none => none
/-- a mask's bit, as the document reads it -/
theorem shr_bit (m t : Nat) : ((m >>> t) % 2 == 0) = !m.testBit t := by
  rw [Nat.testBit_eq_decide_div_mod_eq, Nat.shiftRight_eq_div_pow]
  rcases Nat.mod_two_eq_zero_or_one (m / 2 ^ t) with e | e <;> rw [e] <;> simp
theorem tmod_nat (m t : Nat) : ((m : Int) / 2 ^ t).tmod 2 = ((m / 2 ^ t % 2 : Nat) : Int) := by
  have e : (m : Int) / 2 ^ t = ((m / 2 ^ t : Nat) : Int) := by push_cast; rfl
  rw [e]
  rfl
theorem bit_zero (m t : Nat) : (((m : Int) / 2 ^ t).tmod 2 == 0) = !m.testBit t := by
  rw [tmod_nat, Nat.testBit_eq_decide_div_mod_eq]
  rcases Nat.mod_two_eq_zero_or_one (m / 2 ^ t) with e | e <;> rw [e] <;> rfl
theorem bit_one (m t : Nat) : (((m : Int) / 2 ^ t).tmod 2 == 1) = m.testBit t := by
  rw [tmod_nat, Nat.testBit_eq_decide_div_mod_eq]
  rcases Nat.mod_two_eq_zero_or_one (m / 2 ^ t) with e | e <;> rw [e] <;> rfl

set_option maxHeartbeats 1000000 in
theorem owned_any (b t : Nat) (id : Int) (r : Sr) (l : List Rt) (w : World) (h : SrAt w b r) (hl : RtRow w r.vth l) (hn : l.length < 1000000) (ht : t < 64) (hm : ∀ x ∈ l, x.mask < 18446744073709551616) :
    Calls Try.prog 51 #[.pointer (some ⟨b, 0, none⟩), .int .i64 t, .int .i64 id, .int .i64 0] w fun e w' => e = .returned (.tuple #[((ownedF l t id 0).getD noRt).val, .bool (ownedF l t id 0).isSome]) ∧ Below w.heap.size w w' := by
  have hb0 : Below w.heap.size w (w.alloc (.cells #[.int .i64 0, .int .i64 0, .int .i64 0, .int .i64 0, .int .i64 0, .int .i64 0, .int .i64 0, .int .i64 0, .int .u64 0] 84)) := (Below.refl _ _).alloc (Nat.le_refl _) _
  have hA : (w.alloc (.cells #[.int .i64 0, .int .i64 0, .int .i64 0, .int .i64 0, .int .i64 0, .int .i64 0, .int .i64 0, .int .i64 0, .int .u64 0] 84)).heap[w.heap.size]? = _ := heap_alloc_new w _
  have hat := at_any b id r l (w.alloc (.cells #[.int .i64 0, .int .i64 0, .int .i64 0, .int .i64 0, .int .i64 0, .int .i64 0, .int .i64 0, .int .i64 0, .int .u64 0] 84)) (h.go (hb0.block _ h.lt)) (hl.alloc _) hn
  have HL : Hid (RtRow (w.alloc (.cells #[.int .i64 0, .int .i64 0, .int .i64 0, .int .i64 0, .int .i64 0, .int .i64 0, .int .i64 0, .int .i64 0, .int .u64 0] 84)) r.vth l) := hl.alloc _
  clear hl h
  by_cases h01 : id = 0 ∨ id = 1
  · have HX : Hid (ownedF l t id 0 = some noRt) := if_pos ⟨rfl, h01⟩
    rcases h01 with rfl | rfl
    all_goals
      clear hat
      go_enter Try.func51, Try.ntmps51
      go_wp2_with fail
      refine bodyPost_ret (v := .tuple #[noRt.val, .bool true]) ?_ rfl ⟨?_, ?_⟩
      · simp [results, Try.results51, go_sem, noRt, Rt.val]
      · rw [HX.out]; rfl
      · exact hb0
  · have e0 : (id == 0) = false := by simpa using fun e => h01 (.inl e)
    have e1 : (id == 1) = false := by simpa using fun e => h01 (.inr e)
    have HO : Hid (ownedF l t id 0 = match atF l id with | some i => (match l[i]? with | some x => if x.k = 0 ∧ x.mask.testBit t = true then some x else none | none => none) | none => none) := if_neg fun e => h01 e.2
    clear h01
    go_enter Try.func51, Try.ntmps51
    go_wp2_with fail
    refine hat.mono ?_
    rintro e w1 ⟨rfl, hw1⟩
    have hw2 := hw1.symm
    subst hw2
    clear hw1 hat
    generalize w.alloc (.cells #[.int .i64 0, .int .i64 0, .int .i64 0, .int .i64 0, .int .i64 0, .int .i64 0, .int .i64 0, .int .i64 0, .int .u64 0] 84) = w0 at *
    obtain ⟨f0, f1, f2, f3, f4, f5, f6, f7, f8⟩ := cells9 hA
    obtain ⟨z0, z1, z2, z3, z4, z5, z6, z7, z8⟩ := free9 hA
    have hR := fun c0 c1 c2 c3 c4 c5 c6 c7 c8 => set9 hA c0 c1 c2 c3 c4 c5 c6 c7 c8
    have HR : Hid (∀ c0 c1 c2 c3 c4 c5 c6 c7 c8 : Value, _) := hR
    clear hR hA
    cases hat : atF l id with
    | none =>
      rw [hat] at HO
      have HX : Hid (ownedF l t id 0 = none) := HO.out
      clear HO hat
      simp only [ptrOf]
      go_wp2_with fail
      refine bodyPost_ret (v := .tuple #[noRt.val, .bool false]) ?_ rfl ⟨?_, ?_⟩
      · simp [results, Try.results51, go_sem, noRt, Rt.val, Lib.cell_of_heap (HR.out (.int .i64 0) (.int .i64 0) (.int .i64 0) (.int .i64 0) (.int .i64 0) (.int .i64 0) (.int .i64 0) (.int .i64 0) (.int .u64 0))]
      · rw [HX.out]; rfl
      · exact set9_below hb0 (Nat.le_refl _) _ _ _ _ _ _ _ _ _
    | some i =>
      rw [hat] at HO
      have hlt := (List.findIdx?_eq_some_iff_getElem.1 hat).1
      obtain ⟨x, hx⟩ : ∃ x, l[i]? = some x := ⟨_, List.getElem?_eq_getElem hlt⟩
      obtain ⟨g, c, hv⟩ := HL.out.shape' (by omega)
      have hl2 := HL.out
      rw [hv] at hl2
      obtain ⟨d0, d1, d2, d3, d4, d5, d6, d7, d8⟩ := hl2.cells hx
      have hg0 := (hl2.lt g rfl).2
      simp only [ptrOf]
      rw [hv]
      simp only
      have HO2 : Hid (ownedF l t id 0 = if x.k = 0 ∧ x.mask.testBit t = true then some x else none) := HO.out.trans (by simp only [hx])
      have hmx : x.mask < 18446744073709551616 := hm x (List.mem_of_getElem? hx)
      clear hl2 HL hv hat hx HO hlt hm
      by_cases hk : x.k = 0
      · rw [hk] at d1 HO2
        have hbz := bit_zero x.mask t
        cases hbt : x.mask.testBit t with
        | true =>
          rw [hbt] at hbz
          have HX : Hid (ownedF l t id 0 = some x) := HO2.out.trans (if_pos ⟨rfl, hbt⟩)
          have HK : Hid (x.k = 0) := hk
          simp only [Bool.not_true] at hbz
          clear hbt HO2 hk
          go_wp2_with fail
          refine bodyPost_ret (v := .tuple #[x.val, .bool true]) ?_ rfl ⟨?_, ?_⟩
          · simp [results, Try.results51, go_sem, Rt.val, Lib.cell_of_heap (HR.out (.int .i64 x.id) (.int .i64 0) (.int .i64 x.lv) (.int .i64 x.va) (.int .i64 x.p0) (.int .i64 x.p1) (.int .i64 x.p2) (.int .i64 x.p3) (.int .u64 x.mask)), HK.out]
          · rw [HX.out]; rfl
          · exact set9_below hb0 (Nat.le_refl _) _ _ _ _ _ _ _ _ _
        | false =>
          rw [hbt] at hbz
          have HX : Hid (ownedF l t id 0 = none) := HO2.out.trans (if_neg fun e => by rw [hbt] at e; exact absurd e.2 (by decide))
          simp only [Bool.not_false] at hbz
          clear hbt HO2 hk
          go_wp2_with fail
          refine bodyPost_ret (v := .tuple #[noRt.val, .bool false]) ?_ rfl ⟨?_, ?_⟩
          · simp [results, Try.results51, go_sem, noRt, Rt.val, Lib.cell_of_heap (HR.out (.int .i64 0) (.int .i64 0) (.int .i64 0) (.int .i64 0) (.int .i64 0) (.int .i64 0) (.int .i64 0) (.int .i64 0) (.int .u64 0))]
          · rw [HX.out]; rfl
          · exact set9_below hb0 (Nat.le_refl _) _ _ _ _ _ _ _ _ _
      · have HX : Hid (ownedF l t id 0 = none) := HO2.out.trans (if_neg fun e => hk e.1)
        have hk' : (x.k != 0) = true := by simpa using hk
        clear hk HO2
        go_wp2_with fail
        refine bodyPost_ret (v := .tuple #[noRt.val, .bool false]) ?_ rfl ⟨?_, ?_⟩
        · simp [results, Try.results51, go_sem, noRt, Rt.val, Lib.cell_of_heap (HR.out (.int .i64 0) (.int .i64 0) (.int .i64 0) (.int .i64 0) (.int .i64 0) (.int .i64 0) (.int .i64 0) (.int .i64 0) (.int .u64 0))]
        · rw [HX.out]; rfl
        · exact set9_below hb0 (Nat.le_refl _) _ _ _ _ _ _ _ _ _
end Go.Proofs.Ytfogedmghhacdaa.A
