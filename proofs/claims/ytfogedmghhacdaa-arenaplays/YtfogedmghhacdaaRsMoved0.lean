/- ArenaPlays: what one move wants. -/
import Derived.Test.YtfogedmghhacdaaRsTwo
namespace Go.Proofs.Ytfogedmghhacdaa.A
open Go.RowKit Go.Maps

def idsO (a : Option Addr) (n c : Nat) : Obj := .cells #[.slice a n c] 33
set_option maxRecDepth 20000 in
set_option maxHeartbeats 2000000 in
theorem of_eq (l : List Int) (a : Option Addr) (m c : Nat) (n : Int) (w : World) (h : IntRow w (.slice a m c) l) (hml : m = l.length) (hl : m < 1000000) :
    Calls Try.prog 24 #[.agg #[.slice a m c], .int .i64 n] w fun e w' => e = .returned (.int .i64 (ofF l n)) ∧ w' = w.alloc (.cells #[.slice a m c] 33) := by
  obtain ⟨a', c', he, hg⟩ := row_slice h
  have HG : Hid (m = 0 ∨ ∃ g, a = some ⟨g, 0, none⟩) := by
    injection he with e1 e2 e3
    rw [e1, hml]
    exact hg
  have HH : Hid (w.ownsRow 0 3 1 (.slice a m c) m (l.map (Value.int .i64))) := by
    have h2 := h
    unfold IntRow at h2
    rw [← hml] at h2
    exact h2
  have HM : Hid (m = l.length) := hml
  clear h hg hml he
  by_cases h2 : 2 ≤ n
  · by_cases h4 : n < 40
    · by_cases h5 : n - 2 < (m : Int)
      · obtain ⟨g, rfl⟩ : ∃ g, a = some ⟨g, 0, none⟩ := by
          rcases HG.out with e | e
          · omega
          · exact e
        obtain ⟨k, hk⟩ : ∃ k : Nat, k = m - 1 - (n - 2).toNat := ⟨_, rfl⟩
        have hkm : k < m := by omega
        have hki : (m : Int) - 1 - (n - 2) = (k : Int) := by omega
        obtain ⟨x, hx⟩ : ∃ x, l[k]? = some x := ⟨_, List.getElem?_eq_getElem (by rw [← HM.out]; exact hkm)⟩
        have hc : w.cell? ⟨g, k, none⟩ = some (.int .i64 x) := by rw [HH.out.cellAt k (by omega), List.getElem?_map, hx]; rfl
        have hgl := (HH.out.lt g rfl).2
        have HO : Hid (ofF l n = x) := show _ = _ by
          unfold ofF
          rw [if_pos ⟨h2, h4, by rw [← HM.out]; exact h5⟩, ← HM.out, ← hk, hx]
          rfl
        have k0 : (0 : Int) ≤ (k : Int) := by omega
        have k1 : (k : Int) < (m : Int) := by omega
        have s1 : IntKind.i64.wrap (n - 2) = n - 2 := by rw [IntKind.wrap_i64]; omega
        have s2 : IntKind.i64.wrap ((m : Int) - 1) = (m : Int) - 1 := by rw [IntKind.wrap_i64]; omega
        have s3 : IntKind.i64.wrap ((m : Int) - 1 - (n - 2)) = (k : Int) := by rw [hki, IntKind.wrap_i64]; omega
        clear hk hki hx
        go_enter Try.func24, Try.ntmps24
        go_wp2_with fail
        go_ret
        rw [HO.out]
        exact ⟨rfl, rfl⟩
      · have HO : Hid (ofF l n = n) := if_neg fun e => h5 (by rw [HM.out]; exact e.2.2)
        have s1 : IntKind.i64.wrap (n - 2) = n - 2 := by rw [IntKind.wrap_i64]; omega
        go_enter Try.func24, Try.ntmps24
        go_wp2_with fail
        go_ret
        rw [HO.out]
        exact ⟨rfl, rfl⟩
    · have HO : Hid (ofF l n = n) := if_neg fun e => h4 e.2.1
      go_enter Try.func24, Try.ntmps24
      go_wp2_with fail
      go_ret
      rw [HO.out]
      exact ⟨rfl, rfl⟩
  · have HO : Hid (ofF l n = n) := if_neg fun e => h2 e.1
    go_enter Try.func24, Try.ntmps24
    go_wp2_with fail
    go_ret
    rw [HO.out]
    exact ⟨rfl, rfl⟩
theorem ofF_fits {l : List Int} (h : ∀ z ∈ l, Fits z) {n : Int} (hn : Fits n) : Fits (ofF l n) := by
  unfold ofF
  split
  · cases hx : l[l.length - 1 - (n - 2).toNat]? with
    | none => exact fits_zero
    | some x => exact h x (List.mem_of_getElem? hx)
  · exact hn
theorem grown_bl {w w' : World} {row : Option Nat} {o : Obj} {k : Nat} (hg : (w.alloc o).grownBy w' row) (hlt : k < w.heap.size) (hne : row ≠ some k) : w'.heap[k]? = w.heap[k]? :=
  (hg.block k (by simp; omega) (fun e => hne e.symm)).trans (by show (w.heap.push o)[k]? = _; rw [Array.getElem?_push, if_neg (by omega)])
/-- a number more that was made -/
theorem PaSt.push {w W w' : World} {ba bs db g cap n : Nat} {F G : Nat → Prop} {A B : Ar} {v : Value} {l : List Int} {id : Int} {o : Obj} (h : PaSt w ba bs db F G A B v l W) (hn : n = l.length) (hown : w'.ownsRow 0 3 1 (.slice (some ⟨g, 0, none⟩) (n + 1) cap) (n + 1) (l.map (Value.int .i64) ++ [.int .i64 id])) (hg : (W.alloc o).grownBy w' v.ownBlock) (ha : v.ownBlock = some g ∨ g = W.heap.size + 1) :
    PaSt w ba bs db F G A B (.slice (some ⟨g, 0, none⟩) (n + 1) cap) (l ++ [id]) (w'.setCell ⟨db, 0, none⟩ (.slice (some ⟨g, 0, none⟩) (n + 1) cap)) := by
  subst hn
  have hs : W.heap.size + 1 ≤ w'.heap.size := by have := hg.size; simpa using this
  have hd := h.dlt
  have hw : w.heap.size ≤ W.heap.size := h.bel.size
  have gd : g ≠ db := by
    rcases ha with e | e
    · exact (h.fv g e).2.2
    · omega
  have blk : ∀ k, k < W.heap.size → v.ownBlock ≠ some k → w'.heap[k]? = W.heap[k]? := fun k hk hne => grown_bl hg hk hne
  have blk2 : ∀ k, k < W.heap.size → v.ownBlock ≠ some k → k ≠ db → (w'.setCell ⟨db, 0, none⟩ (.slice (some ⟨g, 0, none⟩) (l.length + 1) cap)).heap[k]? = W.heap[k]? := fun k hk hne hkd => (heap_set hkd).trans (blk k hk hne)
  have fbl : ∀ k, F k → v.ownBlock ≠ some k := fun k hk e => (h.fv k e).1 hk
  have gbl : ∀ k, G k → v.ownBlock ≠ some k := fun k hk e => (h.fv k e).2.1 hk
  have hid : w'.heap[db]? = some (.cells #[v] 33 (0, 0)) := (blk db hd fun e => (h.fv db e).2.2 rfl).trans h.ids
  refine ⟨h.ar.other (by rw [size_set]; omega) fun k hk => blk2 k (h.ar.flt k hk) (fbl k hk) fun e => h.fd.1 (e ▸ hk), h.st.other (by rw [size_set]; omega) fun k hk => blk2 k (h.st.flt hk) (gbl k hk) fun e => h.fd.2 (e ▸ hk), Go.Joins.block_setCell hid _, ?_, h.fg, h.fd, fun k hk => ?_, fun k hk => ?_, ?_⟩
  · unfold IntRow
    rw [List.map_append, List.length_append]
    exact row_other hown fun k hk => heap_set (by simp only [Value.ownBlock, Option.some.injEq] at hk; omega)
  · simp only [Value.ownBlock, Option.some.injEq] at hk
    subst hk
    rcases ha with e | e
    · exact h.fv g e
    · exact ⟨fun hf => by have := h.ar.flt g hf; omega, fun hf => by have := h.st.flt hf; omega, gd⟩
  · rcases hk with e | e | e | e
    · exact h.fge k (.inl e)
    · exact h.fge k (.inr (.inl e))
    · exact h.fge k (.inr (.inr (.inl e)))
    · simp only [Value.ownBlock, Option.some.injEq] at e
      subst e
      rcases ha with e | e
      · exact h.fge g (.inr (.inr (.inr e)))
      · omega
  · exact ⟨hg.os.trans h.bel.os, hg.tape.trans h.bel.tape, hg.output.trans h.bel.output, by rw [size_set]; omega, fun k hk => (blk2 k (by omega) (fun e => by have := h.fge k (.inr (.inr (.inr e))); omega) (fun e => by have := h.fge k (.inr (.inr (.inl e))); omega)).trans (h.bel.block k hk)⟩
theorem heap_at (W : World) (o : Obj) (k : Nat) : (W.alloc o).heap[k]? = if k = W.heap.size then some o else W.heap[k]? := by
  show (W.heap.push o)[k]? = _
  rw [Array.getElem?_push]
theorem heap_drew (W : World) : W.drew.heap = W.heap := rfl
theorem size_at (W : World) (o : Obj) : (W.alloc o).heap.size = W.heap.size + 1 := by
  show (W.heap.push o).size = _
  exact Array.size_push _
theorem qat4 (W : World) (o q : Obj) : (((((W.alloc o).alloc o).alloc o).alloc o).alloc q).drew.heap[W.heap.size + 1 + 1 + 1 + 1]? = some q := by
  rw [heap_drew, heap_at, if_pos (by simp only [size_at])]
theorem qat3 (W : World) (o q : Obj) : (((((W.alloc o).alloc o).alloc o).alloc q).alloc o).drew.heap[W.heap.size + 1 + 1 + 1]? = some q := by
  rw [heap_drew, heap_at, if_neg (by simp only [size_at]; omega), heap_at, if_pos (by simp only [size_at])]
theorem qat2 (W : World) (o q : Obj) : (((((W.alloc o).alloc o).alloc q).alloc o).alloc o).drew.heap[W.heap.size + 1 + 1]? = some q := by
  rw [heap_drew, heap_at, if_neg (by simp only [size_at]; omega), heap_at, if_neg (by simp only [size_at]; omega), heap_at, if_pos (by simp only [size_at])]
theorem qat1 (W : World) (o q : Obj) : (((((W.alloc o).alloc q).alloc o).alloc o).alloc o).drew.heap[W.heap.size + 1]? = some q := by
  rw [heap_drew, heap_at, if_neg (by simp only [size_at]; omega), heap_at, if_neg (by simp only [size_at]; omega), heap_at, if_neg (by simp only [size_at]; omega), heap_at, if_pos (by simp only [size_at])]
theorem qat0 (W : World) (o q : Obj) : (((((W.alloc q).alloc o).alloc o).alloc o).alloc o).drew.heap[W.heap.size]? = some q := by
  rw [heap_drew, heap_at, if_neg (by simp only [size_at]; omega), heap_at, if_neg (by simp only [size_at]; omega), heap_at, if_neg (by simp only [size_at]; omega), heap_at, if_neg (by simp only [size_at]; omega), heap_at, if_pos rfl]
/-- the move's own block, and the four numbers in a block of their own -/
structure MvQ (mb qb : Nat) (F G : Nat → Prop) (k t a0 a1 a2 a3 q0 q1 q2 q3 : Int) (W : World) : Prop where
  m : W.heap[mb]? = some (.cells #[.int .i64 k, .int .i64 t, .int .i64 a0, .int .i64 a1, .int .i64 a2, .int .i64 a3] 37 (0, 0))
  q : W.heap[qb]? = some (.cells #[.int .i64 q0, .int .i64 q1, .int .i64 q2, .int .i64 q3] 35 (0, 0))
  nm : ¬ F mb ∧ ¬ G mb
  nq : ¬ F qb ∧ ¬ G qb
section
variable {w W W' : World} {ba bs db mb qb : Nat} {F G : Nat → Prop} {A B A' B' : Ar} {v : Value} {l : List Int} {k t a0 a1 a2 a3 q0 q1 q2 q3 : Int}
theorem MvQ.lt (h : MvQ mb qb F G k t a0 a1 a2 a3 q0 q1 q2 q3 W) : mb < W.heap.size ∧ qb < W.heap.size := ⟨(Array.getElem?_eq_some_iff.1 h.m).1, (Array.getElem?_eq_some_iff.1 h.q).1⟩
theorem MvQ.below (h : MvQ mb qb F G k t a0 a1 a2 a3 q0 q1 q2 q3 W) (hb : Below W.heap.size W W') : MvQ mb qb F G k t a0 a1 a2 a3 q0 q1 q2 q3 W' :=
  ⟨(hb.block _ h.lt.1).trans h.m, (hb.block _ h.lt.2).trans h.q, h.nm, h.nq⟩
def MvC (mb qb : Nat) (k t a0 a1 a2 a3 q0 q1 q2 q3 : Int) (W : World) : Prop :=
  (W.cell? ⟨mb, 0, none⟩ = some (.int .i64 k) ∧ W.cell? ⟨mb, 1, none⟩ = some (.int .i64 t) ∧ W.cell? ⟨mb, 2, none⟩ = some (.int .i64 a0) ∧ W.cell? ⟨mb, 3, none⟩ = some (.int .i64 a1) ∧ W.cell? ⟨mb, 4, none⟩ = some (.int .i64 a2) ∧ W.cell? ⟨mb, 5, none⟩ = some (.int .i64 a3)) ∧
  W.cell? ⟨qb, 0, none⟩ = some (.int .i64 q0) ∧ W.cell? ⟨qb, 1, none⟩ = some (.int .i64 q1) ∧ W.cell? ⟨qb, 2, none⟩ = some (.int .i64 q2) ∧ W.cell? ⟨qb, 3, none⟩ = some (.int .i64 q3)
theorem MvQ.cells (h : MvQ mb qb F G k t a0 a1 a2 a3 q0 q1 q2 q3 W) : MvC mb qb k t a0 a1 a2 a3 q0 q1 q2 q3 W :=
  ⟨⟨Lib.cell_of_heap h.m 0, Lib.cell_of_heap h.m 1, Lib.cell_of_heap h.m 2, Lib.cell_of_heap h.m 3, Lib.cell_of_heap h.m 4, Lib.cell_of_heap h.m 5⟩, Lib.cell_of_heap h.q 0, Lib.cell_of_heap h.q 1, Lib.cell_of_heap h.q 2, Lib.cell_of_heap h.q 3⟩
/-- behind a call of the arena -/
theorem PaSt.stepA (h : PaSt w ba bs db F G A B v l W) (hq : MvQ mb qb F G k t a0 a1 a2 a3 q0 q1 q2 q3 W) (hl : Led W ba F A' W') : ∃ F', PaSt w ba bs db F' G A' B v l W' ∧ MvQ mb qb F' G k t a0 a1 a2 a3 q0 q1 q2 q3 W' := by
  obtain ⟨F', h1, h2, P⟩ := hl
  have nf : ∀ k, k < W.heap.size → ¬ F k → ¬ F' k := fun k hk hn hf => by
    rcases h1 k hf with e | e
    · exact hn e
    · omega
  have hgl : ∀ k, G k → k < W.heap.size := fun k hk => h.st.flt hk
  refine ⟨F', ⟨h2, h.st.other P.size fun k hk => P.block k (hgl k hk) fun hf => h.fg k hf hk, (P.block db h.dlt h.fd.1).trans h.ids, row_other h.row fun k hk => P.block k (h.row.lt k hk).2 (h.fv k hk).1, fun k hk hg => nf k (hgl k hg) (fun hf => h.fg k hf hg) hk, ⟨nf db h.dlt h.fd.1, h.fd.2⟩, fun k hk => ⟨nf k (h.row.lt k hk).2 (h.fv k hk).1, (h.fv k hk).2⟩, fun k hk => ?_, ?_⟩, ⟨(P.block mb hq.lt.1 hq.nm.1).trans hq.m, (P.block qb hq.lt.2 hq.nq.1).trans hq.q, ⟨nf mb hq.lt.1 hq.nm.1, hq.nm.2⟩, ⟨nf qb hq.lt.2 hq.nq.1, hq.nq.2⟩⟩⟩
  · rcases hk with e | e
    · rcases h1 k e with e1 | e1
      · exact h.fge k (.inl e1)
      · exact Nat.le_trans h.bel.size e1
    · exact h.fge k (.inr e)
  · exact ⟨P.os.trans h.bel.os, P.tape.trans h.bel.tape, P.output.trans h.bel.output, Nat.le_trans h.bel.size P.size, fun k hk => (P.block k (Nat.lt_of_lt_of_le hk h.bel.size) fun hf => by have := h.fge k (.inl hf); omega).trans (h.bel.block k hk)⟩
theorem MvQ.ledC (hq : MvQ mb qb F G k t a0 a1 a2 a3 q0 q1 q2 q3 W) {S : St} (hl : LedS W bs G S W') : MvC mb qb k t a0 a1 a2 a3 q0 q1 q2 q3 W' := by
  obtain ⟨G', h1, h2, P⟩ := hl
  exact MvQ.cells (F := F) (G := fun _ => False) ⟨(P.block mb hq.lt.1 hq.nm.2).trans hq.m, (P.block qb hq.lt.2 hq.nq.2).trans hq.q, ⟨hq.nm.1, id⟩, ⟨hq.nq.1, id⟩⟩
theorem keepN (h : MvC mb qb k t a0 a1 a2 a3 q0 q1 q2 q3 W) : W.cell? ⟨qb, 0, none⟩ = some (.int .i64 q0) ∧ W.cell? ⟨qb, 3, none⟩ = some (.int .i64 q3) ∧ W.cell? ⟨mb, 3, none⟩ = some (.int .i64 a1) ∧ W.cell? ⟨mb, 4, none⟩ = some (.int .i64 a2) := ⟨h.2.1, h.2.2.2.2, h.1.2.2.2.1, h.1.2.2.2.2.1⟩
theorem keepL (h : MvC mb qb k t a0 a1 a2 a3 q0 q1 q2 q3 W) : W.cell? ⟨mb, 2, none⟩ = some (.int .i64 a0) := h.1.2.2.1
theorem keepC (h : MvC mb qb k t a0 a1 a2 a3 q0 q1 q2 q3 W) : W.cell? ⟨qb, 0, none⟩ = some (.int .i64 q0) ∧ W.cell? ⟨qb, 1, none⟩ = some (.int .i64 q1) := ⟨h.2.1, h.2.2.1⟩
theorem MvQ.two (h : MvQ mb qb F G k t a0 a1 a2 a3 q0 q1 q2 q3 W) : NRow W (.slice (some ⟨qb, 0, none⟩) 2 4) [q0, q1] :=
  ⟨_, _, rfl, .inr ⟨qb, 0, rfl, h.lt.2, fun j x hj => by
    obtain ⟨-, c0, c1, -, -⟩ := h.cells
    match j, hj with
    | 0, hj => simp at hj; subst hj; exact c0
    | 1, hj => simp at hj; subst hj; exact c1⟩⟩
theorem row_two (W : World) (q0 q1 : Int) : NRow (W.alloc (.cells #[.int .i64 q0, .int .i64 q1] 3)).drew (.slice (some ⟨W.heap.size, 0, none⟩) 2 2) [q0, q1] :=
  ⟨_, _, rfl, .inr ⟨W.heap.size, 0, rfl, by simp, fun j x hj => by
    have h := heap_alloc_new W (.cells #[.int .i64 q0, .int .i64 q1] 3)
    match j, hj with
    | 0, hj => simp at hj; subst hj; exact Lib.cell_of_heap (w := W.alloc (.cells #[.int .i64 q0, .int .i64 q1] 3)) h 0
    | 1, hj => simp at hj; subst hj; exact Lib.cell_of_heap (w := W.alloc (.cells #[.int .i64 q0, .int .i64 q1] 3)) h 1⟩⟩
end
end Go.Proofs.Ytfogedmghhacdaa.A
