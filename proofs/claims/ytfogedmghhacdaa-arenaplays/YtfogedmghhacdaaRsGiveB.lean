/- The plain store: give, a new thing in plain words. -/
import Derived.Test.YtfogedmghhacdaaRsGiveA
namespace Go.Proofs.Ytfogedmghhacdaa.A
open Go.RowKit

/-- a thing's block -/
def boxOf (x : Rt) (id : Int) : Obj := .cells #[.int .i64 id, .int .i64 x.k, .int .i64 x.lv, .int .i64 x.va, .int .i64 x.p0, .int .i64 x.p1, .int .i64 x.p2, .int .i64 x.p3, .int .u64 x.mask] 84 (0, 0)
/-- midway, with the thing to be given in a block of its own -/
structure Bx (w : World) (b : Nat) (G : Nat → Prop) (S : St) (r : Sr) (G' : Nat → Prop) (x : Rt) (id : Int) (W : World) : Prop where
  gv : GvSt w b G S r G' W
  no : ¬ G' w.heap.size
  box : W.heap[w.heap.size]? = some (boxOf x id)
section
variable {w W W' : World} {b : Nat} {G G' : Nat → Prop} {S : St} {r : Sr} {x : Rt} {id : Int}
theorem Bx.below (h : Bx w b G S r G' x id W) (hb : Below W.heap.size W W') : Bx w b G S r G' x id W' :=
  ⟨h.gv.below hb, h.no, (hb.block _ (Array.getElem?_eq_some_iff.1 h.box).1).trans h.box⟩
theorem Bx.setId (h : Bx w b G S r G' x id W) (z : Int) (hG : ¬ G w.heap.size) : Bx w b G S r G' x z (W.setCell ⟨w.heap.size, 0, none⟩ (.int .i64 z)) := by
  refine ⟨⟨h.gv.raw.other (by rw [size_set]; exact Nat.le_refl _) fun k hk => heap_set fun e => h.no (e ▸ hk), h.gv.h1, ?_⟩, h.no, Go.Joins.block_setCell h.box _⟩
  have _ := hG
  exact ⟨h.gv.ap.os, h.gv.ap.tape, h.gv.ap.output, by rw [size_set]; exact h.gv.ap.size, fun k hk hn => (heap_set (k := k) (g := w.heap.size) (by omega)).trans (h.gv.ap.block k hk hn)⟩
theorem Bx.led {S2 : St} (h : Bx w b G S r G' x id W) (hl : LedS W b G' S2 W') : ∃ G2 r2, Bx w b G S2 r2 G2 x id W' := by
  obtain ⟨G2, q1, ⟨r2, q2⟩, q3⟩ := hl
  have hlt := (Array.getElem?_eq_some_iff.1 h.box).1
  refine ⟨G2, r2, ⟨q2, fun k hk => ?_, h.gv.ap.after h.gv.h1 q3⟩, fun hg => ?_, (q3.block _ hlt h.no).trans h.box⟩
  · rcases q1 k hk with e | e
    · exact h.gv.h1 k e
    · exact .inr (Nat.le_trans h.gv.ap.size e)
  · rcases q1 _ hg with e | e
    · exact h.no e
    · omega
theorem Bx.cells (h : Bx w b G S r G' x id W) : W.cell? ⟨w.heap.size, 0, none⟩ = some (.int .i64 id) ∧ W.frozen? ⟨w.heap.size, 0, none⟩ = false :=
  ⟨Lib.cell_of_heap h.box 0, Lib.frozen_of_heap h.box 0⟩
end
theorem made_room (S : St) : S.made.room = S.room := by
  unfold St.made
  split <;> rfl
theorem made_quota (S : St) : S.made.quota = S.quota := by
  unfold St.made
  split <;> rfl
theorem made_since (S : St) : S.made.since = S.since := by
  unfold St.made
  split <;> rfl
theorem made_tame {S : St} (h : Tame S) : Tame S.made := by
  unfold St.made
  split
  · exact ⟨Nat.lt_of_le_of_lt (List.length_filter_le _ _) h.len, fun x hx => h.mask x (List.mem_filter.1 hx).1⟩
  · exact h
theorem atF_at {l : List Rt} {m j : Nat} (h1 : ∀ j, j < m → ∃ y, l[j]? = some y ∧ y.id = 2 + j) (hj : j < m) : atF l (2 + j) = some j := by
  obtain ⟨y, hy, he⟩ := h1 j hj
  refine atF_some hy he fun k z hk hz => ?_
  obtain ⟨y', hy', he'⟩ := h1 k (by omega)
  rw [hy'] at hz
  cases hz
  omega
theorem atF_free {l : List Rt} {m : Nat} (h1 : ∀ j, j < m → ∃ y, l[j]? = some y ∧ y.id = 2 + j) (h2 : ∀ (j : Nat) y, m ≤ j → l[j]? = some y → (2 + m : Int) < y.id) : atF l (2 + m) = none := by
  refine atF_none fun j y hy => ?_
  by_cases hj : j < m
  · obtain ⟨y', hy', he'⟩ := h1 j hj
    rw [hy'] at hy
    cases hy
    omega
  · have := h2 j y (by omega) hy
    omega
theorem le_of_ids {l : List Rt} {m : Nat} (h1 : ∀ j, j < m → ∃ y, l[j]? = some y ∧ y.id = 2 + j) : m ≤ l.length := by
  cases m with
  | zero => omega
  | succ m =>
    obtain ⟨y, hy, _⟩ := h1 m (by omega)
    have := (List.getElem?_eq_some_iff.1 hy).1
    omega
/-- the row with a place made free at m: what append and copy leave -/
def gapL (l : List Rt) (m : Nat) : List Rt := (l ++ [noRt]).take (m + 1) ++ l.drop m
theorem gap_len {l : List Rt} {m : Nat} (h : m ≤ l.length) : (gapL l m).length = l.length + 1 := by simp [gapL]; omega
theorem gap_eq {l : List Rt} {m : Nat} (h : m ≤ l.length) : ∃ y, gapL l m = l.take m ++ y :: l.drop m ∧ (l ++ [noRt]).take (m + 1) = l.take m ++ [y] := by
  obtain ⟨y, hy⟩ : ∃ y, (l ++ [noRt])[m]? = some y := ⟨_, List.getElem?_eq_getElem (by simp; omega)⟩
  have e : (l ++ [noRt]).take (m + 1) = l.take m ++ [y] := by
    rw [List.take_add_one, hy, List.take_append_of_le_length h]
    rfl
  refine ⟨y, ?_, e⟩
  unfold gapL
  rw [e, List.append_assoc]
  rfl
theorem gap_set {l : List Rt} {m : Nat} (x : Rt) (h : m ≤ l.length) : (gapL l m).set m x = insL l m x := by
  obtain ⟨y, e, _⟩ := gap_eq h
  rw [e, List.set_append_right _ _ (by simp; omega), show m - (l.take m).length = 0 by simp; omega]
  rfl
theorem gap_at {l : List Rt} {m : Nat} (h : m ≤ l.length) : ∃ y, (gapL l m)[m]? = some y := ⟨_, List.getElem?_eq_getElem (by rw [gap_len h]; omega)⟩
theorem rtL_take (l : List Rt) (i : Nat) : (rtL l).take (i * 9) = rtL (l.take i) := by
  induction l generalizing i with
  | nil => simp [rtL]
  | cons y r ih =>
    cases i with
    | zero => simp [rtL]
    | succ i =>
      have e : ∀ l, (rtL (y :: l)) = y.cells ++ rtL l := fun l => by simp [rtL]
      rw [e, List.take_succ_cons, e, List.take_append, ← ih i, List.take_of_length_le (by simp [Rt.cells]; omega)]
      congr 2
      simp [Rt.cells]; omega
theorem rtL_drop (l : List Rt) (i : Nat) : (rtL l).drop (i * 9) = rtL (l.drop i) := by
  induction l generalizing i with
  | nil => simp [rtL]
  | cons y r ih =>
    cases i with
    | zero => simp [rtL]
    | succ i =>
      have e : ∀ l, (rtL (y :: l)) = y.cells ++ rtL l := fun l => by simp [rtL]
      rw [e, List.drop_succ_cons, List.drop_append, ← ih i, List.drop_eq_nil_of_le (by simp [Rt.cells]; omega), List.nil_append]
      congr 1
      simp [Rt.cells]; omega
theorem rtL_put : ∀ (l : List Rt) (i : Nat) (y x : Rt), l[i]? = some y → rtL (l.set i x) = ((((((((((rtL l).set (i * 9) (.int .i64 x.id)).set (i * 9 + 1) (.int .i64 x.k)).set (i * 9 + 2) (.int .i64 x.lv)).set (i * 9 + 3) (.int .i64 x.va)).set (i * 9 + 4) (.int .i64 x.p0)).set (i * 9 + 5) (.int .i64 x.p1)).set (i * 9 + 6) (.int .i64 x.p2)).set (i * 9 + 7) (.int .i64 x.p3)).set (i * 9 + 8) (.int .u64 x.mask))
  | [], i, y, x, h => by simp at h
  | z :: r, 0, y, x, h => by
    simp at h; subst h
    simp [rtL, Rt.cells]
  | z :: r, i + 1, y, x, h => by
    have e : ∀ l, (rtL (z :: l)) = z.cells ++ rtL l := fun l => by simp [rtL]
    have hl : z.cells.length = 9 := rfl
    have hs : ∀ (L : List Value) (j : Nat) (v : Value), (z.cells ++ L).set ((i + 1) * 9 + j) v = z.cells ++ L.set (i * 9 + j) v := fun L j v => by
      rw [List.set_append_right _ _ (by omega), hl]
      congr 2
      omega
    have hs0 : ∀ (L : List Value) (v : Value), (z.cells ++ L).set ((i + 1) * 9) v = z.cells ++ L.set (i * 9) v := fun L v => hs L 0 v
    rw [List.set_cons_succ, e, e, rtL_put r i y x (by simpa using h), hs0, hs, hs, hs, hs, hs, hs, hs, hs]
/-- nothing goes over -/
theorem run_copy_zero (P : Program) (w : World) (dT sT ty elem : TypeId) (d a : Option Addr) (dLen dCap sLen sCap z : Nat) (hu : P.underlying dT = some (.slice elem)) (hs : (P.info? elem).map (·.size) = some z) (hn : Nat.min sLen dLen = 0) :
    (Builtin.copy_ #[dT, sT] ty #[.slice d dLen dCap, .slice a sLen sCap]).run P w = .ok (goInt 0) w := by
  cases hq : P.info? elem with
  | none => simp [hq] at hs
  | some i =>
    have hl : ∀ (x : Addr), (loadCells x 0).run P w = .ok #[] w := fun x => by simpa using run_loadCells_list (P := P) w x [] (by simp)
    cases d <;> cases a <;> simp [Builtin.copy_, run_underlying hu, Builtin.lenOf, Builtin.firstCells, sizeOf, typeInfo, hq, hn, storeCells, hl]
/-- copy as a step of a region that draws its order, by its run -/
theorem step_copy_by {P : Program} {ops : Array Oper} {o : Oper} {a : Act} {w : World} {K : Act → World → Prop} {Q : Exit → Act → World → Prop} {E : Prop}
    (hg : o.guard = none) (d x : Operand) (dT sT : TypeId) (hop : o.op = Op.call { callee := Callee.builtin Builtin.copy, args := #[d, x], argTypes := #[dT, sT] })
    (v u : Value) (hd : a.eval d = v) (hx : a.eval x = u) {v' : Value} {w' : World} (hr : (Builtin.copy_ #[dT, sT] o.type #[v, u]).run P w = .ok v' w') (hK : K (a.put o.dst v') w') :
    if Region.wanted o (yielded ops a.tmps) = true then Oper.wp P o a w K Q else E := by
  have hw : Region.wanted o (yielded ops a.tmps) = true := by simp [Region.wanted, hg]
  rw [if_pos hw]
  unfold Oper.wp
  simp [execOp, hop, resolve, invoke, builtin, hd, hx, hr, Result.andThen]
  exact hK
theorem adr_add (g o j : Nat) : (⟨g, o, none⟩ : Addr).add j = ⟨g, o + j, none⟩ := by
  unfold Addr.add
  split
  · rename_i h; rw [h, Nat.add_zero]
  · rfl
/-- a thing's cells in the row's block -/
theorem cur_at {cur : Array Value} {l : List Rt} {n m k : Nat} {u : Value} (htk : cur.toList.take ((n + 1) * 9) = rtL (l ++ [noRt])) (hn : n = l.length) (hm : m ≤ n) (hk : (rtL (l.drop m))[k]? = some u) : cur[m * 9 + k]? = some u := by
  have hkl := (List.getElem?_eq_some_iff.1 hk).1
  rw [rtL_length, List.length_drop] at hkl
  rw [← rtL_drop, List.getElem?_drop] at hk
  have h1 : (rtL (l ++ [noRt]))[m * 9 + k]? = some u := by
    rw [rtL_append, List.getElem?_append_left (by rw [rtL_length]; omega)]
    exact hk
  rw [← htk, List.getElem?_take, if_pos (by omega), Array.getElem?_toList] at h1
  exact h1
theorem insL_at {l : List Rt} {m : Nat} (x : Rt) (h : m ≤ l.length) : (insL l m x)[m]? = some x := by
  unfold insL
  rw [List.getElem?_append_right (by simp; omega), show m - (l.take m).length = 0 by simp; omega]
  rfl
theorem insL_len {l : List Rt} {m : Nat} (x : Rt) (h : m ≤ l.length) : (insL l m x).length = l.length + 1 := by simp [insL]; omega
theorem insL_set {l : List Rt} {m : Nat} (x z : Rt) (h : m ≤ l.length) : (insL l m x).set m z = insL l m z := by
  unfold insL
  rw [List.set_append_right _ _ (by simp; omega), show m - (l.take m).length = 0 by simp; omega]
  rfl
theorem gap_end (l : List Rt) : gapL l l.length = l ++ [noRt] := by
  unfold gapL
  rw [List.take_of_length_le (by simp), List.drop_length, List.append_nil]
theorem rtL_ones (l : List Rt) : ∀ v ∈ rtL l, v.oneCell' = true := fun v hv => by
  unfold rtL at hv
  obtain ⟨x, _, hx⟩ := List.mem_flatMap.1 hv
  exact rt_one_cells x v hx
section
variable {w W w9 : World} {b : Nat} {G G' : Nat → Prop} {S : St} {r : Sr} {x : Rt} {id : Int}
/-- a place more behind the things -/
theorem Bx.grow (h : Bx w b G S r G' x id W) {o : Obj} {g7 cap7 n : Nat} (hn : S.ths.length = n) (hown : w9.ownsRow 0 84 9 (.slice (some ⟨g7, 0, none⟩) (n + 1) cap7) (n + 1) (rtL S.ths ++ noRt.cells)) (hgrow : (W.alloc o).grownBy w9 r.vth.ownBlock)
    (hat : r.vth.ownBlock = some g7 ∨ g7 = W.heap.size + 1) (hlt : g7 < w9.heap.size) :
    Bx w b G { S with ths := S.ths ++ [noRt] } { r with vth := .slice (some ⟨g7, 0, none⟩) (n + 1) cap7 } (fun k => G' k ∨ k = g7) x id (w9.setCell ⟨b, 1, none⟩ (.slice (some ⟨g7, 0, none⟩) (n + 1) cap7)) := by
  subst hn
  have hbx := (Array.getElem?_eq_some_iff.1 h.box).1
  have hs := hgrow.size
  have hs' : W.heap.size + 1 ≤ w9.heap.size := by simpa using hs
  have hrow : RtRow w9 (.slice (some ⟨g7, 0, none⟩) (S.ths.length + 1) cap7) (S.ths ++ [noRt]) := by
    unfold RtRow
    rw [List.length_append, rtL_append, rt_one]
    exact hown
  have blk : ∀ k, k < W.heap.size → r.vth.ownBlock ≠ some k → w9.heap[k]? = W.heap[k]? := fun k hk hne => (hgrow.block k (by simp; omega) fun e => hne e.symm).trans (by show (W.heap.push o)[k]? = _; rw [Array.getElem?_push, if_neg (by omega)])
  have hbb : b ≠ w.heap.size := fun e => h.no (e ▸ h.gv.raw.fb)
  have hxv : r.vth.ownBlock ≠ some w.heap.size := fun e => h.no (h.gv.raw.fv _ e)
  have hge : g7 = W.heap.size + 1 → w.heap.size ≤ g7 := fun e => by have := h.gv.ap.size; omega
  refine ⟨⟨h.gv.raw.setThs (G' := fun k => G' k ∨ k = g7) hrow (fun k hk => .inl hk) (fun k hk => ?_) (fun k hk => ?_) fun k hk hne => blk k (h.gv.raw.flt k hk) hne, fun k hk => ?_, ?_⟩, fun hk => ?_, ?_⟩
  · simp only [Value.ownBlock, Option.some.injEq] at hk
    subst hk
    refine ⟨.inr rfl, ?_⟩
    rcases hat with e | e
    · exact .inl e
    · exact .inr fun hg => by have := h.gv.raw.flt _ hg; omega
  · rcases hk with e | e
    · have := h.gv.raw.flt k e; omega
    · rw [e]; exact hlt
  · rcases hk with e | e
    · exact h.gv.h1 k e
    · subst e
      rcases hat with e | e
      · exact h.gv.h1 _ (h.gv.raw.fv _ e)
      · exact .inr (hge e)
  · refine h.gv.ap.after h.gv.h1 ⟨hgrow.os, hgrow.tape, hgrow.output, by rw [size_set]; omega, fun k hk hn => ?_⟩
    exact (heap_set (k := k) (g := b) fun e => hn (e ▸ h.gv.raw.fb)).trans (blk k hk fun e => hn (h.gv.raw.fv k e))
  · rcases hk with e | e
    · exact h.no e
    · rcases hat with e2 | e2
      · exact h.no (by rw [e]; exact h.gv.raw.fv _ e2)
      · omega
  · exact ((heap_set (k := w.heap.size) (g := b) fun e => hbb e.symm).trans (blk _ hbx hxv)).trans h.box
/-- what copy leaves -/
theorem Bx.copied (h : Bx w b G S r G' x id W) {g n cap m : Nat} {l : List Rt} {cur : Array Value} (hn : l.length = n) (hm : m ≤ n) (hv : r.vth = .slice (some ⟨g, 0, none⟩) (n + 1) cap) (hg : W.heap[g]? = some (.cells cur 84 (0, 0)))
    (htk : cur.toList.take ((n + 1) * 9) = rtL (l ++ [noRt])) (hsz : cur.size = cap * 9) (hcap : n + 1 ≤ cap) (hmx : cap ≤ maxLen) :
    Bx w b G { S with ths := gapL l m } r G' x id (W.setRow g (cur.toList.take ((m + 1) * 9) ++ rtL (l.drop m) ++ cur.toList.drop ((m + 1) * 9 + (rtL (l.drop m)).length)).toArray) := by
  subst hn
  have hgv : r.vth.ownBlock = some g := by rw [hv]; rfl
  have hgb : b ≠ g := fun e => h.gv.raw.vb (by rw [hgv, e])
  have hgx : w.heap.size ≠ g := fun e => h.no (by rw [e]; exact h.gv.raw.fv g hgv)
  have oth : ∀ cs k, k ≠ g → (W.setRow g cs).heap[k]? = W.heap[k]? := fun cs k hk => setRow_other W g k cs hk
  have ssz : ∀ cs, (W.setRow g cs).heap.size = W.heap.size := fun cs => by simp [World.setRow]
  have hdl : (rtL (l.drop m)).length = (l.length - m) * 9 := by rw [rtL_length, List.length_drop]
  have e1 : cur.toList.take ((m + 1) * 9) = rtL ((l ++ [noRt]).take (m + 1)) := by
    rw [← rtL_take, ← htk, List.take_take, Nat.min_eq_left (by omega)]
  have hcl : cur.toList.length = cap * 9 := by simpa using hsz
  refine ⟨⟨⟨h.gv.raw.raw.go (oth _ b hgb), h.gv.raw.room, ?_, h.gv.raw.quota, fun t ht => row_other (h.gv.raw.since t ht) fun k hk => oth _ k fun e => h.gv.raw.vt ht hgv (by rw [hk, e]), h.gv.raw.apt, h.gv.raw.fb, h.gv.raw.fv, h.gv.raw.ft, fun k hk => by rw [ssz]; exact h.gv.raw.flt k hk⟩, h.gv.h1, ?_⟩, h.no, (oth _ _ hgx).trans h.box⟩
  · unfold RtRow
    rw [gap_len hm, hv]
    refine ⟨by rw [rtL_length, gap_len hm], .inr ⟨g, cap, _, rfl, Nat.zero_le _, setRow_heap W g cur _ _ _ hg, hcap, hmx, ?_, ?_⟩⟩
    · simp only [List.size_toArray, List.length_append, List.length_take, List.length_drop, hcl, hdl]
      omega
    · rw [List.toList_toArray, e1, List.take_append_of_le_length, List.take_of_length_le]
      · unfold gapL
        rw [rtL_append]
      · rw [List.length_append, rtL_length, hdl, List.length_take, List.length_append]
        simp
        omega
      · rw [List.length_append, rtL_length, hdl, List.length_take, List.length_append]
        simp
        omega
  · exact h.gv.ap.after h.gv.h1 ⟨rfl, rfl, rfl, by rw [ssz]; exact Nat.le_refl _, fun k hk hn => oth _ k fun e => hn (by rw [e]; exact h.gv.raw.fv g hgv)⟩
/-- a thing put at its place -/
theorem Bx.put (h : Bx w b G S r G' x id W) {g c i : Nat} {y z : Rt} (hv : r.vth = .slice (some ⟨g, 0, none⟩) S.ths.length c) (hi : S.ths[i]? = some y) :
    Bx w b G { S with ths := S.ths.set i z } r G' x id (((((((((W.setCell ⟨g, i * 9, none⟩ (.int .i64 z.id)).setCell ⟨g, i * 9 + 1, none⟩ (.int .i64 z.k)).setCell ⟨g, i * 9 + 2, none⟩ (.int .i64 z.lv)).setCell ⟨g, i * 9 + 3, none⟩ (.int .i64 z.va)).setCell ⟨g, i * 9 + 4, none⟩ (.int .i64 z.p0)).setCell ⟨g, i * 9 + 5, none⟩ (.int .i64 z.p1)).setCell ⟨g, i * 9 + 6, none⟩ (.int .i64 z.p2)).setCell ⟨g, i * 9 + 7, none⟩ (.int .i64 z.p3)).setCell ⟨g, i * 9 + 8, none⟩ (.int .u64 z.mask)) := by
  have hgv : r.vth.ownBlock = some g := by rw [hv]; rfl
  have hgb : b ≠ g := fun e => h.gv.raw.vb (by rw [hgv, e])
  have hgx : w.heap.size ≠ g := fun e => h.no (by rw [e]; exact h.gv.raw.fv g hgv)
  have oth : ∀ k, k ≠ g → (((((((((W.setCell ⟨g, i * 9, none⟩ (.int .i64 z.id)).setCell ⟨g, i * 9 + 1, none⟩ (.int .i64 z.k)).setCell ⟨g, i * 9 + 2, none⟩ (.int .i64 z.lv)).setCell ⟨g, i * 9 + 3, none⟩ (.int .i64 z.va)).setCell ⟨g, i * 9 + 4, none⟩ (.int .i64 z.p0)).setCell ⟨g, i * 9 + 5, none⟩ (.int .i64 z.p1)).setCell ⟨g, i * 9 + 6, none⟩ (.int .i64 z.p2)).setCell ⟨g, i * 9 + 7, none⟩ (.int .i64 z.p3)).setCell ⟨g, i * 9 + 8, none⟩ (.int .u64 z.mask)).heap[k]? = W.heap[k]? := fun k hk => by
    rw [heap_set hk, heap_set hk, heap_set hk, heap_set hk, heap_set hk, heap_set hk, heap_set hk, heap_set hk, heap_set hk]
  refine ⟨⟨⟨h.gv.raw.raw.go (oth b hgb), h.gv.raw.room, ?_, h.gv.raw.quota, fun t ht => row_other (h.gv.raw.since t ht) fun k hk => oth k fun e => h.gv.raw.vt ht hgv (by rw [hk, e]), h.gv.raw.apt, h.gv.raw.fb, h.gv.raw.fv, h.gv.raw.ft, fun k hk => by simp only [size_set]; exact h.gv.raw.flt k hk⟩, h.gv.h1, ?_⟩, h.no, (oth _ hgx).trans h.box⟩
  · have ht := h.gv.raw.ths
    rw [hv] at ht ⊢
    have q0 := (World.ownsRow.stored ht (i * 9) (.int .i64 z.id)).1
    have q1 := (World.ownsRow.stored q0 (i * 9 + 1) (.int .i64 z.k)).1
    have q2 := (World.ownsRow.stored q1 (i * 9 + 2) (.int .i64 z.lv)).1
    have q3 := (World.ownsRow.stored q2 (i * 9 + 3) (.int .i64 z.va)).1
    have q4 := (World.ownsRow.stored q3 (i * 9 + 4) (.int .i64 z.p0)).1
    have q5 := (World.ownsRow.stored q4 (i * 9 + 5) (.int .i64 z.p1)).1
    have q6 := (World.ownsRow.stored q5 (i * 9 + 6) (.int .i64 z.p2)).1
    have q7 := (World.ownsRow.stored q6 (i * 9 + 7) (.int .i64 z.p3)).1
    have q8 := (World.ownsRow.stored q7 (i * 9 + 8) (.int .u64 z.mask)).1
    unfold RtRow
    rw [rtL_put _ _ _ _ hi, List.length_set]
    exact q8
  · have hF := h.gv.raw.fv g hgv
    have st : ∀ {V : World} (j : Nat) (v : Value), Apart G w V → Apart G w (V.setCell ⟨g, j, none⟩ v) := fun {V} j v a => a.after h.gv.h1 (Apart.set V v hF)
    exact st _ _ (st _ _ (st _ _ (st _ _ (st _ _ (st _ _ (st _ _ (st _ _ (st _ _ h.gv.ap))))))))
end
end Go.Proofs.Ytfogedmghhacdaa.A
