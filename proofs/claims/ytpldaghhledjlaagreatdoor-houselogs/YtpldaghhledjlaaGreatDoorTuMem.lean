/- Turns in memory: a ring of rows of texts. -/
import Derived.Test.YtpldaghhledjlaaGreatDoorSpKit
import Derived.Test.YtpldaghhledjlaaGreatDoorSpShelf
import Derived.Laws.OwnMore
import Derived.Laws.MakeOwn
import Derived.Lib.OwnBridge
import Derived.Lib.RowBridge
import Derived.Deep.Onto
namespace Go.Proofs.YtpldaghhledjlaaGreatDoor
open Go.RowKit

theorem info_parts {o : Option TypeInfo} {z : Option Value} {s b : Nat} (h : o.map (fun i => (i.zero, i.size, i.bytes)) = some (z, s, b)) : ∃ i, o = some i ∧ i.zero = z ∧ i.size = s ∧ i.bytes = b := by
  cases o with
  | none => simp at h
  | some i => simp at h; exact ⟨i, rfl, h.1, h.2.1, h.2.2⟩
theorem Tryz.infoStr : (Tryz.prog.info? 9).map (fun i => (i.zero, i.size, i.bytes)) = some (some (.string ByteArray.empty), 1, 16) := by kernel_rfl
theorem Tryz.infoRow : (Tryz.prog.info? 34).map (fun i => (i.zero, i.size, i.bytes)) = some (some (.slice none 0 0), 1, 24) := by kernel_rfl

/-- nothing but blocks of F and new ones is written -/
structure OnlyF (F : Nat → Prop) (w w' : World) : Prop where
  os : w'.os = w.os
  tape : w'.tape = w.tape
  output : w'.output = w.output
  size : w.heap.size ≤ w'.heap.size
  block : ∀ k, k < w.heap.size → ¬ F k → w'.heap[k]? = w.heap[k]?
theorem OnlyF.refl (F : Nat → Prop) (w : World) : OnlyF F w w := ⟨rfl, rfl, rfl, Nat.le_refl _, fun _ _ _ => rfl⟩
theorem OnlyF.trans {F G : Nat → Prop} {w w1 w2 : World} (h : OnlyF F w w1) (k : OnlyF G w1 w2) (hG : ∀ i, G i → F i ∨ w.heap.size ≤ i) : OnlyF F w w2 :=
  ⟨k.os.trans h.os, k.tape.trans h.tape, k.output.trans h.output, Nat.le_trans h.size k.size, fun i hi hne => (k.block i (Nat.lt_of_lt_of_le hi h.size) (fun g => by rcases hG i g with h | h; exact hne h; omega)).trans (h.block i hi hne)⟩
theorem OnlyF.of {F : Nat → Prop} {w w' : World} (h : Below w.heap.size w w') : OnlyF F w w' := ⟨h.os, h.tape, h.output, h.size, fun k hk _ => h.block k hk⟩
theorem OnlyF.grown {F : Nat → Prop} {w w' : World} {row : Option Nat} (h : w.grownBy w' row) (hr : ∀ k, row = some k → F k) : OnlyF F w w' :=
  ⟨h.os, h.tape, h.output, h.size, fun k hk hn => h.block k hk (fun e => hn (hr k e.symm))⟩
theorem OnlyF.below {F : Nat → Prop} {w w' : World} {B : Nat} (h : OnlyF F w w') (hB : B ≤ w.heap.size) (hF : ∀ k, F k → B ≤ k) : Below B w w' :=
  ⟨h.os, h.tape, h.output, h.size, fun k hk => h.block k (by omega) (fun f => by have := hF k f; omega)⟩
theorem OnlyF.set {F : Nat → Prop} (w : World) (a : Addr) (v : Value) (hF : F a.block) : OnlyF F w (w.setCell a v) :=
  ⟨rfl, rfl, rfl, by simp [World.setCell], fun k _ hne => Below.heap_setCell _ _ _ _ (fun e => hne (e ▸ hF))⟩
theorem OnlyF.drew {F : Nat → Prop} {w w' : World} (h : OnlyF F w w') : OnlyF F w w'.drew := ⟨h.os, h.tape, h.output, h.size, h.block⟩
theorem ownsRow_keepB {w w' : World} {base : Nat} {e : TypeId} {size : Nat} {v : Value} {n : Nat} {xs : List Value} (h : w.ownsRow base e size v n xs) (hk : ∀ k, v.ownBlock = some k → w'.heap[k]? = w.heap[k]?) : w'.ownsRow base e size v n xs := by
  refine ⟨h.1, ?_⟩
  rcases h.2 with h0 | ⟨g, cap, cur, rfl, hb, hg, hr⟩
  · exact .inl h0
  · exact .inr ⟨g, cap, cur, rfl, hb, (hk g rfl).trans hg, hr⟩

/-- texts in a row of one's own -/
def SRow (w : World) (B : Nat) (v : Value) (ts : List ByteArray) : Prop := w.ownsRow B 9 1 v ts.length (ts.map Value.string)
theorem SRow.slice {w : World} {B : Nat} {v : Value} {ts : List ByteArray} (h : SRow w B v ts) : ∃ a c, v = .slice a ts.length c ∧ ts.length ≤ c ∧ c ≤ maxLen := by
  rcases h.2 with ⟨rfl, h0⟩ | ⟨g, cap, cur, rfl, _, _, h1, h2, _⟩
  · exact ⟨none, 0, by rw [h0], by omega, by unfold maxLen; omega⟩
  · exact ⟨_, _, rfl, h1, h2⟩

/-- turns: who is next, and what waits of each -/
structure Tu where
  n : Nat
  next : Nat
  rows : List (List ByteArray)
/-- the blocks that turns own -/
def TuOwn (b R : Nat) (vs : List Value) (k : Nat) : Prop := k = b ∨ k = R ∨ ∃ (i : Nat) (v : Value), vs[i]? = some v ∧ v.ownBlock = some k
/-- turns in memory -/
structure TuAt (w : World) (B b R : Nat) (vs : List Value) (T : Tu) : Prop where
  head : w.heap[b]? = some (.cells #[.slice (some ⟨R, 0, none⟩) T.n T.n, .int .i64 T.next] 83 (0, 0))
  ring : w.ownsRow B 34 1 (.slice (some ⟨R, 0, none⟩) T.n T.n) T.n vs
  len : T.rows.length = T.n
  pos : 1 ≤ T.n
  le : T.n ≤ 64
  nx : T.next < T.n
  row : ∀ (i : Nat) v r, vs[i]? = some v → T.rows[i]? = some r → SRow w B v r
  apart : ∀ (i j : Nat) v u q, vs[i]? = some v → vs[j]? = some u → v.ownBlock = some q → u.ownBlock = some q → i = j
  far : ∀ (i : Nat) v q, vs[i]? = some v → v.ownBlock = some q → q ≠ R ∧ q ≠ b
  hb : B ≤ b
  bR : b ≠ R
  small : ∀ r ∈ T.rows, r.length ≤ 8
theorem TuAt.vlen {w : World} {B b R : Nat} {vs : List Value} {T : Tu} (h : TuAt w B b R vs T) : vs.length = T.n := by have := h.ring.1; omega
theorem TuAt.lt {w : World} {B b R : Nat} {vs : List Value} {T : Tu} (h : TuAt w B b R vs T) (k : Nat) (hk : TuOwn b R vs k) : B ≤ k ∧ k < w.heap.size := by
  rcases hk with rfl | rfl | ⟨i, v, hv, hq⟩
  · exact ⟨h.hb, (Array.getElem?_eq_some_iff.1 h.head).1⟩
  · exact h.ring.lt k rfl
  · have hi : i < T.rows.length := by rw [h.len, ← h.vlen]; exact (List.getElem?_eq_some_iff.1 hv).1
    exact (h.row i v _ hv (List.getElem?_eq_getElem hi)).lt k hq
theorem TuAt.keep {w w' : World} {B b R : Nat} {vs : List Value} {T : Tu} (h : TuAt w B b R vs T) (hk : ∀ k, TuOwn b R vs k → w'.heap[k]? = w.heap[k]?) : TuAt w' B b R vs T where
  head := (hk b (.inl rfl)).trans h.head
  ring := ownsRow_keepB h.ring fun k e => hk k (.inr (.inl (by simpa [Value.ownBlock] using e.symm)))
  len := h.len
  pos := h.pos
  le := h.le
  nx := h.nx
  row := fun i v r hv hr => ownsRow_keepB (h.row i v r hv hr) fun k e => hk k (.inr (.inr ⟨i, v, hv, e⟩))
  apart := h.apart
  far := h.far
  hb := h.hb
  bR := h.bR
  small := h.small
theorem TuAt.only {w w' : World} {B b R : Nat} {vs : List Value} {T : Tu} {F : Nat → Prop} (h : TuAt w B b R vs T) (ho : OnlyF F w w') (hF : ∀ k, TuOwn b R vs k → ¬ F k) : TuAt w' B b R vs T :=
  h.keep fun k hk => ho.block k (h.lt k hk).2 (hF k hk)
theorem TuAt.below {w w' : World} {B b R : Nat} {vs : List Value} {T : Tu} (h : TuAt w B b R vs T) (hb : Below w.heap.size w w') : TuAt w' B b R vs T :=
  h.keep fun k hk => hb.block k (h.lt k hk).2
theorem TuAt.cells {w : World} {B b R : Nat} {vs : List Value} {T : Tu} (h : TuAt w B b R vs T) : w.cell? ⟨b, 0, none⟩ = some (.slice (some ⟨R, 0, none⟩) T.n T.n) ∧ w.cell? ⟨b, 1, none⟩ = some (.int .i64 T.next) ∧ w.frozen? ⟨b, 1, none⟩ = false :=
  ⟨by rw [Lib.cell_of_heap h.head]; rfl, by rw [Lib.cell_of_heap h.head]; rfl, Lib.frozen_of_heap h.head 1⟩
theorem TuAt.cell {w : World} {B b R : Nat} {vs : List Value} {T : Tu} (h : TuAt w B b R vs T) (i : Nat) (hi : i < T.n) : ∃ v r, vs[i]? = some v ∧ T.rows[i]? = some r ∧ w.cell? ⟨R, i, none⟩ = some v ∧ w.frozen? ⟨R, i, none⟩ = false ∧ SRow w B v r := by
  have h1 : i < vs.length := by rw [h.vlen]; exact hi
  have h2 : i < T.rows.length := by rw [h.len]; exact hi
  refine ⟨vs[i], T.rows[i], List.getElem?_eq_getElem h1, List.getElem?_eq_getElem h2, ?_, h.ring.frozenAt i, h.row i _ _ (List.getElem?_eq_getElem h1) (List.getElem?_eq_getElem h2)⟩
  rw [h.ring.cellAt i (by omega), List.getElem?_eq_getElem h1]
/-- another one is next -/
theorem TuAt.setNext {w : World} {B b R : Nat} {vs : List Value} {T : Tu} (h : TuAt w B b R vs T) (m : Nat) (hm : m < T.n) : TuAt (w.setCell ⟨b, 1, none⟩ (.int .i64 m)) B b R vs ⟨T.n, m, T.rows⟩ := by
  have hne : ∀ k, TuOwn b R vs k → k ≠ b → (w.setCell ⟨b, 1, none⟩ (.int .i64 m)).heap[k]? = w.heap[k]? := fun k _ hk => Below.heap_setCell _ _ _ _ hk
  refine ⟨?_, ?_, h.len, h.pos, h.le, hm, fun i v r hv hr => ?_, h.apart, h.far, h.hb, h.bR, h.small⟩
  · rw [Go.Joins.block_setCell h.head]; rfl
  · exact ownsRow_keepB h.ring fun k e => hne k (.inr (.inl (by simpa [Value.ownBlock] using e.symm))) (by have : R = k := by simpa [Value.ownBlock] using e
                                                                                                           rw [← this]; exact h.bR.symm)
  · exact ownsRow_keepB (h.row i v r hv hr) fun k e => hne k (.inr (.inr ⟨i, v, hv, e⟩)) (h.far i v k hv e).2
/-- a row is put in the place of another: it lies where that one lay, or in a new block -/
theorem TuAt.setRow {w w1 : World} {B b R : Nat} {vs : List Value} {T : Tu} (h : TuAt w B b R vs T) (i : Nat) (v v' : Value) (r : List ByteArray) (hv : vs[i]? = some v) (hg : w.grownBy w1 v.ownBlock) (hr : SRow w1 B v' r) (hl : r.length ≤ 8) (hat : ∀ q, v'.ownBlock = some q → v.ownBlock = some q ∨ w.heap.size ≤ q) :
    TuAt (w1.setCell ⟨R, i, none⟩ v') B b R (vs.set i v') ⟨T.n, T.next, T.rows.set i r⟩ ∧ OnlyF (TuOwn b R vs) w (w1.setCell ⟨R, i, none⟩ v') ∧ ∀ k, TuOwn b R (vs.set i v') k → TuOwn b R vs k ∨ w.heap.size ≤ k := by
  have hil : i < vs.length := (List.getElem?_eq_some_iff.1 hv).1
  have keepb : ∀ k, TuOwn b R vs k → v.ownBlock ≠ some k → w1.heap[k]? = w.heap[k]? := fun k hk hne => hg.block k (h.lt k hk).2 (fun e => hne e.symm)
  have hfR : ∀ k, k ≠ R → (w1.setCell ⟨R, i, none⟩ v').heap[k]? = w1.heap[k]? := fun k hk => Below.heap_setCell _ _ _ _ hk
  have hRv : v.ownBlock ≠ some R := fun e => (h.far i v R hv e).1 rfl
  have hbv : v.ownBlock ≠ some b := fun e => (h.far i v b hv e).2 rfl
  have hring1 : w1.ownsRow B 34 1 (.slice (some ⟨R, 0, none⟩) T.n T.n) T.n vs := ownsRow_keepB h.ring fun k e => by
    have : R = k := by simpa [Value.ownBlock] using e
    subst this
    exact keepb R (.inr (.inl rfl)) hRv
  have hown : ∀ k, TuOwn b R (vs.set i v') k → TuOwn b R vs k ∨ w.heap.size ≤ k := by
    intro k hk
    rcases hk with h1 | h1 | ⟨j, u, hu, hq⟩
    · exact .inl (.inl h1)
    · exact .inl (.inr (.inl h1))
    · rw [List.getElem?_set] at hu
      split at hu
      · rename_i hij
        try rw [if_pos hil] at hu
        cases hu
        rcases hat k hq with h2 | h2
        · exact .inl (.inr (.inr ⟨i, v, hv, h2⟩))
        · exact .inr h2
      · exact .inl (.inr (.inr ⟨j, u, hu, hq⟩))
  have hRlt := (h.lt R (.inr (.inl rfl))).2
  have hblt := (h.lt b (.inl rfl)).2
  have far' : ∀ q, v'.ownBlock = some q → q ≠ R ∧ q ≠ b := by
    intro q hq
    rcases hat q hq with h2 | h2
    · exact h.far i v q hv h2
    · constructor <;> omega
  refine ⟨⟨?_, (hring1.stored i v').1, by rw [List.length_set]; exact h.len, h.pos, h.le, h.nx, ?_, ?_, ?_, h.hb, h.bR, ?_⟩, ?_, hown⟩
  · rw [hfR b h.bR, keepb b (.inl rfl) hbv]; exact h.head
  · intro j u s hu hs
    rw [List.getElem?_set] at hu hs
    split at hu
    · rename_i hij
      try rw [if_pos hil] at hu
      cases hu
      rw [if_pos hij, if_pos (by rw [h.len, ← h.vlen]; exact hil)] at hs
      cases hs
      exact ownsRow_keepB hr fun k e => hfR k (far' k e).1
    · rename_i hij
      rw [if_neg hij] at hs
      refine ownsRow_keepB (h.row j u s hu hs) fun k e => ?_
      rw [hfR k (h.far j u k hu e).1]
      exact keepb k (.inr (.inr ⟨j, u, hu, e⟩)) (fun e2 => hij (h.apart i j v u k hv hu e2 e))
  · intro j l u x q hu hx hqu hqx
    rw [List.getElem?_set] at hu hx
    by_cases hj : i = j
    · rw [if_pos hj, if_pos hil] at hu
      cases hu
      by_cases hl : i = l
      · omega
      · rw [if_neg hl] at hx
        exfalso
        rcases hat q hqu with h2 | h2
        · exact hl (h.apart i l v x q hv hx h2 hqx)
        · have := (h.lt q (.inr (.inr ⟨l, x, hx, hqx⟩))).2
          omega
    · rw [if_neg hj] at hu
      by_cases hl : i = l
      · rw [if_pos hl, if_pos hil] at hx
        cases hx
        exfalso
        rcases hat q hqx with h2 | h2
        · exact hj (h.apart i j v u q hv hu h2 hqu)
        · have := (h.lt q (.inr (.inr ⟨j, u, hu, hqu⟩))).2
          omega
      · rw [if_neg hl] at hx
        exact h.apart j l u x q hu hx hqu hqx
  · intro j u q hu hq
    rw [List.getElem?_set] at hu
    split at hu
    · try rw [if_pos hil] at hu
      cases hu
      exact far' q hq
    · exact h.far j u q hu hq
  · intro s hs
    rcases List.mem_or_eq_of_mem_set hs with h1 | h1
    · exact h.small s h1
    · rw [h1]; exact hl
  · refine (OnlyF.grown hg fun k e => .inr (.inr ⟨i, v, hv, e⟩)).trans (OnlyF.set (F := TuOwn b R vs) w1 ⟨R, i, none⟩ v' (.inr (.inl rfl))) fun k hk => .inl hk
end Go.Proofs.YtpldaghhledjlaaGreatDoor
