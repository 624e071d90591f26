/- ArenaAlone: a run in memory. -/
import Derived.Test.YtfogedmghhacdaaArPlayId
namespace Go.Proofs.Ytfogedmghhacdaa.A
open Go.RowKit Go.Maps

/-- a run's state in memory: the arena in b, what was made in mb, what was told in tv -/
structure PlSt (w : World) (b mb i : Nat) (F : Nat → Prop) (S : Rn) (vs : Nat → Value) (tv : Value) (W : World) : Prop where
  at_ : AtP W b F S.A
  made : MadeAt W w.heap.size mb vs S.M
  few : ∀ t, t < 4 → (S.M t).length ≤ i
  told : W.ownsRow w.heap.size 3 1 tv S.T.length (S.T.map (Value.int .i64))
  tl : S.T.length ≤ 3 * i
  fge : ∀ k, F k → w.heap.size ≤ k
  fm : ∀ k, MadeOwn vs mb k → ¬ F k
  ft : ∀ k, tv.ownBlock = some k → ¬ F k ∧ ¬ MadeOwn vs mb k
  bel : Below w.heap.size w W
section
variable {w W W' : World} {b mb i : Nat} {F : Nat → Prop} {S : Rn} {vs : Nat → Value} {tv : Value}
theorem PlSt.below (h : PlSt w b mb i F S vs tv W) (hb : Below W.heap.size W W') : PlSt w b mb i F S vs tv W' :=
  ⟨h.at_.below hb, h.made.below hb, h.few, row_other h.told fun k hk => hb.block k (h.told.lt k hk).2, h.tl, h.fge, h.fm, h.ft, h.bel.trans (hb.mono h.bel.size)⟩
theorem PlSt.drew (h : PlSt w b mb i F S vs tv W) : PlSt w b mb i F S vs tv W.drew := h.below (Below.refl _ _).drew
/-- behind a call of the arena -/
theorem PlSt.led (h : PlSt w b mb i F S vs tv W) {A' : Ar} (hl : Led W b F A' W') : ∃ F', PlSt w b mb i F' ⟨A', S.M, S.T⟩ vs tv W' := by
  obtain ⟨F', h1, h2, P⟩ := hl
  have nf : ∀ k, k < W.heap.size → ¬ F k → ¬ F' k := fun k hk hn hf => by
    rcases h1 k hf with e | e
    · exact hn e
    · omega
  refine ⟨F', h2, h.made.keep fun k hk => P.block k (h.made.lt hk).2 (h.fm k hk), h.few, row_other h.told fun k hk => P.block k (h.told.lt k hk).2 (h.ft k hk).1, h.tl, fun k hk => ?_, fun k hk => nf k (h.made.lt hk).2 (h.fm k hk), fun k hk => ⟨nf k (h.told.lt k hk).2 (h.ft k hk).1, (h.ft k hk).2⟩, ?_⟩
  · rcases h1 k hk with e | e
    · exact h.fge k e
    · exact Nat.le_trans h.bel.size e
  · exact ⟨P.os.trans h.bel.os, P.tape.trans h.bel.tape, P.output.trans h.bel.output, Nat.le_trans h.bel.size P.size, fun k hk => (P.block k (Nat.lt_of_lt_of_le hk h.bel.size) fun hf => by have := h.fge k hf; omega).trans (h.bel.block k hk)⟩
/-- a tenant's row of numbers is another now -/
theorem PlSt.setRow {t j : Nat} {v' : Value} {L : List Int} (h : PlSt w b mb i F S vs tv W) (ht : t < 4) (hij : i ≤ j) (hL : L.length ≤ j)
    (hrow : W'.ownsRow w.heap.size 3 1 v' L.length (L.map (Value.int .i64))) (hg : ∀ g, v'.ownBlock = some g → (vs t).ownBlock = some g ∨ W.heap.size ≤ g)
    (hs : W.heap.size ≤ W'.heap.size) (hb : ∀ k, k < W.heap.size → (vs t).ownBlock ≠ some k → W'.heap[k]? = W.heap[k]?) (hos : W'.os = W.os ∧ W'.tape = W.tape ∧ W'.output = W.output) :
    PlSt w b mb j F ⟨S.A, upd S.M t L, S.T⟩ (upd vs t v') tv (W'.setCell ⟨mb, t, none⟩ v') := by
  have hmlt := (h.made.lt (.inl rfl)).2
  have gF : ∀ g, v'.ownBlock = some g → ¬ F g := fun g he hf => by
    rcases hg g he with e | e
    · exact h.fm g (.inr ⟨t, ht, e⟩) hf
    · have := h.at_.flt g hf; omega
  have gm : ∀ g, v'.ownBlock = some g → g ≠ mb := fun g he e => by
    rcases hg g he with e' | e'
    · exact h.made.ne t ht (by rw [e', e])
    · omega
  have gw : ∀ g, v'.ownBlock = some g → w.heap.size ≤ g := fun g he => by
    rcases hg g he with e | e
    · exact ((h.made.row t ht).lt g e).1
    · exact Nat.le_trans h.bel.size e
  have gu : ∀ g, v'.ownBlock = some g → ∀ u, u < 4 → u ≠ t → (vs u).ownBlock ≠ some g := fun g he u hu hne e => by
    rcases hg g he with e' | e'
    · exact h.made.apt t u ht hu (fun x => hne x.symm) g e' e
    · have := ((h.made.row u hu).lt g e).2; omega
  have gt : ∀ g, v'.ownBlock = some g → tv.ownBlock ≠ some g := fun g he e => by
    rcases hg g he with e' | e'
    · exact (h.ft g e).2 (.inr ⟨t, ht, e'⟩)
    · have := (h.told.lt g e).2; omega
  have blk : ∀ k, k < W.heap.size → (vs t).ownBlock ≠ some k → k ≠ mb → (W'.setCell ⟨mb, t, none⟩ v').heap[k]? = W.heap[k]? := fun k h1 h4 h3 => (heap_set h3).trans (hb k h1 h4)
  refine ⟨h.at_.other (by rw [size_set]; exact hs) fun k hk => blk k (h.at_.flt k hk) (fun e => h.fm k (.inr ⟨t, ht, e⟩) hk) (fun e => h.fm mb (.inl rfl) (e ▸ hk)), ⟨?_, fun u hu => ?_, fun u v hu hv huv k h1 h2 => ?_, fun u hu => ?_, h.made.hb⟩, fun u hu => ?_, row_other h.told fun k hk => blk k (h.told.lt k hk).2 (fun e => (h.ft k hk).2 (.inr ⟨t, ht, e⟩)) (fun e => (h.ft k hk).2 (.inl e)), by have := h.tl; show S.T.length ≤ 3 * j; omega, h.fge, fun k hk => ?_, fun k hk => ⟨(h.ft k hk).1, fun hm => ?_⟩, ?_⟩
  · have e0 : W'.heap[mb]? = some (.cells #[vs 0, vs 1, vs 2, vs 3] 54 (0, 0)) := (hb mb hmlt (h.made.ne t ht)).trans h.made.blk
    rw [Go.Joins.block_setCell e0]
    match t, ht with
    | 0, _ => rfl
    | 1, _ => rfl
    | 2, _ => rfl
    | 3, _ => rfl
  · show World.ownsRow _ _ _ _ (upd vs t v' u) (upd S.M t L u).length ((upd S.M t L u).map _)
    unfold upd
    by_cases e : u = t
    · subst e
      rw [if_pos rfl, if_pos rfl]
      exact row_other hrow fun k hk => heap_set (gm k hk)
    · rw [if_neg e, if_neg e]
      exact row_other (h.made.row u hu) fun k hk => blk k ((h.made.row u hu).lt k hk).2 (h.made.apt u t hu ht e k hk) (fun e' => h.made.ne u hu (e' ▸ hk))
  · unfold upd at h1 h2
    by_cases e1 : u = t
    · subst e1
      rw [if_pos rfl] at h1
      rw [if_neg (fun e => huv e.symm)] at h2
      exact gu k h1 v hv (fun e => huv e.symm) h2
    · rw [if_neg e1] at h1
      by_cases e2 : v = t
      · subst e2
        rw [if_pos rfl] at h2
        exact gu k h2 u hu e1 h1
      · rw [if_neg e2] at h2
        exact h.made.apt u v hu hv huv k h1 h2
  · unfold upd
    by_cases e : u = t
    · rw [if_pos e]
      exact fun e2 => gm mb e2 rfl
    · rw [if_neg e]; exact h.made.ne u hu
  · show (upd S.M t L u).length ≤ j
    unfold upd
    have := h.few u hu
    by_cases e : u = t
    · rw [if_pos e]; exact hL
    · rw [if_neg e]; omega
  · rcases hk with e | ⟨u, hu, e⟩
    · exact h.fm k (.inl e)
    · unfold upd at e
      by_cases eu : u = t
      · rw [if_pos eu] at e
        exact gF k e
      · rw [if_neg eu] at e
        exact h.fm k (.inr ⟨u, hu, e⟩)
  · rcases hm with e | ⟨u, hu, e⟩
    · exact (h.ft k hk).2 (.inl e)
    · unfold upd at e
      by_cases eu : u = t
      · rw [if_pos eu] at e
        exact gt k e hk
      · rw [if_neg eu] at e
        exact (h.ft k hk).2 (.inr ⟨u, hu, e⟩)
  · refine ⟨hos.1.trans h.bel.os, hos.2.1.trans h.bel.tape, hos.2.2.trans h.bel.output, by rw [size_set]; exact Nat.le_trans h.bel.size hs, fun k hk => ?_⟩
    rw [blk k (Nat.lt_of_lt_of_le hk h.bel.size) (fun e => by have := ((h.made.row t ht).lt k e).1; omega) (by have := h.made.hb; omega)]
    exact h.bel.block k hk
/-- more was told -/
theorem PlSt.tell {j : Nat} {v' : Value} {L : List Int} (h : PlSt w b mb i F S vs tv W) (hij : i ≤ j) (hL : L.length ≤ 3 * j)
    (hrow : W'.ownsRow w.heap.size 3 1 v' L.length (L.map (Value.int .i64))) (hg : ∀ g, v'.ownBlock = some g → tv.ownBlock = some g ∨ W.heap.size ≤ g)
    (hs : W.heap.size ≤ W'.heap.size) (hb : ∀ k, k < W.heap.size → tv.ownBlock ≠ some k → W'.heap[k]? = W.heap[k]?) (hos : W'.os = W.os ∧ W'.tape = W.tape ∧ W'.output = W.output) :
    PlSt w b mb j F ⟨S.A, S.M, L⟩ vs v' W' := by
  refine ⟨h.at_.other hs fun k hk => hb k (h.at_.flt k hk) fun e => (h.ft k e).1 hk, h.made.keep fun k hk => hb k (h.made.lt hk).2 fun e => (h.ft k e).2 hk, fun t ht => Nat.le_trans (h.few t ht) hij, hrow, hL, h.fge, h.fm, fun k hk => ?_, hos.1.trans h.bel.os, hos.2.1.trans h.bel.tape, hos.2.2.trans h.bel.output, Nat.le_trans h.bel.size hs, fun k hk => ?_⟩
  · rcases hg k hk with e | e
    · exact h.ft k e
    · exact ⟨fun hf => by have := h.at_.flt k hf; omega, fun hm => by have := (h.made.lt hm).2; omega⟩
  · rw [hb k (Nat.lt_of_lt_of_le hk h.bel.size) (fun e => by have := (h.told.lt k e).1; omega)]
    exact h.bel.block k hk
theorem PlSt.up {j : Nat} (h : PlSt w b mb i F S vs tv W) (hij : i ≤ j) : PlSt w b mb j F S vs tv W := { h with few := fun t ht => Nat.le_trans (h.few t ht) hij, tl := by have := h.tl; omega }
end
end Go.Proofs.Ytfogedmghhacdaa.A
