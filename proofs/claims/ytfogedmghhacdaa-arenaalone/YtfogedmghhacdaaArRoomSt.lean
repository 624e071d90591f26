/- ArenaRoom: what holds from deed to deed. -/
import Derived.Test.YtfogedmghhacdaaArLawM
namespace Go.Proofs.Ytfogedmghhacdaa.A
open Go.RowKit Go.Maps

/-- a deed -/
structure Dd where
  k : Int
  t : Int
  a0 : Int
  a1 : Int
  a2 : Int
  a3 : Int
/-- deeds that can be read -/
def DRow (w : World) (v : Value) (ds : List Dd) : Prop :=
  ∃ a c, v = .slice a ds.length c ∧ ds.length ≤ 9223372036854775807 ∧ (ds = [] ∨ ∃ g o, a = some ⟨g, o, none⟩ ∧ g < w.heap.size ∧ ∀ (k : Nat) d, ds[k]? = some d →
    (w.cell? ⟨g, o + k * 6, none⟩ = some (.int .i64 d.k) ∧ w.cell? ⟨g, o + k * 6 + 1, none⟩ = some (.int .i64 d.t) ∧ w.cell? ⟨g, o + k * 6 + 2, none⟩ = some (.int .i64 d.a0) ∧ w.cell? ⟨g, o + k * 6 + 3, none⟩ = some (.int .i64 d.a1) ∧ w.cell? ⟨g, o + k * 6 + 4, none⟩ = some (.int .i64 d.a2) ∧ w.cell? ⟨g, o + k * 6 + 5, none⟩ = some (.int .i64 d.a3)) ∧ Fits d.a1)
/-- four tenants' quotas, as limits of all -/
def qq (q : Nat → Int) : Nat → Int := fun u => if u < 4 then q u else 0
/-- midway: the arena, the quotas' block, the block of what was made -/
structure RmSt (w : World) (b qb mb : Nat) (q : Nat → Int) (i : Nat) (F : Nat → Prop) (A : Ar) (vs : Nat → Value) (M : Nat → List Int) (W : World) : Prop where
  at_ : AtP W b F A
  snd : Sound A
  room : A.room = 100
  lim : ∀ t, t < 4 → A.lim t = q t
  rm : Roomy A (qq q)
  qblk : W.heap[qb]? = some (.cells #[.int .i64 (q 0), .int .i64 (q 1), .int .i64 (q 2), .int .i64 (q 3)] 35 (0, 0))
  made : MadeAt W w.heap.size mb vs M
  fits : ∀ t, t < 4 → ∀ x ∈ M t, Fits x
  few : ∀ t, t < 4 → (M t).length ≤ i
  fge : ∀ k, F k → w.heap.size ≤ k
  fq : ¬ F qb
  fm : ∀ k, MadeOwn vs mb k → ¬ F k ∧ k ≠ qb
  bel : Below w.heap.size w W
  hq : w.heap.size ≤ qb
section
variable {w W W' : World} {b qb mb i : Nat} {q : Nat → Int} {F : Nat → Prop} {A : Ar} {vs : Nat → Value} {M : Nat → List Int}
theorem RmSt.qlt (h : RmSt w b qb mb q i F A vs M W) : qb < W.heap.size := (Array.getElem?_eq_some_iff.1 h.qblk).1
theorem RmSt.qcell (h : RmSt w b qb mb q i F A vs M W) {t : Nat} (ht : t < 4) : W.cell? ⟨qb, t, none⟩ = some (.int .i64 (q t)) := by
  rw [Lib.cell_of_heap h.qblk t]
  match t, ht with
  | 0, _ => rfl
  | 1, _ => rfl
  | 2, _ => rfl
  | 3, _ => rfl
theorem RmSt.below (h : RmSt w b qb mb q i F A vs M W) (hb : Below W.heap.size W W') : RmSt w b qb mb q i F A vs M W' :=
  ⟨h.at_.below hb, h.snd, h.room, h.lim, h.rm, (hb.block qb h.qlt).trans h.qblk, h.made.below hb, h.fits, h.few, h.fge, h.fq, h.fm, h.bel.trans (hb.mono h.bel.size), h.hq⟩
/-- behind a call of the arena -/
theorem RmSt.led (h : RmSt w b qb mb q i F A vs M W) {A' : Ar} (hl : Led W b F A' W') (hS : Sound A') (hlim : A'.lim = A.lim) (hr : A'.room = A.room) (hR : Roomy A' (qq q)) : ∃ F', RmSt w b qb mb q i F' A' vs M W' := by
  obtain ⟨F', h1, h2, P⟩ := hl
  have nf : ∀ k, k < W.heap.size → ¬ F k → ¬ F' k := fun k hk hn hf => by
    rcases h1 k hf with e | e
    · exact hn e
    · omega
  refine ⟨F', h2, hS, hr.trans h.room, fun t ht => by rw [hlim]; exact h.lim t ht, hR, (P.block qb h.qlt h.fq).trans h.qblk, h.made.keep fun k hk => P.block k (h.made.lt hk).2 (h.fm k hk).1, h.fits, h.few, fun k hk => ?_, nf qb h.qlt h.fq, fun k hk => ⟨nf k (h.made.lt hk).2 (h.fm k hk).1, (h.fm k hk).2⟩, ?_, h.hq⟩
  · rcases h1 k hk with e | e
    · exact h.fge k e
    · exact Nat.le_trans h.bel.size e
  · exact ⟨P.os.trans h.bel.os, P.tape.trans h.bel.tape, P.output.trans h.bel.output, Nat.le_trans h.bel.size P.size, fun k hk => (P.block k (Nat.lt_of_lt_of_le hk h.bel.size) fun hf => by have := h.fge k hf; omega).trans (h.bel.block k hk)⟩
theorem RmSt.up (h : RmSt w b qb mb q i F A vs M W) : RmSt w b qb mb q (i + 1) F A vs M W := { h with few := fun t ht => Nat.le_succ_of_le (h.few t ht) }
theorem RmSt.drew (h : RmSt w b qb mb q i F A vs M W) : RmSt w b qb mb q i F A vs M W.drew := h.below (Below.refl _ _).drew
/-- a number more was made -/
theorem RmSt.push {t c2 : Nat} {g : Nat} {id : Int} (h : RmSt w b qb mb q i F A vs M W) (ht : t < 4) (hid : Fits id)
    (hrow : W'.ownsRow w.heap.size 3 1 (.slice (some ⟨g, 0, none⟩) ((M t).length + 1) c2) ((M t).length + 1) ((M t ++ [id]).map (Value.int .i64))) (hg : (vs t).ownBlock = some g ∨ W.heap.size ≤ g)
    (hs : W.heap.size ≤ W'.heap.size) (hb : ∀ k, k < W.heap.size → k ≠ g → (vs t).ownBlock ≠ some k → W'.heap[k]? = W.heap[k]?) (hos : W'.os = W.os ∧ W'.tape = W.tape ∧ W'.output = W.output) :
    RmSt w b qb mb q (i + 1) F A (upd vs t (.slice (some ⟨g, 0, none⟩) ((M t).length + 1) c2)) (upd M t (M t ++ [id])) (W'.setCell ⟨mb, t, none⟩ (.slice (some ⟨g, 0, none⟩) ((M t).length + 1) c2)) := by
  have hmlt := (h.made.lt (.inl rfl)).2
  have gF : ¬ F g := fun hf => by
    rcases hg with e | e
    · exact (h.fm g (.inr ⟨t, ht, e⟩)).1 hf
    · have := h.at_.flt g hf; omega
  have gq : g ≠ qb := fun e => by
    rcases hg with e' | e'
    · exact (h.fm g (.inr ⟨t, ht, e'⟩)).2 e
    · have := h.qlt; omega
  have gm : g ≠ mb := fun e => by
    rcases hg with e' | e'
    · exact h.made.ne t ht (by rw [e', e])
    · omega
  have gw : w.heap.size ≤ g := by
    rcases hg with e | e
    · exact ((h.made.row t ht).lt g e).1
    · exact Nat.le_trans h.bel.size e
  have gu : ∀ u, u < 4 → u ≠ t → (vs u).ownBlock ≠ some g := fun u hu hne e => by
    rcases hg with e' | e'
    · exact h.made.apt t u ht hu (fun x => hne x.symm) g e' e
    · have := ((h.made.row u hu).lt g e).2; omega
  have blk : ∀ k, k < W.heap.size → k ≠ g → (vs t).ownBlock ≠ some k → k ≠ mb → (W'.setCell ⟨mb, t, none⟩ (.slice (some ⟨g, 0, none⟩) ((M t).length + 1) c2)).heap[k]? = W.heap[k]? := fun k h1 h2 h4 h3 => (heap_set h3).trans (hb k h1 h2 h4)
  refine ⟨h.at_.other (by rw [size_set]; exact hs) fun k hk => blk k (h.at_.flt k hk) (fun e => gF (e ▸ hk)) (fun e => (h.fm k (.inr ⟨t, ht, e⟩)).1 hk) (fun e => (h.fm mb (.inl rfl)).1 (e ▸ hk)), h.snd, h.room, h.lim, h.rm, (blk qb h.qlt gq.symm (fun e => (h.fm qb (.inr ⟨t, ht, e⟩)).2 rfl) (fun e => (h.fm mb (.inl rfl)).2 e.symm)).trans h.qblk, ⟨?_, fun u hu => ?_, fun u v hu hv huv k h1 h2 => ?_, fun u hu => ?_, h.made.hb⟩, fun u hu => ?_, fun u hu => ?_, h.fge, h.fq, fun k hk => ?_, ?_, h.hq⟩
  · have e0 : W'.heap[mb]? = some (.cells #[vs 0, vs 1, vs 2, vs 3] 54 (0, 0)) := (hb mb hmlt gm.symm (h.made.ne t ht)).trans h.made.blk
    rw [Go.Joins.block_setCell e0]
    match t, ht with
    | 0, _ => rfl
    | 1, _ => rfl
    | 2, _ => rfl
    | 3, _ => rfl
  · unfold upd
    by_cases e : u = t
    · subst e
      rw [if_pos rfl, if_pos rfl, List.length_append, List.length_singleton]
      exact row_other hrow fun k hk => heap_set fun e => gm (by simp [Value.ownBlock] at hk; omega)
    · rw [if_neg e, if_neg e]
      exact row_other (h.made.row u hu) fun k hk => blk k ((h.made.row u hu).lt k hk).2 (fun e' => gu u hu e (e' ▸ hk)) (h.made.apt u t hu ht e k hk) (fun e' => h.made.ne u hu (e' ▸ hk))
  · unfold upd at h1 h2
    by_cases e1 : u = t
    · subst e1
      rw [if_pos rfl] at h1
      rw [if_neg (fun e => huv e.symm)] at h2
      simp only [Value.ownBlock, Option.some.injEq] at h1
      subst h1
      exact gu v hv (fun e => huv e.symm) h2
    · rw [if_neg e1] at h1
      by_cases e2 : v = t
      · subst e2
        rw [if_pos rfl] at h2
        simp only [Value.ownBlock, Option.some.injEq] at h2
        subst h2
        exact gu u hu e1 h1
      · rw [if_neg e2] at h2
        exact h.made.apt u v hu hv huv k h1 h2
  · unfold upd
    by_cases e : u = t
    · rw [if_pos e]
      intro e2
      simp only [Value.ownBlock, Option.some.injEq] at e2
      exact gm e2
    · rw [if_neg e]; exact h.made.ne u hu
  · unfold upd
    by_cases e : u = t
    · subst e
      rw [if_pos rfl]
      intro x hx
      rcases List.mem_append.1 hx with e | e
      · exact h.fits u hu x e
      · simp at e; subst e; exact hid
    · rw [if_neg e]; exact h.fits u hu
  · unfold upd
    have := h.few u hu
    by_cases e : u = t
    · subst e
      rw [if_pos rfl, List.length_append, List.length_singleton]; omega
    · rw [if_neg e]; omega
  · rcases hk with e | ⟨u, hu, e⟩
    · exact h.fm k (.inl e)
    · unfold upd at e
      by_cases eu : u = t
      · rw [if_pos eu] at e
        simp only [Value.ownBlock, Option.some.injEq] at e
        subst e
        exact ⟨gF, gq⟩
      · rw [if_neg eu] at e
        exact h.fm k (.inr ⟨u, hu, e⟩)
  · refine ⟨hos.1.trans h.bel.os, hos.2.1.trans h.bel.tape, hos.2.2.trans h.bel.output, by rw [size_set]; exact Nat.le_trans h.bel.size hs, fun k hk => ?_⟩
    rw [blk k (Nat.lt_of_lt_of_le hk h.bel.size) (by omega) (fun e => by have := ((h.made.row t ht).lt k e).1; omega) (by have := h.made.hb; omega)]
    exact h.bel.block k hk
end
end Go.Proofs.Ytfogedmghhacdaa.A
