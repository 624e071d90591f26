/- ArenaRoom: what holds from deed to deed. -/
import Derived.Test.YtfogedmghhacdaaArRoomP
namespace Go.Proofs.Ytfogedmghhacdaa.A
open Go.RowKit Go.Maps

def spotI (v n : Int) : Int := if v.tmod n < 0 then v.tmod n + n else v.tmod n
theorem spotI_bound (v n : Int) (hn : 0 < n) : 0 ≤ spotI v n ∧ spotI v n < n := by
  have h1 := Int.lt_tmod_of_pos v hn
  have h2 := Int.tmod_lt_of_pos v hn
  unfold spotI
  split <;> omega
set_option maxHeartbeats 1000000 in
theorem spot_any (v n : Int) (w : World) (hn : 0 < n) (hn2 : n ≤ 4611686018427387904) : Calls Try.prog 13 #[.int .i64 v, .int .i64 n] w fun e w' => e = .returned (.int .i64 (spotI v n)) ∧ w' = w := by
  have h1 := Int.lt_tmod_of_pos v hn
  have h2 := Int.tmod_lt_of_pos v hn
  have hz : (n == 0) = false := by simp; omega
  by_cases h0 : v.tmod n < 0
  · have e : spotI v n = v.tmod n + n := by rw [spotI, if_pos h0]
    rw [e]
    go_enter Try.func13, Try.ntmps13
    go_wp2
    go_ret
    exact ⟨rfl, rfl⟩
  · have e : spotI v n = v.tmod n := by rw [spotI, if_neg h0]
    rw [e]
    go_enter Try.func13, Try.ntmps13
    go_wp2
    go_ret
    exact ⟨rfl, rfl⟩

/-- four rows of numbers, each in a block of its own -/
structure MadeAt (W : World) (B mb : Nat) (vs : Nat → Value) (M : Nat → List Int) : Prop where
  blk : W.heap[mb]? = some (.cells #[vs 0, vs 1, vs 2, vs 3] 54 (0, 0))
  row : ∀ t, t < 4 → W.ownsRow B 3 1 (vs t) (M t).length ((M t).map (Value.int .i64))
  apt : ∀ t u, t < 4 → u < 4 → t ≠ u → ∀ k, (vs t).ownBlock = some k → (vs u).ownBlock ≠ some k
  ne : ∀ t, t < 4 → (vs t).ownBlock ≠ some mb
  hb : B ≤ mb
def MadeOwn (vs : Nat → Value) (mb k : Nat) : Prop := k = mb ∨ ∃ t, t < 4 ∧ (vs t).ownBlock = some k
section
variable {W W' : World} {B mb : Nat} {vs : Nat → Value} {M : Nat → List Int}
theorem MadeAt.lt (h : MadeAt W B mb vs M) {k : Nat} (hk : MadeOwn vs mb k) : B ≤ k ∧ k < W.heap.size := by
  rcases hk with rfl | ⟨t, ht, e⟩
  · exact ⟨h.hb, (Array.getElem?_eq_some_iff.1 h.blk).1⟩
  · exact (h.row t ht).lt k e
theorem MadeAt.keep (h : MadeAt W B mb vs M) (hk : ∀ k, MadeOwn vs mb k → W'.heap[k]? = W.heap[k]?) : MadeAt W' B mb vs M :=
  ⟨(hk mb (.inl rfl)).trans h.blk, fun t ht => row_other (h.row t ht) fun k e => hk k (.inr ⟨t, ht, e⟩), h.apt, h.ne, h.hb⟩
theorem MadeAt.below (h : MadeAt W B mb vs M) (hb : Below W.heap.size W W') : MadeAt W' B mb vs M := h.keep fun k hk => hb.block k (h.lt hk).2
theorem MadeAt.cell (h : MadeAt W B mb vs M) {t : Nat} (ht : t < 4) : W.cell? ⟨mb, t, none⟩ = some (vs t) ∧ W.frozen? ⟨mb, t, none⟩ = false := by
  refine ⟨?_, Lib.frozen_of_heap h.blk t⟩
  rw [Lib.cell_of_heap h.blk t]
  match t, ht with
  | 0, _ => rfl
  | 1, _ => rfl
  | 2, _ => rfl
  | 3, _ => rfl
end
/-- a number that was made, counted round; 0 and 1 are Dead and Alive -/
def idOf (M : List Int) (n : Int) : Int := if spotI n ((M.length : Int) + 2) < 2 then spotI n ((M.length : Int) + 2) else M[(spotI n ((M.length : Int) + 2) - 2).toNat]!
theorem idOf_fits {M : List Int} (h : ∀ x ∈ M, Fits x) (n : Int) : Fits (idOf M n) := by
  have hb := spotI_bound n ((M.length : Int) + 2) (by omega)
  unfold idOf
  split
  · exact ⟨by omega, by omega⟩
  · rw [getElem!_pos M _ (by omega)]
    exact h _ (List.getElem_mem _)

set_option maxRecDepth 20000 in
set_option maxHeartbeats 2000000 in
theorem roomId_any (t : Nat) (n : Int) (B mb tb : Nat) (vs : Nat → Value) (M : Nat → List Int) (W : World) (h : MadeAt W B mb vs M) (ht : t < 4) (hl : (M t).length < 1000000) (htb : W.cell? ⟨tb, 0, none⟩ = some (.int .i64 t)) :
    Calls Try.prog 16 #[.int .i64 n, .pointer (some ⟨mb, 0, none⟩), .pointer (some ⟨tb, 0, none⟩)] W fun e w' => e = .returned (.int .i64 (idOf (M t) n)) ∧ w' = W := by
  have hc := (h.cell ht).1
  have hrow := h.row t ht
  obtain ⟨a, c, hv⟩ : ∃ a c, vs t = .slice a (M t).length c := by
    rcases hrow.2 with ⟨h1, h2⟩ | ⟨g, cap, cur, h1, _⟩
    · exact ⟨none, 0, by rw [h1, h2]⟩
    · exact ⟨_, _, h1⟩
  have h0 : (0 : Int) ≤ (t : Int) := by omega
  have h1 : (t : Int) < 4 := by omega
  rw [hv] at hc hrow
  have hsp := spot_any n (((M t).length : Int) + 2) W (by omega) (by omega)
  have hb := spotI_bound n (((M t).length : Int) + 2) (by omega)
  have HI : Hid (idOf (M t) n = if spotI n (((M t).length : Int) + 2) < 2 then spotI n (((M t).length : Int) + 2) else (M t)[(spotI n (((M t).length : Int) + 2) - 2).toNat]!) := rfl
  obtain ⟨ln, hln⟩ : ∃ x, x = (M t).length := ⟨_, rfl⟩
  rw [← hln] at hc hsp hb HI hl hrow
  have HL : Hid (ln = (M t).length) := hln
  have hw1 : IntKind.i64.wrap ((ln : Int) + 2) = (ln : Int) + 2 := by rw [IntKind.wrap_i64]; omega
  generalize spotI n ((ln : Int) + 2) = k at *
  clear hln hv
  by_cases hk : k < 2
  · have HI2 : Hid (idOf (M t) n = k) := HI.out.trans (if_pos hk)
    clear HI hrow
    go_enter Try.func16, Try.ntmps16
    go_wp2_with fail
    refine hsp.mono ?_
    rintro e w1 ⟨rfl, rfl⟩
    go_wp2_with fail
    go_ret
    exact ⟨by rw [HI2.out]; rfl, rfl⟩
  · obtain ⟨i, hi⟩ := Int.eq_ofNat_of_zero_le (show 0 ≤ k - 2 by omega)
    have HI2 : Hid (idOf (M t) n = (M t)[i]!) := HI.out.trans ((if_neg hk).trans (by rw [hi]; rfl))
    have hil : i < ln := by omega
    obtain ⟨g, rfl⟩ : ∃ g, a = some ⟨g, 0, none⟩ := by
      rcases hrow.2 with ⟨h1, h2⟩ | ⟨g, cap, cur, h1, _⟩
      · omega
      · simp only [Value.slice.injEq] at h1; exact ⟨g, h1.1⟩
    have hcell : W.cell? ⟨g, i, none⟩ = some (.int .i64 (M t)[i]!) := by
      rw [hrow.cellAt i (by omega), List.getElem?_map, List.getElem?_eq_getElem (by rw [← HL.out]; exact hil), getElem!_pos (M t) i (by rw [← HL.out]; exact hil)]
      rfl
    have k0 : (0 : Int) ≤ (i : Int) := by omega
    have k1 : (i : Int) < (ln : Int) := by omega
    have hw2 : IntKind.i64.wrap (k - 2) = (i : Int) := by rw [IntKind.wrap_i64]; omega
    generalize (M t)[i]! = x at *
    clear HI hrow hi
    go_enter Try.func16, Try.ntmps16
    go_wp2_with fail
    refine hsp.mono ?_
    rintro e w1 ⟨rfl, rfl⟩
    go_wp2_with fail
    go_ret
    exact ⟨by rw [HI2.out]; rfl, rfl⟩
end Go.Proofs.Ytfogedmghhacdaa.A

namespace Go.Proofs.Ytfogedmghhacdaa.A
open Go.RowKit Go.Maps

/-- a deed -/
structure Dd where
  k : Int
  t : Int
  a0 : Int
  a1 : Int
  a2 : Int
  a3 : Int
/-- deeds that can be read -/
def DRow (w : World) (v : Value) (ds : List Dd) : Prop :=
  ∃ a c, v = .slice a ds.length c ∧ ds.length ≤ 9223372036854775807 ∧ (ds = [] ∨ ∃ g o, a = some ⟨g, o, none⟩ ∧ g < w.heap.size ∧ ∀ (k : Nat) d, ds[k]? = some d →
    (w.cell? ⟨g, o + k * 6, none⟩ = some (.int .i64 d.k) ∧ w.cell? ⟨g, o + k * 6 + 1, none⟩ = some (.int .i64 d.t) ∧ w.cell? ⟨g, o + k * 6 + 2, none⟩ = some (.int .i64 d.a0) ∧ w.cell? ⟨g, o + k * 6 + 3, none⟩ = some (.int .i64 d.a1) ∧ w.cell? ⟨g, o + k * 6 + 4, none⟩ = some (.int .i64 d.a2) ∧ w.cell? ⟨g, o + k * 6 + 5, none⟩ = some (.int .i64 d.a3)) ∧ Fits d.a1)
/-- four tenants' quotas, as limits of all -/
def qq (q : Nat → Int) : Nat → Int := fun u => if u < 4 then q u else 0
/-- midway: the arena, the quotas' block, the block of what was made -/
structure RmSt (w : World) (b qb mb : Nat) (q : Nat → Int) (i : Nat) (F : Nat → Prop) (A : Ar) (vs : Nat → Value) (M : Nat → List Int) (W : World) : Prop where
  at_ : AtP W b F A
  snd : Sound A
  room : A.room = 100
  lim : ∀ t, t < 4 → A.lim t = q t
  rm : Roomy A (qq q)
  qblk : W.heap[qb]? = some (.cells #[.int .i64 (q 0), .int .i64 (q 1), .int .i64 (q 2), .int .i64 (q 3)] 35 (0, 0))
  made : MadeAt W w.heap.size mb vs M
  fits : ∀ t, t < 4 → ∀ x ∈ M t, Fits x
  few : ∀ t, t < 4 → (M t).length ≤ i
  fge : ∀ k, F k → w.heap.size ≤ k
  fq : ¬ F qb
  fm : ∀ k, MadeOwn vs mb k → ¬ F k ∧ k ≠ qb
  bel : Below w.heap.size w W
  hq : w.heap.size ≤ qb
section
variable {w W W' : World} {b qb mb i : Nat} {q : Nat → Int} {F : Nat → Prop} {A : Ar} {vs : Nat → Value} {M : Nat → List Int}
theorem RmSt.qlt (h : RmSt w b qb mb q i F A vs M W) : qb < W.heap.size := (Array.getElem?_eq_some_iff.1 h.qblk).1
theorem RmSt.qcell (h : RmSt w b qb mb q i F A vs M W) {t : Nat} (ht : t < 4) : W.cell? ⟨qb, t, none⟩ = some (.int .i64 (q t)) := by
  rw [Lib.cell_of_heap h.qblk t]
  match t, ht with
  | 0, _ => rfl
  | 1, _ => rfl
  | 2, _ => rfl
  | 3, _ => rfl
theorem RmSt.below (h : RmSt w b qb mb q i F A vs M W) (hb : Below W.heap.size W W') : RmSt w b qb mb q i F A vs M W' :=
  ⟨h.at_.below hb, h.snd, h.room, h.lim, h.rm, (hb.block qb h.qlt).trans h.qblk, h.made.below hb, h.fits, h.few, h.fge, h.fq, h.fm, h.bel.trans (hb.mono h.bel.size), h.hq⟩
/-- behind a call of the arena -/
theorem RmSt.led (h : RmSt w b qb mb q i F A vs M W) {A' : Ar} (hl : Led W b F A' W') (hS : Sound A') (hlim : A'.lim = A.lim) (hr : A'.room = A.room) (hR : Roomy A' (qq q)) : ∃ F', RmSt w b qb mb q i F' A' vs M W' := by
  obtain ⟨F', h1, h2, P⟩ := hl
  have nf : ∀ k, k < W.heap.size → ¬ F k → ¬ F' k := fun k hk hn hf => by
    rcases h1 k hf with e | e
    · exact hn e
    · omega
  refine ⟨F', h2, hS, hr.trans h.room, fun t ht => by rw [hlim]; exact h.lim t ht, hR, (P.block qb h.qlt h.fq).trans h.qblk, h.made.keep fun k hk => P.block k (h.made.lt hk).2 (h.fm k hk).1, h.fits, h.few, fun k hk => ?_, nf qb h.qlt h.fq, fun k hk => ⟨nf k (h.made.lt hk).2 (h.fm k hk).1, (h.fm k hk).2⟩, ?_, h.hq⟩
  · rcases h1 k hk with e | e
    · exact h.fge k e
    · exact Nat.le_trans h.bel.size e
  · exact ⟨P.os.trans h.bel.os, P.tape.trans h.bel.tape, P.output.trans h.bel.output, Nat.le_trans h.bel.size P.size, fun k hk => (P.block k (Nat.lt_of_lt_of_le hk h.bel.size) fun hf => by have := h.fge k hf; omega).trans (h.bel.block k hk)⟩
theorem RmSt.up (h : RmSt w b qb mb q i F A vs M W) : RmSt w b qb mb q (i + 1) F A vs M W := { h with few := fun t ht => Nat.le_succ_of_le (h.few t ht) }
theorem RmSt.drew (h : RmSt w b qb mb q i F A vs M W) : RmSt w b qb mb q i F A vs M W.drew := h.below (Below.refl _ _).drew
/-- a number more was made -/
theorem RmSt.push {t c2 : Nat} {g : Nat} {id : Int} (h : RmSt w b qb mb q i F A vs M W) (ht : t < 4) (hid : Fits id)
    (hrow : W'.ownsRow w.heap.size 3 1 (.slice (some ⟨g, 0, none⟩) ((M t).length + 1) c2) ((M t).length + 1) ((M t ++ [id]).map (Value.int .i64))) (hg : (vs t).ownBlock = some g ∨ W.heap.size ≤ g)
    (hs : W.heap.size ≤ W'.heap.size) (hb : ∀ k, k < W.heap.size → k ≠ g → (vs t).ownBlock ≠ some k → W'.heap[k]? = W.heap[k]?) (hos : W'.os = W.os ∧ W'.tape = W.tape ∧ W'.output = W.output) :
    RmSt w b qb mb q (i + 1) F A (upd vs t (.slice (some ⟨g, 0, none⟩) ((M t).length + 1) c2)) (upd M t (M t ++ [id])) (W'.setCell ⟨mb, t, none⟩ (.slice (some ⟨g, 0, none⟩) ((M t).length + 1) c2)) := by
  have hmlt := (h.made.lt (.inl rfl)).2
  have gF : ¬ F g := fun hf => by
    rcases hg with e | e
    · exact (h.fm g (.inr ⟨t, ht, e⟩)).1 hf
    · have := h.at_.flt g hf; omega
  have gq : g ≠ qb := fun e => by
    rcases hg with e' | e'
    · exact (h.fm g (.inr ⟨t, ht, e'⟩)).2 e
    · have := h.qlt; omega
  have gm : g ≠ mb := fun e => by
    rcases hg with e' | e'
    · exact h.made.ne t ht (by rw [e', e])
    · omega
  have gw : w.heap.size ≤ g := by
    rcases hg with e | e
    · exact ((h.made.row t ht).lt g e).1
    · exact Nat.le_trans h.bel.size e
  have gu : ∀ u, u < 4 → u ≠ t → (vs u).ownBlock ≠ some g := fun u hu hne e => by
    rcases hg with e' | e'
    · exact h.made.apt t u ht hu (fun x => hne x.symm) g e' e
    · have := ((h.made.row u hu).lt g e).2; omega
  have blk : ∀ k, k < W.heap.size → k ≠ g → (vs t).ownBlock ≠ some k → k ≠ mb → (W'.setCell ⟨mb, t, none⟩ (.slice (some ⟨g, 0, none⟩) ((M t).length + 1) c2)).heap[k]? = W.heap[k]? := fun k h1 h2 h4 h3 => (heap_set h3).trans (hb k h1 h2 h4)
  refine ⟨h.at_.other (by rw [size_set]; exact hs) fun k hk => blk k (h.at_.flt k hk) (fun e => gF (e ▸ hk)) (fun e => (h.fm k (.inr ⟨t, ht, e⟩)).1 hk) (fun e => (h.fm mb (.inl rfl)).1 (e ▸ hk)), h.snd, h.room, h.lim, h.rm, (blk qb h.qlt gq.symm (fun e => (h.fm qb (.inr ⟨t, ht, e⟩)).2 rfl) (fun e => (h.fm mb (.inl rfl)).2 e.symm)).trans h.qblk, ⟨?_, fun u hu => ?_, fun u v hu hv huv k h1 h2 => ?_, fun u hu => ?_, h.made.hb⟩, fun u hu => ?_, fun u hu => ?_, h.fge, h.fq, fun k hk => ?_, ?_, h.hq⟩
  · have e0 : W'.heap[mb]? = some (.cells #[vs 0, vs 1, vs 2, vs 3] 54 (0, 0)) := (hb mb hmlt gm.symm (h.made.ne t ht)).trans h.made.blk
    rw [Go.Joins.block_setCell e0]
    match t, ht with
    | 0, _ => rfl
    | 1, _ => rfl
    | 2, _ => rfl
    | 3, _ => rfl
  · unfold upd
    by_cases e : u = t
    · subst e
      rw [if_pos rfl, if_pos rfl, List.length_append, List.length_singleton]
      exact row_other hrow fun k hk => heap_set fun e => gm (by simp [Value.ownBlock] at hk; omega)
    · rw [if_neg e, if_neg e]
      exact row_other (h.made.row u hu) fun k hk => blk k ((h.made.row u hu).lt k hk).2 (fun e' => gu u hu e (e' ▸ hk)) (h.made.apt u t hu ht e k hk) (fun e' => h.made.ne u hu (e' ▸ hk))
  · unfold upd at h1 h2
    by_cases e1 : u = t
    · subst e1
      rw [if_pos rfl] at h1
      rw [if_neg (fun e => huv e.symm)] at h2
      simp only [Value.ownBlock, Option.some.injEq] at h1
      subst h1
      exact gu v hv (fun e => huv e.symm) h2
    · rw [if_neg e1] at h1
      by_cases e2 : v = t
      · subst e2
        rw [if_pos rfl] at h2
        simp only [Value.ownBlock, Option.some.injEq] at h2
        subst h2
        exact gu u hu e1 h1
      · rw [if_neg e2] at h2
        exact h.made.apt u v hu hv huv k h1 h2
  · unfold upd
    by_cases e : u = t
    · rw [if_pos e]
      intro e2
      simp only [Value.ownBlock, Option.some.injEq] at e2
      exact gm e2
    · rw [if_neg e]; exact h.made.ne u hu
  · unfold upd
    by_cases e : u = t
    · subst e
      rw [if_pos rfl]
      intro x hx
      rcases List.mem_append.1 hx with e | e
      · exact h.fits u hu x e
      · simp at e; subst e; exact hid
    · rw [if_neg e]; exact h.fits u hu
  · unfold upd
    have := h.few u hu
    by_cases e : u = t
    · subst e
      rw [if_pos rfl, List.length_append, List.length_singleton]; omega
    · rw [if_neg e]; omega
  · rcases hk with e | ⟨u, hu, e⟩
    · exact h.fm k (.inl e)
    · unfold upd at e
      by_cases eu : u = t
      · rw [if_pos eu] at e
        simp only [Value.ownBlock, Option.some.injEq] at e
        subst e
        exact ⟨gF, gq⟩
      · rw [if_neg eu] at e
        exact h.fm k (.inr ⟨u, hu, e⟩)
  · refine ⟨hos.1.trans h.bel.os, hos.2.1.trans h.bel.tape, hos.2.2.trans h.bel.output, by rw [size_set]; exact Nat.le_trans h.bel.size hs, fun k hk => ?_⟩
    rw [blk k (Nat.lt_of_lt_of_le hk h.bel.size) (by omega) (fun e => by have := ((h.made.row t ht).lt k e).1; omega) (by have := h.made.hb; omega)]
    exact h.bel.block k hk
end
end Go.Proofs.Ytfogedmghhacdaa.A
