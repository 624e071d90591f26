/- walker.cells: its closure. -/
import Derived.Test.YtgipjplifndniaaGreatDoorSqTally
import Derived.Test.YtgipjplifndniaaGreatDoorLpOpenA
namespace Go.Proofs.YtgipjplifndniaaGreatDoor.A
open Go.RowKit Go.Maps Go.ChangeMaps Go.WideElems

theorem quarter_len (l : List Th) (n : Nat) (x : Th) (i : Nat) (hi : i < 4) : (cellsF l n (quarterF x i)).length ≤ (accF l n x 4).length := by
  have h1 : (accF l n x (i + 1)).length = (accF l n x i).length + (cellsF l n (quarterF x i)).length := by simp [accF, shift_len]
  have h2 := acc_mono l n x (4 - (i + 1)) (i + 1)
  rw [show i + 1 + (4 - (i + 1)) = 4 by omega] at h2
  omega
theorem square_of {A : Ar} {t n : Nat} {id : Int} (hI : Inv A) (hl : levelF A.ths t id = some ((n + 1 : Nat) : Int)) : ∃ x, squareF A.ths t id = some x ∧ thAt A.ths id = x ∧ 2 ≤ id ∧ (id - 2).toNat < A.ths.length ∧ ∀ i, i < 4 → levelF A.ths t (quarterF x i) = some (n : Int) := by
  rcases level_some hl with ⟨_, h⟩ | ⟨x, hx, hk, hlv⟩
  · omega
  · obtain ⟨h2, hxa, hb⟩ := own_some hx
    have hc := hI.closed t x (List.mem_of_getElem? hxa) hk hb
    rw [hlv, show ((n + 1 : Nat) : Int) - 1 = (n : Int) by omega] at hc
    refine ⟨x, ?_, thAt_eq hxa, h2, (List.getElem?_eq_some_iff.1 hxa).1, fun i hi => ?_⟩
    · unfold squareF
      rw [hx, Option.filter_some, if_pos (by simp [hk])]
    · match i, hi with
      | 0, _ => exact hc.1
      | 1, _ => exact hc.2.1
      | 2, _ => exact hc.2.2.1
      | 3, _ => exact hc.2.2.2
theorem fits_of {A : Ar} {t : Nat} {id m : Int} (hl : levelF A.ths t id = some m) (hf : A.ths.length < 1000000) : Fits id := by
  have := level_fits hl hf
  exact ⟨by omega, by omega⟩
theorem tally_any (wb m b nn t : Nat) (v : Value) (F : Nat → Prop) (A : Ar) (hI : Inv A) (ht : t < 64) (hm : ∀ x ∈ A.ths, x.mask < 18446744073709551616) (hf : A.ths.length < 1000000) :
    ∀ (n : Nat) (id : Int), n ≤ 44 → levelF A.ths t id = some (n : Int) → (cellsF A.ths n id).length < 4611686018427387904 → ∀ (k : Nat) (D : DataW Unit) (w : World) (level : Int), level = (n : Int) → WG w wb m b nn t k v F A D →
      Calls Tryz.prog 110 #[.pointer (some ⟨wb, 0, none⟩), .int .i64 id, .int .i64 level] w fun y w' => ∃ c x0 y0 x1 y1, y = .returned (tv c x0 y0 x1 y1) ∧ Tal (cellsF A.ths n id) c x0 y0 x1 y1 ∧ TG w wb m b nn t v F A (Kn D A.ths t n) w'
  | 0, id, _, hl, _, k, D, w, level, _, hw => by
    refine tally_yes wb m b nn t k 0 id level v F A D w hw (fits_of hl hf) hl ?_
    rcases glevel_zero hI.good (glevel_of hl) with rfl | rfl
    · exact hw.known.zero
    · exact hw.known.one
  | n + 1, id, hn, hl, hbig, k, D, w, level, hlev, hw => by
    cases hh : Maps.has D (.int .i64 id) with
    | true => exact tally_yes wb m b nn t k (n + 1) id level v F A D w hw (fits_of hl hf) hl hh
    | false =>
      obtain ⟨x, hx, hth, h2, hlt, hq⟩ := square_of hI hl
      refine tally_step wb m b nn t k n id level v F A x D w hw (fits_of hl hf) (by omega) hlev hl hh ht hm hx hth h2 hlt hbig (fun i hi p hp => cells_in hI.good n _ (glevel_of (hq i hi)) p hp) (fun i k D w hi hw => ?_)
      have hle := quarter_len A.ths n x i hi
      rw [acc_four A.ths n x id hth] at hle
      exact tally_any wb m b nn t v F A hI ht hm hf n (quarterF x i) (by omega) (hq i hi) (by omega) k D w (level - 1) (by omega) hw

set_option maxRecDepth 20000 in
set_option maxHeartbeats 4000000 in
theorem newWalker_G (b t : Nat) (w : World) : Calls Tryz.prog 106 #[.pointer (some ⟨b, 0, none⟩), .int .i64 t] w fun x w' => ∃ (g m : Nat) (D : DataW Unit), x = .returned (.agg #[.pointer (some ⟨b, 0, none⟩), .int .i64 t, .int .i64 0, .slice (some ⟨g, 0, none⟩) 1 1, .map (some m)]) ∧ Below w.heap.size w w' ∧ w'.ownsMap Tryz.prog 3 talG m 2 D ∧ (∀ l u, KnownG D l u) ∧ w.heap.size ≤ m ∧ (∃ E : List Int, E = [0] ∧ IntRow w' (.slice (some ⟨g, 0, none⟩) 1 1) E) ∧ w.heap.size ≤ g ∧ g ≠ m := by
  have hmm := @run_makeMap Tryz.prog
  have hh := fun W => newHand_any b t W
  have hb0 : Below w.heap.size w (w.alloc (.cells #[.pointer none, .int .i64 0, .int .i64 0, .slice none 0 0, .map none] 168)) := (Below.refl _ _).alloc (Nat.le_refl _) _
  have hX : (w.alloc (.cells #[.pointer none, .int .i64 0, .int .i64 0, .slice none 0 0, .map none] 168)).heap[w.heap.size]? = some (.cells #[.pointer none, .int .i64 0, .int .i64 0, .slice none 0 0, .map none] 168 (0, 0)) := heap_alloc_new w _
  have hs0 : (w.alloc (.cells #[.pointer none, .int .i64 0, .int .i64 0, .slice none 0 0, .map none] 168)).heap.size = w.heap.size + 1 := by simp
  go_enter Tryz.func106, Tryz.ntmps106
  go_wp2_with fail
  refine (hh _).mono ?_
  rintro e w1 ⟨rfl, hE, hb1⟩
  have hX1 := (hb1.block w.heap.size (by omega)).trans hX
  have hlt1 : w.heap.size < w1.heap.size := (Array.getElem?_eq_some_iff.1 hX1).1
  have hE1 : w1.heap[w.heap.size + 1 + 1]? = some (.cells #[.int .i64 0] 3 (0, 0)) := by rw [hs0] at hE; exact hE
  have hlE : w.heap.size + 1 + 1 < w1.heap.size := (Array.getElem?_eq_some_iff.1 hE1).1
  have h0 := World.ownsMap_made (H := Unit) w1 Tryz.prog 3 talG
  obtain ⟨wA, runA, ownA, tA⟩ := h0.store (int_keyed Tryz.underlying3) Tryz.underlying166 (show 0 < maxLen by unfold maxLen; omega) (keyOf_int_mk Tryz.underlying3 (wf_of_fits (show Fits 0 from ⟨by omega, by omega⟩))) (talG_tv 0 0 0 0 0)
  obtain ⟨wB, runB, ownB, tB⟩ := ownA.store (int_keyed Tryz.underlying3) Tryz.underlying166 (show 0 + 1 < maxLen by unfold maxLen; omega) (keyOf_int_mk Tryz.underlying3 (wf_of_fits (show Fits 1 from ⟨by omega, by omega⟩))) (talG_tv 1 0 0 0 0)
  have HK : Hid (∀ l u, KnownG ((DataW.put (.map []) (.int .i64 0) (td 0 0 0 0 0)).put (.int .i64 1) (td 1 0 0 0 0)) l u) := by
    intro l u
    have m1 : IsMap (DataW.put (H := Unit) (.map []) (.int .i64 0) (td 0 0 0 0 0)) := ownA.isMap
    refine ⟨?_, has_put_same m1 (by unfold WideAt.IsKeyLit; trivial) _, fun i hi hh => ?_⟩
    · rw [has_put_other (by intro e; cases e)]
      exact has_put_same ⟨_, rfl⟩ (by unfold WideAt.IsKeyLit; trivial) _
    · by_cases e : i = 1
      · subst e
        exact ⟨0, 1, 0, 0, 0, 0, rfl, Tal.one, atKey_put_same m1 (by unfold WideAt.IsKeyLit; trivial) _ _⟩
      · have ne : (Lit.int .i64 i) ≠ .int .i64 1 := by intro h; cases h; exact e rfl
        rw [has_put_other ne] at hh
        rw [atKey_put_other ne]
        by_cases e0 : i = 0
        · subst e0
          exact ⟨0, 0, 0, 0, 0, 0, rfl, Tal.nil, atKey_put_same ⟨_, rfl⟩ (by unfold WideAt.IsKeyLit; trivial) _ _⟩
        · have ne0 : (Lit.int .i64 i) ≠ .int .i64 0 := by intro h; cases h; exact e0 rfl
          rw [has_put_other ne0] at hh
          cases hh
  have HO : Hid (wB.ownsMap Tryz.prog 3 talG w1.heap.size 2 ((DataW.put (.map []) (.int .i64 0) (td 0 0 0 0 0)).put (.int .i64 1) (td 1 0 0 0 0))) := ownB
  have bB : Below w.heap.size w wB := by
    have b1 : Below w.heap.size w w1 := hb0.trans (hb1.mono (by omega))
    have b2 : Below w.heap.size w1 (w1.alloc (.map #[] 0)) := (Below.refl _ _).alloc (by omega) _
    exact ((b1.trans b2).trans (turned_below tA (by omega))).trans (turned_below tB (by omega))
  have hXB : wB.heap[w.heap.size]? = some (.cells #[.pointer none, .int .i64 0, .int .i64 0, .slice none 0 0, .map none] 168 (0, 0)) := by
    rw [turned_block tB (by omega), turned_block tA (by omega), push_old hlt1]
    exact hX1
  have hEB : wB.heap[w.heap.size + 1 + 1]? = some (.cells #[.int .i64 0] 3 (0, 0)) := by
    rw [turned_block tB (by omega), turned_block tA (by omega), push_old hlE]
    exact hE1
  have k0 : wB.cell? ⟨w.heap.size, 0, none⟩ = some (.pointer none) := Lib.cell_of_heap hXB 0
  have k1 : wB.cell? ⟨w.heap.size, 1, none⟩ = some (.int .i64 0) := Lib.cell_of_heap hXB 1
  have k2 : wB.cell? ⟨w.heap.size, 2, none⟩ = some (.int .i64 0) := Lib.cell_of_heap hXB 2
  have k3 : wB.cell? ⟨w.heap.size, 3, none⟩ = some (.slice none 0 0) := Lib.cell_of_heap hXB 3
  have k4 : wB.cell? ⟨w.heap.size, 4, none⟩ = some (.map none) := Lib.cell_of_heap hXB 4
  have z0 := Lib.frozen_of_heap hXB 0
  have z1 := Lib.frozen_of_heap hXB 1
  have z2 := Lib.frozen_of_heap hXB 2
  have z3 := Lib.frozen_of_heap hXB 3
  have z4 := Lib.frozen_of_heap hXB 4
  clear ownA ownB h0 hX hE hs0 hE1
  go_wp2_with fail
  have hR := set5 hXB (.pointer (some ⟨b, 0, none⟩)) (.int .i64 t) (.int .i64 0) (.slice (some ⟨w.heap.size + 1 + 1, 0, none⟩) 1 1) (.map (some w1.heap.size))
  refine bodyPost_ret (v := .agg #[.pointer (some ⟨b, 0, none⟩), .int .i64 t, .int .i64 0, .slice (some ⟨w.heap.size + 1 + 1, 0, none⟩) 1 1, .map (some w1.heap.size)]) ?_ rfl ⟨_, _, _, rfl, ?_, talG_other HO.out ?_, HK.out, Nat.le_of_lt hlt1, ⟨[0], rfl, rfl, Or.inr ⟨w.heap.size + 1 + 1, 1, #[.int .i64 0], rfl, Nat.zero_le _, ?_, Nat.le_refl _, by unfold maxLen; omega, rfl, rfl⟩⟩, by omega, by omega⟩
  · simp [results, Tryz.results106, go_sem, Lib.cell_of_heap hR]
  · exact ((((bB.setCell (p := ⟨w.heap.size, 0, none⟩) (Nat.le_refl _) _).setCell (p := ⟨w.heap.size, 1, none⟩) (Nat.le_refl _) _).setCell (p := ⟨w.heap.size, 2, none⟩) (Nat.le_refl _) _).setCell (p := ⟨w.heap.size, 3, none⟩) (Nat.le_refl _) _).setCell (p := ⟨w.heap.size, 4, none⟩) (Nat.le_refl _) _
  · have hk : w1.heap.size ≠ w.heap.size := by omega
    rw [Below.heap_setCell _ _ _ _ hk, Below.heap_setCell _ _ _ _ hk, Below.heap_setCell _ _ _ _ hk, Below.heap_setCell _ _ _ _ hk, Below.heap_setCell _ _ _ _ hk]
  · have hk : w.heap.size + 1 + 1 ≠ w.heap.size := by omega
    rw [Below.heap_setCell _ _ _ _ hk, Below.heap_setCell _ _ _ _ hk, Below.heap_setCell _ _ _ _ hk, Below.heap_setCell _ _ _ _ hk, Below.heap_setCell _ _ _ _ hk]
    exact hEB

theorem WG.born {w w1 : World} {b n t g m : Nat} {F : Nat → Prop} {A : Ar} {D : DataW Unit} (hA : ArAt w b F n A) (hf : A.ths.length < 1000000) (hb1 : Below w.heap.size w w1) (hown : w1.ownsMap Tryz.prog 3 talG m 2 D) (hkn : ∀ l u, KnownG D l u) (hmg : w.heap.size ≤ m) :
    WG (w1.alloc (.cells #[.pointer (some ⟨b, 0, none⟩), .int .i64 t, .int .i64 0, .slice (some ⟨g, 0, none⟩) 1 1, .map (some m)] 168)) w1.heap.size m b n t 2 (.slice (some ⟨g, 0, none⟩) 1 1) F A D ∧ Below w.heap.size w (w1.alloc (.cells #[.pointer (some ⟨b, 0, none⟩), .int .i64 t, .int .i64 0, .slice (some ⟨g, 0, none⟩) 1 1, .map (some m)] 168)) := by
  have hX : (w1.alloc (.cells #[.pointer (some ⟨b, 0, none⟩), .int .i64 t, .int .i64 0, .slice (some ⟨g, 0, none⟩) 1 1, .map (some m)] 168)).heap[w1.heap.size]? = some (.cells #[.pointer (some ⟨b, 0, none⟩), .int .i64 t, .int .i64 0, .slice (some ⟨g, 0, none⟩) 1 1, .map (some m)] 168 (0, 0)) := heap_alloc_new w1 _
  have hs1 := hb1.size
  have hflt := hA.flt
  have hml : m < w1.heap.size := by
    obtain ⟨es, c, he, _⟩ := hown
    exact (Array.getElem?_eq_some_iff.1 he).1
  have b2 : Below w.heap.size w (w1.alloc (.cells #[.pointer (some ⟨b, 0, none⟩), .int .i64 t, .int .i64 0, .slice (some ⟨g, 0, none⟩) 1 1, .map (some m)] 168)) := hb1.alloc hs1 _
  have hu := unk_le D A.ths.length
  exact ⟨⟨HandAt.of (l := [.map (some m)]) hX, hA.below b2, talG_other hown (push_old hml), hkn _ _, by omega, Lib.cell_of_heap hX 4, by omega, fun e => by have := hflt _ e; omega, fun e => by have := hflt _ e; omega⟩, b2⟩

theorem field_tv (c x0 y0 x1 y1 : Int) (w : World) : (Instr.field 173 (tv c x0 y0 x1 y1) 0).run Tryz.prog w = .ok (.int .i64 c) w := by kernel_rfl
end Go.Proofs.YtgipjplifndniaaGreatDoor.A

namespace Go.Proofs.YtgipjplifndniaaGreatDoor.A
open Go.RowKit Go.Maps Go.ChangeMaps Go.WideElems

abbrev cFn (wv lv fv : Nat) : Value := .func (Fn.func 138) #[] #[.pointer (some ⟨wv, 0, none⟩), .pointer (some ⟨lv, 0, none⟩), .pointer (some ⟨fv, 0, none⟩)]
structure CS (w : World) (wb m b nn t : Nat) (v : Value) (F : Nat → Prop) (A : Ar) (wv lv fv base : Nat) (zs : List (Int × Int)) : Prop where
  wg : ∃ k D, WG w wb m b nn t k v F A D
  cw : w.heap[wv]? = some (.cells #[.pointer (some ⟨wb, 0, none⟩)] 204 (0, 0))
  cf : w.heap[fv]? = some (.cells #[cFn wv lv fv] 208 (0, 0))
  cl : ∃ V, w.heap[lv]? = some (.cells #[V] 22 (0, 0)) ∧ w.ownsRow base 50 2 V zs.length (cL zs) ∧ (zs = [] → V = .slice none 0 0)
  lwb : wb < base
  lm : m < base
  lwv : wv < base
  llv : lv < base
  lfv : fv < base
  lF : ∀ k, F k → k < base
  n1 : wv ≠ wb ∧ wv ≠ m ∧ wv ≠ lv
  n2 : fv ≠ wb ∧ fv ≠ m ∧ fv ≠ lv
  n3 : lv ≠ wb ∧ lv ≠ m ∧ ¬ F lv
  lb : base ≤ w.heap.size
structure CO (w : World) (wb m lv base : Nat) (w' : World) : Prop where
  size : w.heap.size ≤ w'.heap.size
  os : w'.os = w.os
  tape : w'.tape = w.tape
  output : w'.output = w.output
  block : ∀ j, j < base → j ≠ wb → j ≠ m → j ≠ lv → w'.heap[j]? = w.heap[j]?
theorem CO.trans {w w1 w2 : World} {wb m lv base : Nat} (h : CO w wb m lv base w1) (k : CO w1 wb m lv base w2) : CO w wb m lv base w2 :=
  ⟨Nat.le_trans h.size k.size, k.os.trans h.os, k.tape.trans h.tape, k.output.trans h.output, fun j a b c d => (k.block j a b c d).trans (h.block j a b c d)⟩
section
variable {w w1 : World} {wb m b nn t : Nat} {v : Value} {F : Nat → Prop} {A : Ar} {wv lv fv base : Nat} {zs : List (Int × Int)} {K : Int → Prop}
theorem CS.tal (h : CS w wb m b nn t v F A wv lv fv base zs) (k : TG w wb m b nn t v F A K w1) : CS w1 wb m b nn t v F A wv lv fv base zs ∧ CO w wb m lv base w1 := by
  obtain ⟨kk, D, hw, _⟩ := k.wg
  obtain ⟨V, hV, hr, hnil⟩ := h.cl
  have l1 := h.lwv; have l2 := h.llv; have l3 := h.lfv; have l4 := h.lb; have l5 := h.lwb; have l6 := h.lm
  refine ⟨⟨⟨kk, D, hw⟩, (k.block wv (by omega) h.n1.1 h.n1.2.1).trans h.cw, (k.block fv (by omega) h.n2.1 h.n2.2.1).trans h.cf, ⟨V, (k.block lv (by omega) h.n3.1 h.n3.2.1).trans hV, row_other hr fun j hj => ?_, hnil⟩, h.lwb, h.lm, h.lwv, h.llv, h.lfv, h.lF, h.n1, h.n2, h.n3, Nat.le_trans l4 k.size⟩, ⟨k.size, k.os, k.tape, k.output, fun j a b c _ => k.block j (by omega) b c⟩⟩
  obtain ⟨a1, a2⟩ := World.ownsRow.lt hr j hj
  exact k.block j a2 (by omega) (by omega)
theorem CS.below (h : CS w wb m b nn t v F A wv lv fv base zs) (k : Below w.heap.size w w1) : CS w1 wb m b nn t v F A wv lv fv base zs ∧ CO w wb m lv base w1 := by
  obtain ⟨kk, D, hw⟩ := h.wg
  exact h.tal (TG.of (K := fun _ => True) hw k fun _ _ _ => trivial)
theorem CS.kids (h : CS w wb m b nn t v F A wv lv fv base zs) (h2 : HandAt w1 wb b t 0 v) (hg : w.grownBy w1 (some wb)) (h4 : w1.cell? ⟨wb, 4, none⟩ = w.cell? ⟨wb, 4, none⟩) : CS w1 wb m b nn t v F A wv lv fv base zs ∧ CO w wb m lv base w1 := by
  obtain ⟨kk, D, hw⟩ := h.wg
  exact h.tal (K := fun _ => True) ⟨⟨kk, D, hw.kids h2 hg (h4.trans hw.c4), fun _ _ _ => trivial⟩, hg.size, hg.os, hg.tape, hg.output, fun j a b _ => hg.block j a (by simp; omega)⟩
theorem CS.grown {W w5 : World} {ys : List (Int × Int)} {V5 : Value} (h : CS w wb m b nn t v F A wv lv fv base zs) (hW : Below w.heap.size w W) {V : Value} (hV : w.heap[lv]? = some (.cells #[V] 22 (0, 0))) (hr : w.ownsRow base 50 2 V zs.length (cL zs)) (hg : W.grownBy w5 V.ownBlock) (hown : w5.ownsRow base 50 2 V5 ys.length (cL ys)) (hnil : ys = [] → V5 = .slice none 0 0) :
    CS (w5.setCell ⟨lv, 0, none⟩ V5) wb m b nn t v F A wv lv fv base ys ∧ CO w wb m lv base (w5.setCell ⟨lv, 0, none⟩ V5) := by
  obtain ⟨kk, D, hw⟩ := h.wg
  have l1 := h.lwv; have l2 := h.llv; have l3 := h.lfv; have l4 := h.lb; have l5 := h.lwb; have l6 := h.lm
  have hs := hW.size
  have hs2 := hg.size
  have hk : ∀ j, j < base → w5.heap[j]? = w.heap[j]? := fun j hj => (hg.block j (by omega) (by
    intro e
    have := (World.ownsRow.lt hr j e.symm).1
    omega)).trans (hW.block j (by omega))
  have hk2 : ∀ j, j < base → j ≠ lv → (w5.setCell ⟨lv, 0, none⟩ V5).heap[j]? = w.heap[j]? := fun j hj hj2 => (heap_set hj2).trans (hk j hj)
  have hz : (w5.setCell ⟨lv, 0, none⟩ V5).heap.size = w5.heap.size := size_set
  refine ⟨⟨⟨kk, D, hw.other (by omega) fun j hj => hk2 j ?_ ?_⟩, (hk2 wv l1 h.n1.2.2).trans h.cw, (hk2 fv l3 h.n2.2.2).trans h.cf, ⟨V5, Go.Joins.block_setCell ((hk lv l2).trans hV) _, row_other hown fun j hj => heap_set ?_, hnil⟩, l5, l6, l1, l2, l3, h.lF, h.n1, h.n2, h.n3, by omega⟩, ⟨by omega, hg.os.trans hW.os, hg.tape.trans hW.tape, hg.output.trans hW.output, fun j a _ _ d => hk2 j a d⟩⟩
  · rcases hj with rfl | rfl | hj
    · exact l5
    · exact l6
    · exact h.lF j hj
  · rcases hj with rfl | rfl | hj
    · exact fun e => h.n3.1 e.symm
    · exact fun e => h.n3.2.1 e.symm
    · exact fun e => h.n3.2.2 (by rw [← e]; exact hj)
  · have := (World.ownsRow.lt hown j hj).1
    omega
end

theorem shift_app (x y : Int) (a b : List (Int × Int)) : shiftL x y (a ++ b) = shiftL x y a ++ shiftL x y b := by simp [shiftL]
theorem shift_shift (x y dx dy : Int) (a : List (Int × Int)) : shiftL x y (shiftL dx dy a) = shiftL (x + dx) (y + dy) a := by
  unfold shiftL
  rw [List.map_map]
  refine List.map_congr_left fun c _ => ?_
  show (c.1 + dx + x, c.2 + dy + y) = (c.1 + (x + dx), c.2 + (y + dy))
  exact Prod.ext (by show c.1 + dx + x = c.1 + (x + dx); omega) (by show c.2 + dy + y = c.2 + (y + dy); omega)
theorem corn_bd (n i : Nat) : 0 ≤ cornX ((2 ^ n : Nat) : Int) i ∧ cornX ((2 ^ n : Nat) : Int) i ≤ ((2 ^ n : Nat) : Int) ∧ 0 ≤ cornY ((2 ^ n : Nat) : Int) i ∧ cornY ((2 ^ n : Nat) : Int) i ≤ ((2 ^ n : Nat) : Int) := by
  have h : (0 : Int) ≤ ((2 ^ n : Nat) : Int) := Int.natCast_nonneg _
  unfold cornX cornY
  generalize ((2 ^ n : Nat) : Int) = z at *
  refine ⟨?_, ?_, ?_, ?_⟩ <;> split <;> omega
theorem two_new (W : World) (p q : Value) (T : TypeId) (k : Nat) (hk : k = W.heap.size) : ∀ (j : Nat) (u : Value), [p, q][j]? = some u → (W.alloc (.cells #[p, q] T)).cell? ((⟨k, 0, none⟩ : Addr).add j) = some u := by
  subst hk
  exact World.news_of_block (cs := #[p, q]) (t := T) (fr := (0, 0)) (heap_alloc_new W _)
def CSpec (n : Nat) : Prop := ∀ (wb m b nn t : Nat) (v : Value) (F : Nat → Prop) (A : Ar) (wv lv fv base : Nat) (zs : List (Int × Int)) (w : World) (id x y level : Int), Inv A → t < 64 → (∀ x ∈ A.ths, x.mask < 18446744073709551616) → A.ths.length < 1000000 → n ≤ 44 → level = (n : Int) → levelF A.ths t id = some (n : Int) → zs.length + (cellsF A.ths n id).length ≤ 4096 → CS w wb m b nn t v F A wv lv fv base zs →
  -1152921504606846976 ≤ x → x + ((2 ^ n : Nat) : Int) ≤ 1152921504606846976 → -1152921504606846976 ≤ y → y + ((2 ^ n : Nat) : Int) ≤ 1152921504606846976 →
  Calls Tryz.prog 138 #[.int .i64 id, .int .i64 level, .int .i64 x, .int .i64 y, .pointer (some ⟨wv, 0, none⟩), .pointer (some ⟨lv, 0, none⟩), .pointer (some ⟨fv, 0, none⟩)] w fun e w' => e = .returned (.tuple #[]) ∧ CS w' wb m b nn t v F A wv lv fv base (zs ++ shiftL x y (cellsF A.ths n id)) ∧ CO w wb m lv base w'

set_option maxRecDepth 20000 in
set_option maxHeartbeats 8000000 in
theorem cells_step (n : Nat) (ih : CSpec n) (wb m b nn t : Nat) (v : Value) (F : Nat → Prop) (A : Ar) (wv lv fv base : Nat) (zs : List (Int × Int)) (w : World) (id x y level : Int) (th : Th) (hI : Inv A) (ht : t < 64) (hm : ∀ x ∈ A.ths, x.mask < 18446744073709551616) (hf : A.ths.length < 1000000) (hn : n < 44) (hlev : level = ((n + 1 : Nat) : Int)) (hl : levelF A.ths t id = some ((n + 1 : Nat) : Int)) (hlen : zs.length + (cellsF A.ths (n + 1) id).length ≤ 4096) (hC : CS w wb m b nn t v F A wv lv fv base zs)
    (hx0 : -1152921504606846976 ≤ x) (hx1 : x + ((2 ^ (n + 1) : Nat) : Int) ≤ 1152921504606846976) (hy0 : -1152921504606846976 ≤ y) (hy1 : y + ((2 ^ (n + 1) : Nat) : Int) ≤ 1152921504606846976) (hne : cellsF A.ths (n + 1) id ≠ []) (hsq : squareF A.ths t id = some th) (hth : thAt A.ths id = th) (hq : ∀ i, i < 4 → levelF A.ths t (quarterF th i) = some (n : Int)) :
    Calls Tryz.prog 138 #[.int .i64 id, .int .i64 level, .int .i64 x, .int .i64 y, .pointer (some ⟨wv, 0, none⟩), .pointer (some ⟨lv, 0, none⟩), .pointer (some ⟨fv, 0, none⟩)] w fun e w' => e = .returned (.tuple #[]) ∧ CS w' wb m b nn t v F A wv lv fv base (zs ++ shiftL x y (cellsF A.ths (n + 1) id)) ∧ CO w wb m lv base w' := by
  obtain ⟨k, D, hw⟩ := hC.wg
  have hr := fits_of hl hf
  have hta := tally_any wb m b nn t v F A hI ht hm hf (n + 1) id (by omega) hl (by omega) k D w level hlev hw
  have cw : w.cell? ⟨wv, 0, none⟩ = some (.pointer (some ⟨wb, 0, none⟩)) := Lib.cell_of_heap hC.cw 0
  have hlv1 : 1 ≤ level ∧ level ≤ 44 := by omega
  have hlv0 : (level == 0) = false := by simp; omega
  have HLEV : Hid (level = ((n + 1 : Nat) : Int)) := hlev
  clear hlev
  go_enter Tryz.func138, Tryz.ntmps138
  go_wp2_with fail
  refine hta.mono ?_
  rintro e w1 ⟨c, x0, y0, x1, y1, rfl, hT, T1⟩
  obtain ⟨C1, O1⟩ := hC.tal T1
  have hc0 : c ≠ 0 := fun e => hne (List.length_eq_zero_iff.1 (by have := hT.1; omega))
  have hc1 : (c == 0) = false := by simpa using hc0
  have hfz := field_tv c x0 y0 x1 y1 w1
  have cw1 : w1.cell? ⟨wv, 0, none⟩ = some (.pointer (some ⟨wb, 0, none⟩)) := Lib.cell_of_heap C1.cw 0
  obtain ⟨k1, D1, q1⟩ := C1.wg
  clear hta hT T1 cw hC hw hc0
  go_wp2_with fail
  refine (handKids_any wb b nn t id th v F A _ q1.hand q1.ar ht hm hr hsq).mono ?_
  rintro e w2 ⟨rfl, h2, g2, h24⟩
  obtain ⟨C2, O2⟩ := C1.kids h2 g2 h24
  have O12 := O1.trans O2
  clear C1 O1 O2 h2 g2 h24 q1 cw1
  go_wp2_with fail
  have hcor := fun (i : Nat) (hi : i < 4) W => corner_at n i level HLEV.out hn hi W
  have hkid := fun (i : Nat) (hi : i < 4) W => kids_at th i hi W
  have hpow : ((2 ^ (n + 1) : Nat) : Int) = ((2 ^ n : Nat) : Int) + ((2 ^ n : Nat) : Int) := by rw [Nat.pow_succ]; omega
  rw [hpow] at hx1 hy1
  have HLEN : Hid (∀ i, i ≤ 4 → zs.length + (accF A.ths n th i).length ≤ 4096) := fun i hi => by
    have := acc_mono A.ths n th (4 - i) i
    rw [show i + (4 - i) = 4 by omega, acc_four A.ths n th id hth] at this
    omega
  have HACC : Hid (accF A.ths n th 4 = cellsF A.ths (n + 1) id) := acc_four A.ths n th id hth
  have C20 : CS w2 wb m b nn t v F A wv lv fv base (zs ++ shiftL x y (accF A.ths n th 0)) := by
    have e : zs ++ shiftL x y (accF A.ths n th 0) = zs := by simp [accF, shiftL]
    rw [e]; exact C2
  clear hpow hlen hth hsq C2 hl
  go_loopg [34] 4 (fun g s34 wr => ∃ i : Nat, i + g = 4 ∧ s34 = .int .i64 (i : Int) ∧ CS wr wb m b nn t v F A wv lv fv base (zs ++ shiftL x y (accF A.ths n th i)) ∧ CO w wb m lv base wr)
  case atStart => exact ⟨0, by omega, rfl, C20, O12⟩
  case round =>
    obtain ⟨i, hig, rfl, C, O⟩ := hrel
    have HI : Hid (i + gk = 4) := hig
    clear hig C20
    by_cases hi4 : i < 4
    · have hki := fun W => hkid i hi4 W
      have hco := fun W => hcor i hi4 W
      have hil : (i : Int) < 4 := by omega
      have hi0 : (0 : Int) ≤ i := by omega
      have hcb := corn_bd n i
      have hl1 := HLEN.out (i + 1) (by omega)
      have hacc : (accF A.ths n th (i + 1)).length = (accF A.ths n th i).length + (cellsF A.ths n (quarterF th i)).length := by simp [accF, shift_len]
      have HNX : Hid (zs ++ shiftL x y (accF A.ths n th i) ++ shiftL (x + cornX ((2 ^ n : Nat) : Int) i) (y + cornY ((2 ^ n : Nat) : Int) i) (cellsF A.ths n (quarterF th i)) = zs ++ shiftL x y (accF A.ths n th (i + 1))) := by
        show _ = _
        rw [List.append_assoc]
        congr 1
        show _ = shiftL x y (accF A.ths n th i ++ _)
        rw [shift_app, shift_shift]
      have HIH := ih wb m b nn t v F A wv lv fv base (zs ++ shiftL x y (accF A.ths n th i)) wr (quarterF th i) (x + cornX ((2 ^ n : Nat) : Int) i) (y + cornY ((2 ^ n : Nat) : Int) i) (level - 1) hI ht hm hf (by omega) (by have := HLEV.out; omega) (hq i hi4) (by rw [List.length_append, shift_len]; omega) C (by omega) (by omega) (by omega) (by omega)
      have cf : wr.cell? ⟨fv, 0, none⟩ = some (cFn wv lv fv) := Lib.cell_of_heap C.cf 0
      obtain ⟨dx, hdx⟩ : ∃ dx, dx = cornX ((2 ^ n : Nat) : Int) i := ⟨_, rfl⟩
      obtain ⟨dy, hdy⟩ : ∃ dy, dy = cornY ((2 ^ n : Nat) : Int) i := ⟨_, rfl⟩
      rw [← hdx, ← hdy] at hco HIH hcb HNX
      have hp0 : (0 : Int) ≤ ((2 ^ n : Nat) : Int) := Int.natCast_nonneg _
      generalize ((2 ^ n : Nat) : Int) = pw at *
      clear hkid hcor C hacc hl1 hdx hdy
      go_wp2_with fail
      refine (hco _).mono ?_
      rintro e wk ⟨rfl, rfl⟩
      go_wp2_with fail
      refine HIH.mono ?_
      rintro e w3 ⟨rfl, C3, O3⟩
      rw [HNX.out] at C3
      go_wp2_with fail
      go_roundg (gk - 1)
      case measure => have := HI.out; omega
      case rel => exact ⟨i + 1, by have := HI.out; omega, by go_num, C3, O.trans O3⟩
    · have hi4' : i = 4 := by have := HI.out; omega
      subst hi4'
      rw [HACC.out] at C
      clear hkid hcor
      go_wp2_with fail
      go_end0
      exact ⟨rfl, C, O⟩

set_option maxRecDepth 20000 in
set_option maxHeartbeats 4000000 in
theorem cells_none (n wb m b nn t : Nat) (v : Value) (F : Nat → Prop) (A : Ar) (wv lv fv base : Nat) (zs : List (Int × Int)) (w : World) (id x y level : Int) (hI : Inv A) (ht : t < 64) (hm : ∀ x ∈ A.ths, x.mask < 18446744073709551616) (hf : A.ths.length < 1000000) (hn : n ≤ 44) (hlev : level = (n : Int)) (hl : levelF A.ths t id = some (n : Int)) (hC : CS w wb m b nn t v F A wv lv fv base zs) (hne : cellsF A.ths n id = []) :
    Calls Tryz.prog 138 #[.int .i64 id, .int .i64 level, .int .i64 x, .int .i64 y, .pointer (some ⟨wv, 0, none⟩), .pointer (some ⟨lv, 0, none⟩), .pointer (some ⟨fv, 0, none⟩)] w fun e w' => e = .returned (.tuple #[]) ∧ CS w' wb m b nn t v F A wv lv fv base (zs ++ shiftL x y (cellsF A.ths n id)) ∧ CO w wb m lv base w' := by
  obtain ⟨k, D, hw⟩ := hC.wg
  have hta := tally_any wb m b nn t v F A hI ht hm hf n id hn hl (by rw [hne]; decide) k D w level hlev hw
  have cw : w.cell? ⟨wv, 0, none⟩ = some (.pointer (some ⟨wb, 0, none⟩)) := Lib.cell_of_heap hC.cw 0
  have e0 : zs ++ shiftL x y (cellsF A.ths n id) = zs := by rw [hne]; simp [shiftL]
  rw [e0]
  clear hlev
  go_enter Tryz.func138, Tryz.ntmps138
  go_wp2_with fail
  refine hta.mono ?_
  rintro e w1 ⟨c, x0, y0, x1, y1, rfl, hT, T1⟩
  obtain ⟨C1, O1⟩ := hC.tal T1
  have hc0 : c = 0 := by have := hT.1; rw [hne] at this; simpa using this
  have hc1 : (c == 0) = true := by simpa using hc0
  have hfz := field_tv c x0 y0 x1 y1 w1
  clear hta hT T1 cw hC hw hc0
  go_wp2_with fail
  refine bodyPost_ret (v := .tuple #[]) ?_ rfl ⟨rfl, C1, O1⟩
  simp [results, Tryz.results138, go_sem]
set_option maxRecDepth 20000 in
set_option maxHeartbeats 4000000 in
theorem cells_live (wb m b nn t : Nat) (v : Value) (F : Nat → Prop) (A : Ar) (wv lv fv base : Nat) (zs : List (Int × Int)) (w : World) (x y : Int) (hI : Inv A) (ht : t < 64) (hm : ∀ x ∈ A.ths, x.mask < 18446744073709551616) (hf : A.ths.length < 1000000) (hlen : zs.length + 1 ≤ 4096) (hC : CS w wb m b nn t v F A wv lv fv base zs) :
    Calls Tryz.prog 138 #[.int .i64 1, .int .i64 0, .int .i64 x, .int .i64 y, .pointer (some ⟨wv, 0, none⟩), .pointer (some ⟨lv, 0, none⟩), .pointer (some ⟨fv, 0, none⟩)] w fun e w' => e = .returned (.tuple #[]) ∧ CS w' wb m b nn t v F A wv lv fv base (zs ++ shiftL x y (cellsF A.ths 0 1)) ∧ CO w wb m lv base w' := by
  obtain ⟨k, D, hw⟩ := hC.wg
  have hta := tally_any wb m b nn t v F A hI ht hm hf 0 1 (by omega) rfl (by simp [cellsF]) k D w 0 rfl hw
  have cw : w.cell? ⟨wv, 0, none⟩ = some (.pointer (some ⟨wb, 0, none⟩)) := Lib.cell_of_heap hC.cw 0
  have e0 : zs ++ shiftL x y (cellsF A.ths 0 1) = zs ++ [(x, y)] := by simp [cellsF, shiftL]
  rw [e0]
  obtain ⟨i00, hi00, hz00, hz01, hz02⟩ := info_parts Tryz.info50
  go_enter Tryz.func138, Tryz.ntmps138
  go_wp2_with fail
  refine hta.mono ?_
  rintro e w1 ⟨c, x0, y0, x1, y1, rfl, hT, T1⟩
  obtain ⟨C1, O1⟩ := hC.tal T1
  have hc0 : c = 1 := by have := hT.1; simpa [cellsF] using this
  have hc1 : (c == 0) = false := by rw [hc0]; rfl
  have hfz := field_tv c x0 y0 x1 y1 w1
  obtain ⟨V, hV, hrow, _⟩ := C1.cl
  have cl : w1.cell? ⟨lv, 0, none⟩ = some V := Lib.cell_of_heap hV 0
  have zl := Lib.frozen_of_heap hV 0
  have hll : lv < w1.heap.size := (Array.getElem?_eq_some_iff.1 hV).1
  have l1 := C1.lb
  have l2 := C1.llv
  obtain ⟨a, cc, hva⟩ := row_slice hrow
  have bW : Below w1.heap.size w1 (w1.alloc (.cells #[.int .i64 x, .int .i64 y] 50)).drew := ((Below.refl _ _).alloc (Nat.le_refl _) _).drew
  have bW0 : Below w1.heap.size w1 (w1.alloc (.cells #[.int .i64 x, .int .i64 y] 50)) := (Below.refl _ _).alloc (Nat.le_refl _) _
  have OW : Hid (∀ o, (w1.alloc o).ownsRow base 50 2 V zs.length (cL zs)) := fun o => World.ownsRow.alloc hrow o
  have HFIN : Hid (∀ (W w5 : World) (g5 cap5 : Nat), Below w1.heap.size w1 W → w5.ownsRow base 50 2 (.slice (some ⟨g5, 0, none⟩) (zs.length + 1) cap5) (zs.length + 1) (cL zs ++ [.int .i64 x, .int .i64 y]) → W.grownBy w5 V.ownBlock → CS (w5.setCell ⟨lv, 0, none⟩ (.slice (some ⟨g5, 0, none⟩) (zs.length + 1) cap5)) wb m b nn t v F A wv lv fv base (zs ++ [(x, y)]) ∧ CO w wb m lv base (w5.setCell ⟨lv, 0, none⟩ (.slice (some ⟨g5, 0, none⟩) (zs.length + 1) cap5))) := fun W w5 g5 cap5 hW h1 h2 => by
    have e2 : cL (zs ++ [(x, y)]) = cL zs ++ [.int .i64 x, .int .i64 y] := by simp [cL]
    obtain ⟨r1, r2⟩ := C1.grown hW hV hrow h2 (ys := zs ++ [(x, y)]) (V5 := .slice (some ⟨g5, 0, none⟩) (zs.length + 1) cap5) (by rw [e2, List.length_append]; exact h1) (fun e => by simp at e)
    exact ⟨r1, O1.trans r2⟩
  have HLV : Hid (∀ (W w5 : World), Below w1.heap.size w1 W → W.grownBy w5 V.ownBlock → w5.heap[lv]? = w1.heap[lv]?) := fun W w5 hW h2 => (h2.block lv (Nat.lt_of_lt_of_le hll hW.size) (by
    intro e
    have := (World.ownsRow.lt hrow lv e.symm).1
    omega)).trans (hW.block lv hll)
  generalize zs.length = zl8 at *
  clear hta hT T1 cw hC hw hc0 C1 hrow
  subst hva
  have hzl : zl8 + 1 ≤ 4096 := hlen
  go_wp2_with (at_builtin; refine wpList_append_lies _ rfl _ _ 22 rfl base 50 i00 (.agg #[.int .i64 0, .int .i64 0]) 2 16 Tryz.underlying22 hi00 hz00 hz01 hz02 rfl (by decide) (.slice a zl8 cc) zl8 (cL zs) rfl (by exact OW.out _) ⟨w1.heap.size, 0, none⟩ 1 1 [.int .i64 x, .int .i64 y] rfl rfl (two_new _ _ _ _ _ rfl) (by intro u hu; simp at hu; rcases hu with rfl | rfl <;> rfl) (by omega) (by unfold maxLen; omega) (by omega) (by simp; omega) (w1.heap.size + 1) (by simp) ?_; intro g5 cap5 w5 hown5 hgrow5 hat5 hlt5; have hq5 := (HLV.out _ w5 bW0 hgrow5).trans hV; have c5 := Lib.cell_of_heap hq5 0; have z5 := Lib.frozen_of_heap hq5 0)
  refine bodyPost_ret (v := .tuple #[]) ?_ rfl ⟨rfl, HFIN.out _ w5 g5 cap5 bW0 hown5 hgrow5⟩
  simp [results, Tryz.results138, go_sem]

theorem closure_any : ∀ n, CSpec n
  | 0 => by
    intro wb m b nn t v F A wv lv fv base zs w id x y level hI ht hm hf hn hlev hl hlen hC _ _ _ _
    by_cases h0 : cellsF A.ths 0 id = []
    · exact cells_none 0 wb m b nn t v F A wv lv fv base zs w id x y level hI ht hm hf hn hlev hl hC h0
    · rcases glevel_zero hI.good (glevel_of hl) with rfl | rfl
      · exact absurd rfl h0
      · subst hlev
        exact cells_live wb m b nn t v F A wv lv fv base zs w x y hI ht hm hf (by simpa [cellsF] using hlen) hC
  | n + 1 => by
    intro wb m b nn t v F A wv lv fv base zs w id x y level hI ht hm hf hn hlev hl hlen hC hx0 hx1 hy0 hy1
    by_cases h0 : cellsF A.ths (n + 1) id = []
    · exact cells_none (n + 1) wb m b nn t v F A wv lv fv base zs w id x y level hI ht hm hf hn hlev hl hC h0
    · obtain ⟨th, hsq, hth, _, _, hq⟩ := square_of hI hl
      exact cells_step n (closure_any n) wb m b nn t v F A wv lv fv base zs w id x y level th hI ht hm hf (by omega) hlev hl hlen hC hx0 hx1 hy0 hy1 h0 hsq hth hq
end Go.Proofs.YtgipjplifndniaaGreatDoor.A
