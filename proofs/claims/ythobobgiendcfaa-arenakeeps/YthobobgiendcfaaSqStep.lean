/- A hand's steps, one behind the other. -/
import Derived.Test.YthobobgiendcfaaSqTally
import Derived.Test.YthobobgiendcfaaQuCount
import Derived.Test.YthobobgiendcfaaSqFrom
namespace Go.Proofs.Ythobobgiendcfaa.A
open Go.RowKit Go.Maps Go.ChangeMaps Go.WideElems

theorem quarter_len (l : List Th) (n : Nat) (x : Th) (i : Nat) (hi : i < 4) : (cellsF l n (quarterF x i)).length ≤ (accF l n x 4).length := by
  have h1 : (accF l n x (i + 1)).length = (accF l n x i).length + (cellsF l n (quarterF x i)).length := by simp [accF, shift_len]
  have h2 := acc_mono l n x (4 - (i + 1)) (i + 1)
  rw [show i + 1 + (4 - (i + 1)) = 4 by omega] at h2
  omega
/-- a root's own square, and its quarters -/
theorem square_of {A : Ar} {t n : Nat} {id : Int} (hI : Inv A) (hl : levelF A.ths t id = some ((n + 1 : Nat) : Int)) : ∃ x, squareF A.ths t id = some x ∧ thAt A.ths id = x ∧ 2 ≤ id ∧ (id - 2).toNat < A.ths.length ∧ ∀ i, i < 4 → levelF A.ths t (quarterF x i) = some (n : Int) := by
  rcases level_some hl with ⟨_, h⟩ | ⟨x, hx, hk, hlv⟩
  · omega
  · obtain ⟨h2, hxa, hb⟩ := own_some hx
    have hc := hI.closed t x (List.mem_of_getElem? hxa) hk hb
    rw [hlv, show ((n + 1 : Nat) : Int) - 1 = (n : Int) by omega] at hc
    refine ⟨x, ?_, thAt_eq hxa, h2, (List.getElem?_eq_some_iff.1 hxa).1, fun i hi => ?_⟩
    · unfold squareF
      rw [hx, Option.filter_some, if_pos (by simp [hk])]
    · match i, hi with
      | 0, _ => exact hc.1
      | 1, _ => exact hc.2.1
      | 2, _ => exact hc.2.2.1
      | 3, _ => exact hc.2.2.2
theorem fits_of {A : Ar} {t : Nat} {id m : Int} (hl : levelF A.ths t id = some m) (hf : A.ths.length < 1000000) : Fits id := by
  have := level_fits hl hf
  exact ⟨by omega, by omega⟩
theorem tally_any (wb m b nn t : Nat) (v : Value) (F : Nat → Prop) (A : Ar) (hI : Inv A) (ht : t < 64) (hm : ∀ x ∈ A.ths, x.mask < 18446744073709551616) (hf : A.ths.length < 1000000) :
    ∀ (n : Nat) (id : Int), n ≤ 44 → levelF A.ths t id = some (n : Int) → (cellsF A.ths n id).length < 4611686018427387904 → ∀ (k : Nat) (D : DataW Unit) (w : World) (level : Int), level = (n : Int) → WG w wb m b nn t k v F A D →
      Calls Try.prog 87 #[.pointer (some ⟨wb, 0, none⟩), .int .i64 id, .int .i64 level] w fun y w' => ∃ c x0 y0 x1 y1, y = .returned (tv c x0 y0 x1 y1) ∧ Tal (cellsF A.ths n id) c x0 y0 x1 y1 ∧ TG w wb m b nn t v F A (Kn D A.ths t n) w'
  | 0, id, _, hl, _, k, D, w, level, _, hw => by
    refine tally_yes wb m b nn t k 0 id level v F A D w hw (fits_of hl hf) hl ?_
    rcases glevel_zero hI.good (glevel_of hl) with rfl | rfl
    · exact hw.known.zero
    · exact hw.known.one
  | n + 1, id, hn, hl, hbig, k, D, w, level, hlev, hw => by
    cases hh : Maps.has D (.int .i64 id) with
    | true => exact tally_yes wb m b nn t k (n + 1) id level v F A D w hw (fits_of hl hf) hl hh
    | false =>
      obtain ⟨x, hx, hth, h2, hlt, hq⟩ := square_of hI hl
      refine tally_step wb m b nn t k n id level v F A x D w hw (fits_of hl hf) (by omega) hlev hl hh ht hm hx hth h2 hlt hbig (fun i hi p hp => cells_in hI.good n _ (glevel_of (hq i hi)) p hp) (fun i k D w hi hw => ?_)
      have hle := quarter_len A.ths n x i hi
      rw [acc_four A.ths n x id hth] at hle
      exact tally_any wb m b nn t v F A hI ht hm hf n (quarterF x i) (by omega) (hq i hi) (by omega) k D w (level - 1) (by omega) hw

set_option maxRecDepth 20000 in
set_option maxHeartbeats 4000000 in
theorem newWalker_G (b t : Nat) (w : World) : Calls Try.prog 85 #[.pointer (some ⟨b, 0, none⟩), .int .i64 t] w fun x w' => ∃ (g m : Nat) (D : DataW Unit), x = .returned (.agg #[.pointer (some ⟨b, 0, none⟩), .int .i64 t, .int .i64 0, .slice (some ⟨g, 0, none⟩) 1 1, .map (some m)]) ∧ Below w.heap.size w w' ∧ w'.ownsMap Try.prog 3 talG m 2 D ∧ (∀ l u, KnownG D l u) ∧ w.heap.size ≤ m ∧ (∃ E : List Int, E = [0] ∧ IntRow w' (.slice (some ⟨g, 0, none⟩) 1 1) E) ∧ w.heap.size ≤ g ∧ g ≠ m := by
  have hmm := @run_makeMap Try.prog
  have hh := fun W => newHand_any b t W
  have hb0 : Below w.heap.size w (w.alloc (.cells #[.pointer none, .int .i64 0, .int .i64 0, .slice none 0 0, .map none] 134)) := (Below.refl _ _).alloc (Nat.le_refl _) _
  have hX : (w.alloc (.cells #[.pointer none, .int .i64 0, .int .i64 0, .slice none 0 0, .map none] 134)).heap[w.heap.size]? = some (.cells #[.pointer none, .int .i64 0, .int .i64 0, .slice none 0 0, .map none] 134 (0, 0)) := heap_alloc_new w _
  have hs0 : (w.alloc (.cells #[.pointer none, .int .i64 0, .int .i64 0, .slice none 0 0, .map none] 134)).heap.size = w.heap.size + 1 := by simp
  go_enter Try.func85, Try.ntmps85
  go_wp2_with fail
  refine (hh _).mono ?_
  rintro e w1 ⟨rfl, hE, hb1⟩
  have hX1 := (hb1.block w.heap.size (by omega)).trans hX
  have hlt1 : w.heap.size < w1.heap.size := (Array.getElem?_eq_some_iff.1 hX1).1
  have hE1 : w1.heap[w.heap.size + 1 + 1]? = some (.cells #[.int .i64 0] 3 (0, 0)) := by rw [hs0] at hE; exact hE
  have hlE : w.heap.size + 1 + 1 < w1.heap.size := (Array.getElem?_eq_some_iff.1 hE1).1
  have h0 := World.ownsMap_made (H := Unit) w1 Try.prog 3 talG
  obtain ⟨wA, runA, ownA, tA⟩ := h0.store (int_keyed Try.underlying3) Try.underlying132 (show 0 < maxLen by unfold maxLen; omega) (keyOf_int_mk Try.underlying3 (wf_of_fits (show Fits 0 from ⟨by omega, by omega⟩))) (talG_tv 0 0 0 0 0)
  obtain ⟨wB, runB, ownB, tB⟩ := ownA.store (int_keyed Try.underlying3) Try.underlying132 (show 0 + 1 < maxLen by unfold maxLen; omega) (keyOf_int_mk Try.underlying3 (wf_of_fits (show Fits 1 from ⟨by omega, by omega⟩))) (talG_tv 1 0 0 0 0)
  have HK : Hid (∀ l u, KnownG ((DataW.put (.map []) (.int .i64 0) (td 0 0 0 0 0)).put (.int .i64 1) (td 1 0 0 0 0)) l u) := by
    intro l u
    have m1 : IsMap (DataW.put (H := Unit) (.map []) (.int .i64 0) (td 0 0 0 0 0)) := ownA.isMap
    refine ⟨?_, has_put_same m1 (by unfold WideAt.IsKeyLit; trivial) _, fun i hi hh => ?_⟩
    · rw [has_put_other (by intro e; cases e)]
      exact has_put_same ⟨_, rfl⟩ (by unfold WideAt.IsKeyLit; trivial) _
    · by_cases e : i = 1
      · subst e
        exact ⟨0, 1, 0, 0, 0, 0, rfl, Tal.one, atKey_put_same m1 (by unfold WideAt.IsKeyLit; trivial) _ _⟩
      · have ne : (Lit.int .i64 i) ≠ .int .i64 1 := by intro h; cases h; exact e rfl
        rw [has_put_other ne] at hh
        rw [atKey_put_other ne]
        by_cases e0 : i = 0
        · subst e0
          exact ⟨0, 0, 0, 0, 0, 0, rfl, Tal.nil, atKey_put_same ⟨_, rfl⟩ (by unfold WideAt.IsKeyLit; trivial) _ _⟩
        · have ne0 : (Lit.int .i64 i) ≠ .int .i64 0 := by intro h; cases h; exact e0 rfl
          rw [has_put_other ne0] at hh
          cases hh
  have HO : Hid (wB.ownsMap Try.prog 3 talG w1.heap.size 2 ((DataW.put (.map []) (.int .i64 0) (td 0 0 0 0 0)).put (.int .i64 1) (td 1 0 0 0 0))) := ownB
  have bB : Below w.heap.size w wB := by
    have b1 : Below w.heap.size w w1 := hb0.trans (hb1.mono (by omega))
    have b2 : Below w.heap.size w1 (w1.alloc (.map #[] 0)) := (Below.refl _ _).alloc (by omega) _
    exact ((b1.trans b2).trans (turned_below tA (by omega))).trans (turned_below tB (by omega))
  have hXB : wB.heap[w.heap.size]? = some (.cells #[.pointer none, .int .i64 0, .int .i64 0, .slice none 0 0, .map none] 134 (0, 0)) := by
    rw [turned_block tB (by omega), turned_block tA (by omega), push_old hlt1]
    exact hX1
  have hEB : wB.heap[w.heap.size + 1 + 1]? = some (.cells #[.int .i64 0] 3 (0, 0)) := by
    rw [turned_block tB (by omega), turned_block tA (by omega), push_old hlE]
    exact hE1
  have k0 : wB.cell? ⟨w.heap.size, 0, none⟩ = some (.pointer none) := Lib.cell_of_heap hXB 0
  have k1 : wB.cell? ⟨w.heap.size, 1, none⟩ = some (.int .i64 0) := Lib.cell_of_heap hXB 1
  have k2 : wB.cell? ⟨w.heap.size, 2, none⟩ = some (.int .i64 0) := Lib.cell_of_heap hXB 2
  have k3 : wB.cell? ⟨w.heap.size, 3, none⟩ = some (.slice none 0 0) := Lib.cell_of_heap hXB 3
  have k4 : wB.cell? ⟨w.heap.size, 4, none⟩ = some (.map none) := Lib.cell_of_heap hXB 4
  have z0 := Lib.frozen_of_heap hXB 0
  have z1 := Lib.frozen_of_heap hXB 1
  have z2 := Lib.frozen_of_heap hXB 2
  have z3 := Lib.frozen_of_heap hXB 3
  have z4 := Lib.frozen_of_heap hXB 4
  clear ownA ownB h0 hX hE hs0 hE1
  go_wp2_with fail
  have hR := set5 hXB (.pointer (some ⟨b, 0, none⟩)) (.int .i64 t) (.int .i64 0) (.slice (some ⟨w.heap.size + 1 + 1, 0, none⟩) 1 1) (.map (some w1.heap.size))
  refine bodyPost_ret (v := .agg #[.pointer (some ⟨b, 0, none⟩), .int .i64 t, .int .i64 0, .slice (some ⟨w.heap.size + 1 + 1, 0, none⟩) 1 1, .map (some w1.heap.size)]) ?_ rfl ⟨_, _, _, rfl, ?_, talG_other HO.out ?_, HK.out, Nat.le_of_lt hlt1, ⟨[0], rfl, rfl, Or.inr ⟨w.heap.size + 1 + 1, 1, #[.int .i64 0], rfl, Nat.zero_le _, ?_, Nat.le_refl _, by unfold maxLen; omega, rfl, rfl⟩⟩, by omega, by omega⟩
  · simp [results, Try.results85, go_sem, Lib.cell_of_heap hR]
  · exact ((((bB.setCell (p := ⟨w.heap.size, 0, none⟩) (Nat.le_refl _) _).setCell (p := ⟨w.heap.size, 1, none⟩) (Nat.le_refl _) _).setCell (p := ⟨w.heap.size, 2, none⟩) (Nat.le_refl _) _).setCell (p := ⟨w.heap.size, 3, none⟩) (Nat.le_refl _) _).setCell (p := ⟨w.heap.size, 4, none⟩) (Nat.le_refl _) _
  · have hk : w1.heap.size ≠ w.heap.size := by omega
    rw [Below.heap_setCell _ _ _ _ hk, Below.heap_setCell _ _ _ _ hk, Below.heap_setCell _ _ _ _ hk, Below.heap_setCell _ _ _ _ hk, Below.heap_setCell _ _ _ _ hk]
  · have hk : w.heap.size + 1 + 1 ≠ w.heap.size := by omega
    rw [Below.heap_setCell _ _ _ _ hk, Below.heap_setCell _ _ _ _ hk, Below.heap_setCell _ _ _ _ hk, Below.heap_setCell _ _ _ _ hk, Below.heap_setCell _ _ _ _ hk]
    exact hEB

/-- a walker in its block -/
theorem WG.born {w w1 : World} {b n t g m : Nat} {F : Nat → Prop} {A : Ar} {D : DataW Unit} (hA : ArAt w b F n A) (hf : A.ths.length < 1000000) (hb1 : Below w.heap.size w w1) (hown : w1.ownsMap Try.prog 3 talG m 2 D) (hkn : ∀ l u, KnownG D l u) (hmg : w.heap.size ≤ m) :
    WG (w1.alloc (.cells #[.pointer (some ⟨b, 0, none⟩), .int .i64 t, .int .i64 0, .slice (some ⟨g, 0, none⟩) 1 1, .map (some m)] 134)) w1.heap.size m b n t 2 (.slice (some ⟨g, 0, none⟩) 1 1) F A D ∧ Below w.heap.size w (w1.alloc (.cells #[.pointer (some ⟨b, 0, none⟩), .int .i64 t, .int .i64 0, .slice (some ⟨g, 0, none⟩) 1 1, .map (some m)] 134)) := by
  have hX : (w1.alloc (.cells #[.pointer (some ⟨b, 0, none⟩), .int .i64 t, .int .i64 0, .slice (some ⟨g, 0, none⟩) 1 1, .map (some m)] 134)).heap[w1.heap.size]? = some (.cells #[.pointer (some ⟨b, 0, none⟩), .int .i64 t, .int .i64 0, .slice (some ⟨g, 0, none⟩) 1 1, .map (some m)] 134 (0, 0)) := heap_alloc_new w1 _
  have hs1 := hb1.size
  have hflt := hA.flt
  have hml : m < w1.heap.size := by
    obtain ⟨es, c, he, _⟩ := hown
    exact (Array.getElem?_eq_some_iff.1 he).1
  have b2 : Below w.heap.size w (w1.alloc (.cells #[.pointer (some ⟨b, 0, none⟩), .int .i64 t, .int .i64 0, .slice (some ⟨g, 0, none⟩) 1 1, .map (some m)] 134)) := hb1.alloc hs1 _
  have hu := unk_le D A.ths.length
  exact ⟨⟨HandAt.of (l := [.map (some m)]) hX, hA.below b2, talG_other hown (push_old hml), hkn _ _, by omega, Lib.cell_of_heap hX 4, by omega, fun e => by have := hflt _ e; omega, fun e => by have := hflt _ e; omega⟩, b2⟩

theorem field_tv (c x0 y0 x1 y1 : Int) (w : World) : (Instr.field 138 (tv c x0 y0 x1 y1) 0).run Try.prog w = .ok (.int .i64 c) w := by kernel_rfl
set_option maxRecDepth 20000 in
set_option maxHeartbeats 4000000 in
/-- Count of a root -/
theorem Count_root (b n t lv : Nat) (id : Int) (F : Nat → Prop) (A : Ar) (w : World) (hA : ArAt w b F n A) (hI : Inv A) (ht : t < 64) (hm : ∀ x ∈ A.ths, x.mask < 18446744073709551616) (hf : A.ths.length < 1000000) (hl : levelF A.ths t id = some (lv : Int)) (hlv : lv ≤ 44) (hbig : (cellsF A.ths lv id).length < 4611686018427387904) :
    Calls Try.prog 44 #[.pointer (some ⟨b, 0, none⟩), .int .i64 t, .int .i64 id] w fun x w' => x = .returned (.tuple #[.int .i64 ((cellsF A.ths lv id).length : Int), .int .i64 0]) ∧ Below w.heap.size w w' := by
  have hr := fits_of hl hf
  have hflt := hA.flt
  have hlev := fun W hb v (hh : HandAt W hb b t 0 v) (hW : ArAt W b F n A) (hn : ¬ F hb) => handLevel_ok hb b n t id 0 44 lv v F A W hh hW hn ht hm hr hl (by omega) (by omega)
  have hta := fun wb m v k D W => tally_any wb m b n t v F A hI ht hm hf lv id hlv hl hbig k D W (lv : Int) rfl
  have HL : Hid (levelF A.ths t id = some (lv : Int)) := hl
  clear hl
  go_enter Try.func44, Try.ntmps44
  go_wp2_with fail
  refine (newWalker_G b t _).mono ?_
  rintro x w1 ⟨g, m, D, rfl, hb1, hown, hkn, hmg, _, _, _⟩
  obtain ⟨Q0, b2⟩ := WG.born (g := g) (t := t) hA hf hb1 hown hkn hmg
  have hh := Q0.hand
  have hs1 := hb1.size
  go_wp2_with fail
  refine (hlev _ _ _ hh (hA.below b2) Q0.nFw).mono ?_
  rintro x w3 ⟨rfl, h3, g3, h34⟩
  have c2 := h3.c2
  have Q3 := Q0.kids h3 g3 (h34.trans Q0.c4)
  have b3 : Below w.heap.size w w3 := b2.trans ⟨g3.os, g3.tape, g3.output, g3.size, fun k hk => g3.block k (by have := b2.size; omega) (by simp; omega)⟩
  clear hlev
  go_wp2_with fail
  refine (hta _ _ _ 2 D _ Q3).mono ?_
  rintro x w4 ⟨c, x0, y0, x1, y1, rfl, hT, T4⟩
  obtain ⟨k4, D4, Q4, _⟩ := T4.wg
  have hlt3 := Q3.hand.lt
  have hfz := field_tv c x0 y0 x1 y1 w4
  have hcl : c = ((cellsF A.ths lv id).length : Int) := hT.1
  have hcb : ¬ (4611686018427387904 : Int) ≤ c := by omega
  have b4 : Below w.heap.size w w4 := ⟨T4.os.trans b3.os, T4.tape.trans b3.tape, T4.output.trans b3.output, Nat.le_trans b3.size T4.size, fun k hk => (T4.block k (by have := b3.size; omega) (by omega) (by omega)).trans (b3.block k hk)⟩
  have HC : Hid (c = ((cellsF A.ths lv id).length : Int)) := hcl
  clear hcl hT hta
  go_wp2_with fail
  refine (answer_ok _ b t _ _ _ Q4.hand).mono ?_
  rintro x w5 ⟨rfl, rfl⟩
  go_wp2_with fail
  go_ret2
  exact ⟨by rw [← HC.out]; rfl, b4⟩
end Go.Proofs.Ythobobgiendcfaa.A

namespace Go.Proofs.Ythobobgiendcfaa.A
open Go.RowKit Go.Maps

/-- an arena and a hand in memory -/
structure HS (w : World) (hb b t nn : Nat) (F H : Nat → Prop) (A : Ar) (E : List Int) : Prop where
  ar : ArAt w b F nn A
  hand : HandIn w hb b t 0 E H
  dis : ∀ k, F k → ¬ H k
/-- what a step leaves as it was -/
structure Step (w : World) (F H : Nat → Prop) (w' : World) (F' H' : Nat → Prop) : Prop where
  sub : ∀ k, F' k ∨ H' k → (F k ∨ H k) ∨ w.heap.size ≤ k
  ap : Apart (fun k => F k ∨ H k) w w'
section
variable {w w1 w2 : World} {hb b t nn : Nat} {F H F1 H1 F2 H2 : Nat → Prop} {A : Ar} {E : List Int}
theorem HS.lt (h : HS w hb b t nn F H A E) {k : Nat} (hk : F k ∨ H k) : k < w.heap.size := by
  rcases hk with hk | hk
  · exact h.ar.flt k hk
  · exact h.hand.hlt k hk
theorem HS.other (h : HS w hb b t nn F H A E) (hs : w.heap.size ≤ w1.heap.size) (hb' : ∀ k, F k ∨ H k → w1.heap[k]? = w.heap[k]?) : HS w1 hb b t nn F H A E :=
  ⟨h.ar.other hs fun k hk => hb' k (Or.inl hk), h.hand.other hs fun k hk => hb' k (Or.inr hk), h.dis⟩
theorem HS.below (h : HS w hb b t nn F H A E) (hb' : Below w.heap.size w w1) : HS w1 hb b t nn F H A E := h.other hb'.size fun k hk => hb'.block k (h.lt hk)
theorem Step.refl (w : World) (F H : Nat → Prop) : Step w F H w F H := ⟨fun _ hk => Or.inl hk, Apart.refl _ _⟩
theorem Step.of (hb' : Below w.heap.size w w1) : Step w F H w1 F H := ⟨fun _ hk => Or.inl hk, Apart.of hb'⟩
theorem Step.trans (h : Step w F H w1 F1 H1) (k : Step w1 F1 H1 w2 F2 H2) (hl : ∀ k, F1 k ∨ H1 k → k < w1.heap.size) : Step w F H w2 F2 H2 := by
  have hs := h.ap.size
  refine ⟨fun j hj => ?_, h.ap.trans k.ap fun j hj => ?_⟩
  · rcases k.sub j hj with e | e
    · exact h.sub j e
    · exact Or.inr (by omega)
  · rcases h.sub j hj with e | e
    · exact Or.inl e
    · exact Or.inr ⟨e, hl j hj⟩
/-- a block that belongs to neither stays -/
theorem Step.free (h : Step w F H w1 F1 H1) {j : Nat} (hj : j < w.heap.size) (h1 : ¬ F j) (h2 : ¬ H j) : w1.heap[j]? = w.heap[j]? ∧ ¬ F1 j ∧ ¬ H1 j ∧ j < w1.heap.size := by
  refine ⟨h.ap.block j hj (by rintro (e | e); exact h1 e; exact h2 e), fun e => ?_, fun e => ?_, Nat.lt_of_lt_of_le hj h.ap.size⟩
  · rcases h.sub j (Or.inl e) with (e | e) | e
    · exact h1 e
    · exact h2 e
    · omega
  · rcases h.sub j (Or.inr e) with (e | e) | e
    · exact h1 e
    · exact h2 e
    · omega
/-- a join of the hand's -/
theorem HS.joined {v : Value} {B : Ar} (h : HS w hb b t nn F H A E) (hrow : IntRow w v E) (hHb : H hb) (hHv : ∀ k, v.ownBlock = some k → H k) (hvb : v.ownBlock ≠ some hb)
    (h2 : HandAt w1 hb b t 0 v) (hA2 : ArAt w1 b (More F w w1) (nn + 1) B) (P2 : Apart (With F hb) w w1) : HS w1 hb b t (nn + 1) (More F w w1) H B E ∧ Step w F H w1 (More F w w1) H := by
  refine ⟨⟨hA2, ⟨v, h2, row_other hrow fun k hk => P2.block k (h.lt (Or.inr (hHv k hk))) ?_, hHb, hHv, hvb, fun k hk => Nat.lt_of_lt_of_le (h.lt (Or.inr hk)) P2.size⟩, fun k hk hk2 => ?_⟩, ⟨fun k hk => ?_, ?_⟩⟩
  · rintro (e | e)
    · exact h.dis k e (hHv k hk)
    · exact hvb (by rw [hk, e])
  · rcases hk with hk | hk
    · exact h.dis k hk hk2
    · have := h.lt (Or.inr hk2); omega
  · rcases hk with (hk | hk) | hk
    · exact Or.inl (Or.inl hk)
    · exact Or.inr hk.1
    · exact Or.inl (Or.inr hk)
  · refine ⟨P2.os, P2.tape, P2.output, P2.size, fun k hk hn => P2.block k hk ?_⟩
    rintro (e | e)
    · exact hn (Or.inl e)
    · exact hn (Or.inr (by rw [e]; exact hHb))
end

/-- hand.join of four squares of a level -/
theorem hjoin_step (hb b nn t k m : Nat) (q0 q1 q2 q3 : Int) (F H : Nat → Prop) (A : Ar) (E : List Int) (w : World) (hS : HS w hb b t nn F H A E) (hP : PS t A E (k + 1) nn) (ht : t < 64) (h0 : levelF A.ths t q0 = some (m : Int)) (h1 : levelF A.ths t q1 = some (m : Int)) (h2 : levelF A.ths t q2 = some (m : Int)) (h3 : levelF A.ths t q3 = some (m : Int)) (hm : m < 44) :
    Calls Try.prog 96 #[.pointer (some ⟨hb, 0, none⟩), .agg #[.int .i64 q0, .int .i64 q1, .int .i64 q2, .int .i64 q3]] w fun x w' => ∃ (id : Int) (B : Ar) (F' : Nat → Prop) (N : List Int), x = .returned (.int .i64 id) ∧ HS w' hb b t (nn + 1) F' H B E ∧ Step w F H w' F' H ∧ PS t B E k (nn + 1) ∧ Joins t A q0 q1 q2 q3 m B id N := by
  obtain ⟨v, hand, hrow, hHb, hHv, hvb, _⟩ := id hS.hand
  have hY := hP.pur.bud.young
  have hnn := hP.pur.nn
  have fit : ∀ {id : Int}, levelF A.ths t id = some (m : Int) → Fits id := fun h => by
    have := level_fits h hY.few
    exact ⟨by omega, by omega⟩
  obtain ⟨N, hJ, hz, hPu⟩ := joins_any A t k nn q0 q1 q2 q3 m hP.inv ht hP.pur h0 h1 h2 h3 hm
  have HJ := hjoin_any hb b nn t q0 q1 q2 q3 v F A w hand hS.ar (fun e => hS.dis hb e hHb) hY ht (fit h0) (fit h1) (fit h2) (fit h3) (by omega) (fun l hl => by rw [h0] at hl; cases hl; omega)
  unfold quad4 at HJ
  rw [hz] at HJ
  refine HJ.mono ?_
  rintro e w9 ⟨rfl, hand9, hA9, P9⟩
  obtain ⟨j1, j2⟩ := hS.joined hrow hHb hHv hvb hand9 hA9 P9
  exact ⟨_, _, _, N, rfl, j1, j2, ⟨hJ.inv, emp_ext hP.emp hJ.gain.ext, hP.len, hPu⟩, hJ⟩

/-- hand.empty -/
theorem hempty_step (hb b nn t c n : Nat) (F H : Nat → Prop) (A : Ar) (E : List Int) (w : World) (level : Int) (hlev : level = (n : Int)) (hn : n ≤ 44) (hS : HS w hb b t nn F H A E) (hP : PS t A E (c + (45 - E.length)) nn) (ht : t < 64) :
    Calls Try.prog 95 #[.pointer (some ⟨hb, 0, none⟩), .int .i64 level] w fun x w' => ∃ (id : Int) (B : Ar) (E' : List Int) (F' H' : Nat → Prop) (nn' : Nat) (N : List Int), x = .returned (.int .i64 id) ∧ HS w' hb b t nn' F' H' B E' ∧ Step w F H w' F' H' ∧ PS t B E' (c + (45 - E'.length)) nn' ∧ Gain t A B N ∧ levelF B.ths t id = some (n : Int) ∧ cellsF B.ths n id = [] ∧ (∀ j ∈ N, Sub B.ths id j) := by
  have hpos := hP.pos
  rcases Nat.lt_or_ge n E.length with hlt | hge
  · have hi : E[n]? = some E[n] := List.getElem?_eq_getElem hlt
    refine (empty_there hb b t n E H _ w hS.hand hi level hlev).mono ?_
    rintro e w' ⟨rfl, rfl⟩
    exact ⟨_, A, E, F, H, nn, [], rfl, hS, Step.refl _ _ _, hP, Gain.refl t A, hP.emp.lv n _ hi, emp_cells hP.emp n _ hi, fun _ hj => (by cases hj)⟩
  · obtain ⟨m0, hm0⟩ : ∃ m0, E.length = m0 + 1 := ⟨E.length - 1, by omega⟩
    obtain ⟨k, hk⟩ : ∃ k, n = m0 + k := ⟨n - m0, by omega⟩
    have hnn := hP.pur.nn
    obtain ⟨s1, s2, ⟨N, g, gN⟩, s4⟩ := ps_empties (k := c + (45 - (E.length + k))) ht k (hP.less (by omega)) (by omega)
    have hl := emptyN_length t (A, E) k
    simp only at hl
    refine (empty_any hb b nn t m0 k F H (A, E) w hS.ar hS.hand hS.dis s1 ht (by omega) hm0 (by omega) level (by rw [hlev, hk])).mono ?_
    rintro e w' ⟨rfl, F', H', hA', hH', hd', hs', hP'⟩
    have hid : (emptyN t (A, E) k).2[n]? = some (nth (emptyN t (A, E) k).2 (m0 + k)) := by
      unfold nth
      rw [hk, getElem!_pos _ (m0 + k) (by rw [hl]; omega)]
      exact List.getElem?_eq_getElem _
    refine ⟨_, (emptyN t (A, E) k).1, (emptyN t (A, E) k).2, F', H', nn + k, N, rfl, ⟨hA', hH', hd'⟩, ⟨hs', hP'⟩, ?_, g, s2.emp.lv n _ hid, emp_cells s2.emp n _ hid, fun j hj => ?_⟩
    · rw [hl]; exact s2
    · obtain ⟨i, hi, he⟩ := gN j hj
      exact emp_sub s2.emp he (n - i) _ (by rw [show i + (n - i) = n by omega]; exact hid)

theorem HS.grown {w w1 : World} {hb b t nn : Nat} {F H : Nat → Prop} {A : Ar} {E : List Int} {v : Value} (h : HS w hb b t nn F H A E) (hrow : IntRow w v E) (hHb : H hb) (hHv : ∀ k, v.ownBlock = some k → H k) (hvb : v.ownBlock ≠ some hb) (h2 : HandAt w1 hb b t 0 v) (hg : w.grownBy w1 (some hb)) : HS w1 hb b t nn F H A E ∧ Step w F H w1 F H := by
  refine ⟨⟨h.ar.other hg.size fun k hk => hg.block k (h.lt (Or.inl hk)) (fun e => h.dis k hk (by cases e; exact hHb)), ⟨v, h2, row_other hrow fun k hk => hg.block k (h.lt (Or.inr (hHv k hk))) (fun e => hvb (by cases e; exact hk)), hHb, hHv, hvb, fun k hk => Nat.lt_of_lt_of_le (h.lt (Or.inr hk)) hg.size⟩, h.dis⟩, ⟨fun k hk => Or.inl hk, ⟨hg.os, hg.tape, hg.output, hg.size, fun k hk hn => hg.block k hk (fun e => hn (Or.inr (by cases e; exact hHb)))⟩⟩⟩
/-- hand.kids of an own square -/
theorem hkids_step (hb b nn t : Nat) (id : Int) (x : Th) (F H : Nat → Prop) (A : Ar) (E : List Int) (w : World) (hS : HS w hb b t nn F H A E) (ht : t < 64) (hm : ∀ x ∈ A.ths, x.mask < 18446744073709551616) (hr : Fits id) (hx : squareF A.ths t id = some x) :
    Calls Try.prog 93 #[.pointer (some ⟨hb, 0, none⟩), .int .i64 id] w fun e w' => e = .returned (.agg #[.int .i64 x.p0, .int .i64 x.p1, .int .i64 x.p2, .int .i64 x.p3]) ∧ HS w' hb b t nn F H A E ∧ Step w F H w' F H := by
  have hh := hS.hand
  obtain ⟨v, hand, hrow, hHb, hHv, hvb, _⟩ := hh
  refine (handKids_any hb b nn t id x v F A w hand hS.ar ht hm hr hx).mono ?_
  rintro e w1 ⟨rfl, h2, hg, _⟩
  obtain ⟨a, b⟩ := hS.grown hrow hHb hHv hvb h2 hg
  exact ⟨rfl, a, b⟩
/-- hand.level of a root whose level is within -/
theorem hlevel_step (hb b nn t : Nat) (root least most l : Int) (F H : Nat → Prop) (A : Ar) (E : List Int) (w : World) (hS : HS w hb b t nn F H A E) (ht : t < 64) (hm : ∀ x ∈ A.ths, x.mask < 18446744073709551616) (hr : Fits root) (hl : levelF A.ths t root = some l) (hlo : least ≤ l) (hhi : l ≤ most) :
    Calls Try.prog 86 #[.pointer (some ⟨hb, 0, none⟩), .int .i64 root, .int .i64 least, .int .i64 most] w fun x w' => x = .returned (.int .i64 l) ∧ HS w' hb b t nn F H A E ∧ Step w F H w' F H := by
  obtain ⟨v, hand, hrow, hHb, hHv, hvb, _⟩ := id hS.hand
  refine (handLevel_ok hb b nn t root least most l v F A w hand hS.ar (fun e => hS.dis hb e hHb) ht hm hr hl hlo hhi).mono ?_
  rintro e w1 ⟨rfl, h2, hg, _⟩
  obtain ⟨a, b⟩ := hS.grown hrow hHb hHv hvb h2 hg
  exact ⟨rfl, a, b⟩
/-- a new hand in its block -/
theorem HS.born {w w1 : World} {b nn t : Nat} {F : Nat → Prop} {A : Ar} (hA : ArAt w b F nn A) (hE : w1.heap[w.heap.size + 1]? = some (.cells #[.int .i64 0] 3 (0, 0))) (hb1 : Below w.heap.size w w1) :
    HS (w1.alloc (.cells #[.pointer (some ⟨b, 0, none⟩), .int .i64 t, .int .i64 0, .slice (some ⟨w.heap.size + 1, 0, none⟩) 1 1] 131)) w1.heap.size b t nn F (fun k => k = w1.heap.size ∨ k = w.heap.size + 1) A [0] ∧ Below w.heap.size w (w1.alloc (.cells #[.pointer (some ⟨b, 0, none⟩), .int .i64 t, .int .i64 0, .slice (some ⟨w.heap.size + 1, 0, none⟩) 1 1] 131)) := by
  have l2 : w.heap.size + 1 < w1.heap.size := (Array.getElem?_eq_some_iff.1 hE).1
  have b2 : Below w.heap.size w (w1.alloc (.cells #[.pointer (some ⟨b, 0, none⟩), .int .i64 t, .int .i64 0, .slice (some ⟨w.heap.size + 1, 0, none⟩) 1 1] 131)) := hb1.alloc hb1.size _
  have hX := heap_alloc_new w1 (.cells #[.pointer (some ⟨b, 0, none⟩), .int .i64 t, .int .i64 0, .slice (some ⟨w.heap.size + 1, 0, none⟩) 1 1] 131)
  have hflt := hA.flt
  refine ⟨⟨hA.below b2, ⟨_, HandAt.of (l := []) hX, ⟨rfl, Or.inr ⟨w.heap.size + 1, 1, #[.int .i64 0], rfl, Nat.zero_le _, (push_old l2).trans hE, Nat.le_refl _, by unfold maxLen; omega, rfl, rfl⟩⟩, Or.inl rfl, fun k hk => ?_, fun e => ?_, fun k hk => ?_⟩, fun k hk e => ?_⟩, b2⟩
  · simp only [Value.ownBlock, Option.some.injEq] at hk
    exact Or.inr hk.symm
  · simp only [Value.ownBlock, Option.some.injEq] at e
    omega
  · have hs : (w1.alloc (.cells #[.pointer (some ⟨b, 0, none⟩), .int .i64 t, .int .i64 0, .slice (some ⟨w.heap.size + 1, 0, none⟩) 1 1] 131)).heap.size = w1.heap.size + 1 := by simp
    rcases hk with h | h <;> omega
  · have := hflt k hk
    rcases e with e | e <;> omega
end Go.Proofs.Ythobobgiendcfaa.A
