/- Count and Box of any root. -/
import Derived.Test.YtofbcngcblleaabGreatSqTally
import Derived.Test.YtofbcngcblleaabGreatQuCount
namespace Go.Proofs.YtofbcngcblleaabGreat.A
open Go.RowKit Go.Maps Go.ChangeMaps Go.WideElems
theorem quarter_len (l : List Th) (n : Nat) (x : Th) (i : Nat) (hi : i < 4) : (cellsF l n (quarterF x i)).length ≤ (accF l n x 4).length := by
  have h1 : (accF l n x (i + 1)).length = (accF l n x i).length + (cellsF l n (quarterF x i)).length := by simp [accF, shift_len]
  have h2 := acc_mono l n x (4 - (i + 1)) (i + 1)
  rw [show i + 1 + (4 - (i + 1)) = 4 by omega] at h2
  omega
theorem square_of {A : Ar} {t n : Nat} {id : Int} (hI : Inv A) (hl : levelF A.ths t id = some ((n + 1 : Nat) : Int)) : ∃ x, squareF A.ths t id = some x ∧ thAt A.ths id = x ∧ 2 ≤ id ∧ (id - 2).toNat < A.ths.length ∧ ∀ i, i < 4 → levelF A.ths t (quarterF x i) = some (n : Int) := by
  rcases level_some hl with ⟨_, h⟩ | ⟨x, hx, hk, hlv⟩
  · omega
  · obtain ⟨h2, hxa, hb⟩ := own_some hx
    have hc := hI.closed t x (List.mem_of_getElem? hxa) hk hb
    rw [hlv, show ((n + 1 : Nat) : Int) - 1 = (n : Int) by omega] at hc
    refine ⟨x, ?_, thAt_eq hxa, h2, (List.getElem?_eq_some_iff.1 hxa).1, fun i hi => ?_⟩
    · unfold squareF
      rw [hx, Option.filter_some, if_pos (by simp [hk])]
    · match i, hi with
      | 0, _ => exact hc.1
      | 1, _ => exact hc.2.1
      | 2, _ => exact hc.2.2.1
      | 3, _ => exact hc.2.2.2
theorem fits_of {A : Ar} {t : Nat} {id m : Int} (hl : levelF A.ths t id = some m) (hf : A.ths.length < 1000000) : Fits id := by
  have := level_fits hl hf
  exact ⟨by omega, by omega⟩
theorem tally_any (wb m b nn t : Nat) (v : Value) (F : Nat → Prop) (A : Ar) (hI : Inv A) (ht : t < 64) (hm : ∀ x ∈ A.ths, x.mask < 18446744073709551616) (hf : A.ths.length < 1000000) :
    ∀ (n : Nat) (id : Int), n ≤ 44 → levelF A.ths t id = some (n : Int) → (cellsF A.ths n id).length < 4611686018427387904 → ∀ (k : Nat) (D : DataW Unit) (w : World) (level : Int), level = (n : Int) → WG w wb m b nn t k v F A D →
      Calls Tryz.prog 104 #[.pointer (some ⟨wb, 0, none⟩), .int .i64 id, .int .i64 level] w fun y w' => ∃ c x0 y0 x1 y1, y = .returned (tv c x0 y0 x1 y1) ∧ Tal (cellsF A.ths n id) c x0 y0 x1 y1 ∧ TG w wb m b nn t v F A (Kn D A.ths t n) w'
  | 0, id, _, hl, _, k, D, w, level, _, hw => by
    refine tally_yes wb m b nn t k 0 id level v F A D w hw (fits_of hl hf) hl ?_
    rcases glevel_zero hI.good (glevel_of hl) with rfl | rfl
    · exact hw.known.zero
    · exact hw.known.one
  | n + 1, id, hn, hl, hbig, k, D, w, level, hlev, hw => by
    cases hh : Maps.has D (.int .i64 id) with
    | true => exact tally_yes wb m b nn t k (n + 1) id level v F A D w hw (fits_of hl hf) hl hh
    | false =>
      obtain ⟨x, hx, hth, h2, hlt, hq⟩ := square_of hI hl
      refine tally_step wb m b nn t k n id level v F A x D w hw (fits_of hl hf) (by omega) hlev hl hh ht hm hx hth h2 hlt hbig (fun i hi p hp => cells_in hI.good n _ (glevel_of (hq i hi)) p hp) (fun i k D w hi hw => ?_)
      have hle := quarter_len A.ths n x i hi
      rw [acc_four A.ths n x id hth] at hle
      exact tally_any wb m b nn t v F A hI ht hm hf n (quarterF x i) (by omega) (hq i hi) (by omega) k D w (level - 1) (by omega) hw
set_option maxRecDepth 20000 in
set_option maxHeartbeats 4000000 in
theorem newWalker_G (b t : Nat) (w : World) : Calls Tryz.prog 87 #[.pointer (some ⟨b, 0, none⟩), .int .i64 t] w fun x w' => ∃ (g m : Nat) (D : DataW Unit), x = .returned (.agg #[.pointer (some ⟨b, 0, none⟩), .int .i64 t, .int .i64 0, .slice (some ⟨g, 0, none⟩) 1 1, .map (some m)]) ∧ Below w.heap.size w w' ∧ w'.ownsMap Tryz.prog 3 talG m 2 D ∧ (∀ l u, KnownG D l u) ∧ w.heap.size ≤ m ∧ (∃ E : List Int, E = [0] ∧ IntRow w' (.slice (some ⟨g, 0, none⟩) 1 1) E) ∧ w.heap.size ≤ g ∧ g ≠ m := by
  have hmm := @run_makeMap Tryz.prog
  have hh := fun W => newHand_any b t W
  have hb0 : Below w.heap.size w (w.alloc (.cells #[.pointer none, .int .i64 0, .int .i64 0, .slice none 0 0, .map none] 132)) := (Below.refl _ _).alloc (Nat.le_refl _) _
  have hX : (w.alloc (.cells #[.pointer none, .int .i64 0, .int .i64 0, .slice none 0 0, .map none] 132)).heap[w.heap.size]? = some (.cells #[.pointer none, .int .i64 0, .int .i64 0, .slice none 0 0, .map none] 132 (0, 0)) := heap_alloc_new w _
  have hs0 : (w.alloc (.cells #[.pointer none, .int .i64 0, .int .i64 0, .slice none 0 0, .map none] 132)).heap.size = w.heap.size + 1 := by simp
  go_enter Tryz.func87, Tryz.ntmps87
  go_wp2_with fail
  refine (hh _).mono ?_
  rintro e w1 ⟨rfl, hE, hb1⟩
  have hX1 := (hb1.block w.heap.size (by omega)).trans hX
  have hlt1 : w.heap.size < w1.heap.size := (Array.getElem?_eq_some_iff.1 hX1).1
  have hE1 : w1.heap[w.heap.size + 1 + 1]? = some (.cells #[.int .i64 0] 3 (0, 0)) := by rw [hs0] at hE; exact hE
  have hlE : w.heap.size + 1 + 1 < w1.heap.size := (Array.getElem?_eq_some_iff.1 hE1).1
  have h0 := World.ownsMap_made (H := Unit) w1 Tryz.prog 3 talG
  obtain ⟨wA, runA, ownA, tA⟩ := h0.store (int_keyed Tryz.underlying3) Tryz.underlying130 (show 0 < maxLen by unfold maxLen; omega) (keyOf_int_mk Tryz.underlying3 (wf_of_fits (show Fits 0 from ⟨by omega, by omega⟩))) (talG_tv 0 0 0 0 0)
  obtain ⟨wB, runB, ownB, tB⟩ := ownA.store (int_keyed Tryz.underlying3) Tryz.underlying130 (show 0 + 1 < maxLen by unfold maxLen; omega) (keyOf_int_mk Tryz.underlying3 (wf_of_fits (show Fits 1 from ⟨by omega, by omega⟩))) (talG_tv 1 0 0 0 0)
  have HK : Hid (∀ l u, KnownG ((DataW.put (.map []) (.int .i64 0) (td 0 0 0 0 0)).put (.int .i64 1) (td 1 0 0 0 0)) l u) := by
    intro l u
    have m1 : IsMap (DataW.put (H := Unit) (.map []) (.int .i64 0) (td 0 0 0 0 0)) := ownA.isMap
    refine ⟨?_, has_put_same m1 (by unfold WideAt.IsKeyLit; trivial) _, fun i hi hh => ?_⟩
    · rw [has_put_other (by intro e; cases e)]
      exact has_put_same ⟨_, rfl⟩ (by unfold WideAt.IsKeyLit; trivial) _
    · by_cases e : i = 1
      · subst e
        exact ⟨0, 1, 0, 0, 0, 0, rfl, Tal.one, atKey_put_same m1 (by unfold WideAt.IsKeyLit; trivial) _ _⟩
      · have ne : (Lit.int .i64 i) ≠ .int .i64 1 := by intro h; cases h; exact e rfl
        rw [has_put_other ne] at hh
        rw [atKey_put_other ne]
        by_cases e0 : i = 0
        · subst e0
          exact ⟨0, 0, 0, 0, 0, 0, rfl, Tal.nil, atKey_put_same ⟨_, rfl⟩ (by unfold WideAt.IsKeyLit; trivial) _ _⟩
        · have ne0 : (Lit.int .i64 i) ≠ .int .i64 0 := by intro h; cases h; exact e0 rfl
          rw [has_put_other ne0] at hh
          cases hh
  have HO : Hid (wB.ownsMap Tryz.prog 3 talG w1.heap.size 2 ((DataW.put (.map []) (.int .i64 0) (td 0 0 0 0 0)).put (.int .i64 1) (td 1 0 0 0 0))) := ownB
  have bB : Below w.heap.size w wB := by
    have b1 : Below w.heap.size w w1 := hb0.trans (hb1.mono (by omega))
    have b2 : Below w.heap.size w1 (w1.alloc (.map #[] 0)) := (Below.refl _ _).alloc (by omega) _
    exact ((b1.trans b2).trans (turned_below tA (by omega))).trans (turned_below tB (by omega))
  have hXB : wB.heap[w.heap.size]? = some (.cells #[.pointer none, .int .i64 0, .int .i64 0, .slice none 0 0, .map none] 132 (0, 0)) := by
    rw [turned_block tB (by omega), turned_block tA (by omega), push_old hlt1]
    exact hX1
  have hEB : wB.heap[w.heap.size + 1 + 1]? = some (.cells #[.int .i64 0] 3 (0, 0)) := by
    rw [turned_block tB (by omega), turned_block tA (by omega), push_old hlE]
    exact hE1
  have k0 : wB.cell? ⟨w.heap.size, 0, none⟩ = some (.pointer none) := Lib.cell_of_heap hXB 0
  have k1 : wB.cell? ⟨w.heap.size, 1, none⟩ = some (.int .i64 0) := Lib.cell_of_heap hXB 1
  have k2 : wB.cell? ⟨w.heap.size, 2, none⟩ = some (.int .i64 0) := Lib.cell_of_heap hXB 2
  have k3 : wB.cell? ⟨w.heap.size, 3, none⟩ = some (.slice none 0 0) := Lib.cell_of_heap hXB 3
  have k4 : wB.cell? ⟨w.heap.size, 4, none⟩ = some (.map none) := Lib.cell_of_heap hXB 4
  have z0 := Lib.frozen_of_heap hXB 0
  have z1 := Lib.frozen_of_heap hXB 1
  have z2 := Lib.frozen_of_heap hXB 2
  have z3 := Lib.frozen_of_heap hXB 3
  have z4 := Lib.frozen_of_heap hXB 4
  clear ownA ownB h0 hX hE hs0 hE1
  go_wp2_with fail
  have hR := set5 hXB (.pointer (some ⟨b, 0, none⟩)) (.int .i64 t) (.int .i64 0) (.slice (some ⟨w.heap.size + 1 + 1, 0, none⟩) 1 1) (.map (some w1.heap.size))
  refine bodyPost_ret (v := .agg #[.pointer (some ⟨b, 0, none⟩), .int .i64 t, .int .i64 0, .slice (some ⟨w.heap.size + 1 + 1, 0, none⟩) 1 1, .map (some w1.heap.size)]) ?_ rfl ⟨_, _, _, rfl, ?_, talG_other HO.out ?_, HK.out, Nat.le_of_lt hlt1, ⟨[0], rfl, rfl, Or.inr ⟨w.heap.size + 1 + 1, 1, #[.int .i64 0], rfl, Nat.zero_le _, ?_, Nat.le_refl _, by unfold maxLen; omega, rfl, rfl⟩⟩, by omega, by omega⟩
  · simp [results, Tryz.results87, go_sem, Lib.cell_of_heap hR]
  · exact ((((bB.setCell (p := ⟨w.heap.size, 0, none⟩) (Nat.le_refl _) _).setCell (p := ⟨w.heap.size, 1, none⟩) (Nat.le_refl _) _).setCell (p := ⟨w.heap.size, 2, none⟩) (Nat.le_refl _) _).setCell (p := ⟨w.heap.size, 3, none⟩) (Nat.le_refl _) _).setCell (p := ⟨w.heap.size, 4, none⟩) (Nat.le_refl _) _
  · have hk : w1.heap.size ≠ w.heap.size := by omega
    rw [Below.heap_setCell _ _ _ _ hk, Below.heap_setCell _ _ _ _ hk, Below.heap_setCell _ _ _ _ hk, Below.heap_setCell _ _ _ _ hk, Below.heap_setCell _ _ _ _ hk]
  · have hk : w.heap.size + 1 + 1 ≠ w.heap.size := by omega
    rw [Below.heap_setCell _ _ _ _ hk, Below.heap_setCell _ _ _ _ hk, Below.heap_setCell _ _ _ _ hk, Below.heap_setCell _ _ _ _ hk, Below.heap_setCell _ _ _ _ hk]
    exact hEB
theorem WG.born {w w1 : World} {b n t g m : Nat} {F : Nat → Prop} {A : Ar} {D : DataW Unit} (hA : ArAt w b F n A) (hf : A.ths.length < 1000000) (hb1 : Below w.heap.size w w1) (hown : w1.ownsMap Tryz.prog 3 talG m 2 D) (hkn : ∀ l u, KnownG D l u) (hmg : w.heap.size ≤ m) :
    WG (w1.alloc (.cells #[.pointer (some ⟨b, 0, none⟩), .int .i64 t, .int .i64 0, .slice (some ⟨g, 0, none⟩) 1 1, .map (some m)] 132)) w1.heap.size m b n t 2 (.slice (some ⟨g, 0, none⟩) 1 1) F A D ∧ Below w.heap.size w (w1.alloc (.cells #[.pointer (some ⟨b, 0, none⟩), .int .i64 t, .int .i64 0, .slice (some ⟨g, 0, none⟩) 1 1, .map (some m)] 132)) := by
  have hX : (w1.alloc (.cells #[.pointer (some ⟨b, 0, none⟩), .int .i64 t, .int .i64 0, .slice (some ⟨g, 0, none⟩) 1 1, .map (some m)] 132)).heap[w1.heap.size]? = some (.cells #[.pointer (some ⟨b, 0, none⟩), .int .i64 t, .int .i64 0, .slice (some ⟨g, 0, none⟩) 1 1, .map (some m)] 132 (0, 0)) := heap_alloc_new w1 _
  have hs1 := hb1.size
  have hflt := hA.flt
  have hml : m < w1.heap.size := by
    obtain ⟨es, c, he, _⟩ := hown
    exact (Array.getElem?_eq_some_iff.1 he).1
  have b2 : Below w.heap.size w (w1.alloc (.cells #[.pointer (some ⟨b, 0, none⟩), .int .i64 t, .int .i64 0, .slice (some ⟨g, 0, none⟩) 1 1, .map (some m)] 132)) := hb1.alloc hs1 _
  have hu := unk_le D A.ths.length
  exact ⟨⟨HandAt.of (l := [.map (some m)]) hX, hA.below b2, talG_other hown (push_old hml), hkn _ _, by omega, Lib.cell_of_heap hX 4, by omega, fun e => by have := hflt _ e; omega, fun e => by have := hflt _ e; omega⟩, b2⟩
theorem field_tv (c x0 y0 x1 y1 : Int) (w : World) : (Instr.field 156 (tv c x0 y0 x1 y1) 0).run Tryz.prog w = .ok (.int .i64 c) w := by kernel_rfl
end Go.Proofs.YtofbcngcblleaabGreat.A
