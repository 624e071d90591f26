/- Peel: the walk. -/
import Derived.Test.YtofbcngcblleaaaGreatQuKids
import Derived.Test.YtofbcngcblleaaaGreatSqBox
import Derived.Test.YtofbcngcblleaaaGreatSqTally
namespace Go.Proofs.YtofbcngcblleaaaGreat.A
open Go.RowKit Go.Maps Go.ChangeMaps Go.WideElems

/-- what a walker has in memory while it goes through empty squares -/
structure Walk (w : World) (wb m b nn t n : Nat) (v : Value) (F : Nat → Prop) (A : Ar) (D : DataW Unit) : Prop where
  hand : HandAt w wb b t 0 v
  ar : ArAt w b F nn A
  map : w.ownsMap Tryz.prog 3 talR m n D
  known : Known D
  c4 : w.cell? ⟨wb, 4, none⟩ = some (.map (some m))
  ne : wb ≠ m
  nF : ¬ F m
  nFw : ¬ F wb
/-- what a walker's tally of an empty square leaves -/
def TalOut (w : World) (wb m b nn t n : Nat) (v : Value) (F : Nat → Prop) (A : Ar) (id : Int) (w' : World) : Prop :=
  ∃ D', Walk w' wb m b nn t n v F A D' ∧ Maps.has D' (.int .i64 id) = true ∧ w.heap.size ≤ w'.heap.size ∧ w'.os = w.os ∧ w'.tape = w.tape ∧ w'.output = w.output ∧ ∀ k, k < w.heap.size → k ≠ wb → k ≠ m → w'.heap[k]? = w.heap[k]?

end Go.Proofs.YtofbcngcblleaaaGreat.A

namespace Go.Proofs.YtofbcngcblleaaaGreat.A
open Go.RowKit Go.Maps Go.ChangeMaps Go.WideElems

set_option maxRecDepth 20000 in
set_option maxHeartbeats 4000000 in
theorem handLevel_ok (hb b n t : Nat) (root least most l : Int) (v : Value) (F : Nat → Prop) (A : Ar) (w : World) (h : HandAt w hb b t 0 v) (hA : ArAt w b F n A) (_hF : ¬ F hb) (ht : t < 64) (hm : ∀ x ∈ A.ths, x.mask < 18446744073709551616) (hr : Fits root) (hl : levelF A.ths t root = some l) (hlo : least ≤ l) (hhi : l ≤ most) :
    Calls Tryz.prog 35 #[.pointer (some ⟨hb, 0, none⟩), .int .i64 root, .int .i64 least, .int .i64 most] w fun x w' => x = .returned (.int .i64 l) ∧ HandAt w' hb b t 0 v ∧ w.grownBy w' (some hb) ∧ w'.cell? ⟨hb, 4, none⟩ = w.cell? ⟨hb, 4, none⟩ := by
  obtain ⟨r, D, hA⟩ := hA
  have c0 := h.c0
  have c1 := h.c1
  have hlv := fun W (hW : ArRaw W b F n A r D) => Level_any b 0 t root r A.ths W hW.raw hW.ths ht hm hr
  rw [hl] at hlv
  simp only [lack, Option.getD_some] at hlv
  go_enter Tryz.func35, Tryz.ntmps35
  go_wp2_with fail
  go_cut [9, 10] from 9 to 23 (fun s9 s10 wc => s9 = .int .i64 l ∧ s10 = .int .i64 0 ∧ Below w.heap.size w wc)
  case first =>
    go_region_held3 (fun w' => w'.cell? ⟨hb, 0, none⟩ = some (.pointer (some ⟨b, 0, none⟩)) ∧ w'.cell? ⟨hb, 1, none⟩ = some (.int .i64 t)) (first | exact ⟨c0, c1⟩ | go_keep | exact ⟨(h.below hb1).c0, (h.below hb1).c1⟩) ((go_at_call 30; refine (hlv _ (hA.drew)).mono ?_; rintro e w1 ⟨rfl, hb0⟩; have hb1 := below_drew hb0))
    all_goals
      go_wp2_with fail
      go_meet
      case rel => exact ⟨rfl, rfl, hb1⟩
  case rest =>
  obtain ⟨rfl, rfl, hbc⟩ := hcut
  have h1 := h.below hbc
  clear c0 c1 hlv
  go_wp2_with fail
  refine (keep_zero hb b t v _ h1).mono ?_
  rintro x w2 ⟨rfl, h2, g2, h24⟩
  have g12 := grown_tr (grown_bl hbc (some hb)) g2
  have hlo' : ¬ l < least := by omega
  have hhi' : ¬ most < l := by omega
  go_wp2_with fail
  go_ret
  exact ⟨rfl, h2, g12, h24.trans (World.cell?_of_block (hbc.block hb h.lt))⟩

end Go.Proofs.YtofbcngcblleaaaGreat.A

namespace Go.Proofs.YtofbcngcblleaaaGreat.A
open Go.RowKit Go.Maps

/-- what From leaves -/
def FromOut (w : World) (b t c : Nat) (F : Nat → Prop) (A : Ar) (ys : List (Int × Int)) (id : Int) (w' : World) : Prop :=
  ∃ (A' : Ar) (F' : Nat → Prop) (nn' : Nat) (N : List Int) (lv : Nat), ArAt w' b F' nn' A' ∧ (∀ k, F' k → F k ∨ w.heap.size ≤ k) ∧ Apart F w w' ∧ Inv A' ∧ Pur A' t c nn' ∧ Gain t A A' N ∧ (∀ j ∈ N, Sub A'.ths id j) ∧ LeastLv lv ys ∧ lv ≤ 41 ∧ levelF A'.ths t id = some (lv : Int) ∧ ∀ p : Int × Int, p ∈ cellsF A'.ths lv id ↔ (p.1 - (halfN lv : Int), p.2 - (halfN lv : Int)) ∈ ys

end Go.Proofs.YtofbcngcblleaaaGreat.A

namespace Go.Proofs.YtofbcngcblleaaaGreat.A
open Go.RowKit Go.Maps Go.ChangeMaps Go.WideElems

theorem quarter_len (l : List Th) (n : Nat) (x : Th) (i : Nat) (hi : i < 4) : (cellsF l n (quarterF x i)).length ≤ (accF l n x 4).length := by
  have h1 : (accF l n x (i + 1)).length = (accF l n x i).length + (cellsF l n (quarterF x i)).length := by simp [accF, shift_len]
  have h2 := acc_mono l n x (4 - (i + 1)) (i + 1)
  rw [show i + 1 + (4 - (i + 1)) = 4 by omega] at h2
  omega
/-- a root's own square, and its quarters -/
theorem square_of {A : Ar} {t n : Nat} {id : Int} (hI : Inv A) (hl : levelF A.ths t id = some ((n + 1 : Nat) : Int)) : ∃ x, squareF A.ths t id = some x ∧ thAt A.ths id = x ∧ 2 ≤ id ∧ (id - 2).toNat < A.ths.length ∧ ∀ i, i < 4 → levelF A.ths t (quarterF x i) = some (n : Int) := by
  rcases level_some hl with ⟨_, h⟩ | ⟨x, hx, hk, hlv⟩
  · omega
  · obtain ⟨h2, hxa, hb⟩ := own_some hx
    have hc := hI.closed t x (List.mem_of_getElem? hxa) hk hb
    rw [hlv, show ((n + 1 : Nat) : Int) - 1 = (n : Int) by omega] at hc
    refine ⟨x, ?_, thAt_eq hxa, h2, (List.getElem?_eq_some_iff.1 hxa).1, fun i hi => ?_⟩
    · unfold squareF
      rw [hx, Option.filter_some, if_pos (by simp [hk])]
    · match i, hi with
      | 0, _ => exact hc.1
      | 1, _ => exact hc.2.1
      | 2, _ => exact hc.2.2.1
      | 3, _ => exact hc.2.2.2
theorem fits_of {A : Ar} {t : Nat} {id m : Int} (hl : levelF A.ths t id = some m) (hf : A.ths.length < 1000000) : Fits id := by
  have := level_fits hl hf
  exact ⟨by omega, by omega⟩
theorem tally_any (wb m b nn t : Nat) (v : Value) (F : Nat → Prop) (A : Ar) (hI : Inv A) (ht : t < 64) (hm : ∀ x ∈ A.ths, x.mask < 18446744073709551616) (hf : A.ths.length < 1000000) :
    ∀ (n : Nat) (id : Int), n ≤ 44 → levelF A.ths t id = some (n : Int) → (cellsF A.ths n id).length < 4611686018427387904 → ∀ (k : Nat) (D : DataW Unit) (w : World) (level : Int), level = (n : Int) → WG w wb m b nn t k v F A D →
      Calls Tryz.prog 36 #[.pointer (some ⟨wb, 0, none⟩), .int .i64 id, .int .i64 level] w fun y w' => ∃ c x0 y0 x1 y1, y = .returned (tv c x0 y0 x1 y1) ∧ Tal (cellsF A.ths n id) c x0 y0 x1 y1 ∧ TG w wb m b nn t v F A (Kn D A.ths t n) w'
  | 0, id, _, hl, _, k, D, w, level, _, hw => by
    refine tally_yes wb m b nn t k 0 id level v F A D w hw (fits_of hl hf) hl ?_
    rcases glevel_zero hI.good (glevel_of hl) with rfl | rfl
    · exact hw.known.zero
    · exact hw.known.one
  | n + 1, id, hn, hl, hbig, k, D, w, level, hlev, hw => by
    cases hh : Maps.has D (.int .i64 id) with
    | true => exact tally_yes wb m b nn t k (n + 1) id level v F A D w hw (fits_of hl hf) hl hh
    | false =>
      obtain ⟨x, hx, hth, h2, hlt, hq⟩ := square_of hI hl
      refine tally_step wb m b nn t k n id level v F A x D w hw (fits_of hl hf) (by omega) hlev hl hh ht hm hx hth h2 hlt hbig (fun i hi p hp => cells_in hI.good n _ (glevel_of (hq i hi)) p hp) (fun i k D w hi hw => ?_)
      have hle := quarter_len A.ths n x i hi
      rw [acc_four A.ths n x id hth] at hle
      exact tally_any wb m b nn t v F A hI ht hm hf n (quarterF x i) (by omega) (hq i hi) (by omega) k D w (level - 1) (by omega) hw

set_option maxRecDepth 20000 in
set_option maxHeartbeats 4000000 in
theorem newWalker_G (b t : Nat) (w : World) : Calls Tryz.prog 34 #[.pointer (some ⟨b, 0, none⟩), .int .i64 t] w fun x w' => ∃ (g m : Nat) (D : DataW Unit), x = .returned (.agg #[.pointer (some ⟨b, 0, none⟩), .int .i64 t, .int .i64 0, .slice (some ⟨g, 0, none⟩) 1 1, .map (some m)]) ∧ Below w.heap.size w w' ∧ w'.ownsMap Tryz.prog 3 talG m 2 D ∧ (∀ l u, KnownG D l u) ∧ w.heap.size ≤ m ∧ (∃ E : List Int, E = [0] ∧ IntRow w' (.slice (some ⟨g, 0, none⟩) 1 1) E) ∧ w.heap.size ≤ g ∧ g ≠ m := by
  have hmm := @run_makeMap Tryz.prog
  have hh := fun W => newHand_any b t W
  have hb0 : Below w.heap.size w (w.alloc (.cells #[.pointer none, .int .i64 0, .int .i64 0, .slice none 0 0, .map none] 64)) := (Below.refl _ _).alloc (Nat.le_refl _) _
  have hX : (w.alloc (.cells #[.pointer none, .int .i64 0, .int .i64 0, .slice none 0 0, .map none] 64)).heap[w.heap.size]? = some (.cells #[.pointer none, .int .i64 0, .int .i64 0, .slice none 0 0, .map none] 64 (0, 0)) := heap_alloc_new w _
  have hs0 : (w.alloc (.cells #[.pointer none, .int .i64 0, .int .i64 0, .slice none 0 0, .map none] 64)).heap.size = w.heap.size + 1 := by simp
  go_enter Tryz.func34, Tryz.ntmps34
  go_wp2_with fail
  refine (hh _).mono ?_
  rintro e w1 ⟨rfl, hE, hb1⟩
  have hX1 := (hb1.block w.heap.size (by omega)).trans hX
  have hlt1 : w.heap.size < w1.heap.size := (Array.getElem?_eq_some_iff.1 hX1).1
  have hE1 : w1.heap[w.heap.size + 1 + 1]? = some (.cells #[.int .i64 0] 3 (0, 0)) := by rw [hs0] at hE; exact hE
  have hlE : w.heap.size + 1 + 1 < w1.heap.size := (Array.getElem?_eq_some_iff.1 hE1).1
  have h0 := World.ownsMap_made (H := Unit) w1 Tryz.prog 3 talG
  obtain ⟨wA, runA, ownA, tA⟩ := h0.store (int_keyed Tryz.underlying3) Tryz.underlying62 (show 0 < maxLen by unfold maxLen; omega) (keyOf_int_mk Tryz.underlying3 (wf_of_fits (show Fits 0 from ⟨by omega, by omega⟩))) (talG_tv 0 0 0 0 0)
  obtain ⟨wB, runB, ownB, tB⟩ := ownA.store (int_keyed Tryz.underlying3) Tryz.underlying62 (show 0 + 1 < maxLen by unfold maxLen; omega) (keyOf_int_mk Tryz.underlying3 (wf_of_fits (show Fits 1 from ⟨by omega, by omega⟩))) (talG_tv 1 0 0 0 0)
  have HK : Hid (∀ l u, KnownG ((DataW.put (.map []) (.int .i64 0) (td 0 0 0 0 0)).put (.int .i64 1) (td 1 0 0 0 0)) l u) := by
    intro l u
    have m1 : IsMap (DataW.put (H := Unit) (.map []) (.int .i64 0) (td 0 0 0 0 0)) := ownA.isMap
    refine ⟨?_, has_put_same m1 (by unfold WideAt.IsKeyLit; trivial) _, fun i hi hh => ?_⟩
    · rw [has_put_other (by intro e; cases e)]
      exact has_put_same ⟨_, rfl⟩ (by unfold WideAt.IsKeyLit; trivial) _
    · by_cases e : i = 1
      · subst e
        exact ⟨0, 1, 0, 0, 0, 0, rfl, Tal.one, atKey_put_same m1 (by unfold WideAt.IsKeyLit; trivial) _ _⟩
      · have ne : (Lit.int .i64 i) ≠ .int .i64 1 := by intro h; cases h; exact e rfl
        rw [has_put_other ne] at hh
        rw [atKey_put_other ne]
        by_cases e0 : i = 0
        · subst e0
          exact ⟨0, 0, 0, 0, 0, 0, rfl, Tal.nil, atKey_put_same ⟨_, rfl⟩ (by unfold WideAt.IsKeyLit; trivial) _ _⟩
        · have ne0 : (Lit.int .i64 i) ≠ .int .i64 0 := by intro h; cases h; exact e0 rfl
          rw [has_put_other ne0] at hh
          cases hh
  have HO : Hid (wB.ownsMap Tryz.prog 3 talG w1.heap.size 2 ((DataW.put (.map []) (.int .i64 0) (td 0 0 0 0 0)).put (.int .i64 1) (td 1 0 0 0 0))) := ownB
  have bB : Below w.heap.size w wB := by
    have b1 : Below w.heap.size w w1 := hb0.trans (hb1.mono (by omega))
    have b2 : Below w.heap.size w1 (w1.alloc (.map #[] 0)) := (Below.refl _ _).alloc (by omega) _
    exact ((b1.trans b2).trans (turned_below tA (by omega))).trans (turned_below tB (by omega))
  have hXB : wB.heap[w.heap.size]? = some (.cells #[.pointer none, .int .i64 0, .int .i64 0, .slice none 0 0, .map none] 64 (0, 0)) := by
    rw [turned_block tB (by omega), turned_block tA (by omega), push_old hlt1]
    exact hX1
  have hEB : wB.heap[w.heap.size + 1 + 1]? = some (.cells #[.int .i64 0] 3 (0, 0)) := by
    rw [turned_block tB (by omega), turned_block tA (by omega), push_old hlE]
    exact hE1
  have k0 : wB.cell? ⟨w.heap.size, 0, none⟩ = some (.pointer none) := Lib.cell_of_heap hXB 0
  have k1 : wB.cell? ⟨w.heap.size, 1, none⟩ = some (.int .i64 0) := Lib.cell_of_heap hXB 1
  have k2 : wB.cell? ⟨w.heap.size, 2, none⟩ = some (.int .i64 0) := Lib.cell_of_heap hXB 2
  have k3 : wB.cell? ⟨w.heap.size, 3, none⟩ = some (.slice none 0 0) := Lib.cell_of_heap hXB 3
  have k4 : wB.cell? ⟨w.heap.size, 4, none⟩ = some (.map none) := Lib.cell_of_heap hXB 4
  have z0 := Lib.frozen_of_heap hXB 0
  have z1 := Lib.frozen_of_heap hXB 1
  have z2 := Lib.frozen_of_heap hXB 2
  have z3 := Lib.frozen_of_heap hXB 3
  have z4 := Lib.frozen_of_heap hXB 4
  clear ownA ownB h0 hX hE hs0 hE1
  go_wp2_with fail
  have hR := set5 hXB (.pointer (some ⟨b, 0, none⟩)) (.int .i64 t) (.int .i64 0) (.slice (some ⟨w.heap.size + 1 + 1, 0, none⟩) 1 1) (.map (some w1.heap.size))
  refine bodyPost_ret (v := .agg #[.pointer (some ⟨b, 0, none⟩), .int .i64 t, .int .i64 0, .slice (some ⟨w.heap.size + 1 + 1, 0, none⟩) 1 1, .map (some w1.heap.size)]) ?_ rfl ⟨_, _, _, rfl, ?_, talG_other HO.out ?_, HK.out, Nat.le_of_lt hlt1, ⟨[0], rfl, rfl, Or.inr ⟨w.heap.size + 1 + 1, 1, #[.int .i64 0], rfl, Nat.zero_le _, ?_, Nat.le_refl _, by unfold maxLen; omega, rfl, rfl⟩⟩, by omega, by omega⟩
  · simp [results, Tryz.results34, go_sem, Lib.cell_of_heap hR]
  · exact ((((bB.setCell (p := ⟨w.heap.size, 0, none⟩) (Nat.le_refl _) _).setCell (p := ⟨w.heap.size, 1, none⟩) (Nat.le_refl _) _).setCell (p := ⟨w.heap.size, 2, none⟩) (Nat.le_refl _) _).setCell (p := ⟨w.heap.size, 3, none⟩) (Nat.le_refl _) _).setCell (p := ⟨w.heap.size, 4, none⟩) (Nat.le_refl _) _
  · have hk : w1.heap.size ≠ w.heap.size := by omega
    rw [Below.heap_setCell _ _ _ _ hk, Below.heap_setCell _ _ _ _ hk, Below.heap_setCell _ _ _ _ hk, Below.heap_setCell _ _ _ _ hk, Below.heap_setCell _ _ _ _ hk]
  · have hk : w.heap.size + 1 + 1 ≠ w.heap.size := by omega
    rw [Below.heap_setCell _ _ _ _ hk, Below.heap_setCell _ _ _ _ hk, Below.heap_setCell _ _ _ _ hk, Below.heap_setCell _ _ _ _ hk, Below.heap_setCell _ _ _ _ hk]
    exact hEB

/-- a walker in its block -/
theorem WG.born {w w1 : World} {b n t g m : Nat} {F : Nat → Prop} {A : Ar} {D : DataW Unit} (hA : ArAt w b F n A) (hf : A.ths.length < 1000000) (hb1 : Below w.heap.size w w1) (hown : w1.ownsMap Tryz.prog 3 talG m 2 D) (hkn : ∀ l u, KnownG D l u) (hmg : w.heap.size ≤ m) :
    WG (w1.alloc (.cells #[.pointer (some ⟨b, 0, none⟩), .int .i64 t, .int .i64 0, .slice (some ⟨g, 0, none⟩) 1 1, .map (some m)] 64)) w1.heap.size m b n t 2 (.slice (some ⟨g, 0, none⟩) 1 1) F A D ∧ Below w.heap.size w (w1.alloc (.cells #[.pointer (some ⟨b, 0, none⟩), .int .i64 t, .int .i64 0, .slice (some ⟨g, 0, none⟩) 1 1, .map (some m)] 64)) := by
  have hX : (w1.alloc (.cells #[.pointer (some ⟨b, 0, none⟩), .int .i64 t, .int .i64 0, .slice (some ⟨g, 0, none⟩) 1 1, .map (some m)] 64)).heap[w1.heap.size]? = some (.cells #[.pointer (some ⟨b, 0, none⟩), .int .i64 t, .int .i64 0, .slice (some ⟨g, 0, none⟩) 1 1, .map (some m)] 64 (0, 0)) := heap_alloc_new w1 _
  have hs1 := hb1.size
  have hflt := hA.flt
  have hml : m < w1.heap.size := by
    obtain ⟨es, c, he, _⟩ := hown
    exact (Array.getElem?_eq_some_iff.1 he).1
  have b2 : Below w.heap.size w (w1.alloc (.cells #[.pointer (some ⟨b, 0, none⟩), .int .i64 t, .int .i64 0, .slice (some ⟨g, 0, none⟩) 1 1, .map (some m)] 64)) := hb1.alloc hs1 _
  have hu := unk_le D A.ths.length
  exact ⟨⟨HandAt.of (l := [.map (some m)]) hX, hA.below b2, talG_other hown (push_old hml), hkn _ _, by omega, Lib.cell_of_heap hX 4, by omega, fun e => by have := hflt _ e; omega, fun e => by have := hflt _ e; omega⟩, b2⟩

theorem field_tv (c x0 y0 x1 y1 : Int) (w : World) : (Instr.field 70 (tv c x0 y0 x1 y1) 0).run Tryz.prog w = .ok (.int .i64 c) w := by kernel_rfl
end Go.Proofs.YtofbcngcblleaaaGreat.A

namespace Go.Proofs.YtofbcngcblleaaaGreat.A
open Go.RowKit Go.Maps

/-- an arena and a hand in memory -/
structure HS (w : World) (hb b t nn : Nat) (F H : Nat → Prop) (A : Ar) (E : List Int) : Prop where
  ar : ArAt w b F nn A
  hand : HandIn w hb b t 0 E H
  dis : ∀ k, F k → ¬ H k
/-- what a step leaves as it was -/
structure Step (w : World) (F H : Nat → Prop) (w' : World) (F' H' : Nat → Prop) : Prop where
  sub : ∀ k, F' k ∨ H' k → (F k ∨ H k) ∨ w.heap.size ≤ k
  ap : Apart (fun k => F k ∨ H k) w w'
section
variable {w w1 w2 : World} {hb b t nn : Nat} {F H F1 H1 F2 H2 : Nat → Prop} {A : Ar} {E : List Int}
end

end Go.Proofs.YtofbcngcblleaaaGreat.A

namespace Go.Proofs.YtofbcngcblleaaaGreat.A
open Go.RowKit Go.Maps Go.ChangeMaps Go.WideElems

set_option maxRecDepth 20000 in
set_option maxHeartbeats 4000000 in
/-- walker.box -/
theorem box_any (wb m b nn t k n : Nat) (id level : Int) (v : Value) (F : Nat → Prop) (A : Ar) (D : DataW Unit) (w : World) (hI : Inv A) (ht : t < 64) (hm : ∀ x ∈ A.ths, x.mask < 18446744073709551616) (hf : A.ths.length < 1000000) (hn1 : 1 ≤ n) (hn : n ≤ 44) (hl : levelF A.ths t id = some (n : Int)) (hbig : (cellsF A.ths n id).length < 4611686018427387904) (hlev : level = (n : Int)) (hw : WG w wb m b nn t k v F A D) :
    Calls Tryz.prog 40 #[.pointer (some ⟨wb, 0, none⟩), .int .i64 id, .int .i64 level] w fun y w' => ∃ x0 y0 x1 y1, y = .returned (.tuple #[.agg #[.int .i64 x0, .int .i64 y0, .int .i64 x1, .int .i64 y1], .bool (decide (cellsF A.ths n id ≠ []))]) ∧ BoxOr (shiftL (-(halfN n : Int)) (-(halfN n : Int)) (cellsF A.ths n id)) x0 y0 x1 y1 ∧ TG w wb m b nn t v F A (Kn D A.ths t n) w' := by
  have b0 : Below w.heap.size w (w.alloc (.cells #[.int .i64 0, .int .i64 0, .int .i64 0, .int .i64 0] 68)) := (Below.refl _ _).alloc (Nat.le_refl _) _
  have q0 := hw.below b0
  have hta := tally_any wb m b nn t v F A hI ht hm hf n id hn hl hbig k D _ level hlev q0
  have hh : ∀ W, Calls Tryz.prog 50 #[.int .i64 level] W fun x w' => x = .returned (.int .i64 (halfN n : Int)) ∧ w' = W := fun W => by rw [hlev]; exact half_any n W hn1 (by omega)
  have hbd := halfN_bd n (by omega)
  have hin := cells_in hI.good n id (glevel_of hl)
  have hY : (w.alloc (.cells #[.int .i64 0, .int .i64 0, .int .i64 0, .int .i64 0] 68)).heap[w.heap.size]? = some (.cells #[.int .i64 0, .int .i64 0, .int .i64 0, .int .i64 0] 68 (0, 0)) := heap_alloc_new w _
  have hwl := hw.hand.lt
  have hml := hw.lt
  have hflt := hw.ar.flt
  have hp44 : ((2 ^ n : Nat) : Int) ≤ 17592186044416 := by
    have : (2 : Nat) ^ n ≤ 2 ^ 44 := Nat.pow_le_pow_right (by omega) (by omega)
    have e : (2 : Nat) ^ 44 = 17592186044416 := by decide
    omega
  have HLEV : Hid (level = (n : Int)) := hlev
  have HIN : Hid (∀ c ∈ cellsF A.ths n id, 0 ≤ c.1 ∧ c.1 < ((2 ^ n : Nat) : Int) ∧ 0 ≤ c.2 ∧ c.2 < ((2 ^ n : Nat) : Int)) := hin
  obtain ⟨hf', hhf⟩ : ∃ hf' : Int, hf' = (halfN n : Int) := ⟨_, rfl⟩
  have hfb : 0 ≤ hf' ∧ hf' ≤ 2305843009213693952 := by omega
  rw [← hhf] at hh
  have HHF : Hid (hf' = (halfN n : Int)) := hhf
  clear hlev hin hhf hbd
  go_enter Tryz.func40, Tryz.ntmps40
  go_wp2_with fail
  refine hta.mono ?_
  rintro y w1 ⟨c, x0, y0, x1, y1, rfl, hT, T1⟩
  have hY1 := (T1.block w.heap.size (by simp) (by omega) (by omega)).trans hY
  have hfz := field_tv c x0 y0 x1 y1
  have TW : TG w wb m b nn t v F A (Kn D A.ths t n) w1 := ⟨T1.wg, Nat.le_trans b0.size T1.size, T1.os.trans b0.os, T1.tape.trans b0.tape, T1.output.trans b0.output, fun j h1 h2 h3 => (T1.block j (by simp; omega) h2 h3).trans (b0.block j h1)⟩
  have HFIN : Hid (∀ w', Below w.heap.size w1 w' → TG w wb m b nn t v F A (Kn D A.ths t n) w') := fun w' hb' => by
    obtain ⟨k1, D1, q1, hK⟩ := TW.wg
    have hsz := TW.size
    exact ⟨⟨k1, D1, q1.other hb'.size fun j hj => hb'.block j (by rcases hj with rfl | rfl | h; exact hwl; exact hml; exact hflt j h), hK⟩, Nat.le_trans hsz hb'.size, hb'.os.trans TW.os, hb'.tape.trans TW.tape, hb'.output.trans TW.output, fun j h1 h2 h3 => (hb'.block j h1).trans (TW.block j h1 h2 h3)⟩
  have hlt1 : w.heap.size < w1.heap.size := (Array.getElem?_eq_some_iff.1 hY1).1
  have hcl : c = ((cellsF A.ths n id).length : Int) := hT.1
  have HT : Hid (Tal (cellsF A.ths n id) c x0 y0 x1 y1) := hT
  clear hT T1 TW hta q0 hw b0 hY
  have r0 : w1.cell? ⟨w.heap.size, 0, none⟩ = some (.int .i64 0) := Lib.cell_of_heap hY1 0
  have r1 : w1.cell? ⟨w.heap.size, 1, none⟩ = some (.int .i64 0) := Lib.cell_of_heap hY1 1
  have r2 : w1.cell? ⟨w.heap.size, 2, none⟩ = some (.int .i64 0) := Lib.cell_of_heap hY1 2
  have r3 : w1.cell? ⟨w.heap.size, 3, none⟩ = some (.int .i64 0) := Lib.cell_of_heap hY1 3
  have z0 := Lib.frozen_of_heap hY1 0
  have z1 := Lib.frozen_of_heap hY1 1
  have z2 := Lib.frozen_of_heap hY1 2
  have z3 := Lib.frozen_of_heap hY1 3
  by_cases hc0 : c = 0
  · have hc1 : (c == 0) = true := by simpa using hc0
    have hnil : cellsF A.ths n id = [] := List.length_eq_zero_iff.1 (by omega)
    have HR : Hid (∀ w', TG w wb m b nn t v F A (Kn D A.ths t n) w' → ∃ x0 y0 x1 y1, Ending.returned (.tuple #[.agg #[.int .i64 0, .int .i64 0, .int .i64 0, .int .i64 0], .bool false]) = .returned (.tuple #[.agg #[.int .i64 x0, .int .i64 y0, .int .i64 x1, .int .i64 y1], .bool (decide (cellsF A.ths n id ≠ []))]) ∧ BoxOr (shiftL (-(halfN n : Int)) (-(halfN n : Int)) (cellsF A.ths n id)) x0 y0 x1 y1 ∧ TG w wb m b nn t v F A (Kn D A.ths t n) w') := fun w' h => ⟨0, 0, 0, 0, by rw [hnil]; rfl, by rw [hnil]; exact Or.inl ⟨rfl, rfl, rfl, rfl, rfl⟩, h⟩
    clear hcl hc0 hnil
    go_wp2_with fail
    refine bodyPost_ret (v := .tuple #[.agg #[.int .i64 0, .int .i64 0, .int .i64 0, .int .i64 0], .bool false]) ?_ rfl (HR.out _ (HFIN.out _ ?_))
    · have hR : ((((w1.setCell ⟨w.heap.size, 0, none⟩ (.int .i64 0)).setCell ⟨w.heap.size, 1, none⟩ (.int .i64 0)).setCell ⟨w.heap.size, 2, none⟩ (.int .i64 0)).setCell ⟨w.heap.size, 3, none⟩ (.int .i64 0)).heap[w.heap.size]? = some (.cells #[.int .i64 0, .int .i64 0, .int .i64 0, .int .i64 0] 68 (0, 0)) := Go.Joins.block_setCell (Go.Joins.block_setCell (Go.Joins.block_setCell (Go.Joins.block_setCell hY1 _) _) _) _
      have hR2 := (push_old (o := .cells #[.int .i64 c, .int .i64 x0, .int .i64 y0, .int .i64 x1, .int .i64 y1] 70) (Array.getElem?_eq_some_iff.1 hR).1).trans hR
      simp [results, Tryz.results40, go_sem, Lib.cell_of_heap hR2]
    · exact ((((Below.refl _ _).setCell (p := ⟨w.heap.size, 0, none⟩) (Nat.le_refl _) _).setCell (p := ⟨w.heap.size, 1, none⟩) (Nat.le_refl _) _).setCell (p := ⟨w.heap.size, 2, none⟩) (Nat.le_refl _) _).setCell (p := ⟨w.heap.size, 3, none⟩) (Nat.le_refl _) _ |>.alloc (by simp [World.setCell]; omega) _
  · have hc1 : (c == 0) = false := by simpa using hc0
    have hbx : IsBox (cellsF A.ths n id) x0 y0 x1 y1 := by
      rcases HT.out.2 with ⟨h0, _⟩ | h0
      · exact absurd (by rw [hcl, h0]; rfl) hc0
      · exact h0
    have hxb : 0 ≤ x0 ∧ x0 ≤ 17592186044416 ∧ 0 ≤ y0 ∧ y0 ≤ 17592186044416 ∧ 0 ≤ x1 ∧ x1 ≤ 17592186044416 ∧ 0 ≤ y1 ∧ y1 ≤ 17592186044416 := by
      have hq := HIN.out
      obtain ⟨p, hp, e0⟩ := hbx.a0
      obtain ⟨q, hqq, e1⟩ := hbx.b0
      obtain ⟨r, hr, e2⟩ := hbx.a1
      obtain ⟨s, hs, e3⟩ := hbx.b1
      have := hq p hp; have := hq q hqq; have := hq r hr; have := hq s hs
      omega
    have hnn : cellsF A.ths n id ≠ [] := fun e => by rw [e] at hcl; exact hc0 (by simpa using hcl)
    have HR : Hid (∀ w', TG w wb m b nn t v F A (Kn D A.ths t n) w' → ∃ u0 v0 u1 v1, Ending.returned (.tuple #[.agg #[.int .i64 (x0 - hf'), .int .i64 (y0 - hf'), .int .i64 (x1 - hf'), .int .i64 (y1 - hf')], .bool true]) = .returned (.tuple #[.agg #[.int .i64 u0, .int .i64 v0, .int .i64 u1, .int .i64 v1], .bool (decide (cellsF A.ths n id ≠ []))]) ∧ BoxOr (shiftL (-(halfN n : Int)) (-(halfN n : Int)) (cellsF A.ths n id)) u0 v0 u1 v1 ∧ TG w wb m b nn t v F A (Kn D A.ths t n) w') := fun w' h => ⟨_, _, _, _, by rw [decide_eq_true hnn], by
      rw [← HHF.out]
      have hm2 : ∀ p ∈ cellsF A.ths n id, (p.1 + -hf', p.2 + -hf') ∈ shiftL (-hf') (-hf') (cellsF A.ths n id) := fun p hp => mem_shift.2 (by rw [show p.1 + -hf' - -hf' = p.1 by omega, show p.2 + -hf' - -hf' = p.2 by omega]; exact hp)
      refine Or.inr ⟨fun p hp => ?_, ?_, ?_, ?_, ?_⟩
      · have := hbx.all _ (mem_shift.1 hp); simp only at this; omega
      · obtain ⟨p, hp, e⟩ := hbx.a0; exact ⟨_, hm2 p hp, by show p.1 + -hf' = _; omega⟩
      · obtain ⟨p, hp, e⟩ := hbx.b0; exact ⟨_, hm2 p hp, by show p.2 + -hf' = _; omega⟩
      · obtain ⟨p, hp, e⟩ := hbx.a1; exact ⟨_, hm2 p hp, by show p.1 + -hf' = _; omega⟩
      · obtain ⟨p, hp, e⟩ := hbx.b1; exact ⟨_, hm2 p hp, by show p.2 + -hf' = _; omega⟩, h⟩
    clear hbx hnn hcl hc0
    go_wp2_with fail
    go_region_with ((go_at_call 50; refine (hh _).mono ?_; rintro e w5 ⟨rfl, rfl⟩))
    all_goals
      go_wp2_with fail
      refine bodyPost_ret (v := .tuple #[.agg #[.int .i64 (x0 - hf'), .int .i64 (y0 - hf'), .int .i64 (x1 - hf'), .int .i64 (y1 - hf')], .bool true]) ?_ rfl (HR.out _ (HFIN.out _ ?_))
      · have hR : ((((w1.setCell ⟨w.heap.size, 0, none⟩ (.int .i64 (x0 - hf'))).setCell ⟨w.heap.size, 1, none⟩ (.int .i64 (y0 - hf'))).setCell ⟨w.heap.size, 2, none⟩ (.int .i64 (x1 - hf'))).setCell ⟨w.heap.size, 3, none⟩ (.int .i64 (y1 - hf'))).heap[w.heap.size]? = some (.cells #[.int .i64 (x0 - hf'), .int .i64 (y0 - hf'), .int .i64 (x1 - hf'), .int .i64 (y1 - hf')] 68 (0, 0)) := Go.Joins.block_setCell (Go.Joins.block_setCell (Go.Joins.block_setCell (Go.Joins.block_setCell hY1 _) _) _) _
        have hR2 := (push_old (o := .cells #[.int .i64 c, .int .i64 x0, .int .i64 y0, .int .i64 x1, .int .i64 y1] 70) (Array.getElem?_eq_some_iff.1 hR).1).trans hR
        have hR3 := (push_old (o := .cells #[.int .i64 x0, .int .i64 y0, .int .i64 x1, .int .i64 y1] 68) (Array.getElem?_eq_some_iff.1 hR2).1).trans hR2
        simp [results, Tryz.results40, go_sem, Lib.cell_of_heap hR3]
      · exact (((((((Below.refl _ _).setCell (p := ⟨w.heap.size, 0, none⟩) (Nat.le_refl _) _).setCell (p := ⟨w.heap.size, 1, none⟩) (Nat.le_refl _) _).setCell (p := ⟨w.heap.size, 2, none⟩) (Nat.le_refl _) _).setCell (p := ⟨w.heap.size, 3, none⟩) (Nat.le_refl _) _).alloc (by simp [World.setCell]; omega) _).alloc (by simp [World.setCell]; omega) _).drew

end Go.Proofs.YtofbcngcblleaaaGreat.A

namespace Go.Proofs.YtofbcngcblleaaaGreat.A
open Go.RowKit Go.Maps Go.ChangeMaps Go.WideElems

set_option maxRecDepth 20000 in
set_option maxHeartbeats 4000000 in
/-- Box of a root -/
theorem Box_root (b n t lv : Nat) (id : Int) (F : Nat → Prop) (A : Ar) (w : World) (hA : ArAt w b F n A) (hI : Inv A) (ht : t < 64) (hm : ∀ x ∈ A.ths, x.mask < 18446744073709551616) (hf : A.ths.length < 1000000) (hl : levelF A.ths t id = some (lv : Int)) (hlv1 : 1 ≤ lv) (hlv : lv ≤ 44) (hbig : (cellsF A.ths lv id).length < 4611686018427387904) :
    Calls Tryz.prog 97 #[.pointer (some ⟨b, 0, none⟩), .int .i64 t, .int .i64 id] w fun x w' => ∃ x0 y0 x1 y1, x = .returned (.tuple #[.agg #[.int .i64 x0, .int .i64 y0, .int .i64 x1, .int .i64 y1], .bool (decide (cellsF A.ths lv id ≠ [])), .int .i64 0]) ∧ BoxOr (shiftL (-(halfN lv : Int)) (-(halfN lv : Int)) (cellsF A.ths lv id)) x0 y0 x1 y1 ∧ Below w.heap.size w w' := by
  have hr := fits_of hl hf
  have hflt := hA.flt
  have hlev := fun W hb v (hh : HandAt W hb b t 0 v) (hW : ArAt W b F n A) (hn : ¬ F hb) => handLevel_ok hb b n t id 1 44 lv v F A W hh hW hn ht hm hr hl (by omega) (by omega)
  have hta := fun wb m v k D W => box_any wb m b n t k lv id (lv : Int) v F A D W hI ht hm hf hlv1 hlv hl hbig rfl
  have HL : Hid (levelF A.ths t id = some (lv : Int)) := hl
  clear hl
  have b00 : Below w.heap.size w (w.alloc (.cells #[.int .i64 0, .int .i64 0, .int .i64 0, .int .i64 0] 68)) := (Below.refl _ _).alloc (Nat.le_refl _) _
  have hY : (w.alloc (.cells #[.int .i64 0, .int .i64 0, .int .i64 0, .int .i64 0] 68)).heap[w.heap.size]? = some (.cells #[.int .i64 0, .int .i64 0, .int .i64 0, .int .i64 0] 68 (0, 0)) := heap_alloc_new w _
  have hA0 := hA.below b00
  go_enter Tryz.func97, Tryz.ntmps97
  go_wp2_with fail
  refine (newWalker_G b t _).mono ?_
  rintro x w1 ⟨g, m, D, rfl, hb1, hown, hkn, hmg, _, _, _⟩
  obtain ⟨Q0, b2⟩ := WG.born (g := g) (t := t) hA0 hf hb1 hown hkn hmg
  have hh := Q0.hand
  have hs1 := hb1.size
  have hs0 : (w.alloc (.cells #[.int .i64 0, .int .i64 0, .int .i64 0, .int .i64 0] 68)).heap.size = w.heap.size + 1 := by simp
  go_wp2_with fail
  refine (hlev _ _ _ hh (hA0.below b2) Q0.nFw).mono ?_
  rintro x w3 ⟨rfl, h3, g3, h34⟩
  have c2 := h3.c2
  have Q3 := Q0.kids h3 g3 (h34.trans Q0.c4)
  have b3 : Below (w.heap.size + 1) (w.alloc (.cells #[.int .i64 0, .int .i64 0, .int .i64 0, .int .i64 0] 68)) w3 := by
    have e := b2.trans (c := w3) ⟨g3.os, g3.tape, g3.output, g3.size, fun k hk => g3.block k (by have := b2.size; omega) (by simp; omega)⟩
    rw [hs0] at e
    exact e
  clear hlev
  go_wp2_with fail
  refine (hta _ _ _ 2 D _ Q3).mono ?_
  rintro x w4 ⟨x0, y0, x1, y1, rfl, hB, T4⟩
  obtain ⟨k4, D4, Q4, _⟩ := T4.wg
  have hlt3 := Q3.hand.lt
  have d2 := Q4.hand.c2
  have b4 : Below (w.heap.size + 1) (w.alloc (.cells #[.int .i64 0, .int .i64 0, .int .i64 0, .int .i64 0] 68)) w4 := ⟨T4.os.trans b3.os, T4.tape.trans b3.tape, T4.output.trans b3.output, Nat.le_trans b3.size T4.size, fun k hk => (T4.block k (by have := b3.size; omega) (by omega) (by omega)).trans (b3.block k hk)⟩
  have hY4 := (b4.block w.heap.size (by omega)).trans hY
  obtain ⟨bl, hbl⟩ : ∃ bl, bl = decide (cellsF A.ths lv id ≠ []) := ⟨_, rfl⟩
  have HBL : Hid (bl = decide (cellsF A.ths lv id ≠ [])) := hbl
  rw [← hbl]
  have b5 : Below w.heap.size w w4 := b00.trans (b4.mono (by omega))
  have HB : Hid (BoxOr (shiftL (-(halfN lv : Int)) (-(halfN lv : Int)) (cellsF A.ths lv id)) x0 y0 x1 y1) := hB
  clear hta hbl hB
  have b6 : Below w4.heap.size w4 (w4.alloc (.cells #[.int .i64 x0, .int .i64 y0, .int .i64 x1, .int .i64 y1] 68)) := (Below.refl _ _).alloc (Nat.le_refl _) _
  have hl4 := Q4.hand.lt
  have d3 : (w4.alloc (.cells #[.int .i64 x0, .int .i64 y0, .int .i64 x1, .int .i64 y1] 68)).cell? ⟨w1.heap.size, 2, none⟩ = some (.int .i64 0) := (Q4.hand.below b6).c2
  have hs4 := b4.size
  have r0 : w4.cell? ⟨w.heap.size, 0, none⟩ = some (.int .i64 0) := Lib.cell_of_heap hY4 0
  have r1 : w4.cell? ⟨w.heap.size, 1, none⟩ = some (.int .i64 0) := Lib.cell_of_heap hY4 1
  have r2 : w4.cell? ⟨w.heap.size, 2, none⟩ = some (.int .i64 0) := Lib.cell_of_heap hY4 2
  have r3 : w4.cell? ⟨w.heap.size, 3, none⟩ = some (.int .i64 0) := Lib.cell_of_heap hY4 3
  have z0 := Lib.frozen_of_heap hY4 0
  have z1 := Lib.frozen_of_heap hY4 1
  have z2 := Lib.frozen_of_heap hY4 2
  have z3 := Lib.frozen_of_heap hY4 3
  have hwl4 : w.heap.size < w4.heap.size := (Array.getElem?_eq_some_iff.1 hY4).1
  clear b6 hb1 hown
  go_wp2_with fail
  refine bodyPost_ret (v := .tuple #[.agg #[.int .i64 x0, .int .i64 y0, .int .i64 x1, .int .i64 y1], .bool bl, .int .i64 0]) ?_ rfl ⟨x0, y0, x1, y1, by rw [HBL.out], HB.out, ?_⟩
  · have hR : ((((w4.setCell ⟨w.heap.size, 0, none⟩ (.int .i64 x0)).setCell ⟨w.heap.size, 1, none⟩ (.int .i64 y0)).setCell ⟨w.heap.size, 2, none⟩ (.int .i64 x1)).setCell ⟨w.heap.size, 3, none⟩ (.int .i64 y1)).heap[w.heap.size]? = some (.cells #[.int .i64 x0, .int .i64 y0, .int .i64 x1, .int .i64 y1] 68 (0, 0)) := Go.Joins.block_setCell (Go.Joins.block_setCell (Go.Joins.block_setCell (Go.Joins.block_setCell hY4 _) _) _) _
    have hR2 := (push_old (o := .cells #[.int .i64 x0, .int .i64 y0, .int .i64 x1, .int .i64 y1] 68) (Array.getElem?_eq_some_iff.1 hR).1).trans hR
    simp [results, Tryz.results97, go_sem, Lib.cell_of_heap hR2]
  · exact (((((b5.setCell (p := ⟨w.heap.size, 0, none⟩) (Nat.le_refl _) _).setCell (p := ⟨w.heap.size, 1, none⟩) (Nat.le_refl _) _).setCell (p := ⟨w.heap.size, 2, none⟩) (Nat.le_refl _) _).setCell (p := ⟨w.heap.size, 3, none⟩) (Nat.le_refl _) _).alloc (by simp [World.setCell]; omega) _)
end Go.Proofs.YtofbcngcblleaaaGreat.A

namespace Go.Proofs.YtofbcngcblleaaaGreat.A
open Go.RowKit Go.Maps Go.ChangeMaps Go.WideElems

/-- the cells of four quarters -/
def fourC (l : List Th) (n : Nat) (q0 q1 q2 q3 : Int) : List (Int × Int) := cellsF l n q0 ++ shiftL ((2 ^ n : Nat) : Int) 0 (cellsF l n q1) ++ shiftL 0 ((2 ^ n : Nat) : Int) (cellsF l n q2) ++ shiftL ((2 ^ n : Nat) : Int) ((2 ^ n : Nat) : Int) (cellsF l n q3)
/-- a root's cells, at their places -/
def absC (l : List Th) (n : Nat) (id : Int) : List (Int × Int) := shiftL (-(halfN n : Int)) (-(halfN n : Int)) (cellsF l n id)
theorem mem_abs {l : List Th} {n : Nat} {id : Int} {p : Int × Int} : p ∈ absC l n id ↔ (p.1 + (halfN n : Int), p.2 + (halfN n : Int)) ∈ cellsF l n id := by
  unfold absC
  rw [mem_shift, show p.1 - -(halfN n : Int) = p.1 + (halfN n : Int) by omega, show p.2 - -(halfN n : Int) = p.2 + (halfN n : Int) by omega]
theorem abs_fits {l : List Th} (hG : Good l) {n : Nat} {id : Int} (h : glevel l id = some ((n + 1 : Nat) : Int)) : fitsLv (n + 1) (absC l (n + 1) id) := fun p hp => by
  have := cells_in hG (n + 1) id h _ (mem_abs.1 hp)
  have hpw : ((2 ^ (n + 1) : Nat) : Int) = ((2 ^ n : Nat) : Int) + ((2 ^ n : Nat) : Int) := by rw [Nat.pow_succ]; omega
  rw [halfN_succ] at this ⊢
  simp only at this
  rw [hpw] at this
  omega
end Go.Proofs.YtofbcngcblleaaaGreat.A

namespace Go.Proofs.YtofbcngcblleaaaGreat.A
open Go.RowKit Go.Maps Go.ChangeMaps Go.WideElems

/-- what Peel leaves -/
def PeelOut (w : World) (b t c : Nat) (F : Nat → Prop) (A : Ar) (S : List (Int × Int)) (id' : Int) (w' : World) : Prop :=
  ∃ (A' : Ar) (F' : Nat → Prop) (nn' N' : Nat) (N : List Int), ArAt w' b F' nn' A' ∧ (∀ k, F' k → F k ∨ w.heap.size ≤ k) ∧ Apart F w w' ∧ Inv A' ∧ Pur A' t c nn' ∧ Gain t A A' N ∧ LeastLv N' S ∧ levelF A'.ths t id' = some (N' : Int) ∧ ∀ p : Int × Int, p ∈ cellsF A'.ths N' id' ↔ (p.1 - (halfN N' : Int), p.2 - (halfN N' : Int)) ∈ S

/-- between the rounds: a walker's hand, an arena, four numbers in a block -/
structure QL (w W : World) (wb b t nn qb : Nat) (v : Value) (F : Nat → Prop) (A : Ar) (q0 q1 q2 q3 : Int) : Prop where
  hand : HandAt W wb b t 0 v
  ar : ArAt W b F nn A
  bel : Below w.heap.size w W
  blk : W.heap[qb]? = some (.cells #[.int .i64 q0, .int .i64 q1, .int .i64 q2, .int .i64 q3] 76 (0, 0))
  nF : ¬ F qb
  nw : qb ≠ wb
  nFw : ¬ F wb
  l0 : w.heap.size ≤ qb
  l1 : w.heap.size ≤ wb
section
variable {w W W' : World} {wb b t nn qb : Nat} {v : Value} {F : Nat → Prop} {A : Ar} {q0 q1 q2 q3 : Int}
theorem QL.kids (h : QL w W wb b t nn qb v F A q0 q1 q2 q3) (h2 : HandAt W' wb b t 0 v) (hg : W.grownBy W' (some wb)) : QL w W' wb b t nn qb v F A q0 q1 q2 q3 := by
  have hl : qb < W.heap.size := (Array.getElem?_eq_some_iff.1 h.blk).1
  have l1 := h.l1
  have hs := h.bel.size
  refine ⟨h2, h.ar.other hg.size fun k hk => hg.block k (h.ar.flt k hk) (fun e => h.nFw (by cases e; exact hk)), h.bel.trans ⟨hg.os, hg.tape, hg.output, hg.size, fun k hk => hg.block k (by omega) (by simp; omega)⟩, (hg.block qb hl (fun e => h.nw (by cases e; rfl))).trans h.blk, h.nF, h.nw, h.nFw, h.l0, h.l1⟩
theorem QL.set (h : QL w W wb b t nn qb v F A q0 q1 q2 q3) (i : Nat) (u : Value) {r0 r1 r2 r3 : Int} (hq : (W.setCell ⟨qb, i, none⟩ u).heap[qb]? = some (.cells #[.int .i64 r0, .int .i64 r1, .int .i64 r2, .int .i64 r3] 76 (0, 0))) : QL w (W.setCell ⟨qb, i, none⟩ u) wb b t nn qb v F A r0 r1 r2 r3 := by
  have hz : (W.setCell ⟨qb, i, none⟩ u).heap.size = W.heap.size := size_set
  refine ⟨h.hand.go (heap_set (fun e => h.nw e.symm)), h.ar.other (by omega) fun k hk => heap_set (by rintro rfl; exact h.nF hk), h.bel.setCell (p := ⟨qb, i, none⟩) h.l0 u, hq, h.nF, h.nw, h.nFw, h.l0, h.l1⟩
theorem QL.cells (h : QL w W wb b t nn qb v F A q0 q1 q2 q3) : (W.cell? ⟨qb, 0, none⟩ = some (.int .i64 q0) ∧ W.cell? ⟨qb, 1, none⟩ = some (.int .i64 q1) ∧ W.cell? ⟨qb, 2, none⟩ = some (.int .i64 q2) ∧ W.cell? ⟨qb, 3, none⟩ = some (.int .i64 q3)) ∧ (W.frozen? ⟨qb, 0, none⟩ = false ∧ W.frozen? ⟨qb, 1, none⟩ = false ∧ W.frozen? ⟨qb, 2, none⟩ = false ∧ W.frozen? ⟨qb, 3, none⟩ = false) ∧ qb < W.heap.size :=
  ⟨⟨Lib.cell_of_heap h.blk 0, Lib.cell_of_heap h.blk 1, Lib.cell_of_heap h.blk 2, Lib.cell_of_heap h.blk 3⟩, ⟨Lib.frozen_of_heap h.blk 0, Lib.frozen_of_heap h.blk 1, Lib.frozen_of_heap h.blk 2, Lib.frozen_of_heap h.blk 3⟩, (Array.getElem?_eq_some_iff.1 h.blk).1⟩
end

end Go.Proofs.YtofbcngcblleaaaGreat.A
