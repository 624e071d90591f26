/- Arguments of the laws of leap, opened. -/
import Derived.Test.YtgipjplifndniaaGreatDoorTidy
import Derived.Laws.CopyOwn
import Derived.BigQuiet
import Derived.Deep.QuietTactic
import Derived.Deep.AppendLies
import Derived.Test.YtgipjplifndniaaGreatDoorSqPure
import Derived.Test.YtgipjplifndniaaGreatDoorBoxLaw
import Derived.Laws.EntriesVeiled
import Derived.Lib.SmallJoins
import Derived.Laws.IdiomArrays
import Derived.Carry
import Derived.Test.YtgipjplifndniaaGreatDoorRows
namespace Go.Proofs.YtgipjplifndniaaGreatDoor
open Go.RowKit Go.Lib Go.Sort

def cellsL (zs : List (Int × Int)) : List Value := zs.flatMap encPt
theorem cellsL_cons (p : Int × Int) (zs : List (Int × Int)) : cellsL (p :: zs) = .int .i64 p.1 :: .int .i64 p.2 :: cellsL zs := rfl
theorem cellsL_append (a b : List (Int × Int)) : cellsL (a ++ b) = cellsL a ++ cellsL b := List.flatMap_append
theorem cellsL_length : ∀ zs : List (Int × Int), (cellsL zs).length = zs.length * 2
  | [] => rfl
  | p :: zs => by rw [cellsL_cons, List.length_cons, List.length_cons, cellsL_length zs, List.length_cons]; omega
theorem cellsL_one (zs : List (Int × Int)) (u : Value) (h : u ∈ cellsL zs) : u.oneCell' = true := by
  obtain ⟨p, _, hu⟩ := List.mem_flatMap.1 h
  exact encPt_one p u hu
theorem cellsL_get : ∀ (zs : List (Int × Int)) (j : Nat), j < zs.length → (cellsL zs)[j * 2]? = some (.int .i64 (zs[j]!).1) ∧ (cellsL zs)[j * 2 + 1]? = some (.int .i64 (zs[j]!).2)
  | [], j, h => by simp at h
  | p :: zs, 0, _ => ⟨rfl, rfl⟩
  | p :: zs, j + 1, h => by
    have := cellsL_get zs j (by simpa using h)
    rw [cellsL_cons, show (j + 1) * 2 = j * 2 + 1 + 1 by omega, show j * 2 + 1 + 1 + 1 = (j * 2 + 1) + 1 + 1 by omega]
    simp only [List.getElem?_cons_succ]
    have e : (p :: zs)[j + 1]! = zs[j]! := by simp
    rw [e]
    exact this
theorem holdsR_of_owns {w : World} {base g n cap : Nat} {zs : List (Int × Int)} (h : w.ownsRow base 50 2 (.slice (some ⟨g, 0, none⟩) n cap) n (cellsL zs)) : HoldsR w g 0 zs := by
  intro j hj
  obtain ⟨e0, e1⟩ := cellsL_get zs j hj
  have h0 := h.cells rfl _ _ e0
  have h1 := h.cells rfl _ _ e1
  rw [addP] at h0 h1
  exact ⟨h0, by rw [← h1]; congr 2⟩

end Go.Proofs.YtgipjplifndniaaGreatDoor

namespace Go.Proofs.YtgipjplifndniaaGreatDoor
open Go.RowKit Go.Lib Go.Sort

def Kept (w : World) (base : Nat) (v : Value) (ys : List (Int × Int)) : Prop := (ys = [] ∧ v = .slice none 0 0) ∨ (ys ≠ [] ∧ w.ownsRow base 50 2 v ys.length (cellsL ys))

theorem Kept.row {w : World} {base : Nat} {v : Value} {ys : List (Int × Int)} (h : Kept w base v ys) : Row w v ys := by
  rcases h with ⟨rfl, rfl⟩ | ⟨hz, hown⟩
  · exact Or.inl ⟨rfl, rfl⟩
  · rcases id hown with ⟨_, ⟨_, h0⟩ | ⟨g, cap, cur, hv, _, _, hc, hm, _⟩⟩
    · exact absurd (List.length_eq_zero_iff.1 h0) hz
    · subst hv
      exact Or.inr ⟨hz, g, 0, cap, rfl, (hown.lt g rfl).2, hc, hm, holdsR_of_owns hown⟩
end Go.Proofs.YtgipjplifndniaaGreatDoor

namespace Go.Proofs.YtgipjplifndniaaGreatDoor
open Go.RowKit Go.Lib Go.Sort

def RRow (w : World) (v : Value) (zs : List (Int × Int)) : Prop := IsRow w v zs.length (fun j => (zs[j]!).1) (fun j => (zs[j]!).2)

end Go.Proofs.YtgipjplifndniaaGreatDoor

namespace Go.Proofs.YtgipjplifndniaaGreatDoor
open Go.RowKit Go.Lib Go.Sort

def tcode (zs : List (Int × Int)) : Int := if 4096 < zs.length then 5 else if zs.any farP = true then 3 else 0
def Tidied (zs ys : List (Int × Int)) : Prop := Tidy ys ∧ ∀ p, p ∈ ys ↔ p ∈ zs ∧ tcode zs = 0
theorem Tidied.unique {zs ys ts : List (Int × Int)} (h : Tidied zs ys) (k : Tidied zs ts) : ys = ts := tidy_unique _ _ h.1 k.1 fun p => (h.2 p).trans (k.2 p).symm

theorem tidyOut_row {zs : List (Int × Int)} {w : World} {base : Nat} {u : Value} {code : Int} (h : TidyOut zs w base u code) : code = tcode zs ∧ ∃ ys, Tidied zs ys ∧ ORow w base u ys := by
  rcases h with ⟨h1, rfl, rfl⟩ | ⟨h1, h2, rfl, rfl⟩ | ⟨h1, h2, rfl, ys, h3, h4, h5⟩
  · have e : tcode zs = 5 := by simp [tcode, h1]
    exact ⟨e.symm, [], ⟨List.Pairwise.nil, fun p => by simp [e]⟩, Or.inl ⟨rfl, rfl⟩⟩
  · have e : tcode zs = 3 := by rw [tcode, if_neg (by omega), if_pos h2]
    exact ⟨e.symm, [], ⟨List.Pairwise.nil, fun p => by simp [e]⟩, Or.inl ⟨rfl, rfl⟩⟩
  · have e : tcode zs = 0 := by rw [tcode, if_neg (by omega), if_neg (by rw [h2]; simp)]
    exact ⟨e.symm, ys, ⟨h3, fun p => by rw [h4 p, e]; simp⟩, h5⟩
theorem tidy_told (v : Value) (zs : List (Int × Int)) (w : World) (h : Row w v zs) :
    Calls Tryz.prog 9 #[v] w fun e w' => ∃ u ys, e = .returned (.tuple #[u, .int .i64 (tcode zs)]) ∧ Below w.heap.size w w' ∧ Tidied zs ys ∧ ORow w' w.heap.size u ys :=
  (tidy_any v zs w h).mono fun e w' ⟨u, code, he, hb, ho⟩ => by
    obtain ⟨hc, ys, ht, hr⟩ := tidyOut_row ho
    exact ⟨u, ys, by rw [he, hc], hb, ht, hr⟩
theorem RRow.below {w w' : World} {v : Value} {zs : List (Int × Int)} (h : RRow w v zs) (hb : Below w.heap.size w w') : RRow w' v zs := IsRow.below h hb

end Go.Proofs.YtgipjplifndniaaGreatDoor

namespace Go.Proofs.YtgipjplifndniaaGreatDoor.A
open Go.RowKit Go.Maps

theorem newHand_any (b t : Nat) (w : World) : Calls Tryz.prog 89 #[.pointer (some ⟨b, 0, none⟩), .int .i64 t] w fun x w' => x = .returned (.agg #[.pointer (some ⟨b, 0, none⟩), .int .i64 t, .int .i64 0, .slice (some ⟨w.heap.size + 1, 0, none⟩) 1 1]) ∧ w'.heap[w.heap.size + 1]? = some (.cells #[.int .i64 0] 3 (0, 0)) ∧ Below w.heap.size w w' := by
  go_enter Tryz.func89, Tryz.ntmps89
  go_wp2_with fail
  refine bodyPost_ret (v := .agg #[.pointer (some ⟨b, 0, none⟩), .int .i64 t, .int .i64 0, .slice (some ⟨w.heap.size + 1, 0, none⟩) 1 1]) ?_ rfl ⟨rfl, heap_alloc2_new w _ _, ?_⟩
  · simp [results, Tryz.results89, go_sem]
  · exact ((Below.refl _ _).alloc (Nat.le_refl _) _).alloc (by simp) _
def halfN (n : Nat) : Nat := 2 ^ (n - 1)
theorem halfN_bd (n : Nat) (h2 : n ≤ 62) : halfN n ≤ 2305843009213693952 ∧ 0 < halfN n := by
  have hp : (2 : Nat) ^ (n - 1) ≤ 2 ^ 61 := Nat.pow_le_pow_right (by omega) (by omega)
  unfold halfN
  exact ⟨by simpa using hp, Nat.two_pow_pos _⟩
theorem wrap_half (n : Nat) (h2 : n ≤ 62) : wrap64 (2 ^ (n - 1)) = (halfN n : Int) := by
  have h := halfN_bd n h2
  have e : (2 : Int) ^ (n - 1) = (halfN n : Int) := by simp [halfN]
  rw [e]
  unfold wrap64
  omega
theorem half_any (n : Nat) (w : World) (h1 : 1 ≤ n) (h2 : n ≤ 62) : Calls Tryz.prog 95 #[.int .i64 n] w fun x w' => x = .returned (.int .i64 (halfN n : Int)) ∧ w' = w := by
  have h3 : (0 : Int) ≤ (n : Int) - 1 := by omega
  go_enter Tryz.func95, Tryz.ntmps95
  go_wp2_with fail
  go_ret
  exact ⟨ret_i (wrap_half n h2), rfl⟩
theorem ret_b {a b : Bool} (h : a = b) : Ending.returned (.bool a) = .returned (.bool b) := by rw [h]
def reachB (n : Nat) (x0 y0 x1 y1 : Int) : Bool := decide (-(halfN n : Int) ≤ x0 ∧ -(halfN n : Int) ≤ y0 ∧ x1 < halfN n ∧ y1 < halfN n)
set_option maxHeartbeats 4000000 in
theorem reaches_any (n : Nat) (x0 y0 x1 y1 : Int) (w : World) (h1 : 1 ≤ n) (h2 : n ≤ 62) : Calls Tryz.prog 125 #[.int .i64 n, .agg #[.int .i64 x0, .int .i64 y0, .int .i64 x1, .int .i64 y1]] w fun x w' => x = .returned (.bool (reachB n x0 y0 x1 y1)) ∧ Below w.heap.size w w' := by
  have hb := halfN_bd n h2
  have hh := fun W => half_any n W h1 h2
  have hbel : Below w.heap.size w (w.alloc (.cells #[.int .i64 x0, .int .i64 y0, .int .i64 x1, .int .i64 y1] 31)) := (Below.refl _ _).alloc (Nat.le_refl _) _
  have HR : Hid (reachB n x0 y0 x1 y1 = decide (-(halfN n : Int) ≤ x0 ∧ -(halfN n : Int) ≤ y0 ∧ x1 < halfN n ∧ y1 < halfN n)) := rfl
  obtain ⟨k, hk⟩ : ∃ k, k = halfN n := ⟨_, rfl⟩
  rw [← hk] at hb hh HR
  clear hk
  have hneg : IntKind.i64.wrap (-(k : Int)) = -(k : Int) := by rw [IntKind.wrap_i64]; omega
  by_cases c0 : -(k : Int) ≤ x0
  · by_cases c1 : -(k : Int) ≤ y0
    · by_cases c2 : x1 < (k : Int)
      · by_cases c3 : y1 < (k : Int)
        · go_enter Tryz.func125, Tryz.ntmps125
          go_wp2_with fail
          refine (hh _).mono ?_
          rintro e w1 ⟨rfl, rfl⟩
          go_wp2_with fail
          go_ret
          exact ⟨ret_b (by rw [HR.out, decide_eq_true ⟨c0, c1, c2, c3⟩]), hbel⟩
        · go_enter Tryz.func125, Tryz.ntmps125
          go_wp2_with fail
          refine (hh _).mono ?_
          rintro e w1 ⟨rfl, rfl⟩
          go_wp2_with fail
          go_ret
          refine ⟨ret_b ?_, hbel⟩
          rw [HR.out]
          simp [c0, c1, c2]
      · go_enter Tryz.func125, Tryz.ntmps125
        go_wp2_with fail
        refine (hh _).mono ?_
        rintro e w1 ⟨rfl, rfl⟩
        go_wp2_with fail
        go_ret
        exact ⟨ret_b (by rw [HR.out]; symm; apply decide_eq_false; omega), hbel⟩
    · go_enter Tryz.func125, Tryz.ntmps125
      go_wp2_with fail
      refine (hh _).mono ?_
      rintro e w1 ⟨rfl, rfl⟩
      go_wp2_with fail
      go_ret
      exact ⟨ret_b (by rw [HR.out]; symm; apply decide_eq_false; omega), hbel⟩
  · go_enter Tryz.func125, Tryz.ntmps125
    go_wp2_with fail
    refine (hh _).mono ?_
    rintro e w1 ⟨rfl, rfl⟩
    go_wp2_with fail
    go_ret
    exact ⟨ret_b (by rw [HR.out]; symm; apply decide_eq_false; omega), hbel⟩
abbrev bareV : Value := .agg #[.int .i64 (-1), .int .i64 0, .int .i64 0]
theorem bare_any (w : World) : Calls Tryz.prog 94 #[] w fun e w' => e = .returned bareV ∧ Below w.heap.size w w' := by
  go_enter Tryz.func94, Tryz.ntmps94
  go_wp2_with fail
  refine bodyPost_ret (v := bareV) ?_ rfl ⟨rfl, ?_⟩
  · simp [results, Tryz.results94, go_sem]
  · repeat (first | exact Below.refl _ _ | refine Below.alloc ?_ (by simp) _ | refine Below.setCell ?_ (by simp) _)
end Go.Proofs.YtgipjplifndniaaGreatDoor.A

namespace Go.Proofs.YtgipjplifndniaaGreatDoor.A
open Go.RowKit Go.Maps Go.ChangeMaps Go.WideElems

theorem turned_block {w w' : World} {b k : Nat} (h : w.mapTurned w' b) (hk : k ≠ b) : w'.heap[k]? = w.heap[k]? := by
  obtain ⟨es, c, es', c', hb, rfl⟩ := h
  exact heap_setBlock_other hb _ hk
theorem turned_below {w w' : World} {B b : Nat} (h : w.mapTurned w' b) (hB : B ≤ b) : Below B w w' := by
  have hg := grown_of_turned h
  exact ⟨hg.os, hg.tape, hg.output, hg.size, fun k hk => turned_block h (by omega)⟩

theorem set5 {w : World} {g : Nat} {T : TypeId} {fr : Nat × Nat} {a0 a1 a2 a3 a4 : Value} (h : w.heap[g]? = some (.cells #[a0, a1, a2, a3, a4] T fr)) (b0 b1 b2 b3 b4 : Value) :
    (((((w.setCell ⟨g, 0, none⟩ b0).setCell ⟨g, 1, none⟩ b1).setCell ⟨g, 2, none⟩ b2).setCell ⟨g, 3, none⟩ b3).setCell ⟨g, 4, none⟩ b4).heap[g]? = some (.cells #[b0, b1, b2, b3, b4] T fr) := by
  have h0 : (w.setCell ⟨g, 0, none⟩ b0).heap[g]? = some (.cells #[b0, a1, a2, a3, a4] T fr) := Go.Joins.block_setCell h b0
  have h1 : ((w.setCell ⟨g, 0, none⟩ b0).setCell ⟨g, 1, none⟩ b1).heap[g]? = some (.cells #[b0, b1, a2, a3, a4] T fr) := Go.Joins.block_setCell h0 b1
  have h2 : (((w.setCell ⟨g, 0, none⟩ b0).setCell ⟨g, 1, none⟩ b1).setCell ⟨g, 2, none⟩ b2).heap[g]? = some (.cells #[b0, b1, b2, a3, a4] T fr) := Go.Joins.block_setCell h1 b2
  have h3 : ((((w.setCell ⟨g, 0, none⟩ b0).setCell ⟨g, 1, none⟩ b1).setCell ⟨g, 2, none⟩ b2).setCell ⟨g, 3, none⟩ b3).heap[g]? = some (.cells #[b0, b1, b2, b3, a4] T fr) := Go.Joins.block_setCell h2 b3
  exact Go.Joins.block_setCell h3 b4

end Go.Proofs.YtgipjplifndniaaGreatDoor.A

namespace Go.Proofs.YtgipjplifndniaaGreatDoor.A
open Go.RowKit Go.Maps Go.ChangeMaps Go.WideElems

theorem keep_zero (hb b t : Nat) (v : Value) (w : World) (h : HandAt w hb b t 0 v) :
    Calls Tryz.prog 111 #[.pointer (some ⟨hb, 0, none⟩), .int .i64 0] w fun x w' => x = .returned (.tuple #[]) ∧ HandAt w' hb b t 0 v ∧ w.grownBy w' (some hb) ∧ w'.cell? ⟨hb, 4, none⟩ = w.cell? ⟨hb, 4, none⟩ := by
  have c2 := h.c2
  have z2 := h.z2
  go_enter Tryz.func111, Tryz.ntmps111
  go_wp2_with fail
  go_end0
  exact ⟨rfl, h.setE 0, set_grown _ _ _ _, cell_set_other (by omega)⟩

set_option maxRecDepth 20000 in
set_option maxHeartbeats 4000000 in
theorem handKids_any (hb b n t : Nat) (id : Int) (x : Th) (v : Value) (F : Nat → Prop) (A : Ar) (w : World) (h : HandAt w hb b t 0 v) (hA : ArAt w b F n A) (ht : t < 64) (hm : ∀ x ∈ A.ths, x.mask < 18446744073709551616) (hr : Fits id) (hx : squareF A.ths t id = some x) :
    Calls Tryz.prog 104 #[.pointer (some ⟨hb, 0, none⟩), .int .i64 id] w fun e w' => e = .returned (.agg #[.int .i64 x.p0, .int .i64 x.p1, .int .i64 x.p2, .int .i64 x.p3]) ∧ HandAt w' hb b t 0 v ∧ w.grownBy w' (some hb) ∧ w'.cell? ⟨hb, 4, none⟩ = w.cell? ⟨hb, 4, none⟩ := by
  obtain ⟨r, D, hA⟩ := hA
  have hlv := fun W (hW : ArRaw W b F n A r D) => Kids_any b 0 t id r A.ths W hW.raw hW.ths ht hm hr
  rw [hx] at hlv
  have hb0 : Below w.heap.size w (w.alloc (.cells #[.int .i64 0, .int .i64 0, .int .i64 0, .int .i64 0] 69)) := (Below.refl _ _).alloc (Nat.le_refl _) _
  have hs0 := hb0.size
  have hX0 : (w.alloc (.cells #[.int .i64 0, .int .i64 0, .int .i64 0, .int .i64 0] 69)).heap[w.heap.size]? = some (.cells #[.int .i64 0, .int .i64 0, .int .i64 0, .int .i64 0] 69 (0, 0)) := heap_alloc_new w _
  have h0 := h.below hb0
  have hA0 := hA.below hb0
  have c2 := h0.c2
  have c0 := h0.c0
  have c1 := h0.c1
  simp only [kidsV, lack] at hlv
  go_enter Tryz.func104, Tryz.ntmps104
  go_wp2_with fail
  go_cut [5, 6] from 13 to 26 (fun s5 s6 wc => ∃ p : Nat, s5 = .pointer (some ⟨p, 0, none⟩) ∧ s6 = .int .i64 0 ∧ wc.heap[p]? = some (.cells #[.int .i64 x.p0, .int .i64 x.p1, .int .i64 x.p2, .int .i64 x.p3] 69 (0, 0)) ∧ w.heap.size + 1 ≤ p ∧ Below (w.heap.size + 1) (w.alloc (.cells #[.int .i64 0, .int .i64 0, .int .i64 0, .int .i64 0] 69)) wc)
  case first =>
    have hWA : Below w.heap.size w ((w.alloc (.cells #[.int .i64 0, .int .i64 0, .int .i64 0, .int .i64 0] 69)).alloc (.cells #[.int .i64 0, .int .i64 0, .int .i64 0, .int .i64 0] 69)) := hb0.alloc hs0 _
    have hxA : ((w.alloc (.cells #[.int .i64 0, .int .i64 0, .int .i64 0, .int .i64 0] 69)).alloc (.cells #[.int .i64 0, .int .i64 0, .int .i64 0, .int .i64 0] 69)).heap[w.heap.size + 1]? = some (.cells #[.int .i64 0, .int .i64 0, .int .i64 0, .int .i64 0] 69 (0, 0)) := heap_alloc2_new w _ _
    have cA0 := (h.below hWA).c0
    have cA1 := (h.below hWA).c1
    go_region_with (first
      | (go_at_call 130; refine (hlv _ (hA.below hWA).drew).mono ?_; rintro e w1 ⟨rfl, hbx⟩; have hb1 := hWA.trans ((below_drew hbx).mono hWA.size); have hX1 := ((below_drew hbx).block (w.heap.size + 1) (by simp)).trans hxA; have hc0 := Lib.cell_of_heap hX1 0; have hc1 := Lib.cell_of_heap hX1 1; have hc2 := Lib.cell_of_heap hX1 2; have hc3 := Lib.cell_of_heap hX1 3; have hz0 := Lib.frozen_of_heap hX1 0; have hz1 := Lib.frozen_of_heap hX1 1; have hz2 := Lib.frozen_of_heap hX1 2; have hz3 := Lib.frozen_of_heap hX1 3)
      | (go_at_call 130; refine (hlv _ hA0.drew).mono ?_; rintro e w1 ⟨rfl, hbx⟩; have hb1 := hb0.trans ((below_drew hbx).mono hb0.size)))
    all_goals
      go_wp2_with fail
      go_meet
      case rel =>
        first
        | exact ⟨_, rfl, rfl, heap_alloc_new w1 _, by have := (below_drew hbx).size; simp at this; omega, ((below_drew hbx).mono (by simp)).alloc (by have := (below_drew hbx).size; simp at this; omega) _⟩
        | exact ⟨_, rfl, rfl, Go.Joins.block_setCell (Go.Joins.block_setCell (Go.Joins.block_setCell (Go.Joins.block_setCell hX1 _) _) _) _, Nat.le_refl _, (((((((Below.refl _ _).alloc (by simp) _).trans ((below_drew hbx).mono (by simp))).setCell (p := ⟨w.heap.size + 1, 0, none⟩) (Nat.le_refl _) _).setCell (p := ⟨w.heap.size + 1, 1, none⟩) (Nat.le_refl _) _).setCell (p := ⟨w.heap.size + 1, 2, none⟩) (Nat.le_refl _) _).setCell (p := ⟨w.heap.size + 1, 3, none⟩) (Nat.le_refl _) _)⟩
  case rest =>
  obtain ⟨p, rfl, rfl, hp, hpl, hbc⟩ := hcut
  have bc : Below w.heap.size w wc := hb0.trans (hbc.mono (by omega))
  have h1 := h.below bc
  have hlt := h.lt
  have hplt : p < wc.heap.size := (Array.getElem?_eq_some_iff.1 hp).1
  have hr1 := (hbc.block w.heap.size (by omega)).trans hX0
  have hr1l : w.heap.size < wc.heap.size := (Array.getElem?_eq_some_iff.1 hr1).1
  clear c0 c1 c2 hlv hX0 hb0 hA0 h0 hs0
  go_wp2_with fail
  refine (keep_zero hb b t v _ h1).mono ?_
  rintro e w2 ⟨rfl, h2, g2, h24⟩
  have hp2 := (g2.block p hplt (by simp; omega)).trans hp
  have k0 := Lib.cell_of_heap hp2 0
  have k1 := Lib.cell_of_heap hp2 1
  have k2 := Lib.cell_of_heap hp2 2
  have k3 := Lib.cell_of_heap hp2 3
  have hr2 := (g2.block w.heap.size hr1l (by simp; omega)).trans hr1
  have j0 : w2.cell? ⟨w.heap.size, 0, none⟩ = some (.int .i64 0) := Lib.cell_of_heap hr2 0
  have j1 : w2.cell? ⟨w.heap.size, 1, none⟩ = some (.int .i64 0) := Lib.cell_of_heap hr2 1
  have j2 : w2.cell? ⟨w.heap.size, 2, none⟩ = some (.int .i64 0) := Lib.cell_of_heap hr2 2
  have j3 : w2.cell? ⟨w.heap.size, 3, none⟩ = some (.int .i64 0) := Lib.cell_of_heap hr2 3
  have z0 := Lib.frozen_of_heap hr2 0
  have z1 := Lib.frozen_of_heap hr2 1
  have z2 := Lib.frozen_of_heap hr2 2
  have z3 := Lib.frozen_of_heap hr2 3
  go_wp2_with fail
  have hR : ((((w2.setCell ⟨w.heap.size, 0, none⟩ (.int .i64 x.p0)).setCell ⟨w.heap.size, 1, none⟩ (.int .i64 x.p1)).setCell ⟨w.heap.size, 2, none⟩ (.int .i64 x.p2)).setCell ⟨w.heap.size, 3, none⟩ (.int .i64 x.p3)).heap[w.heap.size]? = some (.cells #[.int .i64 x.p0, .int .i64 x.p1, .int .i64 x.p2, .int .i64 x.p3] 69 (0, 0)) := Go.Joins.block_setCell (Go.Joins.block_setCell (Go.Joins.block_setCell (Go.Joins.block_setCell hr2 _) _) _) _
  have hlr : w.heap.size < w2.heap.size := (Array.getElem?_eq_some_iff.1 hr2).1
  have gg := grown_tr (grown_bl bc (some hb)) g2
  have ho : ∀ k, k ≠ w.heap.size → ((((w2.setCell ⟨w.heap.size, 0, none⟩ (.int .i64 x.p0)).setCell ⟨w.heap.size, 1, none⟩ (.int .i64 x.p1)).setCell ⟨w.heap.size, 2, none⟩ (.int .i64 x.p2)).setCell ⟨w.heap.size, 3, none⟩ (.int .i64 x.p3)).heap[k]? = w2.heap[k]? := fun k hk => by
    rw [Below.heap_setCell _ _ _ _ hk, Below.heap_setCell _ _ _ _ hk, Below.heap_setCell _ _ _ _ hk, Below.heap_setCell _ _ _ _ hk]
  refine bodyPost_ret (v := .agg #[.int .i64 x.p0, .int .i64 x.p1, .int .i64 x.p2, .int .i64 x.p3]) ?_ rfl ⟨rfl, ?_, ?_, ?_⟩
  · simp [results, Tryz.results104, go_sem, Lib.cell_of_heap hR]
  · exact h2.go (ho hb (by omega))
  · exact ⟨gg.os, gg.tape, gg.output, by simpa [World.setCell] using gg.size, fun k hk hn => (ho k (by omega)).trans (gg.block k hk hn)⟩
  · exact (World.cell?_of_block (ho hb (by omega))).trans (h24.trans (World.cell?_of_block (bc.block hb hlt)))
end Go.Proofs.YtgipjplifndniaaGreatDoor.A

namespace Go.Proofs.YtgipjplifndniaaGreatDoor.A
open Go.RowKit Go.Maps Go.ChangeMaps Go.WideElems

set_option maxRecDepth 20000 in
set_option maxHeartbeats 4000000 in
theorem handLevel_ok (hb b n t : Nat) (root least most l : Int) (v : Value) (F : Nat → Prop) (A : Ar) (w : World) (h : HandAt w hb b t 0 v) (hA : ArAt w b F n A) (_hF : ¬ F hb) (ht : t < 64) (hm : ∀ x ∈ A.ths, x.mask < 18446744073709551616) (hr : Fits root) (hl : levelF A.ths t root = some l) (hlo : least ≤ l) (hhi : l ≤ most) :
    Calls Tryz.prog 103 #[.pointer (some ⟨hb, 0, none⟩), .int .i64 root, .int .i64 least, .int .i64 most] w fun x w' => x = .returned (.int .i64 l) ∧ HandAt w' hb b t 0 v ∧ w.grownBy w' (some hb) ∧ w'.cell? ⟨hb, 4, none⟩ = w.cell? ⟨hb, 4, none⟩ := by
  obtain ⟨r, D, hA⟩ := hA
  have c0 := h.c0
  have c1 := h.c1
  have hlv := fun W (hW : ArRaw W b F n A r D) => Level_any b 0 t root r A.ths W hW.raw hW.ths ht hm hr
  rw [hl] at hlv
  simp only [lack, Option.getD_some] at hlv
  go_enter Tryz.func103, Tryz.ntmps103
  go_wp2_with fail
  go_cut [9, 10] from 9 to 23 (fun s9 s10 wc => s9 = .int .i64 l ∧ s10 = .int .i64 0 ∧ Below w.heap.size w wc)
  case first =>
    go_region_held3 (fun w' => w'.cell? ⟨hb, 0, none⟩ = some (.pointer (some ⟨b, 0, none⟩)) ∧ w'.cell? ⟨hb, 1, none⟩ = some (.int .i64 t)) (first | exact ⟨c0, c1⟩ | go_keep | exact ⟨(h.below hb1).c0, (h.below hb1).c1⟩) ((go_at_call 108; refine (hlv _ (hA.drew)).mono ?_; rintro e w1 ⟨rfl, hb0⟩; have hb1 := below_drew hb0))
    all_goals
      go_wp2_with fail
      go_meet
      case rel => exact ⟨rfl, rfl, hb1⟩
  case rest =>
  obtain ⟨rfl, rfl, hbc⟩ := hcut
  have h1 := h.below hbc
  clear c0 c1 hlv
  go_wp2_with fail
  refine (keep_zero hb b t v _ h1).mono ?_
  rintro x w2 ⟨rfl, h2, g2, h24⟩
  have g12 := grown_tr (grown_bl hbc (some hb)) g2
  have hlo' : ¬ l < least := by omega
  have hhi' : ¬ most < l := by omega
  go_wp2_with fail
  go_ret
  exact ⟨rfl, h2, g12, h24.trans (World.cell?_of_block (hbc.block hb h.lt))⟩

end Go.Proofs.YtgipjplifndniaaGreatDoor.A

namespace Go.Proofs.YtgipjplifndniaaGreatDoor.A
open Go.RowKit Go.Lib Go.Sort

set_option maxHeartbeats 1000000 in
theorem same_nil (w : World) : Calls Tryz.prog 10 #[.slice none 0 0, .slice none 0 0] w fun e w' => e = .returned (.bool true) ∧ w' = w := by
  go_enter Tryz.func10, Tryz.ntmps10
  go_wp2
  refine wp_loop_rounds 1 ?_
  rw [rounds_succ]
  go_wp2
  go_ret
  exact ⟨rfl, rfl⟩

set_option maxHeartbeats 1000000 in
theorem same_some (b off c b' off' c' : Nat) (zs : List (Int × Int)) (w : World) (hn : zs.length ≤ 9223372036854775807) (h : HoldsR w b off zs) (h' : HoldsR w b' off' zs) :
    Calls Tryz.prog 10 #[.slice (some ⟨b, off, none⟩) zs.length c, .slice (some ⟨b', off', none⟩) zs.length c'] w fun e w' => e = .returned (.bool true) ∧ ∃ q, w' = w.drewN q := by
  have HA : Hid (HoldsR w b off zs) := h
  have HB : Hid (HoldsR w b' off' zs) := h'
  clear h h'
  generalize hl : zs.length = n at *
  have HL : Hid (zs.length = n) := hl
  clear hl
  go_enter Tryz.func10, Tryz.ntmps10
  go_wp2
  go_loopg [5] n (fun g s wr => ∃ k q : Nat, k + g = n ∧ s = .int .i64 k ∧ wr = w.drewN q)
  case atStart => exact ⟨0, 0, by omega, rfl, rfl⟩
  case round =>
    obtain ⟨k, q, hk, rfl, rfl⟩ := hrel
    have HK : Hid (k + gk = n) := hk
    have hkn : k ≤ n := by omega
    clear hk
    by_cases hlt : k < n
    · obtain ⟨c0, c1⟩ := HA.out k (by rw [HL.out]; exact hlt)
      obtain ⟨d0, d1⟩ := HB.out k (by rw [HL.out]; exact hlt)
      generalize zs[k]! = x at c0 c1 d0 d1
      have hi1 : (0 : Int) ≤ (k : Int) := by omega
      have hi2 : (k : Int) < (n : Int) := by omega
      have hne : ∀ w, (binOp .neq 50 (.agg #[.int .i64 x.1, .int .i64 x.2]) (.agg #[.int .i64 x.1, .int .i64 x.2])).run Tryz.prog w = .ok (.bool false) w := fun w => by rw [neP_run]; simp
      go_wp2
      go_region
      go_wp2
      go_roundg (gk - 1)
      case measure => have := HK.out; omega
      case rel => have := HK.out; exact ⟨k + 1, q + 1, by omega, by go_num, rfl⟩
    · go_wp2
      go_ret
      exact ⟨rfl, q, rfl⟩

theorem below_drewN (w : World) (q : Nat) : Below w.heap.size w (w.drewN q) := ⟨rfl, rfl, rfl, Nat.le_refl _, fun _ _ => rfl⟩

theorem same_any (v u : Value) (zs : List (Int × Int)) (w : World) (h : Row w v zs) (h' : Row w u zs) : Calls Tryz.prog 10 #[v, u] w fun e w' => e = .returned (.bool true) ∧ Below w.heap.size w w' := by
  rcases h with ⟨rfl, rfl⟩ | ⟨hz, b, off, c, rfl, _, hl, hm, hh⟩
  · rcases h' with ⟨_, rfl⟩ | ⟨hz, _⟩
    · exact (same_nil w).mono fun e w' ⟨he, hw⟩ => ⟨he, by rw [hw]; exact Below.refl _ _⟩
    · exact absurd rfl hz
  · rcases h' with ⟨e, _⟩ | ⟨_, b', off', c', rfl, _, _, _, hh'⟩
    · exact absurd e hz
    · unfold maxLen at hm
      exact (same_some b off c b' off' c' zs w (by omega) hh hh').mono fun e w' ⟨he, q, hw⟩ => ⟨he, by rw [hw]; exact below_drewN w q⟩
end Go.Proofs.YtgipjplifndniaaGreatDoor.A

namespace Go.Proofs.YtgipjplifndniaaGreatDoor
open Go.ChangeShapes Go.WideShapes Go.ChangeAt Go.RowKit Go.Joins

theorem open_cellrow {H : Type} {enc : TypeId × Value → H} {W : World} {v : Value} {d : DataW H} {ps : List MemPlace} {ts : List TypeId} {ds : List (DataW H)} (j : Nat)
    (hs : (DataW.weightsEach Tryz.prog ts ds).all (· ≤ reachBytes) = true) (hj : ts[j]? = some 22) (hd : ds[j]? = some d)
    (h : DataW.Trod enc Tryz.prog W 0 (fun _ => true) true 22 v d ps) (hlt : ∀ x ∈ ps, x.block < W.heap.size) (hv : ∃ a len cap, v = .slice a len cap) :
    ∃ zs : List (Int × Int), RRow W v zs := by
  obtain ⟨n, X, Y, ⟨a, c, hv, hc, hm, ha, hp⟩, hn, hf⟩ := open_row j hs hj hd h hlt hv
  refine ⟨zip2 n X Y, a, c, by rw [zip2_length]; exact hv, by rw [zip2_length]; exact hc, hm, ha, ?_⟩
  rw [zip2_length]
  rcases hp with hp | ⟨b, off, e, hb, hp⟩
  · exact Or.inl hp
  · refine Or.inr ⟨b, off, e, hb, fun i hi => ?_⟩
    simp only [zip2_get n X Y i hi]
    exact hp i hi
section
variable {H : Type} {enc : TypeId × Value → H} {P : Program} {w : World} {base : Nat} {spare : Nat → Bool} {held : Bool}
end
end Go.Proofs.YtgipjplifndniaaGreatDoor
