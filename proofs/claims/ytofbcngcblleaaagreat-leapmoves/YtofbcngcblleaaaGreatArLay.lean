/- lay: a new thing where no number is free. -/
import Derived.Test.YtofbcngcblleaaaGreatProg
import Derived.ProofKit
import Derived.Lib.SmallJoins
import Derived.Deep.RegionHeld3
import Derived.Laws.OwnMore
import Derived.Laws.BitsAllLaws
import Derived.BigQuiet
import Derived.RegionTactic
import Derived.Lib.Builder
import Derived.WalkSpells
import Derived.Laws.CopyOwn
import Derived.Deep.MidRow
import Derived.Maps.OwnSet
import Derived.Deep.CutRange
import Derived.Deep.RegionLaw
import Derived.Deep.LoopGhost
import Derived.Deep.AppendLies
namespace Go.Proofs.YtofbcngcblleaaaGreat.A
open Go.RowKit

/-- a tenant's bit -/
def bitN (t : Nat) : Nat := 2 ^ t
theorem bitN_lt (t : Nat) (h : t < 64) : bitN t < 18446744073709551616 := by
  have : (2 : Nat) ^ t < 2 ^ 64 := Nat.pow_lt_pow_right (by omega) h
  unfold bitN
  simpa using this
theorem wrap_bit (t : Nat) (h : t < 64) : IntKind.u64.wrap (2 ^ t) = (bitN t : Int) := by
  have h1 := bitN_lt t h
  rw [IntKind.wrap_u64]
  have e : (2 : Int) ^ t = (bitN t : Int) := by simp [bitN]
  rw [e]
  omega
theorem ret_i {k : IntKind} {a b : Int} (h : a = b) : Ending.returned (.int k a) = .returned (.int k b) := by rw [h]

theorem bit_any (t : Nat) (w : World) (h : t < 64) : Calls Tryz.prog 103 #[.int .i64 t] w fun e w' => e = .returned (.int .u64 (bitN t : Int)) ∧ w' = w := by
  go_enter Tryz.func103, Tryz.ntmps103
  go_wp2
  go_ret
  exact ⟨ret_i (wrap_bit t h), rfl⟩

/-- a thing: its kind, its four parts, its level, its value, its mask -/
structure Th where
  k : Int
  p0 : Int
  p1 : Int
  p2 : Int
  p3 : Int
  lv : Int
  va : Int
  mask : Nat
/-- a thing's cells -/
def Th.cells (x : Th) : List Value := [.int .i64 x.k, .int .i64 x.p0, .int .i64 x.p1, .int .i64 x.p2, .int .i64 x.p3, .int .i64 x.lv, .int .i64 x.va, .int .u64 x.mask]
/-- a thing's value -/
def Th.val (x : Th) : Value := .agg #[.int .i64 x.k, .int .i64 x.p0, .int .i64 x.p1, .int .i64 x.p2, .int .i64 x.p3, .int .i64 x.lv, .int .i64 x.va, .int .u64 x.mask]

theorem and_bit (m t : Nat) (hm : m < 18446744073709551616) (h : t < 64) : (bits .and .u64 (m : Int) (bitN t : Int) != 0) = m.testBit t := by
  rw [u64_and_nat m (bitN t) hm (bitN_lt t h)]
  unfold bitN
  rw [nat_bit, Nat.testBit_eq_decide_div_mod_eq]
  have hp : 0 < 2 ^ t := Nat.two_pow_pos t
  rcases Nat.mod_two_eq_zero_or_one (m / 2 ^ t) with e | e
  · rw [e]; simp
  · rw [e, Nat.one_mul]
    generalize 2 ^ t = z at *
    simp
    omega

set_option maxHeartbeats 1000000 in
theorem isOwn_any (x : Th) (t : Nat) (w : World) (hm : x.mask < 18446744073709551616) (h : t < 64) : Calls Tryz.prog 91 #[x.val, .int .i64 t] w fun e w' => e = .returned (.bool (x.mask.testBit t)) ∧ Below w.heap.size w w' := by
  have hb := fun W => bit_any t W h
  have ha := and_bit x.mask t hm h
  unfold Th.val
  go_enter Tryz.func91, Tryz.ntmps91
  go_wp2_with fail
  go_quiet ((go_at_call 103; exact Calls.quiet_of_same (hb _)))
  go_wp2
  go_ret
  refine ⟨rfl, ?_⟩
  have := (Below.refl w.heap.size w).alloc (Nat.le_refl _) (.cells #[.int .i64 x.k, .int .i64 x.p0, .int .i64 x.p1, .int .i64 x.p2, .int .i64 x.p3, .int .i64 x.lv, .int .i64 x.va, .int .u64 x.mask] 123)
  exact ⟨this.os, this.tape, this.output, this.size, this.block⟩
end Go.Proofs.YtofbcngcblleaaaGreat.A

namespace Go.Proofs.YtofbcngcblleaaaGreat.A
open Go.RowKit

/-- a tenant's three cells -/
structure Tn where
  lim : Int
  cnt : Int
  fr : Value
/-- what an arena's block holds -/
structure Raw where
  room : Int
  vth : Value
  mp : Nat
  vfr : Value
  tn : Nat → Tn
def Raw.cell (r : Raw) (i : Nat) : Value :=
  if i = 0 then .int .i64 r.room else if i = 1 then r.vth else if i = 2 then .map (some r.mp) else if i = 3 then r.vfr else
  if (i - 4) % 3 = 0 then .int .i64 (r.tn ((i - 4) / 3)).lim else if (i - 4) % 3 = 1 then .int .i64 (r.tn ((i - 4) / 3)).cnt else (r.tn ((i - 4) / 3)).fr
def RawAt (w : World) (b : Nat) (r : Raw) : Prop := ∃ C, w.heap[b]? = some (.cells C 99 (0, 0)) ∧ C.size = 196 ∧ ∀ i, i < 196 → C[i]? = some (r.cell i)
theorem RawAt.lt {w : World} {b : Nat} {r : Raw} (h : RawAt w b r) : b < w.heap.size := by
  obtain ⟨C, h1, _⟩ := h
  exact (Array.getElem?_eq_some_iff.1 h1).1
theorem RawAt.at {w : World} {b : Nat} {r : Raw} (h : RawAt w b r) (i : Nat) (hi : i < 196) : w.cell? ⟨b, i, none⟩ = some (r.cell i) := by
  obtain ⟨C, h1, h2, h3⟩ := h
  rw [Lib.cell_of_heap h1]
  exact h3 i hi
theorem RawAt.frozen {w : World} {b : Nat} {r : Raw} (h : RawAt w b r) (i : Nat) : w.frozen? ⟨b, i, none⟩ = false := by
  obtain ⟨C, h1, h2, h3⟩ := h
  exact Lib.frozen_of_heap h1 i
theorem RawAt.go {w w' : World} {b : Nat} {r : Raw} (h : RawAt w b r) (hb : w'.heap[b]? = w.heap[b]?) : RawAt w' b r := by
  obtain ⟨C, h1, h2⟩ := h
  exact ⟨C, hb.trans h1, h2⟩
theorem RawAt.set {w : World} {b : Nat} {r r' : Raw} (h : RawAt w b r) (i : Nat) (v : Value) (hr : ∀ j, j < 196 → r'.cell j = if j = i then v else r.cell j) : RawAt (w.setCell ⟨b, i, none⟩ v) b r' := by
  obtain ⟨C, h1, h2, h3⟩ := h
  refine ⟨C.setIfInBounds i v, Go.Joins.block_setCell h1 v, by simpa using h2, fun j hj => ?_⟩
  rw [hr j hj, Array.getElem?_setIfInBounds]
  by_cases e : i = j
  · subst e; simp [h2, hj]
  · rw [if_neg e, if_neg (fun k => e k.symm)]; exact h3 j hj
theorem Raw.c0 (r : Raw) : r.cell 0 = .int .i64 r.room := rfl
theorem Raw.c1 (r : Raw) : r.cell 1 = r.vth := rfl
theorem Raw.c2 (r : Raw) : r.cell 2 = .map (some r.mp) := rfl
theorem Raw.c3 (r : Raw) : r.cell 3 = r.vfr := rfl
theorem Raw.cl (r : Raw) (t : Nat) : r.cell (4 + t * 3) = .int .i64 (r.tn t).lim := by
  unfold Raw.cell
  rw [if_neg (by omega), if_neg (by omega), if_neg (by omega), if_neg (by omega), if_pos (by omega), show (4 + t * 3 - 4) / 3 = t by omega]
theorem Raw.cc (r : Raw) (t : Nat) : r.cell (4 + t * 3 + 1) = .int .i64 (r.tn t).cnt := by
  unfold Raw.cell
  rw [if_neg (by omega), if_neg (by omega), if_neg (by omega), if_neg (by omega), if_neg (by omega), if_pos (by omega), show (4 + t * 3 + 1 - 4) / 3 = t by omega]
theorem Raw.cf (r : Raw) (t : Nat) : r.cell (4 + t * 3 + 2) = (r.tn t).fr := by
  unfold Raw.cell
  rw [if_neg (by omega), if_neg (by omega), if_neg (by omega), if_neg (by omega), if_neg (by omega), if_neg (by omega), show (4 + t * 3 + 2 - 4) / 3 = t by omega]

theorem isTenant_any (t : Int) (w : World) : Calls Tryz.prog 54 #[.int .i64 t] w fun e w' => e = .returned (.bool (decide (0 ≤ t ∧ t < 64))) ∧ w' = w := by
  by_cases h : 0 ≤ t
  · go_enter Tryz.func54, Tryz.ntmps54
    go_wp2
    go_ret
    refine ⟨?_, rfl⟩
    simp [h]
  · go_enter Tryz.func54, Tryz.ntmps54
    go_wp2
    go_ret
    refine ⟨?_, rfl⟩
    simp
    omega
theorem tenant_yes (t : Nat) (ht : t < 64) (w : World) : Calls Tryz.prog 54 #[.int .i64 t] w fun e w' => e = .returned (.bool true) ∧ w' = w := by
  have h := isTenant_any t w
  rw [show decide ((0 : Int) ≤ (t : Int) ∧ (t : Int) < 64) = true by simp; omega] at h
  exact h
set_option maxHeartbeats 1000000 in
theorem count_any (b : Nat) (r : Raw) (t : Nat) (w : World) (h : RawAt w b r) (ht : t < 64) : Calls Tryz.prog 25 #[.pointer (some ⟨b, 0, none⟩), .int .i64 t] w fun e w' => e = .returned (.int .i64 (r.tn t).cnt) ∧ w' = w := by
  have hc := h.at (4 + t * 3 + 1) (by omega)
  rw [Raw.cc] at hc
  have hi := fun W => tenant_yes t ht W
  have h0 : (0 : Int) ≤ t := by omega
  have h1 : (t : Int) < 64 := by omega
  go_enter Tryz.func25, Tryz.ntmps25
  go_wp2_with fail
  refine (hi _).mono ?_
  rintro e w1 ⟨rfl, rfl⟩
  go_wp2_with fail
  go_ret
  exact ⟨rfl, rfl⟩

/-- how many there are: a slice of things, a slice of free numbers -/
theorem live_any (b n m : Nat) (r : Raw) (w : World) (h : RawAt w b r) (hv : ∃ a c, r.vth = .slice a n c) (hf : ∃ a c, r.vfr = .slice a m c) (hn : n < 4611686018427387904) (hm : m < 4611686018427387904) :
    Calls Tryz.prog 92 #[.pointer (some ⟨b, 0, none⟩)] w fun e w' => e = .returned (.int .i64 ((n : Int) - m)) ∧ ∃ q, w' = w.drewN q := by
  have c1 := h.at 1 (by omega)
  have c3 := h.at 3 (by omega)
  obtain ⟨a, c, hv⟩ := hv
  obtain ⟨a', c', hf⟩ := hf
  rw [Raw.c1, hv] at c1
  rw [Raw.c3, hf] at c3
  go_enter Tryz.func92, Tryz.ntmps92
  go_wp2_with fail
  go_quiet (fail)
  go_wp2_with fail
  go_ret
  exact ⟨rfl, _, rfl⟩

/-- a tenant's three cells turned -/
def Raw.turn (r : Raw) (t : Nat) (x : Tn) : Raw := { r with tn := fun u => if u = t then x else r.tn u }
theorem Raw.turn_cell (r : Raw) (t : Nat) (x : Tn) (j : Nat) : (r.turn t x).cell j = if j = 4 + t * 3 then .int .i64 x.lim else if j = 4 + t * 3 + 1 then .int .i64 x.cnt else if j = 4 + t * 3 + 2 then x.fr else r.cell j := by
  by_cases h4 : j < 4
  · rw [if_neg (by omega), if_neg (by omega), if_neg (by omega)]
    unfold Raw.cell
    match j, h4 with
    | 0, _ => rfl
    | 1, _ => rfl
    | 2, _ => rfl
    | 3, _ => rfl
  · unfold Raw.cell Raw.turn
    simp only
    rw [if_neg (by omega), if_neg (by omega), if_neg (by omega), if_neg (by omega), if_neg (show ¬ j = 0 by omega), if_neg (show ¬ j = 1 by omega), if_neg (show ¬ j = 2 by omega), if_neg (show ¬ j = 3 by omega)]
    by_cases e : (j - 4) / 3 = t
    · rw [if_pos e]
      have : j = 4 + t * 3 ∨ j = 4 + t * 3 + 1 ∨ j = 4 + t * 3 + 2 := by omega
      rcases this with h | h | h
      · rw [if_pos (show (j - 4) % 3 = 0 by omega), if_pos h]
      · rw [if_neg (show ¬ (j - 4) % 3 = 0 by omega), if_pos (show (j - 4) % 3 = 1 by omega), if_neg (by omega), if_pos h]
      · rw [if_neg (show ¬ (j - 4) % 3 = 0 by omega), if_neg (show ¬ (j - 4) % 3 = 1 by omega), if_neg (by omega), if_neg (by omega), if_pos h]
    · rw [if_neg e, if_neg (show ¬ j = 4 + t * 3 by omega), if_neg (show ¬ j = 4 + t * 3 + 1 by omega), if_neg (show ¬ j = 4 + t * 3 + 2 by omega)]
theorem RawAt.setLim {w : World} {b : Nat} {r : Raw} (h : RawAt w b r) (t : Nat) (n : Int) : RawAt (w.setCell ⟨b, 4 + t * 3, none⟩ (.int .i64 n)) b (r.turn t { r.tn t with lim := n }) :=
  h.set _ _ fun j _ => by
    rw [Raw.turn_cell]
    by_cases e : j = 4 + t * 3
    · rw [if_pos e, if_pos e]
    · rw [if_neg e, if_neg e]
      by_cases e1 : j = 4 + t * 3 + 1
      · rw [if_pos e1, e1, Raw.cc]
      · rw [if_neg e1]
        by_cases e2 : j = 4 + t * 3 + 2
        · rw [if_pos e2, e2, Raw.cf]
        · rw [if_neg e2]
theorem RawAt.setCnt {w : World} {b : Nat} {r : Raw} (h : RawAt w b r) (t : Nat) (n : Int) : RawAt (w.setCell ⟨b, 4 + t * 3 + 1, none⟩ (.int .i64 n)) b (r.turn t { r.tn t with cnt := n }) :=
  h.set _ _ fun j _ => by
    rw [Raw.turn_cell]
    by_cases e1 : j = 4 + t * 3 + 1
    · rw [if_neg (by omega), if_pos e1, if_pos e1]
    · rw [if_neg e1, if_neg e1]
      by_cases e : j = 4 + t * 3
      · rw [if_pos e, e, Raw.cl]
      · rw [if_neg e]
        by_cases e2 : j = 4 + t * 3 + 2
        · rw [if_pos e2, e2, Raw.cf]
        · rw [if_neg e2]
theorem RawAt.setFr {w : World} {b : Nat} {r : Raw} (h : RawAt w b r) (t : Nat) (v : Value) : RawAt (w.setCell ⟨b, 4 + t * 3 + 2, none⟩ v) b (r.turn t { r.tn t with fr := v }) :=
  h.set _ _ fun j _ => by
    rw [Raw.turn_cell]
    by_cases e2 : j = 4 + t * 3 + 2
    · rw [if_neg (by omega), if_neg (by omega), if_pos e2]
    · rw [if_neg e2]
      by_cases e : j = 4 + t * 3
      · rw [if_pos e, e, Raw.cl]
      · rw [if_neg e]
        by_cases e1 : j = 4 + t * 3 + 1
        · rw [if_pos e1, e1, Raw.cc]
        · rw [if_neg e1]
theorem RawAt.setTh {w : World} {b : Nat} {r : Raw} (h : RawAt w b r) (v : Value) : RawAt (w.setCell ⟨b, 1, none⟩ v) b { r with vth := v } :=
  h.set 1 v fun j _ => by
    by_cases e : j = 1
    · subst e; rfl
    · rw [if_neg e]
      unfold Raw.cell
      simp only [if_neg e]

end Go.Proofs.YtofbcngcblleaaaGreat.A

namespace Go.Proofs.YtofbcngcblleaaaGreat.A
open Go.RowKit

def thsL (l : List Th) : List Value := l.flatMap Th.cells
theorem thsL_at : ∀ (l : List Th) (i : Nat) (x : Th) (j : Nat), l[i]? = some x → j < 8 → (thsL l)[i * 8 + j]? = x.cells[j]?
  | [], i, x, j, h, _ => by simp at h
  | y :: r, 0, x, j, h, hj => by
    simp at h; subst h
    have : (thsL (y :: r)) = y.cells ++ thsL r := by simp [thsL]
    rw [this, List.getElem?_append_left (by simp [Th.cells]; omega)]
    simp
  | y :: r, i + 1, x, j, h, hj => by
    have : (thsL (y :: r)) = y.cells ++ thsL r := by simp [thsL]
    rw [this, List.getElem?_append_right (by simp [Th.cells]; omega)]
    rw [← thsL_at r i x j (by simpa using h) hj]
    congr 1
    simp [Th.cells]; omega

/-- the things' slice -/
def ThRow (w : World) (B : Nat) (v : Value) (l : List Th) : Prop := w.ownsRow B 123 8 v l.length (thsL l)
theorem ThRow.shape {w : World} {B : Nat} {v : Value} {l : List Th} (h : ThRow w B v l) : ∃ a c, v = .slice a l.length c := by
  rcases h.2 with ⟨h1, h2⟩ | ⟨g, cap, cur, h1, _⟩
  · exact ⟨none, 0, by rw [h1, h2]⟩
  · exact ⟨_, _, h1⟩
theorem ThRow.shape' {w : World} {B : Nat} {v : Value} {l : List Th} (h : ThRow w B v l) (h0 : 0 < l.length) : ∃ g c, v = .slice (some ⟨g, 0, none⟩) l.length c := by
  rcases h.2 with ⟨h1, h2⟩ | ⟨g, cap, cur, h1, _⟩
  · omega
  · exact ⟨_, _, h1⟩
theorem ThRow.cells {w : World} {B g c i : Nat} {l : List Th} {x : Th} (h : ThRow w B (.slice (some ⟨g, 0, none⟩) l.length c) l) (hi : l[i]? = some x) :
    w.cell? ⟨g, i * 8, none⟩ = some (.int .i64 x.k) ∧ w.cell? ⟨g, i * 8 + 1, none⟩ = some (.int .i64 x.p0) ∧ w.cell? ⟨g, i * 8 + 2, none⟩ = some (.int .i64 x.p1) ∧ w.cell? ⟨g, i * 8 + 3, none⟩ = some (.int .i64 x.p2) ∧ w.cell? ⟨g, i * 8 + 4, none⟩ = some (.int .i64 x.p3) ∧ w.cell? ⟨g, i * 8 + 5, none⟩ = some (.int .i64 x.lv) ∧ w.cell? ⟨g, i * 8 + 6, none⟩ = some (.int .i64 x.va) ∧ w.cell? ⟨g, i * 8 + 7, none⟩ = some (.int .u64 x.mask) := by
  have hlt : i < l.length := (List.getElem?_eq_some_iff.1 hi).1
  have key : ∀ j, j < 8 → w.cell? ⟨g, i * 8 + j, none⟩ = x.cells[j]? := fun j hj => by
    rw [h.cellAt (i * 8 + j) (by omega), thsL_at l i x j hi hj]
  exact ⟨key 0 (by omega), key 1 (by omega), key 2 (by omega), key 3 (by omega), key 4 (by omega), key 5 (by omega), key 6 (by omega), key 7 (by omega)⟩

def noTh : Th := ⟨0, 0, 0, 0, 0, 0, 0, 0⟩
/-- the thing of a number, if it is a tenant's own -/
def ownF (l : List Th) (t : Nat) (id : Int) : Option Th := if 2 ≤ id then (l[(id - 2).toNat]?).filter (fun x => x.mask.testBit t) else none

/-- eight cells of a block, set one behind the other -/
theorem set8 {w : World} {g : Nat} {T : TypeId} {fr : Nat × Nat} {a0 a1 a2 a3 a4 a5 a6 a7 : Value} (h : w.heap[g]? = some (.cells #[a0, a1, a2, a3, a4, a5, a6, a7] T fr)) (b0 b1 b2 b3 b4 b5 b6 b7 : Value) :
    ((((((((w.setCell ⟨g, 0, none⟩ b0).setCell ⟨g, 1, none⟩ b1).setCell ⟨g, 2, none⟩ b2).setCell ⟨g, 3, none⟩ b3).setCell ⟨g, 4, none⟩ b4).setCell ⟨g, 5, none⟩ b5).setCell ⟨g, 6, none⟩ b6).setCell ⟨g, 7, none⟩ b7).heap[g]? = some (.cells #[b0, b1, b2, b3, b4, b5, b6, b7] T fr) := by
  have h0 : (w.setCell ⟨g, 0, none⟩ b0).heap[g]? = some (.cells #[b0, a1, a2, a3, a4, a5, a6, a7] T fr) := Go.Joins.block_setCell h b0
  have h1 : ((w.setCell ⟨g, 0, none⟩ b0).setCell ⟨g, 1, none⟩ b1).heap[g]? = some (.cells #[b0, b1, a2, a3, a4, a5, a6, a7] T fr) := Go.Joins.block_setCell h0 b1
  have h2 : (((w.setCell ⟨g, 0, none⟩ b0).setCell ⟨g, 1, none⟩ b1).setCell ⟨g, 2, none⟩ b2).heap[g]? = some (.cells #[b0, b1, b2, a3, a4, a5, a6, a7] T fr) := Go.Joins.block_setCell h1 b2
  have h3 : ((((w.setCell ⟨g, 0, none⟩ b0).setCell ⟨g, 1, none⟩ b1).setCell ⟨g, 2, none⟩ b2).setCell ⟨g, 3, none⟩ b3).heap[g]? = some (.cells #[b0, b1, b2, b3, a4, a5, a6, a7] T fr) := Go.Joins.block_setCell h2 b3
  have h4 : (((((w.setCell ⟨g, 0, none⟩ b0).setCell ⟨g, 1, none⟩ b1).setCell ⟨g, 2, none⟩ b2).setCell ⟨g, 3, none⟩ b3).setCell ⟨g, 4, none⟩ b4).heap[g]? = some (.cells #[b0, b1, b2, b3, b4, a5, a6, a7] T fr) := Go.Joins.block_setCell h3 b4
  have h5 : ((((((w.setCell ⟨g, 0, none⟩ b0).setCell ⟨g, 1, none⟩ b1).setCell ⟨g, 2, none⟩ b2).setCell ⟨g, 3, none⟩ b3).setCell ⟨g, 4, none⟩ b4).setCell ⟨g, 5, none⟩ b5).heap[g]? = some (.cells #[b0, b1, b2, b3, b4, b5, a6, a7] T fr) := Go.Joins.block_setCell h4 b5
  have h6 : (((((((w.setCell ⟨g, 0, none⟩ b0).setCell ⟨g, 1, none⟩ b1).setCell ⟨g, 2, none⟩ b2).setCell ⟨g, 3, none⟩ b3).setCell ⟨g, 4, none⟩ b4).setCell ⟨g, 5, none⟩ b5).setCell ⟨g, 6, none⟩ b6).heap[g]? = some (.cells #[b0, b1, b2, b3, b4, b5, b6, a7] T fr) := Go.Joins.block_setCell h5 b6
  have h7 : ((((((((w.setCell ⟨g, 0, none⟩ b0).setCell ⟨g, 1, none⟩ b1).setCell ⟨g, 2, none⟩ b2).setCell ⟨g, 3, none⟩ b3).setCell ⟨g, 4, none⟩ b4).setCell ⟨g, 5, none⟩ b5).setCell ⟨g, 6, none⟩ b6).setCell ⟨g, 7, none⟩ b7).heap[g]? = some (.cells #[b0, b1, b2, b3, b4, b5, b6, b7] T fr) := Go.Joins.block_setCell h6 b7
  exact h7
theorem set8_below {w w0 : World} {g B : Nat} (h : Below B w0 w) (hB : B ≤ g) (b0 b1 b2 b3 b4 b5 b6 b7 : Value) :
    Below B w0 ((((((((w.setCell ⟨g, 0, none⟩ b0).setCell ⟨g, 1, none⟩ b1).setCell ⟨g, 2, none⟩ b2).setCell ⟨g, 3, none⟩ b3).setCell ⟨g, 4, none⟩ b4).setCell ⟨g, 5, none⟩ b5).setCell ⟨g, 6, none⟩ b6).setCell ⟨g, 7, none⟩ b7) :=
  (((((((h.setCell (p := ⟨g, 0, none⟩) hB b0).setCell (p := ⟨g, 1, none⟩) hB b1).setCell (p := ⟨g, 2, none⟩) hB b2).setCell (p := ⟨g, 3, none⟩) hB b3).setCell (p := ⟨g, 4, none⟩) hB b4).setCell (p := ⟨g, 5, none⟩) hB b5).setCell (p := ⟨g, 6, none⟩) hB b6).setCell (p := ⟨g, 7, none⟩) hB b7
theorem cells8 {w : World} {g : Nat} {T : TypeId} {fr : Nat × Nat} {a0 a1 a2 a3 a4 a5 a6 a7 : Value} (h : w.heap[g]? = some (.cells #[a0, a1, a2, a3, a4, a5, a6, a7] T fr)) :
    w.cell? ⟨g, 0, none⟩ = some a0 ∧ w.cell? ⟨g, 1, none⟩ = some a1 ∧ w.cell? ⟨g, 2, none⟩ = some a2 ∧ w.cell? ⟨g, 3, none⟩ = some a3 ∧ w.cell? ⟨g, 4, none⟩ = some a4 ∧ w.cell? ⟨g, 5, none⟩ = some a5 ∧ w.cell? ⟨g, 6, none⟩ = some a6 ∧ w.cell? ⟨g, 7, none⟩ = some a7 :=
  ⟨Lib.cell_of_heap h 0, Lib.cell_of_heap h 1, Lib.cell_of_heap h 2, Lib.cell_of_heap h 3, Lib.cell_of_heap h 4, Lib.cell_of_heap h 5, Lib.cell_of_heap h 6, Lib.cell_of_heap h 7⟩
theorem free8 {w : World} {g : Nat} {T : TypeId} {a : Array Value} (h : w.heap[g]? = some (.cells a T (0, 0))) :
    w.frozen? ⟨g, 0, none⟩ = false ∧ w.frozen? ⟨g, 1, none⟩ = false ∧ w.frozen? ⟨g, 2, none⟩ = false ∧ w.frozen? ⟨g, 3, none⟩ = false ∧ w.frozen? ⟨g, 4, none⟩ = false ∧ w.frozen? ⟨g, 5, none⟩ = false ∧ w.frozen? ⟨g, 6, none⟩ = false ∧ w.frozen? ⟨g, 7, none⟩ = false :=
  ⟨Lib.frozen_of_heap h 0, Lib.frozen_of_heap h 1, Lib.frozen_of_heap h 2, Lib.frozen_of_heap h 3, Lib.frozen_of_heap h 4, Lib.frozen_of_heap h 5, Lib.frozen_of_heap h 6, Lib.frozen_of_heap h 7⟩
theorem filter_some {l : List Th} {i t : Nat} {x : Th} (hx : l[i]? = some x) : (l[i]?).filter (fun x => x.mask.testBit t) = if x.mask.testBit t = true then some x else none := by
  rw [hx, Option.filter_some]
set_option maxHeartbeats 2000000 in
theorem own_any (b B t : Nat) (id : Int) (r : Raw) (l : List Th) (w : World) (h : RawAt w b r) (hl : ThRow w B r.vth l) (ht : t < 64) (hm : ∀ x ∈ l, x.mask < 18446744073709551616) (hid : -9223372036854775808 ≤ id ∧ id ≤ 9223372036854775807) :
    Calls Tryz.prog 80 #[.pointer (some ⟨b, 0, none⟩), .int .i64 t, .int .i64 id] w fun e w' => e = .returned (.tuple #[((ownF l t id).getD noTh).val, .bool (ownF l t id).isSome]) ∧ Below w.heap.size w w' := by
  have hb0 : Below w.heap.size w (w.alloc (.cells #[.int .i64 0, .int .i64 0, .int .i64 0, .int .i64 0, .int .i64 0, .int .i64 0, .int .i64 0, .int .u64 0] 123)) := (Below.refl _ _).alloc (Nat.le_refl _) _
  have c1 := h.at 1 (by omega)
  rw [Raw.c1] at c1
  have hblt := h.lt
  by_cases h2 : 2 ≤ id
  · obtain ⟨i, hi⟩ := Int.eq_ofNat_of_zero_le (show 0 ≤ id - 2 by omega)
    obtain rfl : id = (i : Int) + 2 := by omega
    have HO : Hid (ownF l t ((i : Int) + 2) = (l[i]?).filter (fun x => x.mask.testBit t)) := by
      show _ = _
      unfold ownF
      rw [if_pos h2, show ((i : Int) + 2 - 2).toNat = i by omega]
    have hn2 : ¬ (i : Int) + 2 < 2 := by omega
    clear hi
    by_cases hlt : i < l.length
    · obtain ⟨g, c, hv⟩ := hl.shape' (by omega)
      rw [hv] at c1 hl
      have hx : l[i]? = some l[i] := List.getElem?_eq_getElem hlt
      obtain ⟨d0, d1, d2, d3, d4, d5, d6, d7⟩ := hl.cells hx
      have hglt := (hl.lt g rfl).2
      have hmx := hm l[i] (List.getElem_mem _)
      have hio := fun W => isOwn_any l[i] t W hmx ht
      generalize l[i] = x at *
      have HF : Hid (ownF l t ((i : Int) + 2) = if x.mask.testBit t = true then some x else none) := HO.out.trans (filter_some hx)
      have hii : (i : Int) < (l.length : Int) := by omega
      have hi0 : (0 : Int) ≤ i := by omega
      clear hx hm HO hl hlt
      generalize l.length = n at *
      go_enter Tryz.func80, Tryz.ntmps80
      go_wp2_with fail
      refine (hio _).mono ?_
      rintro e w1 ⟨rfl, hb1⟩
      have hb1' := hb0.trans (hb1.mono hb0.size)
      have e1 := cell_later hb1' c1
      have g0 := cell_later hb1' d0
      have g1 := cell_later hb1' d1
      have g2 := cell_later hb1' d2
      have g3 := cell_later hb1' d3
      have g4 := cell_later hb1' d4
      have g5 := cell_later hb1' d5
      have g6 := cell_later hb1' d6
      have g7 := cell_later hb1' d7
      have hA : w1.heap[w.heap.size]? = some (.cells #[.int .i64 0, .int .i64 0, .int .i64 0, .int .i64 0, .int .i64 0, .int .i64 0, .int .i64 0, .int .u64 0] 123 (0, 0)) := (hb1.block w.heap.size (by simp)).trans (heap_alloc_new w _)
      obtain ⟨k0, k1, k2, k3, k4, k5, k6, k7⟩ := cells8 hA
      obtain ⟨z0, z1, z2, z3, z4, z5, z6, z7⟩ := free8 hA
      cases hbit : x.mask.testBit t with
      | true =>
        rw [hbit] at HF
        go_wp2_with fail
        have hR := set8 hA (.int .i64 x.k) (.int .i64 x.p0) (.int .i64 x.p1) (.int .i64 x.p2) (.int .i64 x.p3) (.int .i64 x.lv) (.int .i64 x.va) (.int .u64 x.mask)
        refine bodyPost_ret (v := .tuple #[x.val, .bool true]) ?_ rfl ⟨?_, ?_⟩
        · simp [results, Tryz.results80, go_sem, Th.val, Lib.cell_of_heap hR]
        · rw [HF.out]; rfl
        · exact set8_below hb1' (Nat.le_refl _) _ _ _ _ _ _ _ _
      | false =>
        rw [hbit] at HF
        go_wp2_with fail
        have hR := set8 hA (.int .i64 0) (.int .i64 0) (.int .i64 0) (.int .i64 0) (.int .i64 0) (.int .i64 0) (.int .i64 0) (.int .u64 0)
        refine bodyPost_ret (v := .tuple #[noTh.val, .bool false]) ?_ rfl ⟨?_, ?_⟩
        · simp [results, Tryz.results80, go_sem, noTh, Th.val, Lib.cell_of_heap hR]
        · rw [HF.out]; rfl
        · exact set8_below hb1' (Nat.le_refl _) _ _ _ _ _ _ _ _
    · have hnlt : ¬ (i : Int) < (l.length : Int) := by omega
      obtain ⟨a, c, hv⟩ := hl.shape
      rw [hv] at c1
      have HF : Hid (ownF l t ((i : Int) + 2) = none) := by
        show _ = _
        rw [HO.out, List.getElem?_eq_none (by omega)]; rfl
      clear HO hl hlt hm
      generalize l.length = n at *
      go_enter Tryz.func80, Tryz.ntmps80
      go_wp2_with fail
      refine bodyPost_ret (v := .tuple #[noTh.val, .bool false]) ?_ rfl ⟨?_, ?_⟩
      · simp [results, Tryz.results80, go_sem, noTh, Th.val]
      · rw [HF.out]; rfl
      · exact hb0
  · have hn2 : id < 2 := by omega
    have HO : Hid (ownF l t id = none) := by
      show _ = _
      unfold ownF
      rw [if_neg h2]
    go_enter Tryz.func80, Tryz.ntmps80
    go_wp2_with fail
    refine bodyPost_ret (v := .tuple #[noTh.val, .bool false]) ?_ rfl ⟨?_, ?_⟩
    · simp [results, Tryz.results80, go_sem, noTh, Th.val]
    · rw [HO.out]; rfl
    · exact hb0
end Go.Proofs.YtofbcngcblleaaaGreat.A

namespace Go.Proofs.YtofbcngcblleaaaGreat.A
open Go.RowKit

/-- the error's number of what is not there -/
def lack {α : Type} : Option α → Int
  | some _ => 0
  | none => 6
/-- the level of a tenant's own square -/
def levelF (l : List Th) (t : Nat) (id : Int) : Option Int := if id = 0 ∨ id = 1 then some 0 else match ownF l t id with | some x => if x.k = 1 then some x.lv else none | none => none

set_option maxHeartbeats 2000000 in
theorem level_any (b B t : Nat) (id : Int) (r : Raw) (l : List Th) (w : World) (h : RawAt w b r) (hl : ThRow w B r.vth l) (ht : t < 64) (hm : ∀ x ∈ l, x.mask < 18446744073709551616) (hid : -9223372036854775808 ≤ id ∧ id ≤ 9223372036854775807) :
    Calls Tryz.prog 57 #[.pointer (some ⟨b, 0, none⟩), .int .i64 t, .int .i64 id] w fun e w' => e = .returned (.tuple #[.int .i64 ((levelF l t id).getD 0), .bool (levelF l t id).isSome]) ∧ Below w.heap.size w w' := by
  have ho := fun W hW hW' => own_any b B t id r l W hW hW' ht hm hid
  by_cases h0 : id = 0
  · subst h0
    go_enter Tryz.func57, Tryz.ntmps57
    go_wp2_with fail
    go_ret2
    exact ⟨rfl, Below.refl _ _⟩
  · by_cases h1 : id = 1
    · subst h1
      go_enter Tryz.func57, Tryz.ntmps57
      go_wp2_with fail
      go_ret2
      exact ⟨rfl, Below.refl _ _⟩
    · have e0 : (id == 0) = false := by simpa using h0
      have e1 : (id == 1) = false := by simpa using h1
      have HL : Hid (levelF l t id = match ownF l t id with | some x => if x.k = 1 then some x.lv else none | none => none) := by
        show _ = _
        unfold levelF
        rw [if_neg (by omega)]
      clear h0 h1
      go_enter Tryz.func57, Tryz.ntmps57
      go_wp2_with fail
      refine (ho _ h hl).mono ?_
      rintro e w1 ⟨rfl, hb1⟩
      cases hown : ownF l t id with
      | none =>
        rw [hown] at HL
        have HX : Hid (levelF l t id = none) := HL.out
        simp only [Option.getD_none, Option.isSome_none, noTh, Th.val]
        clear HL hown ho
        go_wp2_with fail
        go_ret2
        rw [HX.out]
        exact ⟨rfl, hb1.alloc hb1.size _⟩
      | some x =>
        rw [hown] at HL
        simp only [Option.getD_some, Option.isSome_some, Th.val]
        clear hown ho
        by_cases hk : x.k = 1
        · have HX : Hid (levelF l t id = some x.lv) := HL.out.trans (if_pos hk)
          rw [hk]
          clear HL
          go_wp2_with fail
          go_ret2
          rw [HX.out]
          exact ⟨rfl, hb1.alloc hb1.size _⟩
        · have HX : Hid (levelF l t id = none) := HL.out.trans (if_neg hk)
          have hk' : (x.k != 1) = true := by simpa using hk
          clear HL hk
          go_wp2_with fail
          go_ret2
          rw [HX.out]
          exact ⟨rfl, hb1.alloc hb1.size _⟩

set_option maxHeartbeats 2000000 in
theorem Level_any (b B t : Nat) (id : Int) (r : Raw) (l : List Th) (w : World) (h : RawAt w b r) (hl : ThRow w B r.vth l) (ht : t < 64) (hm : ∀ x ∈ l, x.mask < 18446744073709551616) (hid : -9223372036854775808 ≤ id ∧ id ≤ 9223372036854775807) :
    Calls Tryz.prog 30 #[.pointer (some ⟨b, 0, none⟩), .int .i64 t, .int .i64 id] w fun e w' => e = .returned (.tuple #[.int .i64 ((levelF l t id).getD 0), .int .i64 (lack (levelF l t id))]) ∧ Below w.heap.size w w' := by
  have ho := fun W hW hW' => level_any b B t id r l W hW hW' ht hm hid
  have hi := fun W => tenant_yes t ht W
  go_enter Tryz.func30, Tryz.ntmps30
  go_wp2_with fail
  refine (hi _).mono ?_
  rintro e w1 ⟨rfl, rfl⟩
  go_wp2_with fail
  refine (ho _ h hl).mono ?_
  rintro e w1 ⟨rfl, hb1⟩
  cases hown : levelF l t id with
  | none =>
    simp only [Option.getD_none, Option.isSome_none]
    go_wp2_with fail
    go_ret2
    rw [hown]
    exact ⟨rfl, hb1⟩
  | some n =>
    simp only [Option.getD_some, Option.isSome_some]
    go_wp2_with fail
    go_ret2
    rw [hown]
    exact ⟨rfl, hb1⟩
def kidsV (o : Option Th) : Value := match o with | some x => .agg #[.int .i64 x.p0, .int .i64 x.p1, .int .i64 x.p2, .int .i64 x.p3] | none => .agg #[.int .i64 0, .int .i64 0, .int .i64 0, .int .i64 0]
/-- a tenant's own square -/
def squareF (l : List Th) (t : Nat) (id : Int) : Option Th := (ownF l t id).filter fun x => x.k == 1

set_option maxHeartbeats 2000000 in
theorem Kids_any (b B t : Nat) (id : Int) (r : Raw) (l : List Th) (w : World) (h : RawAt w b r) (hl : ThRow w B r.vth l) (ht : t < 64) (hm : ∀ x ∈ l, x.mask < 18446744073709551616) (hid : -9223372036854775808 ≤ id ∧ id ≤ 9223372036854775807) :
    Calls Tryz.prog 73 #[.pointer (some ⟨b, 0, none⟩), .int .i64 t, .int .i64 id] w fun e w' => e = .returned (.tuple #[kidsV (squareF l t id), .int .i64 (lack (squareF l t id))]) ∧ Below w.heap.size w w' := by
  have ho := fun W hW hW' => own_any b B t id r l W hW hW' ht hm hid
  have hi := fun W => tenant_yes t ht W
  have hb0 : Below w.heap.size w (w.alloc (.cells #[.int .i64 0, .int .i64 0, .int .i64 0, .int .i64 0] 76)) := (Below.refl _ _).alloc (Nat.le_refl _) _
  go_enter Tryz.func73, Tryz.ntmps73
  go_wp2_with fail
  refine (hi _).mono ?_
  rintro e w1 ⟨rfl, rfl⟩
  go_wp2_with fail
  refine (ho _ (h.go (hb0.block _ h.lt)) (hl.alloc _)).mono ?_
  rintro e w1 ⟨rfl, hb1⟩
  have hb1' := hb0.trans (hb1.mono hb0.size)
  have hA : w1.heap[w.heap.size]? = some (.cells #[.int .i64 0, .int .i64 0, .int .i64 0, .int .i64 0] 76 (0, 0)) := (hb1.block w.heap.size (by simp)).trans (heap_alloc_new w _)
  have hlt : w.heap.size < w1.heap.size := (Array.getElem?_eq_some_iff.1 hA).1
  have k0 : w1.cell? ⟨w.heap.size, 0, none⟩ = some (.int .i64 0) := Lib.cell_of_heap hA 0
  have k1 : w1.cell? ⟨w.heap.size, 1, none⟩ = some (.int .i64 0) := Lib.cell_of_heap hA 1
  have k2 : w1.cell? ⟨w.heap.size, 2, none⟩ = some (.int .i64 0) := Lib.cell_of_heap hA 2
  have k3 : w1.cell? ⟨w.heap.size, 3, none⟩ = some (.int .i64 0) := Lib.cell_of_heap hA 3
  have z0 := Lib.frozen_of_heap hA 0
  have z1 := Lib.frozen_of_heap hA 1
  have z2 := Lib.frozen_of_heap hA 2
  have z3 := Lib.frozen_of_heap hA 3
  have hset : ∀ (W : World) (c0 c1 c2 c3 : Value), W.heap[w.heap.size]? = some (.cells #[.int .i64 0, .int .i64 0, .int .i64 0, .int .i64 0] 76 (0, 0)) → ((((W.setCell ⟨w.heap.size, 0, none⟩ c0).setCell ⟨w.heap.size, 1, none⟩ c1).setCell ⟨w.heap.size, 2, none⟩ c2).setCell ⟨w.heap.size, 3, none⟩ c3).heap[w.heap.size]? = some (.cells #[c0, c1, c2, c3] 76 (0, 0)) := fun W c0 c1 c2 c3 hW =>
    Go.Joins.block_setCell (Go.Joins.block_setCell (Go.Joins.block_setCell (Go.Joins.block_setCell hW c0) c1) c2) c3
  cases hown : ownF l t id with
  | none =>
    have HX : Hid (squareF l t id = none) := by
      show _ = _
      unfold squareF
      rw [hown]; rfl
    simp only [Option.getD_none, Option.isSome_none, noTh, Th.val]
    clear hown ho
    go_wp2_with fail
    have hR := hset w1 (.int .i64 0) (.int .i64 0) (.int .i64 0) (.int .i64 0) hA
    refine bodyPost_ret (v := .tuple #[.agg #[.int .i64 0, .int .i64 0, .int .i64 0, .int .i64 0], .int .i64 6]) ?_ rfl ⟨?_, ?_⟩
    · simp [results, Tryz.results73, go_sem, Lib.cell_of_heap hR, hlt]
    · rw [HX.out]; rfl
    · exact ((((hb1'.setCell (p := ⟨w.heap.size, 0, none⟩) (Nat.le_refl _) _).setCell (p := ⟨w.heap.size, 1, none⟩) (Nat.le_refl _) _).setCell (p := ⟨w.heap.size, 2, none⟩) (Nat.le_refl _) _).setCell (p := ⟨w.heap.size, 3, none⟩) (Nat.le_refl _) _).alloc (by simpa [World.setCell] using hb1'.size) _
  | some x =>
    simp only [Option.getD_some, Option.isSome_some, Th.val]
    clear ho
    by_cases hk : x.k = 1
    · have HX : Hid (squareF l t id = some x) := by
        show _ = _
        unfold squareF
        rw [hown, Option.filter_some, if_pos (by simpa using hk)]
      rw [hk]
      clear hown
      go_wp2_with fail
      have hR := hset w1 (.int .i64 x.p0) (.int .i64 x.p1) (.int .i64 x.p2) (.int .i64 x.p3) hA
      refine bodyPost_ret (v := .tuple #[.agg #[.int .i64 x.p0, .int .i64 x.p1, .int .i64 x.p2, .int .i64 x.p3], .int .i64 0]) ?_ rfl ⟨?_, ?_⟩
      · simp [results, Tryz.results73, go_sem, Lib.cell_of_heap hR, hlt]
      · rw [HX.out]; rfl
      · exact ((((hb1'.setCell (p := ⟨w.heap.size, 0, none⟩) (Nat.le_refl _) _).setCell (p := ⟨w.heap.size, 1, none⟩) (Nat.le_refl _) _).setCell (p := ⟨w.heap.size, 2, none⟩) (Nat.le_refl _) _).setCell (p := ⟨w.heap.size, 3, none⟩) (Nat.le_refl _) _).alloc (by simpa [World.setCell] using hb1'.size) _
    · have HX : Hid (squareF l t id = none) := by
        show _ = _
        unfold squareF
        rw [hown, Option.filter_some, if_neg (by simpa using hk)]
      have hk' : (x.k != 1) = true := by simpa using hk
      clear hk hown
      go_wp2_with fail
      have hR := hset w1 (.int .i64 0) (.int .i64 0) (.int .i64 0) (.int .i64 0) hA
      refine bodyPost_ret (v := .tuple #[.agg #[.int .i64 0, .int .i64 0, .int .i64 0, .int .i64 0], .int .i64 6]) ?_ rfl ⟨?_, ?_⟩
      · simp [results, Tryz.results73, go_sem, Lib.cell_of_heap hR, hlt]
      · rw [HX.out]; rfl
      · exact ((((hb1'.setCell (p := ⟨w.heap.size, 0, none⟩) (Nat.le_refl _) _).setCell (p := ⟨w.heap.size, 1, none⟩) (Nat.le_refl _) _).setCell (p := ⟨w.heap.size, 2, none⟩) (Nat.le_refl _) _).setCell (p := ⟨w.heap.size, 3, none⟩) (Nat.le_refl _) _).alloc (by simpa [World.setCell] using hb1'.size) _
end Go.Proofs.YtofbcngcblleaaaGreat.A

namespace Go.Proofs.YtofbcngcblleaaaGreat.A
open Go.RowKit Go.Maps

theorem Tryz.laidOut : laidOutB Tryz.prog = true := by kernel_rfl
theorem Tryz.row112 : (120 : TypeId) < Tryz.prog.types.size := of_decide_eq_true (by kernel_rfl)
set_option maxRecDepth 100000 in
theorem Tryz.wide112 : (match Tryz.prog.underlying 120 with | some (.array _ _) | some (.struct _) => true | _ => false) = true := by rw [Tryz.underlying120]
set_option maxRecDepth 100000 in
theorem thLaw : Keyed Tryz.prog 120 := Keyed.of_law (deep_law_laid Tryz.laidOut (m := 5) (by omega) Tryz.row112 (by kernel_rfl) Tryz.wide112)
theorem Tryz.zero3 (w : World) : (zeroValue 3).run Tryz.prog w = .ok (.int .i64 0) w := by kernel_rfl

/-- a key: kind and parts -/
structure Ky where
  k : Int
  p0 : Int
  p1 : Int
  p2 : Int
  p3 : Int
  deriving DecidableEq
def Ky.val (q : Ky) : Value := .agg #[.int .i64 q.k, .int .i64 q.p0, .int .i64 q.p1, .int .i64 q.p2, .int .i64 q.p3]
def Fits (x : Int) : Prop := -9223372036854775808 ≤ x ∧ x ≤ 9223372036854775807
structure Ky.Fit (q : Ky) : Prop where
  k : Fits q.k
  p0 : Fits q.p0
  p1 : Fits q.p1
  p2 : Fits q.p2
  p3 : Fits q.p3
theorem wf_of_fits {x : Int} (h : Fits x) : (Lit.int .i64 x).wf = true := by
  have h1 : IntKind.i64.min = -9223372036854775808 := rfl
  have h2 : IntKind.i64.max = 9223372036854775807 := rfl
  unfold Fits at h
  simp only [Lit.wf, Bool.and_eq_true, decide_eq_true_eq]
  omega
/-- what a key reads as -/
def kl (q : Ky) : Lit := .string (keyBytes [.int .i64 q.k, .int .i64 q.p0, .int .i64 q.p1, .int .i64 q.p2, .int .i64 q.p3])

theorem Tryz.keyType112 : Tryz.prog.keyType 120 = true := by kernel_rfl
theorem Tryz.someTypes : ∃ d, Tryz.prog.types.size = d + 2 := ⟨Tryz.prog.types.size - 2, by have : 1 < Tryz.prog.types.size := of_decide_eq_true (by kernel_rfl); omega⟩
theorem Tryz.cells120 : Tryz.prog.cellsOf 120 = 5 := by kernel_rfl
theorem Tryz.cells76 : Tryz.prog.cellsOf 76 = 4 := by kernel_rfl
theorem Tryz.cells3 : Tryz.prog.cellsOf 3 = 1 := by kernel_rfl
theorem keyLits_int {x : Int} (d : Nat) (h : (Lit.int .i64 x).wf = true) : Tryz.prog.keyLits (d + 1) 3 [.int .i64 x] = some [.int .i64 x] := by
  unfold Program.keyLits
  simp only [Tryz.underlying3, h, and_self, if_true]
theorem keyLits_four {a b c e : Int} (d : Nat) (h0 : (Lit.int .i64 a).wf = true) (h1 : (Lit.int .i64 b).wf = true) (h2 : (Lit.int .i64 c).wf = true) (h3 : (Lit.int .i64 e).wf = true) : Tryz.prog.keyLits (d + 1 + 1) 76 [.int .i64 a, .int .i64 b, .int .i64 c, .int .i64 e] = some [.int .i64 a, .int .i64 b, .int .i64 c, .int .i64 e] := by
  unfold Program.keyLits
  simp only [Tryz.underlying76, Tryz.cells76, Tryz.cells3]
  simp [List.range, List.range.loop, keyLits_int d h0, keyLits_int d h1, keyLits_int d h2, keyLits_int d h3]
theorem keyLits_ky {k a b c e : Int} (d : Nat) (h : (Lit.int .i64 k).wf = true) (h0 : (Lit.int .i64 a).wf = true) (h1 : (Lit.int .i64 b).wf = true) (h2 : (Lit.int .i64 c).wf = true) (h3 : (Lit.int .i64 e).wf = true) : Tryz.prog.keyLits (d + 1 + 1 + 1) 120 [.int .i64 k, .int .i64 a, .int .i64 b, .int .i64 c, .int .i64 e] = some [.int .i64 k, .int .i64 a, .int .i64 b, .int .i64 c, .int .i64 e] := by
  unfold Program.keyLits
  simp only [Tryz.underlying120, Tryz.cells120]
  simp [Tryz.cells3, Tryz.cells76, keyLits_int (d + 1) h, keyLits_four d h0 h1 h2 h3]
theorem formed_ky (q : Ky) : q.val.formed Tryz.prog 120 = true := by
  unfold Ky.val Value.formed
  rw [Tryz.underlying120]
  simp only [Tryz.cells120]
  rfl
theorem key_ky {q : Ky} (h : q.Fit) : keyOf Tryz.prog 120 q.val = some (kl q) := by
  have hl : Tryz.prog.keyLits (Tryz.prog.types.size + 1) 120 q.val.cells.toList = some [.int .i64 q.k, .int .i64 q.p0, .int .i64 q.p1, .int .i64 q.p2, .int .i64 q.p3] := by
    obtain ⟨d, hd⟩ := Tryz.someTypes
    rw [hd]
    exact keyLits_ky d (wf_of_fits h.k) (wf_of_fits h.p0) (wf_of_fits h.p1) (wf_of_fits h.p2) (wf_of_fits h.p3)
  unfold keyOf
  rw [Tryz.underlying120]
  simp only [Tryz.keyType112, formed_ky, Bool.and_self, if_true, hl]
  rfl
theorem kl_inj {p q : Ky} (hp : p.Fit) (hq : q.Fit) (h : kl p = kl q) : p = q := by
  have h1 := key_ky hp
  have h2 := key_ky hq
  rw [h] at h1
  have := thLaw.inj h1 h2
  simp only [Ky.val, Value.agg.injEq] at this
  simp at this
  obtain ⟨a, b, c, d, e⟩ := this
  cases p; cases q
  simp_all
theorem kl_key (q : Ky) : WideAt.IsKeyLit (kl q) := trivial

/-- a thing's key -/
def Th.key (x : Th) : Ky := ⟨x.k, x.p0, x.p1, x.p2, x.p3⟩
/-- where the thing of a key is -/
def spotF (l : List Th) (q : Ky) : Option Nat := l.findIdx? fun x => decide (x.key = q)
/-- its number; 0: none -/
def numF (l : List Th) (q : Ky) : Int := match spotF l q with | some i => (i : Int) + 2 | none => 0
/-- an arena's map: the number of each key that a thing has -/
def NumIs (D : DataW Unit) (l : List Th) : Prop := ∀ q : Ky, q.Fit → q.k ≠ 0 → Maps.has D (kl q) = (spotF l q).isSome ∧ D.atKey (kl q) (.lit (.int .i64 0)) = .lit (.int .i64 (numF l q))
theorem NumIs.empty : NumIs (.map []) [] := fun _ _ _ => ⟨rfl, rfl⟩
end Go.Proofs.YtofbcngcblleaaaGreat.A

namespace Go.Proofs.YtofbcngcblleaaaGreat.A
open Go.RowKit Go.Maps

/-- an arena, in plain words -/
structure Ar where
  room : Int
  ths : List Th
  free : List Int
  lim : Nat → Int
  cnt : Nat → Int
  fresh : Nat → List Int

/-- a slice of numbers of the arena's own -/
def IntRow (w : World) (v : Value) (l : List Int) : Prop := w.ownsRow 0 3 1 v l.length (l.map (Value.int .i64))
theorem IntRow.nil (w : World) : IntRow w (.slice none 0 0) [] := World.ownsRow_nil w 0 3 1
theorem IntRow.shape {w : World} {v : Value} {l : List Int} (h : IntRow w v l) : ∃ a c, v = .slice a l.length c := by
  rcases h.2 with ⟨h1, h2⟩ | ⟨g, cap, cur, h1, _⟩
  · exact ⟨none, 0, by rw [h1, h2]⟩
  · exact ⟨_, _, h1⟩
theorem row_kind {w : World} {B e s n k : Nat} {v : Value} {xs : List Value} (h : w.ownsRow B e s v n xs) (hk : v.ownBlock = some k) : ∃ c, w.heap[k]? = some (.cells c e (0, 0)) := by
  rcases h.2 with ⟨rfl, _⟩ | ⟨g, cap, cur, rfl, _, hg, _⟩
  · simp [Value.ownBlock] at hk
  · simp [Value.ownBlock] at hk
    subst hk
    exact ⟨cur, hg⟩
theorem row_other {w w' : World} {B e s n : Nat} {v : Value} {xs : List Value} (h : w.ownsRow B e s v n xs) (hb : ∀ k, v.ownBlock = some k → w'.heap[k]? = w.heap[k]?) : w'.ownsRow B e s v n xs := by
  obtain ⟨hl, h⟩ := h
  refine ⟨hl, ?_⟩
  rcases h with h | ⟨g, cap, cur, rfl, hB, hg, h⟩
  · exact Or.inl h
  · exact Or.inr ⟨g, cap, cur, rfl, hB, (hb g rfl).trans hg, h⟩
theorem map_other {w w' : World} {b n : Nat} {D : DataW Unit} (h : w.ownsMap Tryz.prog 120 (plainElem Tryz.prog 3) b n D) (hb : w'.heap[b]? = w.heap[b]?) : w'.ownsMap Tryz.prog 120 (plainElem Tryz.prog 3) b n D := by
  obtain ⟨es, clock, h1, h2⟩ := h
  exact ⟨es, clock, hb.trans h1, h2⟩

/-- an arena in its blocks: F tells which they are -/
structure ArRaw (w : World) (b : Nat) (F : Nat → Prop) (n : Nat) (A : Ar) (r : Raw) (D : DataW Unit) : Prop where
  raw : RawAt w b r
  room : r.room = A.room
  ths : ThRow w 0 r.vth A.ths
  map : w.ownsMap Tryz.prog 120 (plainElem Tryz.prog 3) r.mp n D
  num : NumIs D A.ths
  free : IntRow w r.vfr A.free
  lim : ∀ t, t < 64 → (r.tn t).lim = A.lim t
  cnt : ∀ t, t < 64 → (r.tn t).cnt = A.cnt t
  fresh : ∀ t, t < 64 → IntRow w (r.tn t).fr (A.fresh t)
  apf : ∀ t, t < 64 → ∀ k, (r.tn t).fr.ownBlock = some k → r.vfr.ownBlock ≠ some k
  apt : ∀ t u, t < 64 → u < 64 → t ≠ u → ∀ k, (r.tn t).fr.ownBlock = some k → (r.tn u).fr.ownBlock ≠ some k
  fb : F b
  fm : F r.mp
  fv : ∀ k, r.vth.ownBlock = some k → F k
  ff : ∀ k, r.vfr.ownBlock = some k → F k
  ft : ∀ t, t < 64 → ∀ k, (r.tn t).fr.ownBlock = some k → F k
  flt : ∀ k, F k → k < w.heap.size

section
variable {w w' : World} {b n : Nat} {F F' : Nat → Prop} {A : Ar} {r : Raw} {D : DataW Unit}

theorem ArRaw.other (h : ArRaw w b F n A r D) (hs : w.heap.size ≤ w'.heap.size) (hb : ∀ k, F k → w'.heap[k]? = w.heap[k]?) : ArRaw w' b F n A r D :=
  ⟨h.raw.go (hb b h.fb), h.room, row_other h.ths fun k hk => hb k (h.fv k hk), map_other h.map (hb _ h.fm), h.num, row_other h.free fun k hk => hb k (h.ff k hk), h.lim, h.cnt,
    fun t ht => row_other (h.fresh t ht) fun k hk => hb k (h.ft t ht k hk), h.apf, h.apt, h.fb, h.fm, h.fv, h.ff, h.ft, fun k hk => Nat.lt_of_lt_of_le (h.flt k hk) hs⟩
theorem ArRaw.below (h : ArRaw w b F n A r D) (hb : Below w.heap.size w w') : ArRaw w' b F n A r D := h.other hb.size fun k hk => hb.block k (h.flt k hk)
theorem ArRaw.drewN (h : ArRaw w b F n A r D) (q : Nat) : ArRaw (w.drewN q) b F n A r D := h.other (Nat.le_refl _) fun _ _ => rfl
theorem ArRaw.drew (h : ArRaw w b F n A r D) : ArRaw w.drew b F n A r D := h.other (Nat.le_refl _) fun _ _ => rfl
theorem ArRaw.wider (h : ArRaw w b F n A r D) (hF : ∀ k, F k → F' k) (hl : ∀ k, F' k → k < w.heap.size) : ArRaw w b F' n A r D :=
  ⟨h.raw, h.room, h.ths, h.map, h.num, h.free, h.lim, h.cnt, h.fresh, h.apf, h.apt, hF _ h.fb, hF _ h.fm, fun k hk => hF k (h.fv k hk), fun k hk => hF k (h.ff k hk), fun t ht k hk => hF k (h.ft t ht k hk), hl⟩

/-! ### no two of its blocks are one -/
theorem ArRaw.kb (h : ArRaw w b F n A r D) : ∃ c, w.heap[b]? = some (.cells c 99 (0, 0)) := by
  obtain ⟨C, h1, _⟩ := h.raw
  exact ⟨C, h1⟩
theorem ArRaw.km (h : ArRaw w b F n A r D) : ∃ es c, w.heap[r.mp]? = some (.map es c) := by
  obtain ⟨es, c, h1, _⟩ := h.map
  exact ⟨es, c, h1⟩
theorem ArRaw.vb (h : ArRaw w b F n A r D) : r.vth.ownBlock ≠ some b := fun e => by
  obtain ⟨c, h1⟩ := h.kb
  obtain ⟨c', h2⟩ := row_kind h.ths e
  rw [h1] at h2; simp at h2
theorem ArRaw.vm (h : ArRaw w b F n A r D) : r.vth.ownBlock ≠ some r.mp := fun e => by
  obtain ⟨es, c, h1⟩ := h.km
  obtain ⟨c', h2⟩ := row_kind h.ths e
  rw [h1] at h2; simp at h2
theorem ArRaw.vf (h : ArRaw w b F n A r D) {k : Nat} (hk : r.vth.ownBlock = some k) : r.vfr.ownBlock ≠ some k := fun e => by
  obtain ⟨c, h1⟩ := row_kind h.free e
  obtain ⟨c', h2⟩ := row_kind h.ths hk
  rw [h1] at h2; simp at h2
theorem ArRaw.vt (h : ArRaw w b F n A r D) {k t : Nat} (ht : t < 64) (hk : r.vth.ownBlock = some k) : (r.tn t).fr.ownBlock ≠ some k := fun e => by
  obtain ⟨c, h1⟩ := row_kind (h.fresh t ht) e
  obtain ⟨c', h2⟩ := row_kind h.ths hk
  rw [h1] at h2; simp at h2
theorem ArRaw.mb (h : ArRaw w b F n A r D) : r.mp ≠ b := fun e => by
  obtain ⟨c, h1⟩ := h.kb
  obtain ⟨es, c', h2⟩ := h.km
  rw [e, h1] at h2; simp at h2
theorem ArRaw.fb' (h : ArRaw w b F n A r D) : r.vfr.ownBlock ≠ some b := fun e => by
  obtain ⟨c, h1⟩ := h.kb
  obtain ⟨c', h2⟩ := row_kind h.free e
  rw [h1] at h2; simp at h2
theorem ArRaw.fm' (h : ArRaw w b F n A r D) : r.vfr.ownBlock ≠ some r.mp := fun e => by
  obtain ⟨es, c, h1⟩ := h.km
  obtain ⟨c', h2⟩ := row_kind h.free e
  rw [h1] at h2; simp at h2
theorem ArRaw.tb (h : ArRaw w b F n A r D) {t : Nat} (ht : t < 64) : (r.tn t).fr.ownBlock ≠ some b := fun e => by
  obtain ⟨c, h1⟩ := h.kb
  obtain ⟨c', h2⟩ := row_kind (h.fresh t ht) e
  rw [h1] at h2; simp at h2
theorem ArRaw.tm (h : ArRaw w b F n A r D) {t : Nat} (ht : t < 64) : (r.tn t).fr.ownBlock ≠ some r.mp := fun e => by
  obtain ⟨es, c, h1⟩ := h.km
  obtain ⟨c', h2⟩ := row_kind (h.fresh t ht) e
  rw [h1] at h2; simp at h2

/-! ### what a store makes of it -/
theorem heap_set {W : World} {g k i : Nat} {v : Value} (h : k ≠ g) : (W.setCell ⟨g, i, none⟩ v).heap[k]? = W.heap[k]? := heap_setCell_other W ⟨g, i, none⟩ k v h
theorem size_set {W : World} {a : Addr} {v : Value} : (W.setCell a v).heap.size = W.heap.size := by simp [World.setCell]

theorem thsL_set : ∀ (l : List Th) (i : Nat) (x : Th) (m : Nat), l[i]? = some x → thsL (l.set i { x with mask := m }) = (thsL l).set (i * 8 + 7) (.int .u64 m)
  | [], i, x, m, h => by simp at h
  | y :: l, 0, x, m, h => by
    simp at h; subst h
    simp [thsL, Th.cells]
  | y :: l, i + 1, x, m, h => by
    have h' : l[i]? = some x := by simpa using h
    have ih := thsL_set l i x m h'
    have e : ∀ z : List Th, thsL (y :: z) = y.cells ++ thsL z := fun z => by simp [thsL]
    rw [List.set_cons_succ, e, e, ih, List.set_append_right _ _ (by simp [Th.cells]; omega)]
    congr 2
    simp [Th.cells]; omega
theorem spot_set (l : List Th) (i : Nat) (x : Th) (m : Nat) (q : Ky) (h : l[i]? = some x) : spotF (l.set i { x with mask := m }) q = spotF l q := by
  unfold spotF
  induction l generalizing i with
  | nil => simp at h
  | cons y l ih =>
    cases i with
    | zero =>
      simp at h; subst h
      rw [List.set_cons_zero, List.findIdx?_cons, List.findIdx?_cons]
      rfl
    | succ i =>
      rw [List.set_cons_succ, List.findIdx?_cons, List.findIdx?_cons, ih i (by simpa using h)]
theorem NumIs.set {l : List Th} (h : NumIs D l) {i : Nat} {x : Th} (m : Nat) (hi : l[i]? = some x) : NumIs D (l.set i { x with mask := m }) := fun q hq hk => by
  have := h q hq hk
  unfold numF at *
  rw [spot_set l i x m q hi]
  exact this

/-- a thing's mask turned -/
theorem ArRaw.setMask (h : ArRaw w b F n A r D) {g c i : Nat} {x : Th} (hv : r.vth = .slice (some ⟨g, 0, none⟩) A.ths.length c) (hi : A.ths[i]? = some x) (m : Nat) :
    ArRaw (w.setCell ⟨g, i * 8 + 7, none⟩ (.int .u64 m)) b F n { A with ths := A.ths.set i { x with mask := m } } r D := by
  have hg : r.vth.ownBlock = some g := by rw [hv]; rfl
  have hgb : b ≠ g := fun e => h.vb (by rw [hg, e])
  have hgm : r.mp ≠ g := fun e => h.vm (by rw [hg, e])
  refine ⟨h.raw.go (heap_set hgb), h.room, ?_, map_other h.map (heap_set hgm), h.num.set m hi, row_other h.free fun k hk => heap_set fun e => h.vf hg (by rw [hk, e]), h.lim, h.cnt,
    fun t ht => row_other (h.fresh t ht) fun k hk => heap_set fun e => h.vt ht hg (by rw [hk, e]), h.apf, h.apt, h.fb, h.fm, h.fv, h.ff, h.ft, fun k hk => by rw [size_set]; exact h.flt k hk⟩
  have ht := h.ths
  rw [hv] at ht ⊢
  have := World.ownsRow.stored ht (i * 8 + 7) (.int .u64 m)
  unfold ThRow
  rw [thsL_set _ _ _ _ hi, List.length_set]
  exact this.1

/-- the arena's own block turned -/
theorem ArRaw.inBlock (h : ArRaw w b F n A r D) {i : Nat} {v : Value} {r' : Raw} {A' : Ar} (hraw : RawAt (w.setCell ⟨b, i, none⟩ v) b r') (e1 : r'.room = A'.room) (e2 : r'.vth = r.vth) (e3 : r'.mp = r.mp) (e4 : r'.vfr = r.vfr) (e5 : A'.ths = A.ths) (e6 : A'.free = A.free)
    (e7 : ∀ t, t < 64 → (r'.tn t).lim = A'.lim t) (e8 : ∀ t, t < 64 → (r'.tn t).cnt = A'.cnt t) (e9 : ∀ t, t < 64 → (r'.tn t).fr = (r.tn t).fr) (e10 : ∀ t, t < 64 → A'.fresh t = A.fresh t) : ArRaw (w.setCell ⟨b, i, none⟩ v) b F n A' r' D := by
  refine ⟨hraw, e1, ?_, ?_, by rw [e5]; exact h.num, ?_, e7, e8, fun t ht => ?_, fun t ht k hk => ?_, fun t u ht hu htu k hk => ?_, h.fb, by rw [e3]; exact h.fm, fun k hk => h.fv k (by rw [← e2]; exact hk), fun k hk => h.ff k (by rw [← e4]; exact hk), fun t ht k hk => h.ft t ht k (by rw [← e9 t ht]; exact hk), fun k hk => by rw [size_set]; exact h.flt k hk⟩
  · rw [e2, e5]; exact row_other h.ths fun k hk => heap_set fun e => h.vb (by rw [hk, e])
  · rw [e3]; exact map_other h.map (heap_set h.mb)
  · rw [e4, e6]; exact row_other h.free fun k hk => heap_set fun e => h.fb' (by rw [hk, e])
  · rw [e9 t ht, e10 t ht]; exact row_other (h.fresh t ht) fun k hk => heap_set fun e => h.tb ht (by rw [hk, e])
  · rw [e4]; rw [e9 t ht] at hk; exact h.apf t ht k hk
  · rw [e9 t ht] at hk; rw [e9 u hu]; exact h.apt t u ht hu htu k hk

def upd {α : Type} (f : Nat → α) (t : Nat) (x : α) : Nat → α := fun u => if u = t then x else f u
theorem upd_same {α : Type} (f : Nat → α) (t : Nat) (x : α) : upd f t x t = x := if_pos rfl
theorem upd_other {α : Type} (f : Nat → α) {t u : Nat} (x : α) (h : u ≠ t) : upd f t x u = f u := if_neg h

theorem turn_same (r : Raw) (t : Nat) (x : Tn) : (r.turn t x).tn t = x := if_pos rfl
theorem turn_other (r : Raw) {t u : Nat} (x : Tn) (h : u ≠ t) : (r.turn t x).tn u = r.tn u := if_neg h

theorem ArRaw.setCnt (h : ArRaw w b F n A r D) {t : Nat} (_ht : t < 64) (z : Int) : ArRaw (w.setCell ⟨b, 4 + t * 3 + 1, none⟩ (.int .i64 z)) b F n { A with cnt := upd A.cnt t z } (r.turn t { r.tn t with cnt := z }) D :=
  h.inBlock (h.raw.setCnt t z) h.room rfl rfl rfl rfl rfl
    (fun u hu => by by_cases e : u = t
                    · subst e; rw [turn_same]; exact h.lim u hu
                    · rw [turn_other _ _ e]; exact h.lim u hu)
    (fun u hu => by by_cases e : u = t
                    · subst e; rw [turn_same]; exact (upd_same A.cnt u z).symm
                    · rw [turn_other _ _ e]; exact (h.cnt u hu).trans (upd_other A.cnt z e).symm)
    (fun u _ => by by_cases e : u = t
                   · subst e; rw [turn_same]
                   · rw [turn_other _ _ e]) (fun _ _ => rfl)

/-- a tenant's list of what can be undone, turned: by a slice that lies apart -/
theorem ArRaw.setFresh (h : ArRaw w b F n A r D) {t : Nat} (_ht : t < 64) {w1 : World} {v : Value} {l : List Int} (hrow : IntRow w1 v l) (hb1 : ∀ k, F k → (r.tn t).fr.ownBlock ≠ some k → w1.heap[k]? = w.heap[k]?) (_hs : w.heap.size ≤ w1.heap.size)
    (hv : ∀ k, v.ownBlock = some k → (r.tn t).fr.ownBlock = some k ∨ w.heap.size ≤ k) (hF : ∀ k, F k → F' k) (hF' : ∀ k, v.ownBlock = some k → F' k) (hl : ∀ k, F' k → k < w1.heap.size) :
    ArRaw (w1.setCell ⟨b, 4 + t * 3 + 2, none⟩ v) b F' n { A with fresh := upd A.fresh t l } (r.turn t { r.tn t with fr := v }) D := by
  have hbb : w1.heap[b]? = w.heap[b]? := hb1 b h.fb (h.tb _ht)
  have hbv : v.ownBlock ≠ some b := fun e => by
    rcases hv b e with h1 | h1
    · exact h.tb _ht h1
    · have := h.flt b h.fb; omega
  refine ⟨(h.raw.go hbb).setFr t v, h.room, ?_, ?_, h.num, ?_, fun u hu => ?_, fun u hu => ?_, fun u hu => ?_, fun u hu k hk => ?_, fun u u' hu hu' huu k hk => ?_, hF _ h.fb, hF _ h.fm, fun k hk => hF k (h.fv k hk), fun k hk => hF k (h.ff k hk), fun u hu k hk => ?_, fun k hk => by rw [size_set]; exact hl k hk⟩
  · exact row_other (w := w) h.ths fun k hk => (heap_set fun e => h.vb (by rw [← e]; exact hk)).trans (hb1 k (h.fv k hk) (h.vt _ht hk))
  · exact map_other (w := w) h.map ((heap_set h.mb).trans (hb1 _ h.fm (h.tm _ht)))
  · exact row_other (w := w) h.free fun k hk => (heap_set fun e => h.fb' (by rw [← e]; exact hk)).trans (hb1 k (h.ff k hk) (fun e => h.apf t _ht k e hk))
  · by_cases e : u = t
    · subst e; rw [turn_same]; exact h.lim u hu
    · rw [turn_other _ _ e]; exact h.lim u hu
  · by_cases e : u = t
    · subst e; rw [turn_same]; exact h.cnt u hu
    · rw [turn_other _ _ e]; exact h.cnt u hu
  · by_cases e : u = t
    · subst e
      rw [turn_same]
      show IntRow _ v (upd A.fresh u l u)
      rw [upd_same]
      exact row_other (w := w1) hrow fun k hk => heap_set fun e => hbv (by rw [hk, e])
    · rw [turn_other _ _ e]
      show IntRow _ _ (upd A.fresh t l u)
      rw [upd_other _ _ e]
      exact row_other (w := w) (h.fresh u hu) fun k hk => (heap_set fun e' => h.tb hu (by rw [hk, e'])).trans (hb1 k (h.ft u hu k hk) (fun e' => h.apt u t hu _ht e k hk e'))
  · by_cases e : u = t
    · subst e
      rw [turn_same] at hk
      rcases hv k hk with h1 | h1
      · exact h.apf u hu k h1
      · exact fun e' => by have := h.flt k (h.ff k e'); omega
    · rw [turn_other _ _ e] at hk
      exact h.apf u hu k hk
  · by_cases e : u = t
    · subst e
      rw [turn_same] at hk
      rw [turn_other _ _ (fun e' => huu e'.symm)]
      rcases hv k hk with h1 | h1
      · exact h.apt u u' hu hu' huu k h1
      · exact fun e' => by have := h.flt k (h.ft u' hu' k e'); omega
    · rw [turn_other _ _ e] at hk
      by_cases e2 : u' = t
      · subst e2
        rw [turn_same]
        intro e'
        rcases hv k e' with h1 | h1
        · exact h.apt u u' hu hu' huu k hk h1
        · have := h.flt k (h.ft u hu k hk); omega
      · rw [turn_other _ _ e2]
        exact h.apt u u' hu hu' huu k hk
  · by_cases e : u = t
    · subst e
      rw [turn_same] at hk
      exact hF' k hk
    · rw [turn_other _ _ e] at hk
      exact hF k (h.ft u hu k hk)
end

/-- what lies outside of F, and all that was, stays as it was -/
structure Apart (F : Nat → Prop) (w w' : World) : Prop where
  os : w'.os = w.os
  tape : w'.tape = w.tape
  output : w'.output = w.output
  size : w.heap.size ≤ w'.heap.size
  block : ∀ k, k < w.heap.size → ¬ F k → w'.heap[k]? = w.heap[k]?
/-- F and all blocks made since -/
def More (F : Nat → Prop) (w w' : World) : Nat → Prop := fun k => F k ∨ w.heap.size ≤ k ∧ k < w'.heap.size
theorem Apart.refl (F : Nat → Prop) (w : World) : Apart F w w := ⟨rfl, rfl, rfl, Nat.le_refl _, fun _ _ _ => rfl⟩
theorem Apart.of {F : Nat → Prop} {w w' : World} (h : Below w.heap.size w w') : Apart F w w' := ⟨h.os, h.tape, h.output, h.size, fun k hk _ => h.block k hk⟩
theorem Apart.trans {F F' : Nat → Prop} {w w1 w2 : World} (h : Apart F w w1) (k : Apart F' w1 w2) (hF : ∀ k, F' k → More F w w1 k) : Apart F w w2 :=
  ⟨k.os.trans h.os, k.tape.trans h.tape, k.output.trans h.output, Nat.le_trans h.size k.size, fun j hj hn => (k.block j (Nat.lt_of_lt_of_le hj h.size) fun e => by
    rcases hF j e with h1 | h1
    · exact hn h1
    · omega).trans (h.block j hj hn)⟩
theorem Apart.set {F : Nat → Prop} (w : World) {g i : Nat} (v : Value) (h : F g) : Apart F w (w.setCell ⟨g, i, none⟩ v) :=
  ⟨rfl, rfl, rfl, by rw [size_set]; exact Nat.le_refl _, fun k _ hk => heap_set fun e => hk (by rw [e]; exact h)⟩
theorem Apart.drewN {F : Nat → Prop} {w w' : World} (h : Apart F w w') (q : Nat) : Apart F w (w'.drewN q) := ⟨h.os, h.tape, h.output, h.size, h.block⟩
theorem Apart.drew {F : Nat → Prop} {w w' : World} (h : Apart F w w') : Apart F w w'.drew := ⟨h.os, h.tape, h.output, h.size, h.block⟩
theorem Apart.grown {F : Nat → Prop} {w w' : World} {row : Option Nat} (h : w.grownBy w' row) (hr : ∀ k, row = some k → F k) : Apart F w w' := ⟨h.os, h.tape, h.output, h.size, fun k hk hn => h.block k hk fun e => hn (hr k e.symm)⟩
end Go.Proofs.YtofbcngcblleaaaGreat.A

namespace Go.Proofs.YtofbcngcblleaaaGreat.A
open Go.RowKit Go.Maps

theorem info_parts {P : Program} {e : TypeId} {z : Value} {size bytes : Nat} (h : (P.info? e).map (fun i => (i.zero, i.size, i.bytes)) = some (some z, size, bytes)) : ∃ i, P.info? e = some i ∧ i.zero = some z ∧ i.size = size ∧ i.bytes = bytes := by
  cases hi : P.info? e with
  | none => rw [hi] at h; simp at h
  | some i => rw [hi] at h; simp at h; exact ⟨i, rfl, h.1, h.2.1, h.2.2⟩
theorem Tryz.info3 : (Tryz.prog.info? 3).map (fun i => (i.zero, i.size, i.bytes)) = some (some (.int .i64 0), 1, 8) := by kernel_rfl
theorem Tryz.info123 : (Tryz.prog.info? 123).map (fun i => (i.zero, i.size, i.bytes)) = some (some noTh.val, 8, 64) := by kernel_rfl
theorem grown_blk {w w' : World} {row : Option Nat} {o : Obj} {k : Nat} (hg : (w.alloc o).drew.grownBy w' row) (hlt : k < w.heap.size) (hne : row ≠ some k) : w'.heap[k]? = w.heap[k]? :=
  (hg.block k (by simp; omega) (fun e => hne e.symm)).trans (by show (w.heap.push o)[k]? = _; rw [Array.getElem?_push, if_neg (by omega)])

/-- a tenant's list of what can be undone has grown by one number -/
theorem fresh_end {w wc w5 : World} {b n t g5 cap5 : Nat} {F : Nat → Prop} {A1 : Ar} {r : Raw} {D : DataW Unit} {o : Obj} {l : List Int} {id : Int} (H4 : ArRaw wc b F n A1 r D) (P4 : Apart F w wc) (_hFw : ∀ k, F k → k < w.heap.size) (ht : t < 64)
    (hgrow5 : (wc.alloc o).drew.grownBy w5 (r.tn t).fr.ownBlock) (hat5 : (r.tn t).fr.ownBlock = some g5 ∨ g5 = (wc.alloc o).drew.heap.size) (_hl : A1.fresh t = l)
    (hown5 : w5.ownsRow 0 3 1 (.slice (some ⟨g5, 0, none⟩) (l.length + 1) cap5) (l.length + 1) (l.map (Value.int .i64) ++ [.int .i64 id])) (hlt5 : g5 < w5.heap.size) :
    ArRaw (w5.setCell ⟨b, 4 + t * 3 + 2, none⟩ (.slice (some ⟨g5, 0, none⟩) (l.length + 1) cap5)) b (More F w (w5.setCell ⟨b, 4 + t * 3 + 2, none⟩ (.slice (some ⟨g5, 0, none⟩) (l.length + 1) cap5))) n { A1 with fresh := upd A1.fresh t (l ++ [id]) } (r.turn t { r.tn t with fr := .slice (some ⟨g5, 0, none⟩) (l.length + 1) cap5 }) D ∧
      Apart F w (w5.setCell ⟨b, 4 + t * 3 + 2, none⟩ (.slice (some ⟨g5, 0, none⟩) (l.length + 1) cap5)) := by
  have hsz : (wc.alloc o).drew.heap.size = wc.heap.size + 1 := by simp
  have hs5 := hgrow5.size
  have hs4 := P4.size
  rw [hsz] at hs5 hat5
  have hrow : IntRow w5 (.slice (some ⟨g5, 0, none⟩) (l.length + 1) cap5) (l ++ [id]) := by
    unfold IntRow
    rw [List.length_append, List.map_append]
    exact hown5
  refine ⟨H4.setFresh ht hrow (fun k hk hne => grown_blk hgrow5 (H4.flt k hk) hne) (by omega) (fun k hk => ?_) (fun k hk => Or.inl hk) (fun k hk => ?_) (fun k hk => ?_), ?_⟩
  · simp only [Value.ownBlock, Option.some.injEq] at hk
    subst hk
    rcases hat5 with h1 | h1
    · exact Or.inl h1
    · exact Or.inr (by omega)
  · simp only [Value.ownBlock, Option.some.injEq] at hk
    subst hk
    rcases hat5 with h1 | h1
    · exact Or.inl (H4.ft t ht _ h1)
    · exact Or.inr ⟨by omega, by rw [size_set]; exact hlt5⟩
  · rcases hk with h1 | h1
    · have := H4.flt k h1; omega
    · rw [size_set] at h1; exact h1.2
  · have a1 : Apart F wc (wc.alloc o).drew := ⟨rfl, rfl, rfl, by omega, fun k hk _ => by show (wc.heap.push o)[k]? = _; rw [Array.getElem?_push, if_neg (by omega)]⟩
    have a2 : Apart F (wc.alloc o).drew w5 := Apart.grown hgrow5 fun k hk => H4.ft t ht k hk
    have a3 : Apart F w5 (w5.setCell ⟨b, 4 + t * 3 + 2, none⟩ (.slice (some ⟨g5, 0, none⟩) (l.length + 1) cap5)) := Apart.set w5 _ H4.fb
    exact ((P4.trans a1 fun k hk => Or.inl hk).trans a2 fun k hk => Or.inl hk).trans a3 fun k hk => Or.inl hk

/-- a thing given to a tenant -/
def Ar.give (A : Ar) (t i : Nat) (x : Th) : Ar := { A with ths := A.ths.set i { x with mask := x.mask ||| bitN t }, cnt := upd A.cnt t (A.cnt t + 1), fresh := upd A.fresh t (A.fresh t ++ [(i : Int) + 2]) }

set_option maxRecDepth 20000 in
set_option maxHeartbeats 4000000 in
theorem give_any (b t i n : Nat) (F : Nat → Prop) (id : Int) (A : Ar) (r : Raw) (D : DataW Unit) (x : Th) (w : World) (h : ArRaw w b F n A r D) (hx : A.ths[i]? = some x) (hid : id = (i : Int) + 2) (ht : t < 64) (hm : x.mask < 18446744073709551616) (hn : A.ths.length < 4611686018427387904)
    (hcnt : 0 ≤ A.cnt t ∧ A.cnt t < 4611686018427387904) (hlf : (A.fresh t).length < 10000000) :
    Calls Tryz.prog 95 #[.pointer (some ⟨b, 0, none⟩), .int .i64 t, .int .i64 id] w fun e w' => e = .returned (.tuple #[]) ∧ (∃ r' D', ArRaw w' b (More F w w') n (A.give t i x) r' D') ∧ Apart F w w' := by
  have hi : i < A.ths.length := (List.getElem?_eq_some_iff.1 hx).1
  obtain ⟨g, c, hv⟩ := h.ths.shape' (by omega)
  have hth := h.ths
  rw [hv] at hth
  obtain ⟨_, _, _, _, _, _, _, hg⟩ := hth.cells hx
  have hz := hth.frozenAt (i * 8 + 7)
  have hF : F g := h.fv g (by rw [hv]; rfl)
  have hbne : b ≠ g := fun e => h.vb (by rw [hv, e]; rfl)
  have hb := fun W => bit_any t W ht
  have c1 := h.raw.at 1 (by omega)
  rw [Raw.c1, hv] at c1
  have h0 : (0 : Int) ≤ t := by omega
  have h1 : (t : Int) < 64 := by omega
  have hi0 : (0 : Int) ≤ i := by omega
  have hin : (i : Int) < (A.ths.length : Int) := by omega
  have hw : IntKind.i64.wrap (id - 2) = (i : Int) := by rw [IntKind.wrap_i64]; omega
  have hor : Hid (bits .or .u64 (x.mask : Int) (bitN t : Int) = ((x.mask ||| bitN t : Nat) : Int)) := u64_or_nat x.mask (bitN t) hm (bitN_lt t ht)
  have H1 := h.setMask hv hx (x.mask ||| bitN t)
  have HID : Hid (id = (i : Int) + 2) := hid
  have hFw := h.flt
  generalize hA1 : { A with ths := A.ths.set i { x with mask := x.mask ||| bitN t } } = A1 at H1
  generalize A.ths.length = len at *
  clear hid hth hn hi hv
  go_enter Tryz.func95, Tryz.ntmps95
  go_wp2_with fail
  go_cut [] from 6 to 19 (fun wc => ArRaw wc b F n A1 r D ∧ Apart F w wc)
  case first =>
    go_region_with (go_at_call 103; refine (hb _).mono ?_; rintro e w1 ⟨rfl, rfl⟩)
    all_goals
      go_wp2_with fail
      go_meet
      case rel =>
        rw [hor.out]
        exact ⟨H1.drew, (Apart.set w _ hF).drew⟩
  case rest =>
  obtain ⟨H2, P2⟩ := hcut
  clear c1 hg hz H1
  have cc := H2.raw.at (4 + t * 3 + 1) (by omega)
  rw [Raw.cc, H2.cnt t ht] at cc
  have e1 : A1.cnt t = A.cnt t := by rw [← hA1]
  have e2 : A1.fresh t = A.fresh t := by rw [← hA1]
  rw [e1] at cc
  have z1 := H2.raw.frozen (4 + t * 3 + 1)
  have hwc : IntKind.i64.wrap (A.cnt t + 1) = A.cnt t + 1 := by rw [IntKind.wrap_i64]; omega
  have H3 := H2.setCnt ht (A.cnt t + 1)
  go_wp2_with fail
  go_cut [] from 20 to 31 (fun wd => ArRaw wd b F n { A1 with cnt := upd A1.cnt t (A.cnt t + 1) } (r.turn t { r.tn t with cnt := A.cnt t + 1 }) D ∧ Apart F w wd)
  case first =>
    go_region
    all_goals
      go_wp2_with fail
      go_meet
      case rel =>
        exact ⟨H3.drew, (P2.trans (Apart.set wc _ H2.fb) fun k hk => Or.inl hk).drew⟩
  case rest =>
  obtain ⟨H4, P4⟩ := hcut
  clear cc z1 H3 H2 P2
  have cf := H4.raw.at (4 + t * 3 + 2) (by omega)
  rw [Raw.cf, turn_same] at cf
  have hrow := H4.fresh t ht
  rw [turn_same] at hrow
  simp only at cf hrow
  rw [e2] at hrow
  have z2 := H4.raw.frozen (4 + t * 3 + 2)
  have hbt := H4.tb ht
  rw [turn_same] at hbt
  simp only at hbt
  have hblt := H4.raw.lt
  generalize hfr : (r.tn t).fr = v at *
  obtain ⟨i0, hi, hz0, hz1, hz2⟩ := info_parts Tryz.info3
  have OW : Hid (∀ o, (wc.alloc o).drew.ownsRow 0 3 1 v (A.fresh t).length ((A.fresh t).map (Value.int .i64))) := fun o => hrow.alloc o
  go_wp2_with fail
  go_region_law (refine step_append_lies _ (by rfl) _ _ 59 (by rfl) 0 3 i0 (.int .i64 0) 1 8 Tryz.underlying59 hi hz0 hz1 hz2 rfl (by decide) v (A.fresh t).length ((A.fresh t).map (Value.int .i64)) (by rfl) (OW.out _) ⟨wc.heap.size, 0, none⟩ 1 1 [.int .i64 id] (by rfl) rfl (cell_one_new _ _ _) (by intro u hu; simp at hu; subst hu; rfl) (by omega) (by unfold maxLen; omega) (by omega) (by omega) _ rfl ?_; intro g5 cap5 w5 hown5 hgrow5 hat5 hlt5; have R5 := H4.raw.go (grown_blk hgrow5 hblt hbt); have q4 := R5.at (4 + t * 3 + 2) (by omega); rw [Raw.cf, turn_same] at q4; have q5 := R5.frozen (4 + t * 3 + 2))
  all_goals
    go_wp2_with fail
    go_end0
    have hE := fresh_end H4 P4 (fun k hk => hFw k hk) ht (by rw [turn_same]; exact hfr ▸ hgrow5) (by rw [turn_same]; exact hfr ▸ hat5) (l := A.fresh t) e2 hown5 hlt5
    have hA : A.give t i x = { A1 with cnt := upd A1.cnt t (A.cnt t + 1), fresh := upd A1.fresh t (A.fresh t ++ [id]) } := by
      rw [← hA1, HID.out]; rfl
    rw [hA]
    exact ⟨rfl, ⟨_, _, hE.1⟩, hE.2⟩
end Go.Proofs.YtofbcngcblleaaaGreat.A

namespace Go.Proofs.YtofbcngcblleaaaGreat.A
open Go.RowKit Go.Maps Go.ChangeMaps Go.WideElems

theorem spot_append (l : List Th) (x : Th) (q : Ky) : spotF (l ++ [x]) q = match spotF l q with | some i => some i | none => if x.key = q then some l.length else none := by
  unfold spotF
  rw [List.findIdx?_append]
  cases h : l.findIdx? (fun x => decide (x.key = q)) with
  | some i => rfl
  | none =>
    simp only [Option.none_or, List.findIdx?_cons, List.findIdx?_nil]
    by_cases e : x.key = q <;> simp [e]
/-- a key that no thing has -/
theorem NumIs.push {D : DataW Unit} {l : List Th} (h : NumIs D l) (hD : IsMap D) {x : Th} (hx : x.key.Fit) (h0 : spotF l x.key = none) : NumIs (D.put (kl x.key) (.lit (.int .i64 ((l.length : Int) + 2)))) (l ++ [x]) := by
  intro q hq hk
  obtain ⟨h1, h2⟩ := h q hq hk
  unfold numF at *
  rw [spot_append]
  by_cases e : x.key = q
  · subst e
    rw [h0]
    simp only [if_true]
    exact ⟨has_put_same hD (kl_key _) _, atKey_put_same hD (kl_key _) _ _⟩
  · have hne : kl q ≠ kl x.key := fun k => e (kl_inj hq hx k).symm
    rw [has_put_other hne, atKey_put_other hne, h1, h2]
    cases spotF l q with
    | some i => exact ⟨rfl, rfl⟩
    | none => rw [if_neg e]; exact ⟨rfl, rfl⟩

theorem thsL_append (l : List Th) (x : Th) : thsL (l ++ [x]) = thsL l ++ x.cells := by simp [thsL]

section
variable {w w1 w2 : World} {b n : Nat} {F F' : Nat → Prop} {A : Ar} {r : Raw} {D D' : DataW Unit}
/-- the things' slice turned, and the map -/
theorem ArRaw.setThings (h : ArRaw w b F n A r D) {v : Value} {l : List Th} (hrow : ThRow w1 0 v l) (hb1 : ∀ k, F k → r.vth.ownBlock ≠ some k → w1.heap[k]? = w.heap[k]?)
    (hv : ∀ k, v.ownBlock = some k → r.vth.ownBlock = some k ∨ w.heap.size ≤ k) (hnum : NumIs D' l) (hmap : w2.ownsMap Tryz.prog 120 (plainElem Tryz.prog 3) r.mp (n + 1) D') (hb2 : ∀ k, k ≠ r.mp → w2.heap[k]? = (w1.setCell ⟨b, 1, none⟩ v).heap[k]?)
    (hF : ∀ k, F k → F' k) (hF' : ∀ k, v.ownBlock = some k → F' k) (hl : ∀ k, F' k → k < w2.heap.size) :
    ArRaw w2 b F' (n + 1) { A with ths := l } { r with vth := v } D' := by
  have hbb : w1.heap[b]? = w.heap[b]? := hb1 b h.fb h.vb
  have hvlt : ∀ k, F k → ¬ w.heap.size ≤ k := fun k hk => by have := h.flt k hk; omega
  have hbv : v.ownBlock ≠ some b := fun e => by
    rcases hv b e with h1 | h1
    · exact h.vb h1
    · exact hvlt b h.fb h1
  have hmv : v.ownBlock ≠ some r.mp := fun e => by
    rcases hv _ e with h1 | h1
    · exact h.vm h1
    · exact hvlt _ h.fm h1
  have hR := (h.raw.go hbb).setTh v
  refine ⟨hR.go (hb2 b h.mb.symm), h.room, row_other (w := w1) hrow fun k hk => (hb2 k fun e => hmv (by rw [← e]; exact hk)).trans (heap_set fun e => hbv (by rw [← e]; exact hk)), hmap, hnum,
    row_other (w := w) h.free fun k hk => (hb2 k fun e => h.fm' (by rw [← e]; exact hk)).trans ((heap_set fun e => h.fb' (by rw [← e]; exact hk)).trans (hb1 k (h.ff k hk) fun e => h.vf e hk)), h.lim, h.cnt,
    fun t ht => row_other (w := w) (h.fresh t ht) fun k hk => (hb2 k fun e => h.tm ht (by rw [← e]; exact hk)).trans ((heap_set fun e => h.tb ht (by rw [← e]; exact hk)).trans (hb1 k (h.ft t ht k hk) fun e => h.vt ht e hk)),
    h.apf, h.apt, hF _ h.fb, hF _ h.fm, hF', fun k hk => hF k (h.ff k hk), fun t ht k hk => hF k (h.ft t ht k hk), hl⟩
end

theorem grown_of_turned {w w' : World} {b : Nat} (h : w.mapTurned w' b) : w.grownBy w' (some b) := by
  obtain ⟨es, c, es', c', hb, rfl⟩ := h
  exact ⟨rfl, rfl, rfl, by simp [setBlock], fun i _ hi => heap_setBlock_other hb _ (fun e => hi (by rw [e]))⟩
theorem size_of_turned {w w' : World} {b : Nat} (h : w.mapTurned w' b) : w'.heap.size = w.heap.size := by
  obtain ⟨es, c, es', c', hb, rfl⟩ := h
  simp [setBlock]

theorem laid_end {w W0 w5 : World} {b n g5 cap5 len : Nat} {F : Nat → Prop} {A : Ar} {r : Raw} {D : DataW Unit} {x : Th} {o : Obj} {va : Option Addr} {vc : Nat} (h : ArRaw w b F n A r D) (hbx : Below w.heap.size w W0) (H0 : ArRaw W0 b F n A r D) (hv : r.vth = .slice va len vc) (hsz : W0.heap.size = w.heap.size + 1) (hlen : A.ths.length = len) (hx : x.key.Fit) (h0 : spotF A.ths x.key = none)
    (hX : W0.heap[w.heap.size]? = some (.cells #[.int .i64 x.k, .int .i64 x.p0, .int .i64 x.p1, .int .i64 x.p2, .int .i64 x.p3, .int .i64 x.lv, .int .i64 x.va, .int .u64 x.mask] 123 (0, 0)))
    (hown5 : w5.ownsRow 0 123 8 (.slice (some ⟨g5, 0, none⟩) (len + 1) cap5) (len + 1) (thsL A.ths ++ x.cells)) (hgrow5 : (W0.alloc o).drew.grownBy w5 (Value.slice va len vc).ownBlock) (hat5 : (Value.slice va len vc).ownBlock = some g5 ∨ g5 = W0.heap.size + 1) (hlt5 : g5 < w5.heap.size) :
    RawAt (w5.setCell ⟨b, 1, none⟩ (.slice (some ⟨g5, 0, none⟩) (len + 1) cap5)) b { r with vth := .slice (some ⟨g5, 0, none⟩) (len + 1) cap5 } ∧
    (w5.setCell ⟨b, 1, none⟩ (.slice (some ⟨g5, 0, none⟩) (len + 1) cap5)).heap[w.heap.size]? = some (.cells #[.int .i64 x.k, .int .i64 x.p0, .int .i64 x.p1, .int .i64 x.p2, .int .i64 x.p3, .int .i64 x.lv, .int .i64 x.va, .int .u64 x.mask] 123 (0, 0)) ∧
    (w5.setCell ⟨b, 1, none⟩ (.slice (some ⟨g5, 0, none⟩) (len + 1) cap5)).drew.ownsMap Tryz.prog 120 (plainElem Tryz.prog 3) r.mp n D ∧
    ∀ w6, w6.ownsMap Tryz.prog 120 (plainElem Tryz.prog 3) r.mp (n + 1) (D.put (kl x.key) (.lit (.int .i64 ((len : Int) + 2)))) → (w5.setCell ⟨b, 1, none⟩ (.slice (some ⟨g5, 0, none⟩) (len + 1) cap5)).drew.mapTurned w6 r.mp →
      (∃ r' D', ArRaw w6 b (More F w w6) (n + 1) { A with ths := A.ths ++ [x] } r' D') ∧ Apart F w w6 := by
  rw [← hv] at hgrow5 hat5
  have hs5 := hgrow5.size
  have hs5' : (W0.alloc o).drew.heap.size = W0.heap.size + 1 := by simp
  rw [hs5'] at hs5
  have hblt : b < W0.heap.size := H0.flt b h.fb
  have hnew : b ≠ w.heap.size := by have := h.raw.lt; omega
  have hbk : ∀ k, F k → r.vth.ownBlock ≠ some k → w5.heap[k]? = W0.heap[k]? := fun k hk hne => grown_blk hgrow5 (H0.flt k hk) hne
  have hR := (H0.raw.go (hbk b h.fb H0.vb)).setTh (.slice (some ⟨g5, 0, none⟩) (len + 1) cap5)
  have hvn : r.vth.ownBlock ≠ some w.heap.size := fun e => by have := h.flt _ (h.fv _ e); omega
  refine ⟨hR, ?_, ?_, fun w6 hm6 ht6 => ?_⟩
  · rw [heap_set (fun e => hnew e.symm)]
    exact (grown_blk hgrow5 (by omega) hvn).trans hX
  · exact map_other (w := W0) H0.map ((heap_set H0.mb).trans (hbk _ h.fm H0.vm))
  · have hg6 := grown_of_turned ht6
    have hs6 := size_of_turned ht6
    have hs6' : w6.heap.size = w5.heap.size := hs6.trans (show (w5.setCell _ _).heap.size = _ from size_set)
    have hrow : ThRow w5 0 (.slice (some ⟨g5, 0, none⟩) (len + 1) cap5) (A.ths ++ [x]) := by
      unfold ThRow
      rw [List.length_append, hlen, thsL_append]
      exact hown5
    have hnum := H0.num.push H0.map.isMap hx h0
    rw [hlen] at hnum
    have hE := H0.setThings (w1 := w5) (w2 := w6) (v := .slice (some ⟨g5, 0, none⟩) (len + 1) cap5) (F' := More F w w6) hrow hbk (fun k hk => ?_) hnum hm6 (fun k hk => ?_) (fun k hk => Or.inl hk) (fun k hk => ?_) (fun k hk => ?_)
    · refine ⟨⟨_, _, hE⟩, ?_⟩
      have a0 : Apart F w W0 := Apart.of hbx
      have a1 : Apart F W0 (W0.alloc o).drew := ⟨rfl, rfl, rfl, by omega, fun k hk _ => by show (W0.heap.push o)[k]? = _; rw [Array.getElem?_push, if_neg (by omega)]⟩
      have a2 : Apart F (W0.alloc o).drew w5 := Apart.grown hgrow5 fun k hk => h.fv k hk
      have a3 : Apart F w5 (w5.setCell ⟨b, 1, none⟩ (.slice (some ⟨g5, 0, none⟩) (len + 1) cap5)).drew := (Apart.set w5 _ h.fb).drew
      have a4 : Apart F (w5.setCell ⟨b, 1, none⟩ (.slice (some ⟨g5, 0, none⟩) (len + 1) cap5)).drew w6 := Apart.grown hg6 fun k hk => by cases hk; exact h.fm
      exact (((a0.trans a1 fun k hk => Or.inl hk).trans a2 fun k hk => Or.inl hk).trans a3 fun k hk => Or.inl hk).trans a4 fun k hk => Or.inl hk
    · simp only [Value.ownBlock, Option.some.injEq] at hk
      subst hk
      rcases hat5 with h1 | h1
      · exact Or.inl h1
      · exact Or.inr (by omega)
    · by_cases hkl : k < (w5.setCell ⟨b, 1, none⟩ (.slice (some ⟨g5, 0, none⟩) (len + 1) cap5)).drew.heap.size
      · exact hg6.block k hkl fun e => hk (Option.some.inj e)
      · rw [Array.getElem?_eq_none (by rw [hs6]; omega), Array.getElem?_eq_none (by show _ ≤ k; exact Nat.le_of_not_lt hkl)]
    · simp only [Value.ownBlock, Option.some.injEq] at hk
      subst hk
      rcases hat5 with h1 | h1
      · exact Or.inl (h.fv _ h1)
      · exact Or.inr ⟨by omega, by omega⟩
    · rcases hk with h1 | h1
      · have := h.flt k h1; omega
      · exact h1.2

set_option maxRecDepth 20000 in
set_option maxHeartbeats 4000000 in
theorem lay_any (b n : Nat) (F : Nat → Prop) (A : Ar) (r : Raw) (D : DataW Unit) (x : Th) (w : World) (h : ArRaw w b F n A r D) (hf : A.free = []) (hx : x.key.Fit) (h0 : spotF A.ths x.key = none) (hn : n < 1000000000) (hlen : A.ths.length < 1000000) :
    Calls Tryz.prog 94 #[.pointer (some ⟨b, 0, none⟩), x.val] w fun e w' => e = .returned (.int .i64 ((A.ths.length : Int) + 2)) ∧ (∃ r' D', ArRaw w' b (More F w w') (n + 1) { A with ths := A.ths ++ [x] } r' D') ∧ Apart F w w' := by
  have hblt := h.raw.lt
  obtain ⟨va, vc, hv⟩ := h.ths.shape
  obtain ⟨fa, fc, hfr⟩ := h.free.shape
  rw [hf] at hfr
  simp only [List.length_nil] at hfr
  have c1 := h.raw.at 1 (by omega)
  rw [Raw.c1] at c1
  have c3 := h.raw.at 3 (by omega)
  rw [Raw.c3, hfr] at c3
  have hw : IntKind.i64.wrap (2 + (A.ths.length : Int)) = (A.ths.length : Int) + 2 := by rw [IntKind.wrap_i64]; omega
  have hbx : Below w.heap.size w (w.alloc (.cells #[.int .i64 x.k, .int .i64 x.p0, .int .i64 x.p1, .int .i64 x.p2, .int .i64 x.p3, .int .i64 x.lv, .int .i64 x.va, .int .u64 x.mask] 123)) := (Below.refl _ _).alloc (Nat.le_refl _) _
  have hX : (w.alloc (.cells #[.int .i64 x.k, .int .i64 x.p0, .int .i64 x.p1, .int .i64 x.p2, .int .i64 x.p3, .int .i64 x.lv, .int .i64 x.va, .int .u64 x.mask] 123)).heap[w.heap.size]? = some (.cells #[.int .i64 x.k, .int .i64 x.p0, .int .i64 x.p1, .int .i64 x.p2, .int .i64 x.p3, .int .i64 x.lv, .int .i64 x.va, .int .u64 x.mask] 123 (0, 0)) := heap_alloc_new w _
  have HV : Hid (r.vth = .slice va A.ths.length vc) := hv
  have c1' : w.cell? ⟨b, 1, none⟩ = some (.slice va A.ths.length vc) := by rw [c1, hv]
  clear hv c1
  unfold Th.val
  go_enter Tryz.func94, Tryz.ntmps94
  go_wp2_with fail
  obtain ⟨i0, hi, hz0, hz1, hz2⟩ := info_parts Tryz.info123
  generalize hW0 : w.alloc (.cells #[.int .i64 x.k, .int .i64 x.p0, .int .i64 x.p1, .int .i64 x.p2, .int .i64 x.p3, .int .i64 x.lv, .int .i64 x.va, .int .u64 x.mask] 123) = W0 at *
  have HSZ : Hid (W0.heap.size = w.heap.size + 1) := by show _ = _; rw [← hW0]; simp
  clear hW0
  have H0 := h.below hbx
  have hrow := H0.ths
  rw [HV.out] at hrow
  have hbt := H0.vb
  rw [HV.out] at hbt
  have hblt0 : b < W0.heap.size := by have := HSZ.out; omega
  obtain ⟨d0, d1, d2, d3, d4, d5, d6, d7⟩ := cells8 hX
  have c1 : W0.cell? ⟨b, 1, none⟩ = some (.slice va A.ths.length vc) := (hbx.cell (p := ⟨b, 1, none⟩) hblt).trans c1'
  have OW : Hid (∀ o, (W0.alloc o).drew.ownsRow 0 123 8 (.slice va A.ths.length vc) A.ths.length (thsL A.ths)) := fun o => World.ownsRow.alloc hrow o
  have hnw : ∀ W : World, ∀ j u, x.cells[j]? = some u → (W.alloc (.cells #[.int .i64 x.k, .int .i64 x.p0, .int .i64 x.p1, .int .i64 x.p2, .int .i64 x.p3, .int .i64 x.lv, .int .i64 x.va, .int .u64 x.mask] 123)).drew.cell? ((⟨W.heap.size, 0, none⟩ : Addr).add j) = some u := fun W =>
    World.news_of_block (cs := #[.int .i64 x.k, .int .i64 x.p0, .int .i64 x.p1, .int .i64 x.p2, .int .i64 x.p3, .int .i64 x.lv, .int .i64 x.va, .int .u64 x.mask]) (t := 123) (fr := (0, 0)) (heap_alloc_new W _)
  have hone : ∀ u ∈ x.cells, u.oneCell' = true := by
    intro u hu
    simp [Th.cells] at hu
    rcases hu with rfl | rfl | rfl | rfl | rfl | rfl | rfl | rfl <;> rfl
  generalize hlenA : A.ths.length = len at *
  clear c1' c3 hfr
  go_cut [] from 32 to 41 (fun wc => ∃ g5 cap5 w5 o, w5.ownsRow 0 123 8 (.slice (some ⟨g5, 0, none⟩) (len + 1) cap5) (len + 1) (thsL A.ths ++ x.cells) ∧ (W0.alloc o).drew.grownBy w5 (Value.slice va len vc).ownBlock ∧ ((Value.slice va len vc).ownBlock = some g5 ∨ g5 = W0.heap.size + 1) ∧ g5 < w5.heap.size ∧ wc = w5.setCell ⟨b, 1, none⟩ (.slice (some ⟨g5, 0, none⟩) (len + 1) cap5))
  case first =>
    go_region_law (refine step_append_lies _ (by rfl) _ _ 94 (by rfl) 0 123 i0 noTh.val 8 64 Tryz.underlying94 hi hz0 hz1 hz2 rfl (by decide) (.slice va len vc) len (thsL A.ths) (by rfl) (OW.out _) ⟨W0.heap.size, 0, none⟩ 1 1 x.cells (by rfl) rfl (hnw _) hone (by omega) (by unfold maxLen; omega) (by omega) (by omega) (W0.heap.size + 1) (by simp) ?_; intro g5 cap5 w5 hown5 hgrow5 hat5 hlt5; have R5 := H0.raw.go (grown_blk hgrow5 hblt0 hbt); have q4 := R5.at 1 (by omega); have q5 := R5.frozen 1)
    all_goals
      go_wp2_with fail
      go_meet
      case rel => exact ⟨g5, cap5, w5, _, hown5, hgrow5, hat5, hlt5, rfl⟩
  case rest =>
  obtain ⟨g5, cap5, w5, o, hown5, hgrow5, hat5, hlt5, rfl⟩ := hcut
  have HL := laid_end h hbx H0 HV.out HSZ.out hlenA hx h0 hX hown5 hgrow5 hat5 hlt5
  have R6 : RawAt (w5.setCell ⟨b, 1, none⟩ (.slice (some ⟨g5, 0, none⟩) (len + 1) cap5)) b { r with vth := .slice (some ⟨g5, 0, none⟩) (len + 1) cap5 } := HL.1
  have hX6 := HL.2.1
  have hM6 := HL.2.2.1
  have HE : Hid _ := HL.2.2.2
  clear HL hown5 hgrow5 hat5 hlt5 hX hrow OW hnw hone H0 c1 d0 d1 d2 d3 d4 d5 d6 d7 hbt
  generalize w5.setCell ⟨b, 1, none⟩ (.slice (some ⟨g5, 0, none⟩) (len + 1) cap5) = W1 at *
  have c2 := R6.at 2 (by omega)
  rw [Raw.c2] at c2
  simp only at c2
  obtain ⟨d0, d1, d2, d3, d4, d5, d6, d7⟩ := cells8 hX6
  obtain ⟨w6, hrun, hown6, hturn⟩ := World.ownsMap.store (w := W1.drew) hM6 thLaw Tryz.underlying95 (show n < maxLen by unfold maxLen; omega) (key_ky hx) (plainElem_int (H := Unit) Tryz.underlying3 (show (Lit.int .i64 ((len : Int) + 2)).wf = true from wf_of_fits (by unfold Fits; omega)))
  unfold Ky.val Th.key at hrun
  simp only at hrun
  go_wp2_with fail
  go_region
  all_goals
    go_wp2_with fail
    go_ret
    exact ⟨ret_i (by rw [hlenA]), HE.out w6 hown6 hturn⟩
end Go.Proofs.YtofbcngcblleaaaGreat.A
