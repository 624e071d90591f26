/- own and level. -/
import Derived.Test.YtgipjplifndniaaGreatDoorProg
import Derived.ProofKit
import Derived.Lib.SmallJoins
import Derived.Deep.RegionHeld3
import Derived.Laws.OwnMore
import Derived.Laws.BitsAllLaws
import Derived.BigQuiet
import Derived.RegionTactic
import Derived.Lib.Builder
import Derived.WalkSpells
import Derived.Laws.CopyOwn
import Derived.Deep.MidRow
namespace Go.Proofs.YtgipjplifndniaaGreatDoor.A
open Go.RowKit

def bitN (t : Nat) : Nat := 2 ^ t
theorem bitN_lt (t : Nat) (h : t < 64) : bitN t < 18446744073709551616 := by
  have : (2 : Nat) ^ t < 2 ^ 64 := Nat.pow_lt_pow_right (by omega) h
  unfold bitN
  simpa using this
theorem wrap_bit (t : Nat) (h : t < 64) : IntKind.u64.wrap (2 ^ t) = (bitN t : Int) := by
  have h1 := bitN_lt t h
  rw [IntKind.wrap_u64]
  have e : (2 : Int) ^ t = (bitN t : Int) := by simp [bitN]
  rw [e]
  omega
theorem ret_i {k : IntKind} {a b : Int} (h : a = b) : Ending.returned (.int k a) = .returned (.int k b) := by rw [h]

theorem bit_any (t : Nat) (w : World) (h : t < 64) : Calls Tryz.prog 116 #[.int .i64 t] w fun e w' => e = .returned (.int .u64 (bitN t : Int)) ∧ w' = w := by
  go_enter Tryz.func116, Tryz.ntmps116
  go_wp2
  go_ret
  exact ⟨ret_i (wrap_bit t h), rfl⟩

structure Th where
  k : Int
  p0 : Int
  p1 : Int
  p2 : Int
  p3 : Int
  lv : Int
  va : Int
  mask : Nat
def Th.cells (x : Th) : List Value := [.int .i64 x.k, .int .i64 x.p0, .int .i64 x.p1, .int .i64 x.p2, .int .i64 x.p3, .int .i64 x.lv, .int .i64 x.va, .int .u64 x.mask]
def Th.val (x : Th) : Value := .agg #[.int .i64 x.k, .int .i64 x.p0, .int .i64 x.p1, .int .i64 x.p2, .int .i64 x.p3, .int .i64 x.lv, .int .i64 x.va, .int .u64 x.mask]

theorem and_bit (m t : Nat) (hm : m < 18446744073709551616) (h : t < 64) : (bits .and .u64 (m : Int) (bitN t : Int) != 0) = m.testBit t := by
  rw [u64_and_nat m (bitN t) hm (bitN_lt t h)]
  unfold bitN
  rw [nat_bit, Nat.testBit_eq_decide_div_mod_eq]
  have hp : 0 < 2 ^ t := Nat.two_pow_pos t
  rcases Nat.mod_two_eq_zero_or_one (m / 2 ^ t) with e | e
  · rw [e]; simp
  · rw [e, Nat.one_mul]
    generalize 2 ^ t = z at *
    simp
    omega

set_option maxHeartbeats 1000000 in
theorem isOwn_any (x : Th) (t : Nat) (w : World) (hm : x.mask < 18446744073709551616) (h : t < 64) : Calls Tryz.prog 80 #[x.val, .int .i64 t] w fun e w' => e = .returned (.bool (x.mask.testBit t)) ∧ Below w.heap.size w w' := by
  have hb := fun W => bit_any t W h
  have ha := and_bit x.mask t hm h
  unfold Th.val
  go_enter Tryz.func80, Tryz.ntmps80
  go_wp2_with fail
  go_quiet ((go_at_call 116; exact Calls.quiet_of_same (hb _)))
  go_wp2
  go_ret
  refine ⟨rfl, ?_⟩
  have := (Below.refl w.heap.size w).alloc (Nat.le_refl _) (.cells #[.int .i64 x.k, .int .i64 x.p0, .int .i64 x.p1, .int .i64 x.p2, .int .i64 x.p3, .int .i64 x.lv, .int .i64 x.va, .int .u64 x.mask] 100)
  exact ⟨this.os, this.tape, this.output, this.size, this.block⟩
end Go.Proofs.YtgipjplifndniaaGreatDoor.A

namespace Go.Proofs.YtgipjplifndniaaGreatDoor.A
open Go.RowKit

structure Tn where
  lim : Int
  cnt : Int
  fr : Value
structure Raw where
  room : Int
  vth : Value
  mp : Nat
  vfr : Value
  tn : Nat → Tn
def Raw.cell (r : Raw) (i : Nat) : Value :=
  if i = 0 then .int .i64 r.room else if i = 1 then r.vth else if i = 2 then .map (some r.mp) else if i = 3 then r.vfr else
  if (i - 4) % 3 = 0 then .int .i64 (r.tn ((i - 4) / 3)).lim else if (i - 4) % 3 = 1 then .int .i64 (r.tn ((i - 4) / 3)).cnt else (r.tn ((i - 4) / 3)).fr
def RawAt (w : World) (b : Nat) (r : Raw) : Prop := ∃ C, w.heap[b]? = some (.cells C 79 (0, 0)) ∧ C.size = 196 ∧ ∀ i, i < 196 → C[i]? = some (r.cell i)
theorem RawAt.lt {w : World} {b : Nat} {r : Raw} (h : RawAt w b r) : b < w.heap.size := by
  obtain ⟨C, h1, _⟩ := h
  exact (Array.getElem?_eq_some_iff.1 h1).1
theorem RawAt.at {w : World} {b : Nat} {r : Raw} (h : RawAt w b r) (i : Nat) (hi : i < 196) : w.cell? ⟨b, i, none⟩ = some (r.cell i) := by
  obtain ⟨C, h1, h2, h3⟩ := h
  rw [Lib.cell_of_heap h1]
  exact h3 i hi
theorem RawAt.frozen {w : World} {b : Nat} {r : Raw} (h : RawAt w b r) (i : Nat) : w.frozen? ⟨b, i, none⟩ = false := by
  obtain ⟨C, h1, h2, h3⟩ := h
  exact Lib.frozen_of_heap h1 i
theorem RawAt.go {w w' : World} {b : Nat} {r : Raw} (h : RawAt w b r) (hb : w'.heap[b]? = w.heap[b]?) : RawAt w' b r := by
  obtain ⟨C, h1, h2⟩ := h
  exact ⟨C, hb.trans h1, h2⟩
theorem RawAt.set {w : World} {b : Nat} {r r' : Raw} (h : RawAt w b r) (i : Nat) (v : Value) (hr : ∀ j, j < 196 → r'.cell j = if j = i then v else r.cell j) : RawAt (w.setCell ⟨b, i, none⟩ v) b r' := by
  obtain ⟨C, h1, h2, h3⟩ := h
  refine ⟨C.setIfInBounds i v, Go.Joins.block_setCell h1 v, by simpa using h2, fun j hj => ?_⟩
  rw [hr j hj, Array.getElem?_setIfInBounds]
  by_cases e : i = j
  · subst e; simp [h2, hj]
  · rw [if_neg e, if_neg (fun k => e k.symm)]; exact h3 j hj
theorem Raw.c0 (r : Raw) : r.cell 0 = .int .i64 r.room := rfl
theorem Raw.c1 (r : Raw) : r.cell 1 = r.vth := rfl
theorem Raw.c2 (r : Raw) : r.cell 2 = .map (some r.mp) := rfl
theorem Raw.c3 (r : Raw) : r.cell 3 = r.vfr := rfl
theorem Raw.cl (r : Raw) (t : Nat) : r.cell (4 + t * 3) = .int .i64 (r.tn t).lim := by
  unfold Raw.cell
  rw [if_neg (by omega), if_neg (by omega), if_neg (by omega), if_neg (by omega), if_pos (by omega), show (4 + t * 3 - 4) / 3 = t by omega]
theorem Raw.cc (r : Raw) (t : Nat) : r.cell (4 + t * 3 + 1) = .int .i64 (r.tn t).cnt := by
  unfold Raw.cell
  rw [if_neg (by omega), if_neg (by omega), if_neg (by omega), if_neg (by omega), if_neg (by omega), if_pos (by omega), show (4 + t * 3 + 1 - 4) / 3 = t by omega]
theorem Raw.cf (r : Raw) (t : Nat) : r.cell (4 + t * 3 + 2) = (r.tn t).fr := by
  unfold Raw.cell
  rw [if_neg (by omega), if_neg (by omega), if_neg (by omega), if_neg (by omega), if_neg (by omega), if_neg (by omega), show (4 + t * 3 + 2 - 4) / 3 = t by omega]

theorem isTenant_any (t : Int) (w : World) : Calls Tryz.prog 26 #[.int .i64 t] w fun e w' => e = .returned (.bool (decide (0 ≤ t ∧ t < 64))) ∧ w' = w := by
  by_cases h : 0 ≤ t
  · go_enter Tryz.func26, Tryz.ntmps26
    go_wp2
    go_ret
    refine ⟨?_, rfl⟩
    simp [h]
  · go_enter Tryz.func26, Tryz.ntmps26
    go_wp2
    go_ret
    refine ⟨?_, rfl⟩
    simp
    omega
theorem tenant_yes (t : Nat) (ht : t < 64) (w : World) : Calls Tryz.prog 26 #[.int .i64 t] w fun e w' => e = .returned (.bool true) ∧ w' = w := by
  have h := isTenant_any t w
  rw [show decide ((0 : Int) ≤ (t : Int) ∧ (t : Int) < 64) = true by simp; omega] at h
  exact h
set_option maxHeartbeats 1000000 in
theorem count_any (b : Nat) (r : Raw) (t : Nat) (w : World) (h : RawAt w b r) (ht : t < 64) : Calls Tryz.prog 25 #[.pointer (some ⟨b, 0, none⟩), .int .i64 t] w fun e w' => e = .returned (.int .i64 (r.tn t).cnt) ∧ w' = w := by
  have hc := h.at (4 + t * 3 + 1) (by omega)
  rw [Raw.cc] at hc
  have hi := fun W => tenant_yes t ht W
  have h0 : (0 : Int) ≤ t := by omega
  have h1 : (t : Int) < 64 := by omega
  go_enter Tryz.func25, Tryz.ntmps25
  go_wp2_with fail
  refine (hi _).mono ?_
  rintro e w1 ⟨rfl, rfl⟩
  go_wp2_with fail
  go_ret
  exact ⟨rfl, rfl⟩

theorem live_any (b n m : Nat) (r : Raw) (w : World) (h : RawAt w b r) (hv : ∃ a c, r.vth = .slice a n c) (hf : ∃ a c, r.vfr = .slice a m c) (hn : n < 4611686018427387904) (hm : m < 4611686018427387904) :
    Calls Tryz.prog 81 #[.pointer (some ⟨b, 0, none⟩)] w fun e w' => e = .returned (.int .i64 ((n : Int) - m)) ∧ ∃ q, w' = w.drewN q := by
  have c1 := h.at 1 (by omega)
  have c3 := h.at 3 (by omega)
  obtain ⟨a, c, hv⟩ := hv
  obtain ⟨a', c', hf⟩ := hf
  rw [Raw.c1, hv] at c1
  rw [Raw.c3, hf] at c3
  go_enter Tryz.func81, Tryz.ntmps81
  go_wp2_with fail
  go_quiet (fail)
  go_wp2_with fail
  go_ret
  exact ⟨rfl, _, rfl⟩

def Raw.turn (r : Raw) (t : Nat) (x : Tn) : Raw := { r with tn := fun u => if u = t then x else r.tn u }
theorem Raw.turn_cell (r : Raw) (t : Nat) (x : Tn) (j : Nat) : (r.turn t x).cell j = if j = 4 + t * 3 then .int .i64 x.lim else if j = 4 + t * 3 + 1 then .int .i64 x.cnt else if j = 4 + t * 3 + 2 then x.fr else r.cell j := by
  by_cases h4 : j < 4
  · rw [if_neg (by omega), if_neg (by omega), if_neg (by omega)]
    unfold Raw.cell
    match j, h4 with
    | 0, _ => rfl
    | 1, _ => rfl
    | 2, _ => rfl
    | 3, _ => rfl
  · unfold Raw.cell Raw.turn
    simp only
    rw [if_neg (by omega), if_neg (by omega), if_neg (by omega), if_neg (by omega), if_neg (show ¬ j = 0 by omega), if_neg (show ¬ j = 1 by omega), if_neg (show ¬ j = 2 by omega), if_neg (show ¬ j = 3 by omega)]
    by_cases e : (j - 4) / 3 = t
    · rw [if_pos e]
      have : j = 4 + t * 3 ∨ j = 4 + t * 3 + 1 ∨ j = 4 + t * 3 + 2 := by omega
      rcases this with h | h | h
      · rw [if_pos (show (j - 4) % 3 = 0 by omega), if_pos h]
      · rw [if_neg (show ¬ (j - 4) % 3 = 0 by omega), if_pos (show (j - 4) % 3 = 1 by omega), if_neg (by omega), if_pos h]
      · rw [if_neg (show ¬ (j - 4) % 3 = 0 by omega), if_neg (show ¬ (j - 4) % 3 = 1 by omega), if_neg (by omega), if_neg (by omega), if_pos h]
    · rw [if_neg e, if_neg (show ¬ j = 4 + t * 3 by omega), if_neg (show ¬ j = 4 + t * 3 + 1 by omega), if_neg (show ¬ j = 4 + t * 3 + 2 by omega)]
theorem RawAt.setLim {w : World} {b : Nat} {r : Raw} (h : RawAt w b r) (t : Nat) (n : Int) : RawAt (w.setCell ⟨b, 4 + t * 3, none⟩ (.int .i64 n)) b (r.turn t { r.tn t with lim := n }) :=
  h.set _ _ fun j _ => by
    rw [Raw.turn_cell]
    by_cases e : j = 4 + t * 3
    · rw [if_pos e, if_pos e]
    · rw [if_neg e, if_neg e]
      by_cases e1 : j = 4 + t * 3 + 1
      · rw [if_pos e1, e1, Raw.cc]
      · rw [if_neg e1]
        by_cases e2 : j = 4 + t * 3 + 2
        · rw [if_pos e2, e2, Raw.cf]
        · rw [if_neg e2]
theorem RawAt.setCnt {w : World} {b : Nat} {r : Raw} (h : RawAt w b r) (t : Nat) (n : Int) : RawAt (w.setCell ⟨b, 4 + t * 3 + 1, none⟩ (.int .i64 n)) b (r.turn t { r.tn t with cnt := n }) :=
  h.set _ _ fun j _ => by
    rw [Raw.turn_cell]
    by_cases e1 : j = 4 + t * 3 + 1
    · rw [if_neg (by omega), if_pos e1, if_pos e1]
    · rw [if_neg e1, if_neg e1]
      by_cases e : j = 4 + t * 3
      · rw [if_pos e, e, Raw.cl]
      · rw [if_neg e]
        by_cases e2 : j = 4 + t * 3 + 2
        · rw [if_pos e2, e2, Raw.cf]
        · rw [if_neg e2]
theorem RawAt.setFr {w : World} {b : Nat} {r : Raw} (h : RawAt w b r) (t : Nat) (v : Value) : RawAt (w.setCell ⟨b, 4 + t * 3 + 2, none⟩ v) b (r.turn t { r.tn t with fr := v }) :=
  h.set _ _ fun j _ => by
    rw [Raw.turn_cell]
    by_cases e2 : j = 4 + t * 3 + 2
    · rw [if_neg (by omega), if_neg (by omega), if_pos e2]
    · rw [if_neg e2]
      by_cases e : j = 4 + t * 3
      · rw [if_pos e, e, Raw.cl]
      · rw [if_neg e]
        by_cases e1 : j = 4 + t * 3 + 1
        · rw [if_pos e1, e1, Raw.cc]
        · rw [if_neg e1]
theorem RawAt.setTh {w : World} {b : Nat} {r : Raw} (h : RawAt w b r) (v : Value) : RawAt (w.setCell ⟨b, 1, none⟩ v) b { r with vth := v } :=
  h.set 1 v fun j _ => by
    by_cases e : j = 1
    · subst e; rfl
    · rw [if_neg e]
      unfold Raw.cell
      simp only [if_neg e]

theorem limit_any (b t : Nat) (n : Int) (r : Raw) (w : World) (h : RawAt w b r) (ht : t < 64) (hn : 0 ≤ n) (hm : n ≤ r.room) :
    Calls Tryz.prog 12 #[.pointer (some ⟨b, 0, none⟩), .int .i64 t, .int .i64 n] w fun e w' => e = .returned (.int .i64 0) ∧ w' = w.setCell ⟨b, 4 + t * 3, none⟩ (.int .i64 n) := by
  have hi := fun W => tenant_yes t ht W
  have c0 := h.at 0 (by omega)
  rw [Raw.c0] at c0
  have cl := h.at (4 + t * 3) (by omega)
  rw [Raw.cl] at cl
  have fz := h.frozen (4 + t * 3)
  have h0 : (0 : Int) ≤ t := by omega
  have h1 : (t : Int) < 64 := by omega
  have h2 : ¬ n < 0 := by omega
  have h3 : ¬ r.room < n := by omega
  go_enter Tryz.func12, Tryz.ntmps12
  go_wp2_with fail
  refine (hi _).mono ?_
  rintro e w1 ⟨rfl, rfl⟩
  go_wp2_with fail
  go_ret
  exact ⟨rfl, rfl⟩
end Go.Proofs.YtgipjplifndniaaGreatDoor.A

namespace Go.Proofs.YtgipjplifndniaaGreatDoor.A
open Go.RowKit

def thsL (l : List Th) : List Value := l.flatMap Th.cells
theorem thsL_at : ∀ (l : List Th) (i : Nat) (x : Th) (j : Nat), l[i]? = some x → j < 8 → (thsL l)[i * 8 + j]? = x.cells[j]?
  | [], i, x, j, h, _ => by simp at h
  | y :: r, 0, x, j, h, hj => by
    simp at h; subst h
    have : (thsL (y :: r)) = y.cells ++ thsL r := by simp [thsL]
    rw [this, List.getElem?_append_left (by simp [Th.cells]; omega)]
    simp
  | y :: r, i + 1, x, j, h, hj => by
    have : (thsL (y :: r)) = y.cells ++ thsL r := by simp [thsL]
    rw [this, List.getElem?_append_right (by simp [Th.cells]; omega)]
    rw [← thsL_at r i x j (by simpa using h) hj]
    congr 1
    simp [Th.cells]; omega

def ThRow (w : World) (B : Nat) (v : Value) (l : List Th) : Prop := w.ownsRow B 100 8 v l.length (thsL l)
theorem ThRow.shape {w : World} {B : Nat} {v : Value} {l : List Th} (h : ThRow w B v l) : ∃ a c, v = .slice a l.length c := by
  rcases h.2 with ⟨h1, h2⟩ | ⟨g, cap, cur, h1, _⟩
  · exact ⟨none, 0, by rw [h1, h2]⟩
  · exact ⟨_, _, h1⟩
theorem ThRow.shape' {w : World} {B : Nat} {v : Value} {l : List Th} (h : ThRow w B v l) (h0 : 0 < l.length) : ∃ g c, v = .slice (some ⟨g, 0, none⟩) l.length c := by
  rcases h.2 with ⟨h1, h2⟩ | ⟨g, cap, cur, h1, _⟩
  · omega
  · exact ⟨_, _, h1⟩
theorem ThRow.cells {w : World} {B g c i : Nat} {l : List Th} {x : Th} (h : ThRow w B (.slice (some ⟨g, 0, none⟩) l.length c) l) (hi : l[i]? = some x) :
    w.cell? ⟨g, i * 8, none⟩ = some (.int .i64 x.k) ∧ w.cell? ⟨g, i * 8 + 1, none⟩ = some (.int .i64 x.p0) ∧ w.cell? ⟨g, i * 8 + 2, none⟩ = some (.int .i64 x.p1) ∧ w.cell? ⟨g, i * 8 + 3, none⟩ = some (.int .i64 x.p2) ∧ w.cell? ⟨g, i * 8 + 4, none⟩ = some (.int .i64 x.p3) ∧ w.cell? ⟨g, i * 8 + 5, none⟩ = some (.int .i64 x.lv) ∧ w.cell? ⟨g, i * 8 + 6, none⟩ = some (.int .i64 x.va) ∧ w.cell? ⟨g, i * 8 + 7, none⟩ = some (.int .u64 x.mask) := by
  have hlt : i < l.length := (List.getElem?_eq_some_iff.1 hi).1
  have key : ∀ j, j < 8 → w.cell? ⟨g, i * 8 + j, none⟩ = x.cells[j]? := fun j hj => by
    rw [h.cellAt (i * 8 + j) (by omega), thsL_at l i x j hi hj]
  exact ⟨key 0 (by omega), key 1 (by omega), key 2 (by omega), key 3 (by omega), key 4 (by omega), key 5 (by omega), key 6 (by omega), key 7 (by omega)⟩

def noTh : Th := ⟨0, 0, 0, 0, 0, 0, 0, 0⟩
def ownF (l : List Th) (t : Nat) (id : Int) : Option Th := if 2 ≤ id then (l[(id - 2).toNat]?).filter (fun x => x.mask.testBit t) else none

theorem set8 {w : World} {g : Nat} {T : TypeId} {fr : Nat × Nat} {a0 a1 a2 a3 a4 a5 a6 a7 : Value} (h : w.heap[g]? = some (.cells #[a0, a1, a2, a3, a4, a5, a6, a7] T fr)) (b0 b1 b2 b3 b4 b5 b6 b7 : Value) :
    ((((((((w.setCell ⟨g, 0, none⟩ b0).setCell ⟨g, 1, none⟩ b1).setCell ⟨g, 2, none⟩ b2).setCell ⟨g, 3, none⟩ b3).setCell ⟨g, 4, none⟩ b4).setCell ⟨g, 5, none⟩ b5).setCell ⟨g, 6, none⟩ b6).setCell ⟨g, 7, none⟩ b7).heap[g]? = some (.cells #[b0, b1, b2, b3, b4, b5, b6, b7] T fr) := by
  have h0 : (w.setCell ⟨g, 0, none⟩ b0).heap[g]? = some (.cells #[b0, a1, a2, a3, a4, a5, a6, a7] T fr) := Go.Joins.block_setCell h b0
  have h1 : ((w.setCell ⟨g, 0, none⟩ b0).setCell ⟨g, 1, none⟩ b1).heap[g]? = some (.cells #[b0, b1, a2, a3, a4, a5, a6, a7] T fr) := Go.Joins.block_setCell h0 b1
  have h2 : (((w.setCell ⟨g, 0, none⟩ b0).setCell ⟨g, 1, none⟩ b1).setCell ⟨g, 2, none⟩ b2).heap[g]? = some (.cells #[b0, b1, b2, a3, a4, a5, a6, a7] T fr) := Go.Joins.block_setCell h1 b2
  have h3 : ((((w.setCell ⟨g, 0, none⟩ b0).setCell ⟨g, 1, none⟩ b1).setCell ⟨g, 2, none⟩ b2).setCell ⟨g, 3, none⟩ b3).heap[g]? = some (.cells #[b0, b1, b2, b3, a4, a5, a6, a7] T fr) := Go.Joins.block_setCell h2 b3
  have h4 : (((((w.setCell ⟨g, 0, none⟩ b0).setCell ⟨g, 1, none⟩ b1).setCell ⟨g, 2, none⟩ b2).setCell ⟨g, 3, none⟩ b3).setCell ⟨g, 4, none⟩ b4).heap[g]? = some (.cells #[b0, b1, b2, b3, b4, a5, a6, a7] T fr) := Go.Joins.block_setCell h3 b4
  have h5 : ((((((w.setCell ⟨g, 0, none⟩ b0).setCell ⟨g, 1, none⟩ b1).setCell ⟨g, 2, none⟩ b2).setCell ⟨g, 3, none⟩ b3).setCell ⟨g, 4, none⟩ b4).setCell ⟨g, 5, none⟩ b5).heap[g]? = some (.cells #[b0, b1, b2, b3, b4, b5, a6, a7] T fr) := Go.Joins.block_setCell h4 b5
  have h6 : (((((((w.setCell ⟨g, 0, none⟩ b0).setCell ⟨g, 1, none⟩ b1).setCell ⟨g, 2, none⟩ b2).setCell ⟨g, 3, none⟩ b3).setCell ⟨g, 4, none⟩ b4).setCell ⟨g, 5, none⟩ b5).setCell ⟨g, 6, none⟩ b6).heap[g]? = some (.cells #[b0, b1, b2, b3, b4, b5, b6, a7] T fr) := Go.Joins.block_setCell h5 b6
  have h7 : ((((((((w.setCell ⟨g, 0, none⟩ b0).setCell ⟨g, 1, none⟩ b1).setCell ⟨g, 2, none⟩ b2).setCell ⟨g, 3, none⟩ b3).setCell ⟨g, 4, none⟩ b4).setCell ⟨g, 5, none⟩ b5).setCell ⟨g, 6, none⟩ b6).setCell ⟨g, 7, none⟩ b7).heap[g]? = some (.cells #[b0, b1, b2, b3, b4, b5, b6, b7] T fr) := Go.Joins.block_setCell h6 b7
  exact h7
theorem set8_below {w w0 : World} {g B : Nat} (h : Below B w0 w) (hB : B ≤ g) (b0 b1 b2 b3 b4 b5 b6 b7 : Value) :
    Below B w0 ((((((((w.setCell ⟨g, 0, none⟩ b0).setCell ⟨g, 1, none⟩ b1).setCell ⟨g, 2, none⟩ b2).setCell ⟨g, 3, none⟩ b3).setCell ⟨g, 4, none⟩ b4).setCell ⟨g, 5, none⟩ b5).setCell ⟨g, 6, none⟩ b6).setCell ⟨g, 7, none⟩ b7) :=
  (((((((h.setCell (p := ⟨g, 0, none⟩) hB b0).setCell (p := ⟨g, 1, none⟩) hB b1).setCell (p := ⟨g, 2, none⟩) hB b2).setCell (p := ⟨g, 3, none⟩) hB b3).setCell (p := ⟨g, 4, none⟩) hB b4).setCell (p := ⟨g, 5, none⟩) hB b5).setCell (p := ⟨g, 6, none⟩) hB b6).setCell (p := ⟨g, 7, none⟩) hB b7
theorem cells8 {w : World} {g : Nat} {T : TypeId} {fr : Nat × Nat} {a0 a1 a2 a3 a4 a5 a6 a7 : Value} (h : w.heap[g]? = some (.cells #[a0, a1, a2, a3, a4, a5, a6, a7] T fr)) :
    w.cell? ⟨g, 0, none⟩ = some a0 ∧ w.cell? ⟨g, 1, none⟩ = some a1 ∧ w.cell? ⟨g, 2, none⟩ = some a2 ∧ w.cell? ⟨g, 3, none⟩ = some a3 ∧ w.cell? ⟨g, 4, none⟩ = some a4 ∧ w.cell? ⟨g, 5, none⟩ = some a5 ∧ w.cell? ⟨g, 6, none⟩ = some a6 ∧ w.cell? ⟨g, 7, none⟩ = some a7 :=
  ⟨Lib.cell_of_heap h 0, Lib.cell_of_heap h 1, Lib.cell_of_heap h 2, Lib.cell_of_heap h 3, Lib.cell_of_heap h 4, Lib.cell_of_heap h 5, Lib.cell_of_heap h 6, Lib.cell_of_heap h 7⟩
theorem free8 {w : World} {g : Nat} {T : TypeId} {a : Array Value} (h : w.heap[g]? = some (.cells a T (0, 0))) :
    w.frozen? ⟨g, 0, none⟩ = false ∧ w.frozen? ⟨g, 1, none⟩ = false ∧ w.frozen? ⟨g, 2, none⟩ = false ∧ w.frozen? ⟨g, 3, none⟩ = false ∧ w.frozen? ⟨g, 4, none⟩ = false ∧ w.frozen? ⟨g, 5, none⟩ = false ∧ w.frozen? ⟨g, 6, none⟩ = false ∧ w.frozen? ⟨g, 7, none⟩ = false :=
  ⟨Lib.frozen_of_heap h 0, Lib.frozen_of_heap h 1, Lib.frozen_of_heap h 2, Lib.frozen_of_heap h 3, Lib.frozen_of_heap h 4, Lib.frozen_of_heap h 5, Lib.frozen_of_heap h 6, Lib.frozen_of_heap h 7⟩
theorem filter_some {l : List Th} {i t : Nat} {x : Th} (hx : l[i]? = some x) : (l[i]?).filter (fun x => x.mask.testBit t) = if x.mask.testBit t = true then some x else none := by
  rw [hx, Option.filter_some]
set_option maxHeartbeats 2000000 in
theorem own_any (b B t : Nat) (id : Int) (r : Raw) (l : List Th) (w : World) (h : RawAt w b r) (hl : ThRow w B r.vth l) (ht : t < 64) (hm : ∀ x ∈ l, x.mask < 18446744073709551616) (hid : -9223372036854775808 ≤ id ∧ id ≤ 9223372036854775807) :
    Calls Tryz.prog 79 #[.pointer (some ⟨b, 0, none⟩), .int .i64 t, .int .i64 id] w fun e w' => e = .returned (.tuple #[((ownF l t id).getD noTh).val, .bool (ownF l t id).isSome]) ∧ Below w.heap.size w w' := by
  have hb0 : Below w.heap.size w (w.alloc (.cells #[.int .i64 0, .int .i64 0, .int .i64 0, .int .i64 0, .int .i64 0, .int .i64 0, .int .i64 0, .int .u64 0] 100)) := (Below.refl _ _).alloc (Nat.le_refl _) _
  have c1 := h.at 1 (by omega)
  rw [Raw.c1] at c1
  have hblt := h.lt
  by_cases h2 : 2 ≤ id
  · obtain ⟨i, hi⟩ := Int.eq_ofNat_of_zero_le (show 0 ≤ id - 2 by omega)
    obtain rfl : id = (i : Int) + 2 := by omega
    have HO : Hid (ownF l t ((i : Int) + 2) = (l[i]?).filter (fun x => x.mask.testBit t)) := by
      show _ = _
      unfold ownF
      rw [if_pos h2, show ((i : Int) + 2 - 2).toNat = i by omega]
    have hn2 : ¬ (i : Int) + 2 < 2 := by omega
    clear hi
    by_cases hlt : i < l.length
    · obtain ⟨g, c, hv⟩ := hl.shape' (by omega)
      rw [hv] at c1 hl
      have hx : l[i]? = some l[i] := List.getElem?_eq_getElem hlt
      obtain ⟨d0, d1, d2, d3, d4, d5, d6, d7⟩ := hl.cells hx
      have hglt := (hl.lt g rfl).2
      have hmx := hm l[i] (List.getElem_mem _)
      have hio := fun W => isOwn_any l[i] t W hmx ht
      generalize l[i] = x at *
      have HF : Hid (ownF l t ((i : Int) + 2) = if x.mask.testBit t = true then some x else none) := HO.out.trans (filter_some hx)
      have hii : (i : Int) < (l.length : Int) := by omega
      have hi0 : (0 : Int) ≤ i := by omega
      clear hx hm HO hl hlt
      generalize l.length = n at *
      go_enter Tryz.func79, Tryz.ntmps79
      go_wp2_with fail
      refine (hio _).mono ?_
      rintro e w1 ⟨rfl, hb1⟩
      have hb1' := hb0.trans (hb1.mono hb0.size)
      have e1 := cell_later hb1' c1
      have g0 := cell_later hb1' d0
      have g1 := cell_later hb1' d1
      have g2 := cell_later hb1' d2
      have g3 := cell_later hb1' d3
      have g4 := cell_later hb1' d4
      have g5 := cell_later hb1' d5
      have g6 := cell_later hb1' d6
      have g7 := cell_later hb1' d7
      have hA : w1.heap[w.heap.size]? = some (.cells #[.int .i64 0, .int .i64 0, .int .i64 0, .int .i64 0, .int .i64 0, .int .i64 0, .int .i64 0, .int .u64 0] 100 (0, 0)) := (hb1.block w.heap.size (by simp)).trans (heap_alloc_new w _)
      obtain ⟨k0, k1, k2, k3, k4, k5, k6, k7⟩ := cells8 hA
      obtain ⟨z0, z1, z2, z3, z4, z5, z6, z7⟩ := free8 hA
      cases hbit : x.mask.testBit t with
      | true =>
        rw [hbit] at HF
        go_wp2_with fail
        have hR := set8 hA (.int .i64 x.k) (.int .i64 x.p0) (.int .i64 x.p1) (.int .i64 x.p2) (.int .i64 x.p3) (.int .i64 x.lv) (.int .i64 x.va) (.int .u64 x.mask)
        refine bodyPost_ret (v := .tuple #[x.val, .bool true]) ?_ rfl ⟨?_, ?_⟩
        · simp [results, Tryz.results79, go_sem, Th.val, Lib.cell_of_heap hR]
        · rw [HF.out]; rfl
        · exact set8_below hb1' (Nat.le_refl _) _ _ _ _ _ _ _ _
      | false =>
        rw [hbit] at HF
        go_wp2_with fail
        have hR := set8 hA (.int .i64 0) (.int .i64 0) (.int .i64 0) (.int .i64 0) (.int .i64 0) (.int .i64 0) (.int .i64 0) (.int .u64 0)
        refine bodyPost_ret (v := .tuple #[noTh.val, .bool false]) ?_ rfl ⟨?_, ?_⟩
        · simp [results, Tryz.results79, go_sem, noTh, Th.val, Lib.cell_of_heap hR]
        · rw [HF.out]; rfl
        · exact set8_below hb1' (Nat.le_refl _) _ _ _ _ _ _ _ _
    · have hnlt : ¬ (i : Int) < (l.length : Int) := by omega
      obtain ⟨a, c, hv⟩ := hl.shape
      rw [hv] at c1
      have HF : Hid (ownF l t ((i : Int) + 2) = none) := by
        show _ = _
        rw [HO.out, List.getElem?_eq_none (by omega)]; rfl
      clear HO hl hlt hm
      generalize l.length = n at *
      go_enter Tryz.func79, Tryz.ntmps79
      go_wp2_with fail
      refine bodyPost_ret (v := .tuple #[noTh.val, .bool false]) ?_ rfl ⟨?_, ?_⟩
      · simp [results, Tryz.results79, go_sem, noTh, Th.val]
      · rw [HF.out]; rfl
      · exact hb0
  · have hn2 : id < 2 := by omega
    have HO : Hid (ownF l t id = none) := by
      show _ = _
      unfold ownF
      rw [if_neg h2]
    go_enter Tryz.func79, Tryz.ntmps79
    go_wp2_with fail
    refine bodyPost_ret (v := .tuple #[noTh.val, .bool false]) ?_ rfl ⟨?_, ?_⟩
    · simp [results, Tryz.results79, go_sem, noTh, Th.val]
    · rw [HO.out]; rfl
    · exact hb0
end Go.Proofs.YtgipjplifndniaaGreatDoor.A
