/- An arena's own block. -/
import Derived.Test.YtfogedmghhacdaaProg
import Derived.ProofKit
import Derived.Lib.SmallJoins
import Derived.Deep.RegionHeld3
import Derived.Laws.OwnMore
import Derived.Laws.BitsAllLaws
import Derived.BigQuiet
import Derived.RegionTactic
import Derived.Lib.Builder
namespace Go.Proofs.Ytfogedmghhacdaa.A
open Go.RowKit

/-- a tenant's bit -/
def bitN (t : Nat) : Nat := 2 ^ t
theorem bitN_lt (t : Nat) (h : t < 64) : bitN t < 18446744073709551616 := by
  have : (2 : Nat) ^ t < 2 ^ 64 := Nat.pow_lt_pow_right (by omega) h
  unfold bitN
  simpa using this
theorem wrap_bit (t : Nat) (h : t < 64) : IntKind.u64.wrap (2 ^ t) = (bitN t : Int) := by
  have h1 := bitN_lt t h
  rw [IntKind.wrap_u64]
  have e : (2 : Int) ^ t = (bitN t : Int) := by simp [bitN]
  rw [e]
  omega
theorem ret_i {k : IntKind} {a b : Int} (h : a = b) : Ending.returned (.int k a) = .returned (.int k b) := by rw [h]

theorem bit_any (t : Nat) (w : World) (h : t < 64) : Calls Try.prog 59 #[.int .i64 t] w fun e w' => e = .returned (.int .u64 (bitN t : Int)) ∧ w' = w := by
  go_enter Try.func59, Try.ntmps59
  go_wp2
  go_ret
  exact ⟨ret_i (wrap_bit t h), rfl⟩

/-- a thing: its kind, its four parts, its level, its value, its mask -/
structure Th where
  k : Int
  p0 : Int
  p1 : Int
  p2 : Int
  p3 : Int
  lv : Int
  va : Int
  mask : Nat
/-- a thing's cells -/
def Th.cells (x : Th) : List Value := [.int .i64 x.k, .int .i64 x.p0, .int .i64 x.p1, .int .i64 x.p2, .int .i64 x.p3, .int .i64 x.lv, .int .i64 x.va, .int .u64 x.mask]
/-- a thing's value -/
def Th.val (x : Th) : Value := .agg #[.int .i64 x.k, .int .i64 x.p0, .int .i64 x.p1, .int .i64 x.p2, .int .i64 x.p3, .int .i64 x.lv, .int .i64 x.va, .int .u64 x.mask]

theorem and_bit (m t : Nat) (hm : m < 18446744073709551616) (h : t < 64) : (bits .and .u64 (m : Int) (bitN t : Int) != 0) = m.testBit t := by
  rw [u64_and_nat m (bitN t) hm (bitN_lt t h)]
  unfold bitN
  rw [nat_bit, Nat.testBit_eq_decide_div_mod_eq]
  have hp : 0 < 2 ^ t := Nat.two_pow_pos t
  rcases Nat.mod_two_eq_zero_or_one (m / 2 ^ t) with e | e
  · rw [e]; simp
  · rw [e, Nat.one_mul]
    generalize 2 ^ t = z at *
    simp
    omega

set_option maxHeartbeats 1000000 in
theorem isOwn_any (x : Th) (t : Nat) (w : World) (hm : x.mask < 18446744073709551616) (h : t < 64) : Calls Try.prog 47 #[x.val, .int .i64 t] w fun e w' => e = .returned (.bool (x.mask.testBit t)) ∧ Below w.heap.size w w' := by
  have hb := fun W => bit_any t W h
  have ha := and_bit x.mask t hm h
  unfold Th.val
  go_enter Try.func47, Try.ntmps47
  go_wp2_with fail
  go_quiet ((go_at_call 59; exact Calls.quiet_of_same (hb _)))
  go_wp2
  go_ret
  refine ⟨rfl, ?_⟩
  have := (Below.refl w.heap.size w).alloc (Nat.le_refl _) (.cells #[.int .i64 x.k, .int .i64 x.p0, .int .i64 x.p1, .int .i64 x.p2, .int .i64 x.p3, .int .i64 x.lv, .int .i64 x.va, .int .u64 x.mask] 82)
  exact ⟨this.os, this.tape, this.output, this.size, this.block⟩
end Go.Proofs.Ytfogedmghhacdaa.A

namespace Go.Proofs.Ytfogedmghhacdaa.A
open Go.RowKit

/-- a tenant's three cells -/
structure Tn where
  lim : Int
  cnt : Int
  fr : Value
/-- what an arena's block holds -/
structure Raw where
  room : Int
  vth : Value
  mp : Nat
  vfr : Value
  tn : Nat → Tn
def Raw.cell (r : Raw) (i : Nat) : Value :=
  if i = 0 then .int .i64 r.room else if i = 1 then r.vth else if i = 2 then .map (some r.mp) else if i = 3 then r.vfr else
  if (i - 4) % 3 = 0 then .int .i64 (r.tn ((i - 4) / 3)).lim else if (i - 4) % 3 = 1 then .int .i64 (r.tn ((i - 4) / 3)).cnt else (r.tn ((i - 4) / 3)).fr
def RawAt (w : World) (b : Nat) (r : Raw) : Prop := ∃ C, w.heap[b]? = some (.cells C 70 (0, 0)) ∧ C.size = 196 ∧ ∀ i, i < 196 → C[i]? = some (r.cell i)
theorem RawAt.lt {w : World} {b : Nat} {r : Raw} (h : RawAt w b r) : b < w.heap.size := by
  obtain ⟨C, h1, _⟩ := h
  exact (Array.getElem?_eq_some_iff.1 h1).1
theorem RawAt.at {w : World} {b : Nat} {r : Raw} (h : RawAt w b r) (i : Nat) (hi : i < 196) : w.cell? ⟨b, i, none⟩ = some (r.cell i) := by
  obtain ⟨C, h1, h2, h3⟩ := h
  rw [Lib.cell_of_heap h1]
  exact h3 i hi
theorem RawAt.frozen {w : World} {b : Nat} {r : Raw} (h : RawAt w b r) (i : Nat) : w.frozen? ⟨b, i, none⟩ = false := by
  obtain ⟨C, h1, h2, h3⟩ := h
  exact Lib.frozen_of_heap h1 i
theorem RawAt.go {w w' : World} {b : Nat} {r : Raw} (h : RawAt w b r) (hb : w'.heap[b]? = w.heap[b]?) : RawAt w' b r := by
  obtain ⟨C, h1, h2⟩ := h
  exact ⟨C, hb.trans h1, h2⟩
theorem RawAt.set {w : World} {b : Nat} {r r' : Raw} (h : RawAt w b r) (i : Nat) (v : Value) (hr : ∀ j, j < 196 → r'.cell j = if j = i then v else r.cell j) : RawAt (w.setCell ⟨b, i, none⟩ v) b r' := by
  obtain ⟨C, h1, h2, h3⟩ := h
  refine ⟨C.setIfInBounds i v, Go.Joins.block_setCell h1 v, by simpa using h2, fun j hj => ?_⟩
  rw [hr j hj, Array.getElem?_setIfInBounds]
  by_cases e : i = j
  · subst e; simp [h2, hj]
  · rw [if_neg e, if_neg (fun k => e k.symm)]; exact h3 j hj
theorem Raw.c0 (r : Raw) : r.cell 0 = .int .i64 r.room := rfl
theorem Raw.c1 (r : Raw) : r.cell 1 = r.vth := rfl
theorem Raw.c2 (r : Raw) : r.cell 2 = .map (some r.mp) := rfl
theorem Raw.c3 (r : Raw) : r.cell 3 = r.vfr := rfl
theorem Raw.cl (r : Raw) (t : Nat) : r.cell (4 + t * 3) = .int .i64 (r.tn t).lim := by
  unfold Raw.cell
  rw [if_neg (by omega), if_neg (by omega), if_neg (by omega), if_neg (by omega), if_pos (by omega), show (4 + t * 3 - 4) / 3 = t by omega]
theorem Raw.cc (r : Raw) (t : Nat) : r.cell (4 + t * 3 + 1) = .int .i64 (r.tn t).cnt := by
  unfold Raw.cell
  rw [if_neg (by omega), if_neg (by omega), if_neg (by omega), if_neg (by omega), if_neg (by omega), if_pos (by omega), show (4 + t * 3 + 1 - 4) / 3 = t by omega]
theorem Raw.cf (r : Raw) (t : Nat) : r.cell (4 + t * 3 + 2) = (r.tn t).fr := by
  unfold Raw.cell
  rw [if_neg (by omega), if_neg (by omega), if_neg (by omega), if_neg (by omega), if_neg (by omega), if_neg (by omega), show (4 + t * 3 + 2 - 4) / 3 = t by omega]

theorem isTenant_any (t : Int) (w : World) : Calls Try.prog 41 #[.int .i64 t] w fun e w' => e = .returned (.bool (decide (0 ≤ t ∧ t < 64))) ∧ w' = w := by
  by_cases h : 0 ≤ t
  · go_enter Try.func41, Try.ntmps41
    go_wp2
    go_ret
    refine ⟨?_, rfl⟩
    simp [h]
  · go_enter Try.func41, Try.ntmps41
    go_wp2
    go_ret
    refine ⟨?_, rfl⟩
    simp
    omega
theorem tenant_yes (t : Nat) (ht : t < 64) (w : World) : Calls Try.prog 41 #[.int .i64 t] w fun e w' => e = .returned (.bool true) ∧ w' = w := by
  have h := isTenant_any t w
  rw [show decide ((0 : Int) ≤ (t : Int) ∧ (t : Int) < 64) = true by simp; omega] at h
  exact h
theorem tenant_no (t : Int) (ht : ¬ (0 ≤ t ∧ t < 64)) (w : World) : Calls Try.prog 41 #[.int .i64 t] w fun e w' => e = .returned (.bool false) ∧ w' = w := by
  have h := isTenant_any t w
  rw [decide_eq_false ht] at h
  exact h

set_option maxHeartbeats 1000000 in
theorem count_any (b : Nat) (r : Raw) (t : Nat) (w : World) (h : RawAt w b r) (ht : t < 64) : Calls Try.prog 22 #[.pointer (some ⟨b, 0, none⟩), .int .i64 t] w fun e w' => e = .returned (.int .i64 (r.tn t).cnt) ∧ w' = w := by
  have hc := h.at (4 + t * 3 + 1) (by omega)
  rw [Raw.cc] at hc
  have hi := fun W => tenant_yes t ht W
  have h0 : (0 : Int) ≤ t := by omega
  have h1 : (t : Int) < 64 := by omega
  go_enter Try.func22, Try.ntmps22
  go_wp2_with fail
  refine (hi _).mono ?_
  rintro e w1 ⟨rfl, rfl⟩
  go_wp2_with fail
  go_ret
  exact ⟨rfl, rfl⟩

/-- how many there are: a slice of things, a slice of free numbers -/
theorem live_any (b n m : Nat) (r : Raw) (w : World) (h : RawAt w b r) (hv : ∃ a c, r.vth = .slice a n c) (hf : ∃ a c, r.vfr = .slice a m c) (hn : n < 4611686018427387904) (hm : m < 4611686018427387904) :
    Calls Try.prog 9 #[.pointer (some ⟨b, 0, none⟩)] w fun e w' => e = .returned (.int .i64 ((n : Int) - m)) ∧ ∃ q, w' = w.drewN q := by
  have c1 := h.at 1 (by omega)
  have c3 := h.at 3 (by omega)
  obtain ⟨a, c, hv⟩ := hv
  obtain ⟨a', c', hf⟩ := hf
  rw [Raw.c1, hv] at c1
  rw [Raw.c3, hf] at c3
  go_enter Try.func9, Try.ntmps9
  go_wp2_with fail
  go_quiet (fail)
  go_wp2_with fail
  go_ret
  exact ⟨rfl, _, rfl⟩

/-- a tenant's three cells turned -/
def Raw.turn (r : Raw) (t : Nat) (x : Tn) : Raw := { r with tn := fun u => if u = t then x else r.tn u }
theorem Raw.turn_cell (r : Raw) (t : Nat) (x : Tn) (j : Nat) : (r.turn t x).cell j = if j = 4 + t * 3 then .int .i64 x.lim else if j = 4 + t * 3 + 1 then .int .i64 x.cnt else if j = 4 + t * 3 + 2 then x.fr else r.cell j := by
  by_cases h4 : j < 4
  · rw [if_neg (by omega), if_neg (by omega), if_neg (by omega)]
    unfold Raw.cell
    match j, h4 with
    | 0, _ => rfl
    | 1, _ => rfl
    | 2, _ => rfl
    | 3, _ => rfl
  · unfold Raw.cell Raw.turn
    simp only
    rw [if_neg (by omega), if_neg (by omega), if_neg (by omega), if_neg (by omega), if_neg (show ¬ j = 0 by omega), if_neg (show ¬ j = 1 by omega), if_neg (show ¬ j = 2 by omega), if_neg (show ¬ j = 3 by omega)]
    by_cases e : (j - 4) / 3 = t
    · rw [if_pos e]
      have : j = 4 + t * 3 ∨ j = 4 + t * 3 + 1 ∨ j = 4 + t * 3 + 2 := by omega
      rcases this with h | h | h
      · rw [if_pos (show (j - 4) % 3 = 0 by omega), if_pos h]
      · rw [if_neg (show ¬ (j - 4) % 3 = 0 by omega), if_pos (show (j - 4) % 3 = 1 by omega), if_neg (by omega), if_pos h]
      · rw [if_neg (show ¬ (j - 4) % 3 = 0 by omega), if_neg (show ¬ (j - 4) % 3 = 1 by omega), if_neg (by omega), if_neg (by omega), if_pos h]
    · rw [if_neg e, if_neg (show ¬ j = 4 + t * 3 by omega), if_neg (show ¬ j = 4 + t * 3 + 1 by omega), if_neg (show ¬ j = 4 + t * 3 + 2 by omega)]
theorem RawAt.setLim {w : World} {b : Nat} {r : Raw} (h : RawAt w b r) (t : Nat) (n : Int) : RawAt (w.setCell ⟨b, 4 + t * 3, none⟩ (.int .i64 n)) b (r.turn t { r.tn t with lim := n }) :=
  h.set _ _ fun j _ => by
    rw [Raw.turn_cell]
    by_cases e : j = 4 + t * 3
    · rw [if_pos e, if_pos e]
    · rw [if_neg e, if_neg e]
      by_cases e1 : j = 4 + t * 3 + 1
      · rw [if_pos e1, e1, Raw.cc]
      · rw [if_neg e1]
        by_cases e2 : j = 4 + t * 3 + 2
        · rw [if_pos e2, e2, Raw.cf]
        · rw [if_neg e2]
theorem RawAt.setCnt {w : World} {b : Nat} {r : Raw} (h : RawAt w b r) (t : Nat) (n : Int) : RawAt (w.setCell ⟨b, 4 + t * 3 + 1, none⟩ (.int .i64 n)) b (r.turn t { r.tn t with cnt := n }) :=
  h.set _ _ fun j _ => by
    rw [Raw.turn_cell]
    by_cases e1 : j = 4 + t * 3 + 1
    · rw [if_neg (by omega), if_pos e1, if_pos e1]
    · rw [if_neg e1, if_neg e1]
      by_cases e : j = 4 + t * 3
      · rw [if_pos e, e, Raw.cl]
      · rw [if_neg e]
        by_cases e2 : j = 4 + t * 3 + 2
        · rw [if_pos e2, e2, Raw.cf]
        · rw [if_neg e2]
theorem RawAt.setFr {w : World} {b : Nat} {r : Raw} (h : RawAt w b r) (t : Nat) (v : Value) : RawAt (w.setCell ⟨b, 4 + t * 3 + 2, none⟩ v) b (r.turn t { r.tn t with fr := v }) :=
  h.set _ _ fun j _ => by
    rw [Raw.turn_cell]
    by_cases e2 : j = 4 + t * 3 + 2
    · rw [if_neg (by omega), if_neg (by omega), if_pos e2]
    · rw [if_neg e2]
      by_cases e : j = 4 + t * 3
      · rw [if_pos e, e, Raw.cl]
      · rw [if_neg e]
        by_cases e1 : j = 4 + t * 3 + 1
        · rw [if_pos e1, e1, Raw.cc]
        · rw [if_neg e1]
theorem RawAt.setTh {w : World} {b : Nat} {r : Raw} (h : RawAt w b r) (v : Value) : RawAt (w.setCell ⟨b, 1, none⟩ v) b { r with vth := v } :=
  h.set 1 v fun j _ => by
    by_cases e : j = 1
    · subst e; rfl
    · rw [if_neg e]
      unfold Raw.cell
      simp only [if_neg e]

/-- Limit, of a tenant -/
theorem limit_any (b t : Nat) (n : Int) (r : Raw) (w : World) (h : RawAt w b r) (ht : t < 64) (hn : 0 ≤ n) (hm : n ≤ r.room) :
    Calls Try.prog 15 #[.pointer (some ⟨b, 0, none⟩), .int .i64 t, .int .i64 n] w fun e w' => e = .returned (.int .i64 0) ∧ w' = w.setCell ⟨b, 4 + t * 3, none⟩ (.int .i64 n) := by
  have hi := fun W => tenant_yes t ht W
  have c0 := h.at 0 (by omega)
  rw [Raw.c0] at c0
  have cl := h.at (4 + t * 3) (by omega)
  rw [Raw.cl] at cl
  have fz := h.frozen (4 + t * 3)
  have h0 : (0 : Int) ≤ t := by omega
  have h1 : (t : Int) < 64 := by omega
  have h2 : ¬ n < 0 := by omega
  have h3 : ¬ r.room < n := by omega
  go_enter Try.func15, Try.ntmps15
  go_wp2_with fail
  refine (hi _).mono ?_
  rintro e w1 ⟨rfl, rfl⟩
  go_wp2_with fail
  go_ret
  exact ⟨rfl, rfl⟩
end Go.Proofs.Ytfogedmghhacdaa.A
