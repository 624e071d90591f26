/- A reader in its block: need and word. -/
import Derived.Test.YtpldaghhledjlaaGreatDoorSpKit
namespace Go.Proofs.YtpldaghhledjlaaGreatDoor
open Go.RowKit

/-- a reader: the words that are left, and the error -/
structure Rd where
  ws : List ByteArray
  e : Int
def Rd.need (r : Rd) (ok : Bool) (e : Int) : Rd := if r.e = 0 ∧ ok = false then ⟨r.ws, e⟩ else r
def Rd.word (r : Rd) : ByteArray × Rd :=
  if r.e = 0 then (match r.ws with | [] => (⟨#[]⟩, ⟨[], 2⟩) | x :: t => (x, ⟨t, 0⟩)) else (⟨#[]⟩, r)

/-- words in a row that lies below a block -/
def WsAt (w : World) (b : Nat) (v : Value) (ws : List ByteArray) : Prop :=
  ∃ a c, v = .slice a ws.length c ∧ ws.length ≤ c ∧ c ≤ 4294967296 ∧ (ws = [] ∨ ∃ g o, a = some ⟨g, o, none⟩ ∧ g < b ∧ ∀ (j : Nat) x, ws[j]? = some x → w.cell? ⟨g, o + j, none⟩ = some (.string x))
/-- a reader in its block -/
def RdAt (w : World) (b : Nat) (r : Rd) : Prop := ∃ v, w.heap[b]? = some (.cells #[v, .int .i64 r.e] 127 (0, 0)) ∧ WsAt w b v r.ws

theorem RdAt.lt {w : World} {b : Nat} {r : Rd} (h : RdAt w b r) : b < w.heap.size := by
  obtain ⟨v, hb, _⟩ := h
  exact (Array.getElem?_eq_some_iff.1 hb).1
theorem cell_heap {w w' : World} {a : Addr} (h : w'.heap[a.block]? = w.heap[a.block]?) : w'.cell? a = w.cell? a := by
  unfold World.cell?
  rw [h]
theorem WsAt.keep {w w' : World} {b : Nat} {v : Value} {ws : List ByteArray} (h : WsAt w b v ws) (hk : ∀ k, k < b → w'.heap[k]? = w.heap[k]?) : WsAt w' b v ws := by
  obtain ⟨a, c, rfl, h1, h2, h3⟩ := h
  refine ⟨a, c, rfl, h1, h2, ?_⟩
  rcases h3 with h3 | ⟨g, o, rfl, hg, hc⟩
  · exact Or.inl h3
  · exact Or.inr ⟨g, o, rfl, hg, fun j x hj => (cell_heap (a := ⟨g, o + j, none⟩) (hk g hg)).trans (hc j x hj)⟩
theorem RdAt.keep {w w' : World} {b : Nat} {r : Rd} (h : RdAt w b r) (hk : ∀ k, k ≤ b → w'.heap[k]? = w.heap[k]?) : RdAt w' b r := by
  obtain ⟨v, hb, hw⟩ := h
  exact ⟨v, (hk b (Nat.le_refl _)).trans hb, hw.keep fun k hk' => hk k (Nat.le_of_lt hk')⟩
theorem RdAt.go {w w' : World} {b : Nat} {r : Rd} (h : RdAt w b r) (hb : Below w.heap.size w w') : RdAt w' b r :=
  h.keep fun k hk => hb.block k (Nat.lt_of_le_of_lt hk h.lt)
theorem RdAt.other {w w' : World} {b c : Nat} {r : Rd} (h : RdAt w b r) (hb : Only c w w') (hc : b < c) : RdAt w' b r :=
  h.keep fun k hk => hb.block k (Nat.lt_of_le_of_lt hk h.lt) (by omega)
theorem RdAt.setE {w : World} {b : Nat} {r : Rd} (h : RdAt w b r) (e : Int) : RdAt (w.setCell ⟨b, 1, none⟩ (.int .i64 e)) b ⟨r.ws, e⟩ := by
  obtain ⟨v, hb, hw⟩ := h
  exact ⟨v, Go.Joins.block_setCell hb _, hw.keep fun k hk => Below.heap_setCell _ _ _ _ (by show k ≠ b; omega)⟩

set_option maxHeartbeats 1000000 in
theorem need_any (b : Nat) (r : Rd) (ok : Bool) (e0 : Int) (w : World) (h : RdAt w b r) :
    Calls Tryz.prog 86 #[.pointer (some ⟨b, 0, none⟩), .bool ok, .int .i64 e0] w fun e w' => e = .returned (.tuple #[]) ∧ RdAt w' b (r.need ok e0) ∧ Only b w w' := by
  have h' := h
  obtain ⟨v, hb, hws⟩ := h
  have c1 : w.cell? ⟨b, 1, none⟩ = some (.int .i64 r.e) := by rw [Lib.cell_of_heap hb]; rfl
  have z1 : w.frozen? ⟨b, 1, none⟩ = false := Lib.frozen_of_heap hb 1
  have HN : Hid (r.need ok e0 = if r.e = 0 ∧ ok = false then ⟨r.ws, e0⟩ else r) := rfl
  have HR : Hid (RdAt w b r) := h'
  clear hb hws h'
  obtain ⟨ws, x⟩ := r
  simp only at c1
  by_cases hx : x = 0
  · subst hx
    cases ok
    · go_enter Tryz.func86, Tryz.ntmps86
      go_wp2
      go_end0
      rw [HN.out, if_pos (by simp)]
      exact ⟨rfl, HR.out.setE e0, Only.set _ _ _⟩
    · go_enter Tryz.func86, Tryz.ntmps86
      go_wp2
      go_end0
      rw [HN.out, if_neg (by simp)]
      exact ⟨rfl, HR.out, Only.refl _ _⟩
  · have hx2 : (x == 0) = false := by simpa using hx
    go_enter Tryz.func86, Tryz.ntmps86
    go_wp2
    go_end0
    rw [HN.out, if_neg (by simp [hx])]
    exact ⟨rfl, HR.out, Only.refl _ _⟩

theorem RdAt.step {w : World} {b : Nat} {x : ByteArray} {t : List ByteArray} (g o c : Nat) (h : w.heap[b]? = some (.cells #[.slice (some ⟨g, o, none⟩) (t.length + 1) c, .int .i64 0] 127 (0, 0))) (hg : g < b) (h1 : t.length + 1 ≤ c) (h2 : c ≤ 4294967296)
    (hc : ∀ (j : Nat) y, (x :: t)[j]? = some y → w.cell? ⟨g, o + j, none⟩ = some (.string y)) (a : Option Addr) (ha : t = [] ∨ a = some ⟨g, o + 1, none⟩) :
    RdAt (w.setCell ⟨b, 0, none⟩ (.slice a t.length (c - 1))) b ⟨t, 0⟩ := by
  refine ⟨_, Go.Joins.block_setCell h _, a, c - 1, rfl, by show t.length ≤ c - 1; omega, by omega, ?_⟩
  rcases ha with ha | rfl
  · exact Or.inl ha
  · refine Or.inr ⟨g, o + 1, rfl, hg, fun j y hj => ?_⟩
    have := hc (j + 1) y (by simpa using hj)
    rw [← this, Nat.add_assoc, Nat.add_comm 1 j]
    exact cell_heap (Below.heap_setCell _ _ _ _ (by show g ≠ b; omega))

set_option maxHeartbeats 1000000 in
theorem word_any (b : Nat) (r : Rd) (w : World) (h : RdAt w b r) :
    Calls Tryz.prog 121 #[.pointer (some ⟨b, 0, none⟩)] w fun e w' => e = .returned (.string r.word.1) ∧ RdAt w' b r.word.2 ∧ Only b w w' := by
  have hneed := need_any b r (decide (0 < r.ws.length)) 2 w h
  obtain ⟨v, hb, a, c, rfl, hlc, hc4, hws⟩ := id h
  have c0 : w.cell? ⟨b, 0, none⟩ = some (.slice a r.ws.length c) := by rw [Lib.cell_of_heap hb]; rfl
  obtain ⟨ws, x⟩ := r
  simp only at c0 hneed hlc hws
  by_cases hx : x = 0
  · subst hx
    cases ws with
    | nil =>
      have hne : Rd.need ⟨[], 0⟩ (decide (0 < ([] : List ByteArray).length)) 2 = ⟨[], 2⟩ := by simp [Rd.need]
      rw [hne] at hneed
      clear hb hws hlc hne h
      go_enter Tryz.func121, Tryz.ntmps121
      go_wp2_with (go_at_call 86; refine hneed.mono ?_)
      rintro e w1 ⟨rfl, hr1, ho1⟩
      have c1 : w1.cell? ⟨b, 1, none⟩ = some (.int .i64 2) := by obtain ⟨v, hb, _⟩ := hr1; rw [Lib.cell_of_heap hb]; rfl
      go_wp2
      go_ret
      exact ⟨rfl, hr1, ho1⟩
    | cons y t =>
      have hne : Rd.need ⟨y :: t, 0⟩ (decide (0 < (y :: t).length)) 2 = ⟨y :: t, 0⟩ := by simp [Rd.need]
      rw [hne] at hneed
      have hd : decide (0 < (y :: t).length) = true := by simp
      rw [hd] at hneed
      simp only [List.length_cons] at c0 hlc
      have hp : (0 : Int) < ((t.length : Int) + 1) := by omega
      clear hb hws hne h hd
      go_enter Tryz.func121, Tryz.ntmps121
      go_wp2_with (go_at_call 86; refine hneed.mono ?_)
      rintro e w1 ⟨rfl, hr1, ho1⟩
      obtain ⟨v1, hb1, a1, k1, rfl, hlc1, hc41, hws1⟩ := id hr1
      have c1 : w1.cell? ⟨b, 1, none⟩ = some (.int .i64 0) := by rw [Lib.cell_of_heap hb1]; rfl
      have c01 : w1.cell? ⟨b, 0, none⟩ = some (.slice a1 (t.length + 1) k1) := by rw [Lib.cell_of_heap hb1]; rfl
      have z0 : w1.frozen? ⟨b, 0, none⟩ = false := Lib.frozen_of_heap hb1 0
      rcases hws1 with h0 | ⟨g, o, rfl, hg, hcs⟩
      · cases h0
      have cy : w1.cell? ⟨g, o, none⟩ = some (.string y) := hcs 0 y rfl
      have HB : Hid (w1.heap[b]? = some (.cells #[.slice (some ⟨g, o, none⟩) (t.length + 1) k1, .int .i64 0] 127 (0, 0))) := hb1
      simp only [List.length_cons] at hlc1
      have HC : Hid (∀ (j : Nat) z, (y :: t)[j]? = some z → w1.cell? ⟨g, o + j, none⟩ = some (.string z)) := hcs
      have HL : Hid (t.length + 1 ≤ k1 ∧ k1 ≤ 4294967296) := ⟨hlc1, hc41⟩
      have hk1 : (t.length : Int) + 1 ≤ (k1 : Int) := by omega
      have hk2 : (k1 : Int) ≤ 4294967296 := by omega
      clear hb1 hcs hr1 c0 hneed hlc hlc1
      go_wp2
      · have hk : k1 = 1 := by assumption
        go_ret
        refine ⟨rfl, ?_, ho1.trans (Only.set _ _ _)⟩
        have hh := RdAt.step g o k1 HB.out hg HL.out.1 HL.out.2 HC.out (some ⟨g, o, none⟩) (Or.inl (List.eq_nil_of_length_eq_zero (by have := HL.out.1; omega)))
        rw [hk] at hh
        exact hh
      · go_ret
        exact ⟨rfl, RdAt.step g o k1 HB.out hg HL.out.1 HL.out.2 HC.out (some ⟨g, o + 1, none⟩) (Or.inr rfl), ho1.trans (Only.set _ _ _)⟩
  · have hx2 : (x == 0) = false := by simpa using hx
    have hne : Rd.need ⟨ws, x⟩ (decide (0 < ws.length)) 2 = ⟨ws, x⟩ := by simp [Rd.need, hx]
    rw [hne] at hneed
    have HW : Hid (Rd.word ⟨ws, x⟩ = (⟨#[]⟩, ⟨ws, x⟩)) := by show _ = _; simp [Rd.word, hx]
    clear hb hws hne h
    go_enter Tryz.func121, Tryz.ntmps121
    go_wp2_with (go_at_call 86; refine hneed.mono ?_)
    rintro e w1 ⟨rfl, hr1, ho1⟩
    have c1 : w1.cell? ⟨b, 1, none⟩ = some (.int .i64 x) := by obtain ⟨v, hb, _⟩ := hr1; rw [Lib.cell_of_heap hb]; rfl
    go_wp2
    go_ret
    rw [HW.out]
    exact ⟨rfl, hr1, ho1⟩
end Go.Proofs.YtpldaghhledjlaaGreatDoor
