/- A house and its ports in memory: has, Log, dropOldest. -/
import Derived.Test.YtpldaghhledjlaaGreatDoorSpKit
namespace Go.Proofs.YtpldaghhledjlaaGreatDoor.H
open Go.RowKit

/-- a house's own block -/
def HoB (w : World) (hb : Nat) (av tv pv : Value) (k : Int) (lv : Value) : Prop := w.heap[hb]? = some (.cells #[av, tv, pv, .int .i64 k, lv] 52 (0, 0))
/-- a port's own block -/
def PoB (w : World) (pb : Nat) (hv : Value) (kept : ByteArray) (bv tv : Value) : Prop := w.heap[pb]? = some (.cells #[hv, .string kept, bv, tv] 63 (0, 0))
theorem has_any (hb n c : Nat) (a : Option Addr) (av tv lv : Value) (k t : Int) (w : World) (h : HoB w hb av tv (.slice a n c) k lv) :
    Calls Tryz.prog 20 #[.pointer (some ⟨hb, 0, none⟩), .int .i64 t] w fun e w' => e = .returned (.bool (decide (0 ≤ t ∧ t < (n : Int)))) ∧ w' = w := by
  have c2 : w.cell? ⟨hb, 2, none⟩ = some (.slice a n c) := Lib.cell_of_heap h 2
  clear h
  by_cases h0 : 0 ≤ t
  · by_cases h1 : t < (n : Int)
    · rw [decide_eq_true ⟨h0, h1⟩]
      go_enter Tryz.func20, Tryz.ntmps20
      go_wp2_with fail
      go_ret
      exact ⟨rfl, rfl⟩
    · rw [decide_eq_false fun e => h1 e.2]
      go_enter Tryz.func20, Tryz.ntmps20
      go_wp2_with fail
      go_ret
      exact ⟨rfl, rfl⟩
  · rw [decide_eq_false fun e => h0 e.1]
    go_enter Tryz.func20, Tryz.ntmps20
    go_wp2_with fail
    go_ret
    exact ⟨rfl, rfl⟩
/-- the oldest line is dropped, and lines are left -/
theorem drop_more (pb g o m c : Nat) (hv tv : Value) (kept x : ByteArray) (w : World) (h : PoB w pb hv kept (.slice (some ⟨g, o, none⟩) (m + 1) c) tv) (hg : g ≠ pb) (hx : w.cell? ⟨g, o, none⟩ = some (.string x)) (hf : w.frozen? ⟨g, o, none⟩ = false) (hm : 0 < m) (hc : m + 1 ≤ c) :
    Calls Tryz.prog 35 #[.pointer (some ⟨pb, 0, none⟩)] w fun e w' => e = .returned (.tuple #[]) ∧ w' = (w.setCell ⟨g, o, none⟩ (.string ⟨#[]⟩)).setCell ⟨pb, 2, none⟩ (.slice (some ⟨g, o + 1, none⟩) m (c - 1)) := by
  have c2 : w.cell? ⟨pb, 2, none⟩ = some (.slice (some ⟨g, o, none⟩) (m + 1) c) := Lib.cell_of_heap h 2
  have f2 := Lib.frozen_of_heap h 2
  have k0 : (0 : Int) < ((m + 1 : Nat) : Int) := by omega
  have k1 : (1 : Int) ≤ ((m + 1 : Nat) : Int) := by omega
  have k2 : ¬ c = 1 := by omega
  have k3 : ((m : Int) == 0) = false := by simp; omega
  have hgp : pb ≠ g := fun e => hg e.symm
  clear h
  go_enter Tryz.func35, Tryz.ntmps35
  go_wp2_with fail
  go_end0
  exact ⟨rfl, rfl⟩
set_option maxRecDepth 20000 in
/-- the last line is dropped -/
theorem drop_last (pb g o c : Nat) (hv tv : Value) (kept x : ByteArray) (w : World) (h : PoB w pb hv kept (.slice (some ⟨g, o, none⟩) 1 c) tv) (hg : g ≠ pb) (hx : w.cell? ⟨g, o, none⟩ = some (.string x)) (hf : w.frozen? ⟨g, o, none⟩ = false) (hc : 1 ≤ c) :
    Calls Tryz.prog 35 #[.pointer (some ⟨pb, 0, none⟩)] w fun e w' => e = .returned (.tuple #[]) ∧ (∀ q, q ≠ pb → q ≠ g → w'.heap[q]? = w.heap[q]?) ∧ PoB w' pb hv kept (.slice none 0 0) tv ∧ (w'.os = w.os ∧ w'.tape = w.tape ∧ w'.output = w.output ∧ w'.heap.size = w.heap.size) := by
  have c2 : w.cell? ⟨pb, 2, none⟩ = some (.slice (some ⟨g, o, none⟩) 1 c) := Lib.cell_of_heap h 2
  have f2 := Lib.frozen_of_heap h 2
  have hgp : pb ≠ g := fun e => hg e.symm
  have HE : Hid (∀ v : Value, (∀ q, q ≠ pb → q ≠ g → (((w.setCell ⟨g, o, none⟩ (.string ⟨#[]⟩)).setCell ⟨pb, 2, none⟩ v).setCell ⟨pb, 2, none⟩ (.slice none 0 0)).heap[q]? = w.heap[q]?) ∧ PoB (((w.setCell ⟨g, o, none⟩ (.string ⟨#[]⟩)).setCell ⟨pb, 2, none⟩ v).setCell ⟨pb, 2, none⟩ (.slice none 0 0)) pb hv kept (.slice none 0 0) tv) := fun v => ⟨fun q h1 h2 => by rw [Below.heap_setCell _ _ _ _ (by exact h1), Below.heap_setCell _ _ _ _ (by exact h1), Below.heap_setCell _ _ _ _ (by exact h2)], Go.Joins.block_setCell (Go.Joins.block_setCell ((Below.heap_setCell _ _ _ _ (by exact hgp)).trans h) _) _⟩
  clear h
  by_cases hc1 : c = 1
  · subst hc1
    go_enter Tryz.func35, Tryz.ntmps35
    go_wp2_with fail
    go_end0
    exact ⟨rfl, (HE.out _).1, (HE.out _).2, rfl, rfl, rfl, by simp [World.setCell]⟩
  · go_enter Tryz.func35, Tryz.ntmps35
    go_wp2_with fail
    go_end0
    exact ⟨rfl, (HE.out _).1, (HE.out _).2, rfl, rfl, rfl, by simp [World.setCell]⟩
set_option maxRecDepth 20000 in
/-- the log, as a text -/
theorem log_any (hb B : Nat) (av tv pv lv : Value) (k : Int) (l : List UInt8) (w : World) (h : HoB w hb av tv pv k lv) (hl : w.ownsRow B 5 1 lv l.length (Lib.byteCells l)) :
    Calls Tryz.prog 14 #[.pointer (some ⟨hb, 0, none⟩)] w fun e w' => e = .returned (.string ⟨l.toArray⟩) ∧ w' = w := by
  have c4 : w.cell? ⟨hb, 4, none⟩ = some lv := Lib.cell_of_heap h 4
  clear h
  rcases hl.2 with ⟨e1, e2⟩ | ⟨g, cap, cur, e1, _⟩
  · have e3 : l = [] := List.eq_nil_of_length_eq_zero e2
    subst e1 e3
    have hconv : (convert 50 9 (.slice none 0 0)).run Tryz.prog w = .ok (.string ⟨#[]⟩) w := by kernel_rfl
    go_enter Tryz.func14, Tryz.ntmps14
    go_wp2_with fail
    go_ret
    exact ⟨rfl, rfl⟩
  · subst e1
    have hconv := run_convert_bytes_back (P := Tryz.prog) w 50 9 5 ⟨g, 0, none⟩ cap l Tryz.underlying50 Tryz.underlying5 Tryz.underlying9 (fun j hj => by
      have h2 := hl.cellAt j (by omega)
      rw [show (⟨g, 0, none⟩ : Addr).add j = ⟨g, j, none⟩ by simp only [Addr.add]; split <;> simp_all, h2]
      simp [Lib.byteCells, hj])
    generalize (⟨l.toArray⟩ : ByteArray) = S at *
    generalize l.length = n at *
    go_enter Tryz.func14, Tryz.ntmps14
    go_wp2_with fail
    go_ret
    exact ⟨rfl, rfl⟩
end Go.Proofs.YtpldaghhledjlaaGreatDoor.H
