/- Whole numbers: give, SetInt64, Add, telling which words a number has then (made anew by the call). -/
import Derived.Test.YtpldnhlancjlnaaDoorBigAdd
namespace Go.Proofs.YtpldnhlancjlnaaDoor
open Go.RowKit

theorem give3_any (b n B' : Nat) (v p q : Value) (w : World) (hb : w.heap[b]? = some (.cells #[p, q] 75 (0, 0))) (hv : Wd w B' v n) (hB : b < B') :
    Calls Tryd.prog 65 #[.pointer (some ⟨b, 0, none⟩), .bool false, v] w fun e w' => e = .returned (.pointer (some ⟨b, 0, none⟩)) ∧ w'.heap[b]? = some (.cells #[.bool false, v] 75 (0, 0)) ∧ Wd w' B' v n ∧ w.grownBy w' (some b) := by
  have c0 : w.cell? ⟨b, 0, none⟩ = some p := by rw [Lib.cell_of_heap hb]; rfl
  have c1 : w.cell? ⟨b, 1, none⟩ = some q := by rw [Lib.cell_of_heap hb]; rfl
  have f0 := Lib.frozen_of_heap hb 0
  have f1 := Lib.frozen_of_heap hb 1
  have HV : Hid (Wd w B' v n) := hv
  have HB : Hid (w.heap[b]? = some (.cells #[p, q] 75 (0, 0))) := hb
  obtain ⟨a, k, c, rfl, _⟩ := hv
  clear hb
  go_enter Tryd.func65, Tryd.ntmps65
  go_wp2_with fail
  go_ret
  have hne : ∀ (W : World) (i : Nat) (x : Value), W.grownBy (W.setCell ⟨b, i, none⟩ x) (some b) := fun W i x => ⟨rfl, rfl, rfl, by simp [World.setCell], fun k _ hk => Below.heap_setCell _ _ _ _ (fun e => hk (by simp [e]))⟩
  refine ⟨rfl, ?_, (HV.out.setCell hB).setCell hB, grown_trans (hne _ _ _) (hne _ _ _)⟩
  exact Go.Joins.block_setCell (Go.Joins.block_setCell HB.out _) _

/-- a number's block, its words made at or behind a place -/
def IsIntB (b n B' : Nat) (w : World) : Prop := ∃ v, w.heap[b]? = some (.cells #[.bool false, v] 75 (0, 0)) ∧ Wd w B' v n
theorem IsIntB.int {b n B' : Nat} {w : World} (h : IsIntB b n B' w) (hB : b < B') : IsInt b n w := by
  obtain ⟨v, h1, h2⟩ := h
  exact ⟨v, h1, h2.mono hB⟩

set_option maxHeartbeats 1000000 in
theorem setInt3_any (b n : Nat) (p q : Value) (w : World) (hn : n < 9223372036854775808) (hb : w.heap[b]? = some (.cells #[p, q] 75 (0, 0))) :
    Calls Tryd.prog 32 #[.pointer (some ⟨b, 0, none⟩), .int .i64 n] w fun e w' => e = .returned (.pointer (some ⟨b, 0, none⟩)) ∧ IsIntB b n w.heap.size w' ∧ w.grownBy w' (some b) := by
  have hlt := (Array.getElem?_eq_some_iff.1 hb).1
  have hws := fun W => words_any n W (by omega)
  have HB : Hid (w.heap[b]? = some (.cells #[p, q] 75 (0, 0))) := hb
  clear hb
  have hn0 : ¬ (n : Int) < 0 := by omega
  go_enter Tryd.func32, Tryd.ntmps32
  go_wp2_with fail
  refine (hws _).mono ?_
  rintro e w1 ⟨v, rfl, hv, hb1⟩
  go_wp2_with fail
  refine (give3_any b n w.heap.size v p q _ ((hb1.block b hlt).trans HB.out) hv hlt).mono ?_
  rintro e w2 ⟨rfl, h1, h2, hb2⟩
  go_wp2_with fail
  go_ret
  exact ⟨rfl, ⟨v, h1, h2⟩, grown_below hb1 hb2⟩

set_option maxHeartbeats 40000000 in
theorem intAdd3_any (bz bx by' n m : Nat) (p q : Value) (w : World) (hz : w.heap[bz]? = some (.cells #[p, q] 75 (0, 0))) (hx : IsInt bx n w) (hy : IsInt by' m w) (hs : n < 18446744073709551616 ∧ m < 18446744073709551616) :
    Calls Tryd.prog 33 #[.pointer (some ⟨bz, 0, none⟩), .pointer (some ⟨bx, 0, none⟩), .pointer (some ⟨by', 0, none⟩)] w fun e w' => e = .returned (.pointer (some ⟨bz, 0, none⟩)) ∧ IsIntB bz (n + m) w.heap.size w' ∧ w.grownBy w' (some bz) := by
  obtain ⟨v, hb, hv⟩ := hx
  obtain ⟨v', hb', hv'⟩ := hy
  have hlt := (Array.getElem?_eq_some_iff.1 hz).1
  have c0 : w.cell? ⟨bx, 0, none⟩ = some (.bool false) := by rw [Lib.cell_of_heap hb]; rfl
  have c1 : w.cell? ⟨bx, 1, none⟩ = some v := by rw [Lib.cell_of_heap hb]; rfl
  have d0 : w.cell? ⟨by', 0, none⟩ = some (.bool false) := by rw [Lib.cell_of_heap hb']; rfl
  have d1 : w.cell? ⟨by', 1, none⟩ = some v' := by rw [Lib.cell_of_heap hb']; rfl
  have hc : ∀ W : World, Below w.heap.size w W → Calls Tryd.prog 67 #[.bool false, v, .bool false, v'] W fun e w' => ∃ x, e = .returned (.tuple #[.bool false, x]) ∧ Wd w' w.heap.size x (n + m) ∧ Below w.heap.size w w' := fun W hW => (bigSum_any (bx + 1) (by' + 1) n m v v' W (hv.below hW) (hv'.below hW) hs).mono fun e w' ⟨x, he, h1, h2⟩ => ⟨x, he, h1.mono hW.size, hW.trans (h2.mono hW.size)⟩
  have hg : ∀ (W : World) (x : Value), Below w.heap.size w W → Wd W w.heap.size x (n + m) → Calls Tryd.prog 65 #[.pointer (some ⟨bz, 0, none⟩), .bool false, x] W fun e w' => e = .returned (.pointer (some ⟨bz, 0, none⟩)) ∧ IsIntB bz (n + m) w.heap.size w' ∧ w.grownBy w' (some bz) := fun W x hW hx => (give3_any bz (n + m) w.heap.size x p q W ((hW.block bz hlt).trans hz) hx hlt).mono fun e w' ⟨he, h1, h2, h3⟩ => ⟨he, ⟨x, h1, h2⟩, grown_below hW h3⟩
  clear hb hb' hv hv' hz hlt
  generalize n + m = s at *
  go_enter Tryd.func33, Tryd.ntmps33
  go_wp2_with fail
  go_region_with (first | (go_at_call 67; refine (hc _ ?_).mono ?_; exact ⟨rfl, rfl, rfl, Nat.le_refl _, fun _ _ => rfl⟩; rintro e w1 ⟨x, rfl, h1, h2⟩) | (go_at_call 65; refine (hg _ _ h2 h1).mono ?_; rintro e w2 ⟨rfl, h3, h4⟩))
  all_goals
    go_wp2_with fail
    go_ret
    exact ⟨rfl, h3, h4⟩
end Go.Proofs.YtpldnhlancjlnaaDoor
