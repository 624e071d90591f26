/- QuadEmpties: the walk of the law. -/
import Derived.Test.YthobobgiendcfaaQuEmpties
import Derived.Test.YthobobgiendcfaaQuCount
namespace Go.Proofs.Ythobobgiendcfaa.A
open Go.RowKit Go.Maps

theorem Empty_bad (t level : Int) (p : Value) (w : World) (h : level < 0 ∨ 44 < level) :
    Calls Try.prog 52 #[p, .int .i64 t, .int .i64 level] w fun x w' => x = .returned (.tuple #[.int .i64 0, .int .i64 8]) ∧ Below w.heap.size w w' := by
  have hbel := Below.refl w.heap.size w
  by_cases h0 : level < 0
  · go_enter Try.func52, Try.ntmps52
    go_wp2_with fail
    go_ret2
    exact ⟨rfl, hbel⟩
  · have h1 : 44 < level := by omega
    go_enter Try.func52, Try.ntmps52
    go_wp2_with fail
    go_ret2
    exact ⟨rfl, hbel⟩

set_option maxRecDepth 20000 in
set_option maxHeartbeats 8000000 in
theorem empties_law (level : Int) (w : World) : Calls Try.prog 11 #[.int .i64 level] w fun x w' => x = .returned (.bool true) ∧ Below w.heap.size w w' := by
  have hM := fun W => made_nil2 W
  by_cases hr : 0 ≤ level ∧ level ≤ 44
  · obtain ⟨k, hk⟩ : ∃ k : Nat, level = (k : Int) := ⟨level.toNat, by omega⟩
    have hk44 : k ≤ 44 := by omega
    have HK : Hid (level = (k : Int)) := hk
    clear hk hr
    go_enter Try.func11, Try.ntmps11
    go_wp2_with fail
    refine (hM _).mono ?_
    rintro e w1 ⟨b, F, A, id0, rfl, hA, hG, hB, hq, hFw, hb1⟩
    have hE : ∀ (t : Int), t = 5 → Calls Try.prog 52 #[.pointer (some ⟨b, 0, none⟩), .int .i64 t, .int .i64 level] w1 _ := fun t ht => by
      rw [ht]
      exact Empty_any b 2 5 k 10 (by omega) F A w1 hA (by omega) (by omega) hk44 (hB.less (by omega)) hG (by have := hq 5 (by omega); omega) level HK.out
    go_wp2_with fail
    refine (hE 5 rfl).mono ?_
    rintro e w2 ⟨id, rfl, F2, A2, E, hA2, hF2, P2, em, hid, bd⟩
    have b2 : Below w.heap.size w w2 := ⟨P2.os.trans hb1.os, P2.tape.trans hb1.tape, P2.output.trans hb1.output, Nat.le_trans hb1.size P2.size, fun j hj => (P2.block j (Nat.lt_of_lt_of_le hj hb1.size) (fun e => by have := hFw j e; omega)).trans (hb1.block j hj)⟩
    obtain ⟨hif, _⟩ := emp_id em bd.young.few hid
    have hlev := em.lv k id hid
    have hL : ∀ (t : Int), t = 5 → Calls Try.prog 27 #[.pointer (some ⟨b, 0, none⟩), .int .i64 t, .int .i64 id] w2 fun e w' => e = .returned (.tuple #[.int .i64 level, .int .i64 0]) ∧ Below w2.heap.size w2 w' := fun t ht => by
      rw [ht]
      obtain ⟨r, D, ha⟩ := hA2
      refine (Level_any b 0 5 id r A2.ths w2 ha.raw ha.ths (by omega) bd.mask hif).mono ?_
      rintro e w' ⟨rfl, hb⟩
      rw [hlev, HK.out]
      exact ⟨rfl, hb⟩
    have hC : ∀ (t : Int) W, t = 5 → ArAt W b F2 (2 + k) A2 → Calls Try.prog 44 #[.pointer (some ⟨b, 0, none⟩), .int .i64 t, .int .i64 id] W fun x w' => x = .returned (.tuple #[.int .i64 0, .int .i64 0]) ∧ Below W.heap.size W w' := fun t W ht hW => by
      rw [ht]
      exact count_emp b (2 + k) 5 k id F2 A2 E W hW (by omega) bd.mask bd.young.few em hid hk44
    have h0 : ¬ level < 0 := by have := HK.out; omega
    have h44 : ¬ 44 < level := by have := HK.out; omega
    clear hE hM hq hB hG hA em bd hlev hid P2 hF2 hb1
    go_wp2_with fail
    refine (hL 5 rfl).mono ?_
    rintro e w3 ⟨rfl, b3⟩
    go_wp2_with fail
    refine (hC 5 _ rfl (hA2.below b3)).mono ?_
    rintro e w4 ⟨rfl, b4⟩
    have b5 := (b2.trans (b3.mono b2.size)).trans (b4.mono (b2.trans (b3.mono b2.size)).size)
    go_wp2_with fail
    go_ret
    exact ⟨rfl, b5⟩
  · go_enter Try.func11, Try.ntmps11
    go_wp2_with fail
    refine (hM _).mono ?_
    rintro e w1 ⟨b, F, A, id0, rfl, hA, hG, hB, hq, hFw, hb1⟩
    go_wp2_with fail
    refine (Empty_bad _ level _ _ (by omega)).mono ?_
    rintro e w2 ⟨rfl, b2⟩
    have b3 := hb1.trans (b2.mono hb1.size)
    by_cases h0 : level < 0
    · go_wp2_with fail
      go_ret
      exact ⟨rfl, b3⟩
    · have h1 : 44 < level := by omega
      go_wp2_with fail
      go_ret
      exact ⟨rfl, b3⟩
end Go.Proofs.Ythobobgiendcfaa.A
