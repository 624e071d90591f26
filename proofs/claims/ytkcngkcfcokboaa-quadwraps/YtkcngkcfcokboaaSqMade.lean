/- The laws' made, of any cells. -/
import Derived.Test.YtkcngkcfcokboaaSqFrom
import Derived.Test.YtkcngkcfcokboaaQuMade
namespace Go.Proofs.Ytkcngkcfcokboaa.A
open Go.RowKit Go.Maps

set_option maxHeartbeats 1000000 in
/-- a copy of a list -/
theorem cells_row (v : Value) (zs : List (Int × Int)) (w : World) (h : RRow w v zs) (hn : zs.length * 16 ≤ 140737488351232) : Calls Try.prog 82 #[v] w fun e w' => ∃ u, e = .returned u ∧ Below w.heap.size w w' ∧ Row w' u zs := by
  obtain ⟨a, c, rfl, hc, hm, ha, h⟩ := h
  by_cases h0 : zs = []
  · subst h0
    cases a with
    | none =>
      obtain rfl : c = 0 := ha rfl
      refine (cells_nil w).mono ?_
      rintro e w' ⟨rfl, rfl⟩
      exact ⟨_, rfl, Below.refl _ _, Or.inl ⟨rfl, rfl⟩⟩
    | some ad =>
      refine (cells_zero ad c w).mono ?_
      rintro e w' ⟨rfl, hb⟩
      exact ⟨_, rfl, hb, Or.inl ⟨rfl, rfl⟩⟩
  · have hl : 0 < zs.length := List.length_pos_iff.2 h0
    rcases h with h | ⟨b, off, rfl, hb, hp⟩
    · omega
    · refine (cells_some b off zs.length c _ _ w (by omega) hp).mono ?_
      rintro e w' ⟨u, rfl, hb', h | ⟨g, cap, rfl, h1, h2, h3, h4, h5⟩⟩
      · omega
      · exact ⟨_, rfl, hb', Or.inr ⟨h0, g, 0, cap, rfl, h2, h3, h4, h5⟩⟩
set_option maxHeartbeats 4000000 in
/-- From, of cells that Tidy refuses -/
theorem from_bad (b t : Nat) (v : Value) (zs : List (Int × Int)) (w : World) (hrow : Row w v zs) (hc : tcode zs ≠ 0) :
    Calls Try.prog 55 #[.pointer (some ⟨b, 0, none⟩), .int .i64 t, v] w fun x w' => x = .returned (.tuple #[.int .i64 0, .int .i64 (tcode zs)]) ∧ Below w.heap.size w w' := by
  have hT := tidy_told v zs w hrow
  obtain ⟨tc, htc⟩ : ∃ tc, tc = tcode zs := ⟨_, rfl⟩
  rw [← htc] at hT hc ⊢
  have hc1 : (tc != 0) = true := by simpa using hc
  clear htc hrow
  go_enter Try.func55, Try.ntmps55
  go_wp2_with fail
  refine hT.mono ?_
  rintro e w1 ⟨u, ys, rfl, hb1, _, _⟩
  go_wp2_with fail
  go_ret2
  exact ⟨rfl, hb1⟩
theorem inv_new (room : Int) : Inv (arNew room) := ⟨Good.nil, fun i j x y h => (by simp [arNew] at h), fun u x hx => (by cases hx), fun u _ => rfl, fun x hx => (by cases hx)⟩
theorem pur_new (k : Nat) (hk : k < 90000) (t : Nat) : Pur (arNew 200000) t k 0 := ⟨bud_new k (by omega), by show (0 : Int) + k ≤ 200000; omega, by omega⟩

/-- what made leaves -/
def MadeOut (w : World) (b c : Nat) (ys : List (Int × Int)) (id : Int) (w' : World) : Prop :=
  ∃ (A : Ar) (F : Nat → Prop) (nn lv : Nat), ArAt w' b F nn A ∧ (∀ k, F k → w.heap.size ≤ k) ∧ Inv A ∧ Pur A 3 c nn ∧ LeastLv lv ys ∧ lv ≤ 41 ∧ levelF A.ths 3 id = some (lv : Int) ∧ ∀ p : Int × Int, p ∈ cellsF A.ths lv id ↔ (p.1 - (halfN lv : Int), p.2 - (halfN lv : Int)) ∈ ys

set_option maxRecDepth 20000 in
set_option maxHeartbeats 4000000 in
theorem made_any (v : Value) (zs ys : List (Int × Int)) (w : World) (hrow : RRow w v zs) (hlen : zs.length ≤ 300) (hys : Tidied zs ys) :
    Calls Try.prog 39 #[v] w fun x w' => ∃ (b : Nat) (id : Int), x = .returned (.tuple #[.pointer (some ⟨b, 0, none⟩), .int .i64 id, .int .i64 (tcode zs), .bool true]) ∧ Below w.heap.size w w' ∧ (tcode zs ≠ 0 → id = 0) ∧ (tcode zs = 0 → MadeOut w b 30000 ys id w') := by
  have hN := fun W => new_any 200000 W (by omega) (by omega)
  have hlen2 : zs.length * 16 ≤ 140737488351232 := by omega
  obtain ⟨a, cv, hv, _⟩ := id hrow
  have HROW : Hid (RRow w v zs) := hrow
  have hCE := fun W h => cells_row v zs W h hlen2
  have HYL : Hid (ys.length ≤ 300) := Nat.le_trans (tidied_len hys) hlen
  clear hrow hv hlen2
  go_enter Try.func39, Try.ntmps39
  go_wp2_with fail
  refine (hN _).mono ?_
  rintro e w1 ⟨rfl, hA1, hb1⟩
  go_wp2_with fail
  refine (hCE _ (RRow.below HROW.out hb1)).mono ?_
  rintro e w2 ⟨u, rfl, hb2, hr2⟩
  have b2 : Below w.heap.size w w2 := hb1.trans (hb2.mono hb1.size)
  have hA2 := hA1.below hb2
  clear hCE hN
  go_wp2_with fail
  by_cases hc : tcode zs = 0
  · have hF : ∀ (t : Int), t = 3 → Calls Try.prog 55 #[.pointer (some ⟨w.heap.size + 1, 0, none⟩), .int .i64 t, u] w2 _ := fun t ht => by
      rw [ht]
      exact from_any (w.heap.size + 1) 0 3 30000 _ (arNew 200000) u zs ys w2 hA2 (by omega) (inv_new _) hr2 hc hys (pur_new _ (by have := HYL.out; omega) 3)
    refine (hF 3 rfl).mono ?_
    rintro e w3 ⟨id, rfl, A', F', nn', N, lv, hA3, hs3, hP3, hI3, hp3, _, _, hL3, hl3, hv3, hc3⟩
    go_wp2_with fail
    refine bodyPost_ret (v := .tuple #[.pointer (some ⟨w.heap.size + 1, 0, none⟩), .int .i64 id, .int .i64 0, .bool true]) ?_ rfl ⟨_, id, by rw [hc], ?_, fun h => absurd hc h, fun _ => ⟨A', F', nn', lv, hA3, fun k hk => ?_, hI3, hp3, hL3, hl3, hv3, hc3⟩⟩
    · simp [results, Try.results39, go_sem]
    · refine ⟨hP3.os.trans b2.os, hP3.tape.trans b2.tape, hP3.output.trans b2.output, Nat.le_trans b2.size hP3.size, fun k hk => (hP3.block k (Nat.lt_of_lt_of_le hk b2.size) (by
        rintro (e | e)
        · exact e
        · omega)).trans (b2.block k hk)⟩
    · rcases hs3 k hk with (e | e) | e
      · exact False.elim e
      · omega
      · exact Nat.le_trans b2.size e
  · have hF : ∀ (t : Int), t = 3 → Calls Try.prog 55 #[.pointer (some ⟨w.heap.size + 1, 0, none⟩), .int .i64 t, u] w2 _ := fun t ht => by
      rw [ht]
      exact from_bad (w.heap.size + 1) 3 u zs w2 hr2 hc
    refine (hF 3 rfl).mono ?_
    rintro e w3 ⟨rfl, hb3⟩
    obtain ⟨tc, htc⟩ : ∃ tc, tc = tcode zs := ⟨_, rfl⟩
    have HTC : Hid (tc = tcode zs) := htc
    rw [← htc]
    clear htc
    go_wp2_with fail
    refine bodyPost_ret (v := .tuple #[.pointer (some ⟨w.heap.size + 1, 0, none⟩), .int .i64 0, .int .i64 tc, .bool true]) ?_ rfl ⟨_, 0, by rw [HTC.out], b2.trans (hb3.mono b2.size), fun _ => rfl, fun h => absurd h hc⟩
    simp [results, Try.results39, go_sem]
end Go.Proofs.Ytkcngkcfcokboaa.A
