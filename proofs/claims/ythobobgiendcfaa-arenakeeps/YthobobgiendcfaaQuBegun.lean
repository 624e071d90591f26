/- The keepers' begun: an arena of the greatest room, with one square of tenant 63. -/
import Derived.Test.YthobobgiendcfaaQuRefuse
namespace Go.Proofs.Ythobobgiendcfaa.A
open Go.RowKit Go.Maps

/-- an arena in which tenant 3 alone has something -/
structure Three (A : Ar) : Prop where
  good : Good A.ths
  bud : Bud A 2
  only : ∀ u, u ≠ 3 → ∀ x ∈ A.ths, x.mask.testBit u = false

theorem bud_new (k : Nat) (hk : k < 100000) : Bud (arNew 200000) k :=
  { free := rfl
    mask := fun z hz => nomatch hz
    few := by show 0 + k < 1000000; omega
    room := by show ((0 : Nat) : Int) + k < 200000; omega
    cnt := fun t _ => by show (0 : Int) ≤ 0 ∧ (0 : Int) + k < 4611686018427387904; omega
    fresh := fun t _ => by show 0 + k < 10000000; omega }

set_option maxRecDepth 20000 in
set_option maxHeartbeats 4000000 in
theorem made_nil (w : World) : Calls Try.prog 39 #[.slice none 0 0] w fun x w' => ∃ (b : Nat) (F : Nat → Prop) (A : Ar) (id : Int), x = .returned (.tuple #[.pointer (some ⟨b, 0, none⟩), .int .i64 id, .int .i64 0, .bool true]) ∧ ArAt w' b F 2 A ∧ Three A ∧ Below w.heap.size w w' := by
  have hN := fun W => new_any 200000 W (by omega) (by omega)
  go_enter Try.func39, Try.ntmps39
  go_wp2_with fail
  refine (hN _).mono ?_
  rintro e w1 ⟨rfl, hA1, hb1⟩
  go_wp2_with fail
  refine (cells_nil _).mono ?_
  rintro e w2 ⟨rfl, hw2⟩
  rw [hw2]
  go_wp2_with fail
  have hF : ∀ (t : Int), t = 3 → Calls Try.prog 55 #[.pointer (some ⟨w.heap.size + 1, 0, none⟩), .int .i64 t, .slice none 0 0] w1 _ := fun t ht => by
    rw [ht]
    exact from_nil (w.heap.size + 1) 0 3 _ (arNew 200000) w1 hA1 (by omega) (by omega) (bud_new 10 (by omega)) Good.nil (by show (0 : Int) + 10 ≤ 200000; omega)
  refine (hF 3 rfl).mono ?_
  rintro e w3 ⟨F', A', id, rfl, hA3, hs3, hP3, hg3, hb3, ho3⟩
  go_wp2_with fail
  refine bodyPost_ret (v := .tuple #[.pointer (some ⟨w.heap.size + 1, 0, none⟩), .int .i64 id, .int .i64 0, .bool true]) ?_ rfl ⟨_, F', A', id, rfl, hA3, ⟨hg3, hb3, fun u hu x hx => ?_⟩, ?_⟩
  · simp [results, Try.results39, go_sem]
  · cases hbit : x.mask.testBit u with
    | false => rfl
    | true =>
      obtain ⟨z, hz, _⟩ := ho3 u hu x hx hbit
      cases hz
  · exact ⟨hP3.os.trans hb1.os, hP3.tape.trans hb1.tape, hP3.output.trans hb1.output, Nat.le_trans hb1.size hP3.size, fun k hk => (hP3.block k (Nat.lt_of_lt_of_le hk hb1.size) (by
      rintro (e | e)
      · exact e
      · omega)).trans (hb1.block k hk)⟩

theorem strange_none {A : Ar} (h : Three A) (root : Int) (hr : 2 ≤ root) : levelF A.ths 4 root = none := by
  cases hl : levelF A.ths 4 root with
  | none => rfl
  | some m =>
    rcases level_some hl with ⟨h0, _⟩ | ⟨x, h1, _⟩
    · omega
    · obtain ⟨_, h3, h4⟩ := own_some h1
      rw [h.only 4 (by omega) x (List.mem_of_getElem? h3)] at h4
      cases h4

set_option maxRecDepth 20000 in
set_option maxHeartbeats 8000000 in
theorem strange_law (root level : Int) (w : World) (hr : Fits root) : Calls Try.prog 12 #[.int .i64 root, .int .i64 level] w fun x w' => x = .returned (.bool true) ∧ Below w.heap.size w w' := by
  have hM := fun W => made_nil W
  go_enter Try.func12, Try.ntmps12
  go_wp2_with fail
  refine (hM _).mono ?_
  rintro e w1 ⟨b, F, A, id, rfl, hA, h3, hb1⟩
  obtain ⟨R, hR⟩ : ∃ R : Int, R = if root < 2 then 100000 else root := ⟨_, rfl⟩
  have hR2 : 2 ≤ R := by rw [hR]; split <;> omega
  have hRf : Fits R := by rw [hR]; unfold Fits at *; split <;> omega
  have hn := strange_none h3 R hR2
  have hm := h3.bud.mask
  have e6 : ∀ least most : Int, levelE 0 (levelF A.ths 4 R) least most = 6 := fun least most => by rw [hn]; rfl
  have e1 : levelE 0 (levelF A.ths 4 1) 1 44 = 8 := rfl
  have e1p : levelE 0 (levelF A.ths 4 1) 2 44 = 8 := rfl
  have e0 : levelE 0 (levelF A.ths 4 0) 1 43 = 8 := rfl
  have q1 := fun W (hW : ArAt W b F 2 A) => cells_refused b 2 4 R 6 F A W hW (by omega) hm hRf (e6 1 44) (by omega)
  have q2 := fun W (hW : ArAt W b F 2 A) => count_refused b 2 4 R 6 F A W hW (by omega) hm hRf (e6 0 44) (by omega)
  have q3 := fun W (hW : ArAt W b F 2 A) => box_refused b 2 4 R 6 F A W hW (by omega) hm hRf (e6 1 44) (by omega)
  have q4 := fun W (hW : ArAt W b F 2 A) => wrap_refused b 2 4 R 6 F A W hW (by omega) hm hRf (e6 1 43) (by omega)
  have q5 := fun W (hW : ArAt W b F 2 A) => peel_refused b 2 4 R 6 F A W hW (by omega) hm hRf (e6 2 44) (by omega)
  have q6 := fun W (hW : ArAt W b F 2 A) => put_refused b 2 4 R 6 0 0 true F A W hW (by omega) hm hRf (e6 1 44) (by omega)
  have q7 := fun W (hW : ArAt W b F 2 A) => cells_refused b 2 4 1 8 F A W hW (by omega) hm ⟨by omega, by omega⟩ e1 (by omega)
  have q8 := fun W (hW : ArAt W b F 2 A) => peel_refused b 2 4 1 8 F A W hW (by omega) hm ⟨by omega, by omega⟩ e1p (by omega)
  have q9 := fun W (hW : ArAt W b F 2 A) => wrap_refused b 2 4 0 8 F A W hW (by omega) hm ⟨by omega, by omega⟩ e0 (by omega)
  clear e6 e1 e1p e0 hm hn
  by_cases hc : root < 2
  · rw [if_pos hc] at hR
    subst hR
    go_wp2_with fail
    refine (q1 _ hA).mono ?_
    rintro e v1 ⟨rfl, c1⟩
    have hA := hA.below c1
    have hb1 := hb1.trans (c1.mono hb1.size)
    go_wp2_with fail
    refine (q2 _ hA).mono ?_
    rintro e v2 ⟨rfl, c2⟩
    have hA := hA.below c2
    have hb1 := hb1.trans (c2.mono hb1.size)
    go_wp2_with fail
    refine (q3 _ hA).mono ?_
    rintro e v3 ⟨rfl, c3⟩
    have hA := hA.below c3
    have hb1 := hb1.trans (c3.mono hb1.size)
    have a4 : Below v3.heap.size v3 (v3.alloc (.cells #[.int .i64 0, .int .i64 0, .int .i64 0, .int .i64 0] 81)) := (Below.refl _ _).alloc (Nat.le_refl _) _
    have hA := hA.below a4
    have hb1 := hb1.trans (a4.mono hb1.size)
    go_wp2_with fail
    refine (q4 _ hA).mono ?_
    rintro e v4 ⟨rfl, c4⟩
    have hA := hA.below c4
    have hb1 := hb1.trans (c4.mono hb1.size)
    go_wp2_with fail
    refine (q5 _ hA).mono ?_
    rintro e v5 ⟨rfl, c5⟩
    have hA := hA.below c5
    have hb1 := hb1.trans (c5.mono hb1.size)
    go_wp2_with fail
    refine (q6 _ hA).mono ?_
    rintro e v6 ⟨rfl, c6⟩
    have hA := hA.below c6
    have hb1 := hb1.trans (c6.mono hb1.size)
    go_wp2_with fail
    refine (q7 _ hA).mono ?_
    rintro e v7 ⟨rfl, c7⟩
    have hA := hA.below c7
    have hb1 := hb1.trans (c7.mono hb1.size)
    go_wp2_with fail
    refine (q8 _ hA).mono ?_
    rintro e v8 ⟨rfl, c8⟩
    have hA := hA.below c8
    have hb1 := hb1.trans (c8.mono hb1.size)
    go_wp2_with fail
    refine (q9 _ hA).mono ?_
    rintro e v9 ⟨rfl, c9⟩
    have hA := hA.below c9
    have hb1 := hb1.trans (c9.mono hb1.size)
    go_wp2_with fail
    go_ret
    exact ⟨rfl, hb1⟩
  · rw [if_neg hc] at hR
    subst hR
    go_wp2_with fail
    refine (q1 _ hA).mono ?_
    rintro e v1 ⟨rfl, c1⟩
    have hA := hA.below c1
    have hb1 := hb1.trans (c1.mono hb1.size)
    go_wp2_with fail
    refine (q2 _ hA).mono ?_
    rintro e v2 ⟨rfl, c2⟩
    have hA := hA.below c2
    have hb1 := hb1.trans (c2.mono hb1.size)
    go_wp2_with fail
    refine (q3 _ hA).mono ?_
    rintro e v3 ⟨rfl, c3⟩
    have hA := hA.below c3
    have hb1 := hb1.trans (c3.mono hb1.size)
    have a4 : Below v3.heap.size v3 (v3.alloc (.cells #[.int .i64 0, .int .i64 0, .int .i64 0, .int .i64 0] 81)) := (Below.refl _ _).alloc (Nat.le_refl _) _
    have hA := hA.below a4
    have hb1 := hb1.trans (a4.mono hb1.size)
    go_wp2_with fail
    refine (q4 _ hA).mono ?_
    rintro e v4 ⟨rfl, c4⟩
    have hA := hA.below c4
    have hb1 := hb1.trans (c4.mono hb1.size)
    go_wp2_with fail
    refine (q5 _ hA).mono ?_
    rintro e v5 ⟨rfl, c5⟩
    have hA := hA.below c5
    have hb1 := hb1.trans (c5.mono hb1.size)
    go_wp2_with fail
    refine (q6 _ hA).mono ?_
    rintro e v6 ⟨rfl, c6⟩
    have hA := hA.below c6
    have hb1 := hb1.trans (c6.mono hb1.size)
    go_wp2_with fail
    refine (q7 _ hA).mono ?_
    rintro e v7 ⟨rfl, c7⟩
    have hA := hA.below c7
    have hb1 := hb1.trans (c7.mono hb1.size)
    go_wp2_with fail
    refine (q8 _ hA).mono ?_
    rintro e v8 ⟨rfl, c8⟩
    have hA := hA.below c8
    have hb1 := hb1.trans (c8.mono hb1.size)
    go_wp2_with fail
    refine (q9 _ hA).mono ?_
    rintro e v9 ⟨rfl, c9⟩
    have hA := hA.below c9
    have hb1 := hb1.trans (c9.mono hb1.size)
    go_wp2_with fail
    go_ret
    exact ⟨rfl, hb1⟩
end Go.Proofs.Ythobobgiendcfaa.A

namespace Go.Proofs.Ythobobgiendcfaa.A
open Go.RowKit Go.Maps

/-- the arena that the keepers begin with -/
def arBegun : Ar := ((arNew 200000).join 63 1 0 0 1).1
theorem begun_id : ((arNew 200000).join 63 1 0 0 1).2 = (2, 0) := by kernel_rfl
theorem begun_cnt : arBegun.cnt 63 = 1 := by kernel_rfl
theorem begun_made : Made 63 (arNew 200000) 1 0 0 1 0 ((arNew 200000).join 63 1 0 0 1) :=
  join_made (arNew 200000) 63 1 0 0 1 0 Good.nil rfl rfl rfl rfl (by omega) (by omega) (by show (0 : Int) < 200000; omega)
theorem begun_good : Good arBegun.ths := begun_made.good
theorem begun_bud (k : Nat) (hk : k < 90000) : Bud arBegun k := (bud_new (k + 1) (by omega)).step begun_made.grew (by omega)
theorem begun_lim (u : Nat) : arBegun.lim u = 200000 := by
  have h : arBegun.lim = (arNew 200000).lim := begun_made.grew.lim
  rw [h]; rfl
theorem Count_any (b n t : Nat) (F : Nat → Prop) (A : Ar) (w : World) (h : ArAt w b F n A) (ht : t < 64) : Calls Try.prog 35 #[.pointer (some ⟨b, 0, none⟩), .int .i64 t] w fun e w' => e = .returned (.int .i64 (A.cnt t)) ∧ w' = w := by
  obtain ⟨r, D, ha⟩ := h
  refine (count_any b r t w ha.raw ht).mono ?_
  rintro e w' ⟨rfl, rfl⟩
  exact ⟨by rw [ha.cnt t ht], rfl⟩

set_option maxRecDepth 20000 in
set_option maxHeartbeats 4000000 in
theorem begun_any (w : World) : Calls Try.prog 54 #[] w fun x w' => ∃ (b : Nat) (F : Nat → Prop), x = .returned (.tuple #[.pointer (some ⟨b, 0, none⟩), .bool true]) ∧ ArAt w' b F 1 arBegun ∧ (∀ k, F k → w.heap.size ≤ k) ∧ Below w.heap.size w w' := by
  have hN := fun W => new_any 200000 W (by omega) (by omega)
  go_enter Try.func54, Try.ntmps54
  go_wp2_with fail
  refine (hN _).mono ?_
  rintro e w1 ⟨rfl, hA1, hb1⟩
  have hY : Young (arNew 200000) := (bud_new 10 (by omega)).young
  have hJ : ∀ (t q0 q1 q2 q3 : Int) W, t = 63 → q0 = 1 → q1 = 0 → q2 = 0 → q3 = 1 → ArAt W (w.heap.size + 1) (More (fun _ => False) w w1) 0 (arNew 200000) → Calls Try.prog 25 #[.pointer (some ⟨w.heap.size + 1, 0, none⟩), .int .i64 t, .agg #[.int .i64 q0, .int .i64 q1, .int .i64 q2, .int .i64 q3]] W fun e w' => e = .returned (.tuple #[.int .i64 2, .int .i64 0]) ∧ ArAt w' (w.heap.size + 1) (More (More (fun _ => False) w w1) W w') 1 arBegun ∧ Apart (More (fun _ => False) w w1) W w' := fun t q0 q1 q2 q3 W ht e0 e1 e2 e3 hW => by
    rw [ht, e0, e1, e2, e3]
    have := join_one (w.heap.size + 1) 0 63 1 0 0 1 (More (fun _ => False) w w1) (arNew 200000) W hW hY (by omega) ⟨by omega, by omega⟩ ⟨by omega, by omega⟩ ⟨by omega, by omega⟩ ⟨by omega, by omega⟩ (by omega) (fun l h => by cases h; omega)
    rw [begun_id] at this
    exact this
  have hC : ∀ (t : Int) W F, t = 63 → ArAt W (w.heap.size + 1) F 1 arBegun → Calls Try.prog 35 #[.pointer (some ⟨w.heap.size + 1, 0, none⟩), .int .i64 t] W fun e w' => e = .returned (.int .i64 1) ∧ w' = W := fun t W F ht hW => by
    rw [ht]
    have := Count_any (w.heap.size + 1) 1 63 F arBegun W hW (by omega)
    rw [begun_cnt] at this
    exact this
  go_wp2_with fail
  refine (hJ 63 1 0 0 1 _ rfl rfl rfl rfl rfl hA1).mono ?_
  rintro e w2 ⟨rfl, hA2, P2⟩
  have hs1 := hb1.size
  have b2 : Below w.heap.size w w2 := ⟨P2.os.trans hb1.os, P2.tape.trans hb1.tape, P2.output.trans hb1.output, Nat.le_trans hb1.size P2.size, fun j hj => (P2.block j (Nat.lt_of_lt_of_le hj hb1.size) (fun e => e.elim id (fun e => by omega))).trans (hb1.block j hj)⟩
  have hF : ∀ k, More (More (fun _ => False) w w1) w1 w2 k → w.heap.size ≤ k := fun k hk => by
    rcases hk with (e | e) | e
    · exact False.elim e
    · exact e.1
    · omega
  clear hJ hN hY
  go_wp2_with fail
  refine (hC 63 _ _ rfl hA2).mono ?_
  rintro e w3 ⟨rfl, rfl⟩
  go_wp2_with fail
  go_ret2
  exact ⟨_, _, rfl, hA2, hF, b2⟩
end Go.Proofs.Ythobobgiendcfaa.A
