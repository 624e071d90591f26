/- Whole numbers: the rest by 2^64. -/
import Derived.Test.YtekjcmejnhhpaaaDoorBigXor
import Derived.Test.YtekjcmejnhhpaaaDoorBigTimes
namespace Go.Proofs.YtekjcmejnhhpaaaDoor
open Go.RowKit

theorem m64 : (18446744073709551616 : Nat) = 4294967296 ^ 2 := by decide
theorem wd64 : wd 18446744073709551616 0 = 0 ∧ wd 18446744073709551616 1 = 0 ∧ wd 18446744073709551616 2 = 1 := by decide
/-- 2^64 in words -/
theorem Wd.m64 {w : World} {B : Nat} {v : Value} (h : Wd w B v 18446744073709551616) : ∃ b o c, v = .slice (some ⟨b, o, none⟩) 3 c ∧ B ≤ b ∧ b < w.heap.size ∧ w.cell? ⟨b, o, none⟩ = some (.int .u32 0) ∧ w.cell? ⟨b, o + 1, none⟩ = some (.int .u32 0) ∧ w.cell? ⟨b, o + 2, none⟩ = some (.int .u32 1) := by
  obtain ⟨a, k, c, rfl, hk, hc, hk2, hn, hp, h⟩ := h
  have h1 : 3 ≤ k := by
    have : 2 < k := (Nat.pow_lt_pow_iff_right (a := 4294967296) (by omega)).1 (Nat.lt_of_le_of_lt (Nat.le_of_eq (by decide)) hn)
    omega
  have h2 : k ≤ 3 := by
    have h3 := hp (by omega)
    have h4 : k - 1 < 3 := (Nat.pow_lt_pow_iff_right (a := 4294967296) (by omega)).1 (Nat.lt_of_le_of_lt h3 (by decide))
    omega
  obtain rfl : k = 3 := by omega
  rcases h with h | ⟨b, o, rfl, hB, hl, hw⟩
  · omega
  · exact ⟨b, o, c, rfl, hB, hl, hw 0 (by omega), hw 1 (by omega), hw 2 (by omega)⟩
/-- 2^95 in words -/
theorem Wd.m95 {w : World} {B : Nat} {v : Value} (h : Wd w B v 39614081257132168796771975168) : ∃ b o c, v = .slice (some ⟨b, o, none⟩) 3 c ∧ B ≤ b ∧ b < w.heap.size ∧ w.cell? ⟨b, o, none⟩ = some (.int .u32 0) ∧ w.cell? ⟨b, o + 1, none⟩ = some (.int .u32 0) ∧ w.cell? ⟨b, o + 2, none⟩ = some (.int .u32 2147483648) := by
  obtain ⟨a, k, c, rfl, hk, hc, hk2, hn, hp, h⟩ := h
  have h1 : 3 ≤ k := by
    have : 2 < k := (Nat.pow_lt_pow_iff_right (a := 4294967296) (by omega)).1 (Nat.lt_of_le_of_lt (show 4294967296 ^ 2 ≤ 39614081257132168796771975168 by decide) hn)
    omega
  have h2 : k ≤ 3 := by
    have h3 := hp (by omega)
    have h4 : k - 1 < 3 := (Nat.pow_lt_pow_iff_right (a := 4294967296) (by omega)).1 (Nat.lt_of_le_of_lt h3 (by decide))
    omega
  obtain rfl : k = 3 := by omega
  rcases h with h | ⟨b, o, rfl, hB, hl, hw⟩
  · omega
  · exact ⟨b, o, c, rfl, hB, hl, hw 0 (by omega), hw 1 (by omega), hw 2 (by omega)⟩
set_option maxHeartbeats 1000000 in
theorem length64 (B : Nat) (v : Value) (w : World) (h : Wd w B v 18446744073709551616) : Calls Tryd.prog 66 #[v] w fun e w' => e = .returned (.int .i64 65) ∧ w' = w := by
  obtain ⟨b, o, c, rfl, _, _, _, _, c2⟩ := h.m64
  clear h
  go_enter Tryd.func66, Tryd.ntmps66
  go_wp2_with fail
  refine wp_loop_rounds 2 ?_
  rw [rounds_succ]
  go_wp2_with fail
  rw [rounds_succ]
  go_wp2_with fail
  go_ret
  exact ⟨rfl, rfl⟩
/-- append of nothing at all to nothing -/
theorem wpList_append_nil {P : Program} {w : World} {ops : Array Oper} {rest : List Oper} {o : Oper} {a : Act} {Q : Exit → Act → World → Prop} (hgd : o.guard = none) (s x : Operand) (t : TypeId)
    (ho : o.op = .call { callee := .builtin .append, args := #[s, x], argTypes := #[t, t] })
    (e : TypeId) (i : TypeInfo) (ht : P.underlying t = some (.slice e)) (hi : P.info? e = some i)
    (c : Nat) (hs : a.eval s = .slice none 0 0) (hx : a.eval x = .slice none 0 c)
    (h : wpList P ops Q rest (a.put o.dst (.slice none 0 0)) w) : wpList P ops Q (o :: rest) a w := by
  refine wpList_plain hgd fun K hK => ?_
  have hrun : (Builtin.append_ #[t, t] o.type #[.slice none 0 0, .slice none 0 c]).run P w = .ok (.slice none 0 0) w := by
    simp [Builtin.append_, run_underlying ht, sizeOf, typeInfo, hi, Builtin.lenOf, Builtin.firstCells]
  unfold Oper.wp
  simp [execOp, ho, resolve, invoke, builtin, hs, hx, hrun, Result.andThen]
  exact hK _ _ h
theorem twin_zero (B : Nat) (v : Value) (w : World) (h : Wd w B v 0) :
    Calls Tryd.prog 45 #[v] w fun e w' => ∃ u, e = .returned u ∧ Wd w' w.heap.size u 0 ∧ Below w.heap.size w w' := by
  obtain ⟨a, k, c, rfl, hk, hc, hk2, hn, hp, h⟩ := h
  have hk0 : k = 0 := by
    refine Classical.byContradiction fun h0 => ?_
    have := hp h0
    have := wpos (k - 1)
    omega
  subst hk0
  obtain ⟨i0, hi, hz0, hz1, hz2⟩ := info_parts Tryd.infoWord
  clear hp hn h
  cases a with
  | none =>
    go_enter Tryd.func45, Tryd.ntmps45
    go_wp2_with (at_builtin; refine wpList_append_nil rfl _ _ 42 rfl 62 i0 Tryd.underlying42 hi c rfl rfl ?_)
    go_ret
    exact ⟨_, rfl, ⟨none, 0, 0, rfl, by omega, by unfold maxLen; omega, by omega, by simp, by simp, Or.inl rfl⟩, Below.refl _ _⟩
  | some ad =>
    go_enter Tryd.func45, Tryd.ntmps45
    go_wp2_with (at_builtin; refine wpList_append_own _ rfl _ _ 42 rfl w.heap.size 62 i0 (.int .u32 0) 1 4 Tryd.underlying42 hi hz0 hz1 hz2 rfl (by decide) _ _ _ rfl (World.ownsRow_nil _ _ _ _) ad 0 c [] rfl (by simp) (by simp) (by simp) (by unfold maxLen; omega) (by omega) (Nat.le_refl _) ?_)
    intro v' w2 hown' hgrow _
    have hb : Below w.heap.size w w2 := (Below.refl _ _).grown hgrow (Nat.le_refl _) (fun k hk => by simp [Value.ownBlock] at hk)
    go_wp2_with fail
    go_ret
    refine ⟨_, rfl, ?_, hb⟩
    rcases hown'.2 with ⟨rfl, _⟩ | ⟨g, cap, cur, rfl, hg, hgg, hkc, hcm, hcs, htk⟩
    · exact ⟨none, 0, 0, rfl, by omega, by unfold maxLen; omega, by omega, by simp, by simp, Or.inl rfl⟩
    · exact ⟨_, 0, cap, rfl, by omega, hcm, by omega, by simp, by simp, Or.inl rfl⟩
set_option maxRecDepth 20000 in
set_option maxHeartbeats 2000000 in
/-- a number below 2^64 is its own rest -/
theorem div_small (B B' n : Nat) (u v : Value) (w : World) (hu : Wd w B u n) (hv : Wd w B' v 18446744073709551616) (hn : n < 18446744073709551616) :
    Calls Tryd.prog 62 #[u, v] w fun e w' => ∃ x, e = .returned (.tuple #[.slice none 0 0, x]) ∧ Wd w' w.heap.size x n ∧ Below w.heap.size w w' := by
  have cc := cmp_any B B' n 18446744073709551616 u v w hu hv
  have hc : cmpW n 18446744073709551616 = -1 := by unfold cmpW; rw [if_pos hn]
  rw [hc] at cc
  obtain ⟨b, o, c, rfl, _⟩ := hv.m64
  have ct : ∀ q, Calls Tryd.prog 45 #[u] (w.drewN q) fun e w' => ∃ x, e = .returned x ∧ Wd w' (w.drewN q).heap.size x n ∧ Below (w.drewN q).heap.size (w.drewN q) w' := fun q => by
    by_cases h0 : n = 0
    · subst h0
      exact twin_zero B u (w.drewN q) (hu.below (drewB w q))
    · exact twin_any B u n (w.drewN q) (hu.below (drewB w q)) h0
  clear hc hv
  go_enter Tryd.func62, Tryd.ntmps62
  go_wp2_with fail
  refine cc.mono ?_
  rintro e w1 ⟨rfl, q, rfl⟩
  go_wp2_with fail
  refine (ct q).mono ?_
  rintro e w1 ⟨x, rfl, hx, hb⟩
  go_wp2_with fail
  go_ret2
  exact ⟨x, rfl, hx, (drewB w q).trans hb⟩
end Go.Proofs.YtekjcmejnhhpaaaDoor
