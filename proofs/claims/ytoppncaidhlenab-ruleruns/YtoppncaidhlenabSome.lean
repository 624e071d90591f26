/- What lifelodgekeep.some answers. -/
import Derived.Test.YtoppncaidhlenabOrderLaw
import Derived.Test.YtoppncaidhlenabRefShift
namespace Go.Proofs.Ytoppncaidhlenab
open Go.RowKit Go.Lib Go.Sort

attribute [local go_sem ↓] Go.wp_at_zero Go.wp_at_succ

/-- a number made nearer to 0 than 2^39 -/
def nearI (v : Int) : Int := spotI v 1099511627776 - 549755813888
def nearP (p : Int × Int) : Int × Int := (nearI p.1, nearI p.2)
theorem nearI_bound (v : Int) : -549755813888 ≤ nearI v ∧ nearI v < 549755813888 := by
  have := spotI_bound v 1099511627776 (by omega)
  unfold nearI
  omega
/-- the list that some makes -/
def someL (zs : List (Int × Int)) : List (Int × Int) := (zs.take 1000).map nearP
theorem someL_code (zs : List (Int × Int)) : tcode (someL zs) = 0 := by
  rw [tcode_zero]
  refine ⟨by simp [someL]; omega, ?_⟩
  rw [List.any_eq_false]
  intro p hp
  simp only [someL, List.mem_map] at hp
  obtain ⟨q, _, rfl⟩ := hp
  have h1 := nearI_bound q.1
  have h2 := nearI_bound q.2
  have e1 : farI (nearI q.1) = false := by unfold farI; rw [decide_eq_false (by omega), decide_eq_false (by omega)]; rfl
  have e2 : farI (nearI q.2) = false := by unfold farI; rw [decide_eq_false (by omega), decide_eq_false (by omega)]; rfl
  simp [farP, nearP, e1, e2]

theorem grown_cell {w0 w w' : World} {base k : Nat} {v : Value} {xs : List Value} {o : Obj} {a : Addr} {u : Value} (hg : (w.alloc o).drew.grownBy w' v.ownBlock) (hown : w.ownsRow base 53 2 v k xs) (hc : w.cell? a = some u) (ha : a.block < w.heap.size) (hb : a.block < base) (_h : w0 = w) : w'.cell? a = some u := by
  refine hg.cell (a := a) ?_ ?_
  · show (w.alloc o).cell? a = some u
    rw [World.cell?_alloc_lt _ _ _ ha]
    exact hc
  · intro e
    have := (hown.lt a.block e.symm).1
    omega

set_option maxHeartbeats 2000000 in
theorem some_none (a : Option Addr) (c : Nat) (w : World) : Calls Try.prog 9 #[.slice a 0 c, .int .i64 1000, .int .i64 549755813888] w fun e w' => e = .returned (.slice none 0 0) ∧ w' = w := by
  go_enter Try.func9, Try.ntmps9
  go_wp2
  refine wp_loop_rounds 1 ?_
  rw [rounds_succ]
  go_wp2
  go_ret
  exact ⟨rfl, rfl⟩

set_option maxRecDepth 100000 in
set_option maxHeartbeats 2000000 in
theorem some_some (b off n c : Nat) (zs : List (Int × Int)) (w : World) (hb : b < w.heap.size) (HL : Hid (zs.length = n)) (HH : Hid (HoldsR w b off zs)) :
    Calls Try.prog 9 #[.slice (some ⟨b, off, none⟩) n c, .int .i64 1000, .int .i64 549755813888] w fun e w' => ∃ u, e = .returned u ∧ Below w.heap.size w w' ∧ Kept w' w.heap.size u (someL zs) := by
  obtain ⟨i0, hi, hz0, hz1, hz2⟩ := info_parts Try.info53
  go_enter Try.func9, Try.ntmps9
  go_wp2
  go_loopg [7, 8] 1000 (fun gk s7 s8 wr => ∃ k : Nat, k + gk = 1000 ∧ k ≤ n ∧ s8 = .int .i64 k ∧ Below w.heap.size w wr ∧ Kept wr w.heap.size s7 ((zs.take k).map nearP))
  case atStart => exact ⟨0, by omega, by omega, rfl, Below.refl _ _, Or.inl ⟨by simp, rfl⟩⟩
  case round =>
    obtain ⟨k, hk, hkn, rfl, hbr, hkept⟩ := hrel
    have HK : Hid (k + gk = 1000) := hk
    have KP : Hid (Kept wr w.heap.size u7 ((zs.take k).map nearP)) := hkept
    have hk1000 : k ≤ 1000 := by omega
    have hsz := hbr.size
    clear hk hkept
    by_cases hlt : k < n
    · by_cases hlt2 : k < 1000
      · obtain ⟨c0, c1⟩ := HH.out k (by rw [HL.out]; exact hlt)
        rw [← hbr.cell (p := ⟨b, off + k * 2, none⟩) hb] at c0
        rw [← hbr.cell (p := ⟨b, off + k * 2 + 1, none⟩) hb] at c1
        generalize hz : zs[k]! = z at c0 c1
        have HZ : Hid (zs[k]! = z) := hz
        clear hz
        obtain ⟨x, y⟩ := z
        simp only at c0 c1
        have hsx := fun W => spot_any x 1099511627776 W (by omega) (by omega)
        have hsy := fun W => spot_any y 1099511627776 W (by omega) (by omega)
        obtain ⟨x0, x1⟩ := spotI_bound x 1099511627776 (by omega)
        obtain ⟨y0, y1⟩ := spotI_bound y 1099511627776 (by omega)
        generalize hgx : spotI x 1099511627776 = sx at *
        generalize hgy : spotI y 1099511627776 = sy at *
        have HG : Hid (spotI x 1099511627776 = sx ∧ spotI y 1099511627776 = sy) := ⟨hgx, hgy⟩
        clear hgx hgy
        have hi1 : (0 : Int) ≤ (k : Int) := by omega
        have hi2 : (k : Int) < (n : Int) := by omega
        have hi3 : (k : Int) < 1000 := by omega
        have hbw : b < wr.heap.size := Nat.lt_of_lt_of_le hb hsz
        have hww : w.heap.size ≤ wr.heap.size := hsz
        have hwx : IntKind.i64.wrap (sx - 549755813888) = sx - 549755813888 := by rw [IntKind.wrap_i64]; omega
        have hwy : IntKind.i64.wrap (sy - 549755813888) = sy - 549755813888 := by rw [IntKind.wrap_i64]; omega
        have OW : Hid (∀ o, (wr.alloc o).drew.ownsRow w.heap.size 53 2 u7 k (cellsL ((zs.take k).map nearP))) := fun o => by
          have h1 := KP.out.owns
          rw [List.length_map, List.length_take, HL.out, Nat.min_eq_left hkn] at h1
          exact h1.alloc o
        go_wp2_with fail
        go_region_held3 (fun w' => w'.cell? ⟨b, off + k * 2, none⟩ = some (.int .i64 x) ∧ w'.cell? ⟨b, off + k * 2 + 1, none⟩ = some (.int .i64 y)) (first | go_keep | (exact ⟨grown_cell hgrow5 KP.out.owns c0 hbw hb rfl, grown_cell hgrow5 KP.out.owns c1 hbw hb rfl⟩))
          (first | (go_at_call_of 10 x; refine (hsx _).mono ?_; rintro e w' ⟨rfl, hw⟩; subst hw) | (go_at_call_of 10 y; refine (hsy _).mono ?_; rintro e w' ⟨rfl, hw⟩; subst hw) | (refine step_append_own _ (by rfl) _ _ 22 (by rfl) w.heap.size 53 i0 (.agg #[.int .i64 0, .int .i64 0]) 2 16 Try.underlying22 hi hz0 hz1 hz2 rfl (by decide) u7 k (cellsL ((zs.take k).map nearP)) (by rfl) (OW.out _) ⟨wr.heap.size, 0, none⟩ 1 1 [.int .i64 (sx - 549755813888), .int .i64 (sy - 549755813888)] (by rfl) rfl (cell_two_new _ _ _ _) (by intro u hu; simp at hu; rcases hu with rfl | rfl <;> rfl) (by unfold maxLen; omega) (by omega) (by simp; omega) ?_; intro v5 w5 hown5 hgrow5 hnil5))
        go_wp2_with fail
        go_roundg (gk - 1)
        case measure => have := HK.out; omega
        case rel =>
          have h1 := HK.out
          have hts : (zs.take (k + 1)).map nearP = (zs.take k).map nearP ++ [(sx - 549755813888, sy - 549755813888)] := by
            rw [List.take_succ_eq_append_getElem (by rw [HL.out]; exact hlt), List.map_append, ← getElem!_pos zs k, HZ.out]
            simp [nearP, nearI, HG.out.1, HG.out.2]
          refine ⟨k + 1, by omega, by omega, by go_num, (hbr.alloc hsz _).drew.grown hgrow5 (by simp; omega) (fun g hg => ((OW.out (.cells #[] 0)).lt g hg).1), Or.inr ⟨by rw [hts]; simp, ?_⟩⟩
          rw [hts, cellsL_append, List.length_append, List.length_map, List.length_take, HL.out, Nat.min_eq_left hkn]
          exact hown5
      · have hq : (k : Int) < (n : Int) := by omega
        have hq2 : ¬ (k : Int) < 1000 := by omega
        have HKE : Hid (k = 1000) := by show k = 1000; omega
        clear hlt2 hk1000 hlt
        go_wp2
        go_ret
        have hke := HKE.out
        refine ⟨_, rfl, hbr, ?_⟩
        rw [someL, ← hke]
        exact KP.out
    · go_wp2
      go_ret
      refine ⟨_, rfl, hbr, ?_⟩
      have h1 := KP.out
      rw [List.take_of_length_le (by rw [HL.out]; omega)] at h1
      rw [someL, List.take_of_length_le (by rw [HL.out]; omega)]
      exact h1
end Go.Proofs.Ytoppncaidhlenab
