/- More of the same, for LeapQuota. -/
import Derived.Test.YtofbcngcblleaaaGreatLpMovesN
import Derived.Deep.RegionHeld3
import Derived.Test.YtofbcngcblleaaaGreatLpQtM
namespace Go.Proofs.YtofbcngcblleaaaGreat.A
open Go.RowKit Go.Lib Go.Sort
attribute [local go_sem ↓] Go.wp_at_zero Go.wp_at_succ
theorem spotI_bound (v n : Int) (hn : 0 < n) : 0 ≤ spotI v n ∧ spotI v n < n := by
  have h1 := Int.lt_tmod_of_pos v hn
  have h2 := Int.tmod_lt_of_pos v hn
  unfold spotI
  split <;> omega
set_option maxHeartbeats 1000000 in
theorem spot_any (v n : Int) (w : World) (hn : 0 < n) (hn2 : n ≤ 4611686018427387904) : Calls Tryz.prog 20 #[.int .i64 v, .int .i64 n] w fun e w' => e = .returned (.int .i64 (spotI v n)) ∧ w' = w := by
  have h1 := Int.lt_tmod_of_pos v hn
  have h2 := Int.tmod_lt_of_pos v hn
  have hz : (n == 0) = false := by simp; omega
  by_cases h0 : v.tmod n < 0
  · have e : spotI v n = v.tmod n + n := by rw [spotI, if_pos h0]
    rw [e]
    go_enter Tryz.func20, Tryz.ntmps20
    go_wp2
    go_ret
    exact ⟨rfl, rfl⟩
  · have e : spotI v n = v.tmod n := by rw [spotI, if_neg h0]
    rw [e]
    go_enter Tryz.func20, Tryz.ntmps20
    go_wp2
    go_ret
    exact ⟨rfl, rfl⟩
theorem nearI_bound (K : Nat) (hK : 0 < K) (v : Int) : -(K : Int) ≤ nearI K v ∧ nearI K v < K := by
  have := spotI_bound v (2 * K) (by omega)
  unfold nearI
  omega
theorem someL_len (M K : Nat) (zs : List (Int × Int)) : (someL M K zs).length ≤ M := by simp [someL]; omega
theorem someL_near {M K : Nat} (hK : 0 < K) {zs : List (Int × Int)} {p : Int × Int} (hp : p ∈ someL M K zs) : -(K : Int) ≤ p.1 ∧ p.1 < K ∧ -(K : Int) ≤ p.2 ∧ p.2 < K := by
  simp only [someL, List.mem_map] at hp
  obtain ⟨q, _, rfl⟩ := hp
  have h1 := nearI_bound K hK q.1
  have h2 := nearI_bound K hK q.2
  simp only [nearP]
  omega
theorem someL_code {M K : Nat} (hM : M ≤ 4096) (hK : 0 < K) (hK2 : K ≤ 549755813888) (zs : List (Int × Int)) : tcode (someL M K zs) = 0 := by
  unfold tcode
  have hl := someL_len M K zs
  rw [if_neg (by omega), if_neg]
  simp only [Bool.not_eq_true, List.any_eq_false]
  intro p hp
  simp [near_far hK2 (someL_near hK hp)]
set_option maxHeartbeats 2000000 in
theorem some_none (a : Option Addr) (c : Nat) (M K : Int) (w : World) : Calls Tryz.prog 19 #[.slice a 0 c, .int .i64 M, .int .i64 K] w fun e w' => e = .returned (.slice none 0 0) ∧ w' = w := by
  go_enter Tryz.func19, Tryz.ntmps19
  go_wp2
  refine wp_loop_rounds 1 ?_
  rw [rounds_succ]
  go_wp2
  go_ret
  exact ⟨rfl, rfl⟩
set_option maxRecDepth 100000 in
set_option maxHeartbeats 2000000 in
theorem some_some (b off n c M K : Nat) (zs : List (Int × Int)) (w : World) (hM : M ≤ 4096) (hK0 : 0 < K) (hK2 : K ≤ 549755813888) (hb : b < w.heap.size) (HL : Hid (zs.length = n)) (HH : Hid (HoldsR w b off zs)) :
    Calls Tryz.prog 19 #[.slice (some ⟨b, off, none⟩) n c, .int .i64 M, .int .i64 K] w fun e w' => ∃ u, e = .returned u ∧ Below w.heap.size w w' ∧ Kept w' w.heap.size u (someL M K zs) := by
  obtain ⟨i0, hi, hz0, hz1, hz2⟩ := info_parts Tryz.info52
  have hw2 : IntKind.i64.wrap (2 * (K : Int)) = 2 * (K : Int) := by rw [IntKind.wrap_i64]; omega
  go_enter Tryz.func19, Tryz.ntmps19
  go_wp2
  go_loopg [7, 8] M (fun gk s7 s8 wr => ∃ k : Nat, k + gk = M ∧ k ≤ n ∧ s8 = .int .i64 k ∧ Below w.heap.size w wr ∧ Kept wr w.heap.size s7 ((zs.take k).map (nearP K)))
  case atStart => exact ⟨0, by omega, by omega, rfl, Below.refl _ _, Or.inl ⟨by simp, rfl⟩⟩
  case round =>
    obtain ⟨k, hk, hkn, rfl, hbr, hkept⟩ := hrel
    have HK : Hid (k + gk = M) := hk
    have KP : Hid (Kept wr w.heap.size u7 ((zs.take k).map (nearP K))) := hkept
    have hk300 : k ≤ M := by omega
    have hsz := hbr.size
    clear hk hkept
    by_cases hlt : k < n
    · by_cases hlt2 : k < M
      · obtain ⟨c0, c1⟩ := HH.out k (by rw [HL.out]; exact hlt)
        rw [← hbr.cell (p := ⟨b, off + k * 2, none⟩) hb] at c0
        rw [← hbr.cell (p := ⟨b, off + k * 2 + 1, none⟩) hb] at c1
        generalize hz : zs[k]! = z at c0 c1
        have HZ : Hid (zs[k]! = z) := hz
        clear hz
        obtain ⟨x, y⟩ := z
        simp only at c0 c1
        have hsx := fun W => spot_any x (2 * (K : Int)) W (by omega) (by omega)
        have hsy := fun W => spot_any y (2 * (K : Int)) W (by omega) (by omega)
        obtain ⟨x0, x1⟩ := spotI_bound x (2 * (K : Int)) (by omega)
        obtain ⟨y0, y1⟩ := spotI_bound y (2 * (K : Int)) (by omega)
        generalize hgx : spotI x (2 * (K : Int)) = sx at *
        generalize hgy : spotI y (2 * (K : Int)) = sy at *
        have HG : Hid (spotI x (2 * (K : Int)) = sx ∧ spotI y (2 * (K : Int)) = sy) := ⟨hgx, hgy⟩
        clear hgx hgy
        have hi1 : (0 : Int) ≤ (k : Int) := by omega
        have hi2 : (k : Int) < (n : Int) := by omega
        have hi3 : (k : Int) < (M : Int) := by omega
        have hbw : b < wr.heap.size := Nat.lt_of_lt_of_le hb hsz
        have hww : w.heap.size ≤ wr.heap.size := hsz
        have hwx : IntKind.i64.wrap (sx - (K : Int)) = sx - (K : Int) := by rw [IntKind.wrap_i64]; omega
        have hwy : IntKind.i64.wrap (sy - (K : Int)) = sy - (K : Int) := by rw [IntKind.wrap_i64]; omega
        have OW : Hid (∀ o, (wr.alloc o).drew.ownsRow w.heap.size 52 2 u7 k (cellsL ((zs.take k).map (nearP K)))) := fun o => by
          have h1 := Kept.owns KP.out
          rw [List.length_map, List.length_take, HL.out, Nat.min_eq_left hkn] at h1
          exact h1.alloc o
        go_wp2_with fail
        go_region_held3 (fun w' => w'.cell? ⟨b, off + k * 2, none⟩ = some (.int .i64 x) ∧ w'.cell? ⟨b, off + k * 2 + 1, none⟩ = some (.int .i64 y)) (first | go_keep | (exact ⟨grown_cell hgrow5 (Kept.owns KP.out) c0 hbw hb rfl, grown_cell hgrow5 (Kept.owns KP.out) c1 hbw hb rfl⟩))
          (first | (go_at_call_of 20 x; refine (hsx _).mono ?_; rintro e w' ⟨rfl, hw⟩; subst hw) | (go_at_call_of 20 y; refine (hsy _).mono ?_; rintro e w' ⟨rfl, hw⟩; subst hw) | (refine step_append_own _ (by rfl) _ _ 24 (by rfl) w.heap.size 52 i0 (.agg #[.int .i64 0, .int .i64 0]) 2 16 Tryz.underlying24 hi hz0 hz1 hz2 rfl (by decide) u7 k (cellsL ((zs.take k).map (nearP K))) (by rfl) (OW.out _) ⟨wr.heap.size, 0, none⟩ 1 1 [.int .i64 (sx - (K : Int)), .int .i64 (sy - (K : Int))] (by rfl) rfl (cell_two_new _ _ _ _) (by intro u hu; simp at hu; rcases hu with rfl | rfl <;> rfl) (by unfold maxLen; omega) (by omega) (by simp; omega) ?_; intro v5 w5 hown5 hgrow5 hnil5))
        go_wp2_with fail
        go_roundg (gk - 1)
        case measure => have := HK.out; omega
        case rel =>
          have h1 := HK.out
          have hts : (zs.take (k + 1)).map (nearP K) = (zs.take k).map (nearP K) ++ [(sx - (K : Int), sy - (K : Int))] := by
            rw [List.take_succ_eq_append_getElem (by rw [HL.out]; exact hlt), List.map_append, ← getElem!_pos zs k, HZ.out]
            simp [nearP, nearI, HG.out.1, HG.out.2]
          refine ⟨k + 1, by omega, by omega, by go_num, (hbr.alloc hsz _).drew.grown hgrow5 (by simp; omega) (fun g hg => ((OW.out (.cells #[] 0)).lt g hg).1), Or.inr ⟨by rw [hts]; simp, ?_⟩⟩
          rw [hts, cellsL_append, List.length_append, List.length_map, List.length_take, HL.out, Nat.min_eq_left hkn]
          exact hown5
      · have hq : (k : Int) < (n : Int) := by omega
        have hq2 : ¬ (k : Int) < (M : Int) := by omega
        have HKE : Hid (k = M) := by show k = M; omega
        clear hlt2 hk300 hlt
        go_wp2
        go_ret
        have hke := HKE.out
        refine ⟨_, rfl, hbr, ?_⟩
        rw [someL, ← hke]
        exact KP.out
    · go_wp2
      go_ret
      refine ⟨_, rfl, hbr, ?_⟩
      have h1 := KP.out
      rw [List.take_of_length_le (by rw [HL.out]; omega)] at h1
      rw [someL, List.take_of_length_le (by rw [HL.out]; omega)]
      exact h1
theorem some_any (v : Value) (zs : List (Int × Int)) (M K : Nat) (w : World) (h : RRow w v zs) (hM : M ≤ 4096) (hK0 : 0 < K) (hK2 : K ≤ 549755813888) :
    Calls Tryz.prog 19 #[v, .int .i64 M, .int .i64 K] w fun e w' => ∃ u, e = .returned u ∧ Below w.heap.size w w' ∧ Kept w' w.heap.size u (someL M K zs) := by
  obtain ⟨a, c, rfl, hc, hm, ha, h⟩ := h
  rcases h with h0 | ⟨b, off, rfl, hlt, hp⟩
  · have hz : zs = [] := List.length_eq_zero_iff.1 h0
    subst hz
    exact (some_none a c M K w).mono fun e w' ⟨h1, h2⟩ => ⟨_, h1, by rw [h2]; exact Below.refl _ _, Or.inl ⟨by simp [someL], rfl⟩⟩
  · exact some_some b off zs.length c M K zs w hM hK0 hK2 hlt rfl hp
theorem pair_go {w w1 w2 : World} {g : Nat} {x y : Value} (hs : w1.cell? ⟨g, 0, none⟩ = some x ∧ w1.cell? ⟨g, 1, none⟩ = some y ∧ g < w1.heap.size ∧ Below g w w1) (h : Below w1.heap.size w1 w2) :
    w2.cell? ⟨g, 0, none⟩ = some x ∧ w2.cell? ⟨g, 1, none⟩ = some y ∧ g < w2.heap.size ∧ Below g w w2 :=
  ⟨(h.cell (p := ⟨g, 0, none⟩) hs.2.2.1).trans hs.1, (h.cell (p := ⟨g, 1, none⟩) hs.2.2.1).trans hs.2.1, Nat.lt_of_lt_of_le hs.2.2.1 h.size, hs.2.2.2.trans (h.mono (Nat.le_of_lt hs.2.2.1))⟩
theorem pair_born (w : World) (x y : Value) (t : TypeId) : (w.alloc (.cells #[x, y] t)).cell? ⟨w.heap.size, 0, none⟩ = some x ∧ (w.alloc (.cells #[x, y] t)).cell? ⟨w.heap.size, 1, none⟩ = some y ∧ w.heap.size < (w.alloc (.cells #[x, y] t)).heap.size ∧ Below w.heap.size w (w.alloc (.cells #[x, y] t)) :=
  ⟨by rw [World.cell?_alloc_new]; rfl, by rw [World.cell?_alloc_new]; rfl, by simp, (Below.refl _ _).alloc (Nat.le_refl _) _⟩
theorem pair_drew {w w1 : World} {g : Nat} {x y : Value} (hs : w1.cell? ⟨g, 0, none⟩ = some x ∧ w1.cell? ⟨g, 1, none⟩ = some y ∧ g < w1.heap.size ∧ Below g w w1) :
    w1.drew.cell? ⟨g, 0, none⟩ = some x ∧ w1.drew.cell? ⟨g, 1, none⟩ = some y ∧ g < w1.drew.heap.size ∧ Below g w w1.drew := ⟨hs.1, hs.2.1, hs.2.2.1, hs.2.2.2.drew⟩
set_option maxHeartbeats 1000000 in
theorem right_any (b l : Int) (w : World) : Calls Tryz.prog 18 #[.agg #[.int .i64 b, .int .i64 l]] w fun e w' => e = .returned (.agg #[.int .i64 (rightB b), .int .i64 (spotI l 512)]) ∧ Below w.heap.size w w' := by
  have h0 := fun o => pair_drew (pair_go (pair_born w (.int .i64 b) (.int .i64 l) 23) ((Below.refl _ _).alloc (Nat.le_refl _) o))
  have hb1 := fun W => spot_any b 512 W (by omega) (by omega)
  have hl1 := fun W => spot_any l 512 W (by omega) (by omega)
  have hr : rightB b = bits .andNot .i64 (spotI b 512) 1 := rfl
  rw [hr]
  generalize spotI b 512 = sb at *
  generalize spotI l 512 = sl at *
  go_enter Tryz.func18, Tryz.ntmps18
  go_wp2_with fail
  go_region_held3 (fun w' => w'.cell? ⟨w.heap.size, 0, none⟩ = some (.int .i64 b) ∧ w'.cell? ⟨w.heap.size, 1, none⟩ = some (.int .i64 l) ∧ w.heap.size < w'.heap.size ∧ Below w.heap.size w w') (first | exact h0 _ | assumption)
    (first | (go_at_call_of 20 b; refine (hb1 _).mono ?_; rintro e w' ⟨rfl, hw⟩; subst hw) | (go_at_call_of 20 l; refine (hl1 _).mono ?_; rintro e w' ⟨rfl, hw⟩; subst hw))
  rename_i hH
  go_wp2_with fail
  refine bodyPost_ret (v := .agg #[.int .i64 (bits .andNot .i64 sb 1), .int .i64 sl]) ?_ rfl ⟨rfl, hH.2.2.2⟩
  simp [results, Tryz.results18, go_sem]
theorem right_table : ∀ n : Fin 512, (withinB (bits .andNot .i64 (n.val : Int) 1) && !hasB (bits .andNot .i64 (n.val : Int) 1) 0) = true := by decide +kernel
theorem right_good (b l : Int) : goodB (rightB b) (spotI l 512) = true := by
  obtain ⟨h0, h1⟩ := spotI_bound b 512 (by omega)
  obtain ⟨k0, k1⟩ := spotI_bound l 512 (by omega)
  obtain ⟨m, hm⟩ := Int.eq_ofNat_of_zero_le h0
  have ht := right_table ⟨m, by omega⟩
  simp only at ht
  unfold goodB rightB
  rw [hm]
  have hw : withinB (spotI l 512) = true := by simp [withinB]; omega
  rw [hw, Bool.and_true]
  exact ht
end Go.Proofs.YtofbcngcblleaaaGreat.A

namespace Go.Proofs.YtofbcngcblleaaaGreat.A
open Go.RowKit Go.Maps Go.Proofs.YtofbcngcblleaaaGreat.L
theorem kept_set {w : World} {base : Nat} {v : Value} {ys : List (Int × Int)} (h : Kept w base v ys) {g : Nat} (hg : g < base) (i : Nat) (u : Value) : Kept (w.setCell ⟨g, i, none⟩ u) base v ys := by
  rcases h with h | ⟨h0, h1⟩
  · exact Or.inl h
  · exact Or.inr ⟨h0, row_other h1 fun j hj => heap_set fun e => by have := (World.ownsRow.lt h1 j hj).1; omega⟩
structure Twin (g : Gr) (ys : List (Int × Int)) (X Y : Int) : Prop where
  tidy : Tidy ys
  near : ∀ p ∈ ys, -(10 : Int) ≤ p.1 ∧ p.1 < 10 ∧ -(10 : Int) ≤ p.2 ∧ p.2 < 10
  len : ys.length ≤ 30
  plane : g = cellsG ys
theorem Twin.g1 {g : Gr} {ys : List (Int × Int)} {X Y : Int} (h : Twin g ys X Y) : ∀ x y, g x y = true → (0 : Int) - (10 : Nat) ≤ x ∧ x < 0 + (10 : Nat) ∧ (0 : Int) - (10 : Nat) ≤ y ∧ y < 0 + (10 : Nat) := fun x y hg => by
  rw [h.plane] at hg
  have := h.near (x, y) (by unfold cellsG at hg; simpa using hg)
  simp only at this
  omega
theorem Twin.ofSome {zs ys : List (Int × Int)} {X Y : Int} (h : Tidied (someL 30 10 zs) ys) : Twin (cellsG ys) ys X Y :=
  ⟨h.1, fun p hp => someL_near (M := 30) (K := 10) (by omega) ((h.2 p).1 hp).1, Nat.le_trans (tidied_len h) (someL_len 30 10 zs), rfl⟩
end Go.Proofs.YtofbcngcblleaaaGreat.A

namespace Go.Proofs.YtofbcngcblleaaaGreat.A
open Go.RowKit Go.Maps Go.Proofs.YtofbcngcblleaaaGreat.L
variable {w W W' : World} {o o' oa ob oa' : Nat → Nat} {a b rk : Nat} {rb rl : Int} {A B A' : Ar} {rows : List (Value × List (Int × Int))}
theorem LRow.rest {v : Value} {zs : List (Int × Int)} (h : LRow W oa v zs) (h2 : LRow W ob v zs) (k : Ch (fun l => l = 1) oa W oa' W') : LRow W' (ext ob W.heap.size 0) v zs := by
  rcases h2 with h2 | ⟨h0, b, off, c, h1, hl, hlt, h3, h4, h5⟩
  · exact Or.inl h2
  · rcases h with ⟨h, _⟩ | ⟨_, b2, off2, c2, k1, kl, _, _, _, _⟩
    · exact absurd h h0
    · rw [h1] at k1
      have e : b = b2 := by
        have := Value.slice.inj k1
        have := Option.some.inj this.1
        have := congrArg Addr.block this
        exact this
      have hb := k.block b hlt (by rw [e]; exact kl)
      exact Or.inr ⟨h0, b, off, c, h1, by rw [ext_old hlt]; exact hl, Nat.lt_of_lt_of_le hlt k.size, h3, h4, fun j hj => ⟨(World.cell?_of_block (a := ⟨b, off + j * 2, none⟩) hb).trans (h5 j hj).1, (World.cell?_of_block (a := ⟨b, off + j * 2 + 1, none⟩) hb).trans (h5 j hj).2⟩⟩
theorem MvT.swap (h : MvT w W oa ob a b rk rb rl A B rows) : MvT w W ob oa b a rk rb rl B A rows := ⟨h.b, h.a, fun k hk h1 h2 => h.ap k hk h2 h1⟩
theorem MvT.ch (h : MvT w W oa ob a b rk rb rl A B rows) (k : Ch (fun l => l = 1) oa W oa' W') (hA : ArL W' oa' a A') : MvT w W' oa' (ext ob W.heap.size 0) a b rk rb rl A' B rows := by
  have ha := h.a.ch k hA
  refine ⟨ha, ⟨?_, ha.rule, by rw [ext_old h.a.lt]; exact h.b.lr, fun x hx => (h.a.rows x hx).rest (h.b.rows x hx) k, ha.below, fun i hi => ?_⟩, fun i hi h1 => ?_⟩
  · obtain ⟨F, h1, h2⟩ := h.b.ar
    exact ⟨F, h1.other k.size fun i hi => k.block i (h1.flt i hi) (h.ap i (h1.flt i hi) (h2 i hi)), fun i hi => by rw [ext_old (h1.flt i hi)]; exact h2 i hi⟩
  · have := h.a.below.size
    rw [ext_old (by omega)]
    exact h.b.low i hi
  · rcases Nat.lt_or_ge i W.heap.size with hlt | hge
    · rw [ext_old hlt] at h1
      rw [k.lab i hlt]
      exact h.ap i hlt h1
    · rw [ext_new hge] at h1
      cases h1
theorem MvT.grow (h : MvT w W oa ob a b rk rb rl A B rows) (k : Below W.heap.size W W') : MvT w W' (ext oa W.heap.size 0) (ext ob W.heap.size 0) a b rk rb rl A B rows :=
  h.ch (Ch.ofBelow k 0) (h.a.ar.ch (L := fun _ => False) (Ch.ofBelow k 0) fun h => h)
theorem MvT.more {u : Value} {ys : List (Int × Int)} (h : MvT w W' (ext oa W.heap.size 0) (ext ob W.heap.size 0) a b rk rb rl A B rows) (hr : ORow W' W.heap.size u ys) : MvT w W' (ext oa W.heap.size 0) (ext ob W.heap.size 0) a b rk rb rl A B ((u, ys) :: rows) :=
  ⟨h.a.more hr, h.b.more hr, h.ap⟩
theorem MvL.second (h : MvL w W oa a rk rb rl A rows) (hb : Below W.heap.size W W') (hB : ArL W' (fun k => if k < W.heap.size then 0 else 1) b B) : MvT w W' (ext oa W.heap.size 0) (fun k => if k < W.heap.size then 0 else 1) a b rk rb rl A B rows := by
  have ha := h.grow hb
  have low : ∀ k, k < W.heap.size → (if k < W.heap.size then 0 else 1) ≠ 1 := fun k hk => by rw [if_pos hk]; decide
  refine ⟨ha, ⟨hB, ha.rule, low rk h.lt, fun x hx => ?_, ha.below, fun i hi => low i (Nat.lt_of_lt_of_le hi h.below.size)⟩, fun i _ h1 => ?_⟩
  · rcases h.rows x hx with e | ⟨h0, b, off, c, h1, hl, hlt, h3, h4, h5⟩
    · exact Or.inl e
    · have hb' := hb.block b hlt
      exact Or.inr ⟨h0, b, off, c, h1, low b hlt, Nat.lt_of_lt_of_le hlt hb.size, h3, h4, fun j hj => ⟨(World.cell?_of_block (a := ⟨b, off + j * 2, none⟩) hb').trans (h5 j hj).1, (World.cell?_of_block (a := ⟨b, off + j * 2 + 1, none⟩) hb').trans (h5 j hj).2⟩⟩
  · split at h1
    · cases h1
    · rename_i hn
      rw [ext_new (by omega)]
      decide
theorem st_lim {PR : (Bool → Nat → Bool) → Int → Prop} {q : Nat → Int} {t : Nat} (h : NxSt PR t q A) {n : Int} (h0 : 0 ≤ n) (h1 : n ≤ A.room) : NxSt PR t q (A.limP t n) :=
  ⟨lim_sound h.s h0 h1, glob_lim h.g t n, h.p, h.n, h.u, h.r⟩
theorem rt_lim {t N : Nat} {id : Int} {g : Gr} (h : Rt A t N id g) (n : Int) : Rt (A.limP t n) t N id g := ⟨h.lev, h.shows, h.out⟩
theorem lim_is (A : Ar) (t : Nat) (n : Int) : (A.limP t n).lim t = n := by
  show upd A.lim t n t = n
  unfold upd
  rw [if_pos rfl]
variable {R : Bool → Nat → Bool} {rn : Int} {g : Gr} {PR : (Bool → Nat → Bool) → Int → Prop}
theorem small_nine {D : Item → Prop} {e' : Int} (h : Gx 1 A A' 0 e' D) (st : NxSt PR 1 (fun _ => 199999) A') (hl : A.lim 1 ≤ 3000) (he : Er e') : e' = 9 := by
  rcases h.bad he with h1 | ⟨⟨h1, _⟩ | ⟨h1, h2, h3⟩, _⟩
  · exact absurd rfl h1.ne
  · exact h1
  · have h4 := h3 199999 st.r
    have h5 := h.lim
    omega
theorem quota_fine {e' : Int} {S1 : Item → Prop} {n : Nat} (h4 : NxSt PR 1 (fun _ => 199999) A') (k : Gx 1 A A' 0 e' (StepsD R rn S1 g n)) (hR : R false 0 = false) (hn : n < 60)
    (hg1 : ∀ X Y, g X Y = true → (0 : Int) - (10 : Nat) ≤ X ∧ X < 0 + (10 : Nat) ∧ (0 : Int) - (10 : Nat) ≤ Y ∧ Y < 0 + (10 : Nat))
    (hc : A.cnt 1 ≤ 3000) (hl : A.lim 1 = 200000) : ¬ Er e' := by
  have hcnt := gx_count k h4 (by omega) (boxL R g rn 10 9 0 0 n) fun i hi => box_steps hR hg1 (LM := 9) (by omega) (by omega) (fun T N hT hL => by
    have := box_level (M := 7) hR hg1 (by omega) (fun z hz => by omega) hL
    omega) hi
  have b1 := boxN_quota n hn
  rw [boxL_len] at hcnt
  have hl' : A'.lim 1 = 200000 := k.lim.trans hl
  exact gx_fine k h4 (by show A'.cnt 1 < 199999; omega) (by omega)
theorem run_big60 {q : Nat → Int} (hR : R false 0 = false) {g : Gr} (hg : ∀ X Y, g X Y = true → (0 : Int) - (10 : Nat) ≤ X ∧ X < 0 + (10 : Nat) ∧ (0 : Int) - (10 : Nat) ≤ Y ∧ Y < 0 + (10 : Nat)) {s : Nat} (hs : s < 60) {A : Ar} {m : Nat} {x : Int} (h1 : NxSt PR 1 q A) (h2 : Rt A 1 m x (iter R s g)) : (cellsF A.ths (m + 1) x).length < 4611686018427387904 := by
  have h3 := cells_few h1 (by omega) h2 (sqC (-80) (-80) 160) fun X Y hXY => by
    have := box_live hR hg s X Y hXY
    exact sqC_in (by omega) (by omega) (by omega) (by omega)
  rw [sqC_len] at h3
  omega
theorem same_perm {a b : List (Int × Int)} (ha : a.Nodup) (hb : b.Nodup) (h : ∀ p, p ∈ a ↔ p ∈ b) : a.Perm b := (List.perm_ext_iff_of_nodup ha hb).2 h
end Go.Proofs.YtofbcngcblleaaaGreat.A
