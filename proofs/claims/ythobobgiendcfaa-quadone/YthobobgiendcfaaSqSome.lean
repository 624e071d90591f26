/- What lifelodgekeep.spot and lifelodgekeep.some answer, for any bounds. -/
import Derived.Test.YthobobgiendcfaaSqOpen
import Derived.Test.YthobobgiendcfaaMg
import Derived.Deep.RegionHeld3
namespace Go.Proofs.Ythobobgiendcfaa
open Go.RowKit Go.Lib Go.Sort
namespace A
attribute [local go_sem ↓] Go.wp_at_zero Go.wp_at_succ

def spotI (v n : Int) : Int := if v.tmod n < 0 then v.tmod n + n else v.tmod n
theorem spotI_bound (v n : Int) (hn : 0 < n) : 0 ≤ spotI v n ∧ spotI v n < n := by
  have h1 := Int.lt_tmod_of_pos v hn
  have h2 := Int.tmod_lt_of_pos v hn
  unfold spotI
  split <;> omega
set_option maxHeartbeats 1000000 in
theorem spot_any (v n : Int) (w : World) (hn : 0 < n) (hn2 : n ≤ 4611686018427387904) : Calls Try.prog 36 #[.int .i64 v, .int .i64 n] w fun e w' => e = .returned (.int .i64 (spotI v n)) ∧ w' = w := by
  have h1 := Int.lt_tmod_of_pos v hn
  have h2 := Int.tmod_lt_of_pos v hn
  have hz : (n == 0) = false := by simp; omega
  by_cases h0 : v.tmod n < 0
  · have e : spotI v n = v.tmod n + n := by rw [spotI, if_pos h0]
    rw [e]
    go_enter Try.func36, Try.ntmps36
    go_wp2
    go_ret
    exact ⟨rfl, rfl⟩
  · have e : spotI v n = v.tmod n := by rw [spotI, if_neg h0]
    rw [e]
    go_enter Try.func36, Try.ntmps36
    go_wp2
    go_ret
    exact ⟨rfl, rfl⟩

/-- a number made nearer to 0 than K -/
def nearI (K : Nat) (v : Int) : Int := spotI v (2 * K) - K
def nearP (K : Nat) (p : Int × Int) : Int × Int := (nearI K p.1, nearI K p.2)
theorem nearI_bound (K : Nat) (hK : 0 < K) (v : Int) : -(K : Int) ≤ nearI K v ∧ nearI K v < K := by
  have := spotI_bound v (2 * K) (by omega)
  unfold nearI
  omega
/-- the list that some makes -/
def someL (M K : Nat) (zs : List (Int × Int)) : List (Int × Int) := (zs.take M).map (nearP K)
theorem someL_len (M K : Nat) (zs : List (Int × Int)) : (someL M K zs).length ≤ M := by simp [someL]; omega
theorem someL_near {M K : Nat} (hK : 0 < K) {zs : List (Int × Int)} {p : Int × Int} (hp : p ∈ someL M K zs) : -(K : Int) ≤ p.1 ∧ p.1 < K ∧ -(K : Int) ≤ p.2 ∧ p.2 < K := by
  simp only [someL, List.mem_map] at hp
  obtain ⟨q, _, rfl⟩ := hp
  have h1 := nearI_bound K hK q.1
  have h2 := nearI_bound K hK q.2
  simp only [nearP]
  omega
theorem near_far {K : Nat} (hK2 : K ≤ 549755813888) {p : Int × Int} (h : -(K : Int) ≤ p.1 ∧ p.1 < K ∧ -(K : Int) ≤ p.2 ∧ p.2 < K) : farP p = false := by
  have e1 : farI p.1 = false := by unfold farI; rw [decide_eq_false (by omega), decide_eq_false (by omega)]; rfl
  have e2 : farI p.2 = false := by unfold farI; rw [decide_eq_false (by omega), decide_eq_false (by omega)]; rfl
  simp [farP, e1, e2]
theorem someL_code {M K : Nat} (hM : M ≤ 4096) (hK : 0 < K) (hK2 : K ≤ 549755813888) (zs : List (Int × Int)) : tcode (someL M K zs) = 0 := by
  unfold tcode
  have hl := someL_len M K zs
  rw [if_neg (by omega), if_neg]
  simp only [Bool.not_eq_true, List.any_eq_false]
  intro p hp
  simp [near_far hK2 (someL_near hK hp)]

theorem step_append_own {P : Program} (w : World) {ops : Array Oper} {o : Oper} {a : Act} {K : Act → World → Prop} {Q : Exit → Act → World → Prop} {E : Prop} (hgd : o.guard = none) (s x : Operand) (t : TypeId)
    (ho : o.op = .call { callee := .builtin .append, args := #[s, x], argTypes := #[t, t] })
    (base : Nat) (e : TypeId) (i : TypeInfo) (z : Value) (size bytes : Nat) (ht : P.underlying t = some (.slice e)) (hi : P.info? e = some i) (hz : i.zero = some z)
    (hsize : i.size = size) (hby : i.bytes = bytes) (hzs : z.cells.size = size) (hsz : 0 < size)
    (v : Value) (n : Nat) (xs : List Value) (hs : a.eval s = v) (hown : w.ownsRow base e size v n xs)
    (ad : Addr) (m c : Nat) (news : List Value) (hx : a.eval x = .slice (some ad) m c) (hl : news.length = m * size) (hnews : ∀ j u, news[j]? = some u → w.cell? (ad.add j) = some u) (h1 : ∀ u, u ∈ news → u.oneCell' = true)
    (h63 : n + m ≤ maxLen) (hbytes : (n + m) * bytes ≤ 140737488355328) (hbase : base ≤ w.heap.size)
    (h : ∀ v' w', w'.ownsRow base e size v' (n + m) (xs ++ news) → w.grownBy w' v.ownBlock → (v' = .slice none 0 0 ↔ v = .slice none 0 0 ∧ m = 0) → K (a.put o.dst v') w') :
    if Region.wanted o (yielded ops a.tmps) = true then Oper.wp P o a w K Q else E := by
  have hw : Region.wanted o (yielded ops a.tmps) = true := by simp [Region.wanted, hgd]
  rw [if_pos hw]
  exact wp_append_own w s x t ho base e i z size bytes ht hi hz hsize hby hzs hsz v n xs hs hown ad m c news hx hl hnews h1 h63 hbytes hbase h
theorem Kept.owns {w : World} {base : Nat} {v : Value} {ys : List (Int × Int)} (h : Kept w base v ys) : w.ownsRow base 87 2 v ys.length (cellsL ys) := by
  rcases h with ⟨rfl, rfl⟩ | ⟨_, h⟩
  · exact World.ownsRow_nil _ _ _ _
  · exact h
theorem grown_cell {w0 w w' : World} {base k : Nat} {v : Value} {xs : List Value} {o : Obj} {a : Addr} {u : Value} (hg : (w.alloc o).drew.grownBy w' v.ownBlock) (hown : w.ownsRow base 87 2 v k xs) (hc : w.cell? a = some u) (ha : a.block < w.heap.size) (hb : a.block < w0.heap.size) (hbase : base = w0.heap.size) : w'.cell? a = some u := by
  refine hg.cell (a := a) ?_ ?_
  · show (w.alloc o).cell? a = some u
    rw [World.cell?_alloc_lt _ _ _ ha]
    exact hc
  · intro e
    have := (hown.lt a.block e.symm).1
    omega

set_option maxHeartbeats 2000000 in
theorem some_none (a : Option Addr) (c : Nat) (M K : Int) (w : World) : Calls Try.prog 53 #[.slice a 0 c, .int .i64 M, .int .i64 K] w fun e w' => e = .returned (.slice none 0 0) ∧ w' = w := by
  go_enter Try.func53, Try.ntmps53
  go_wp2
  refine wp_loop_rounds 1 ?_
  rw [rounds_succ]
  go_wp2
  go_ret
  exact ⟨rfl, rfl⟩

set_option maxRecDepth 100000 in
set_option maxHeartbeats 2000000 in
theorem some_some (b off n c M K : Nat) (zs : List (Int × Int)) (w : World) (hM : M ≤ 4096) (hK0 : 0 < K) (hK2 : K ≤ 549755813888) (hb : b < w.heap.size) (HL : Hid (zs.length = n)) (HH : Hid (HoldsR w b off zs)) :
    Calls Try.prog 53 #[.slice (some ⟨b, off, none⟩) n c, .int .i64 M, .int .i64 K] w fun e w' => ∃ u, e = .returned u ∧ Below w.heap.size w w' ∧ Kept w' w.heap.size u (someL M K zs) := by
  obtain ⟨i0, hi, hz0, hz1, hz2⟩ := info_parts Try.info87
  have hw2 : IntKind.i64.wrap (2 * (K : Int)) = 2 * (K : Int) := by rw [IntKind.wrap_i64]; omega
  go_enter Try.func53, Try.ntmps53
  go_wp2
  go_loopg [7, 8] M (fun gk s7 s8 wr => ∃ k : Nat, k + gk = M ∧ k ≤ n ∧ s8 = .int .i64 k ∧ Below w.heap.size w wr ∧ Kept wr w.heap.size s7 ((zs.take k).map (nearP K)))
  case atStart => exact ⟨0, by omega, by omega, rfl, Below.refl _ _, Or.inl ⟨by simp, rfl⟩⟩
  case round =>
    obtain ⟨k, hk, hkn, rfl, hbr, hkept⟩ := hrel
    have HK : Hid (k + gk = M) := hk
    have KP : Hid (Kept wr w.heap.size u7 ((zs.take k).map (nearP K))) := hkept
    have hk300 : k ≤ M := by omega
    have hsz := hbr.size
    clear hk hkept
    by_cases hlt : k < n
    · by_cases hlt2 : k < M
      · obtain ⟨c0, c1⟩ := HH.out k (by rw [HL.out]; exact hlt)
        rw [← hbr.cell (p := ⟨b, off + k * 2, none⟩) hb] at c0
        rw [← hbr.cell (p := ⟨b, off + k * 2 + 1, none⟩) hb] at c1
        generalize hz : zs[k]! = z at c0 c1
        have HZ : Hid (zs[k]! = z) := hz
        clear hz
        obtain ⟨x, y⟩ := z
        simp only at c0 c1
        have hsx := fun W => spot_any x (2 * (K : Int)) W (by omega) (by omega)
        have hsy := fun W => spot_any y (2 * (K : Int)) W (by omega) (by omega)
        obtain ⟨x0, x1⟩ := spotI_bound x (2 * (K : Int)) (by omega)
        obtain ⟨y0, y1⟩ := spotI_bound y (2 * (K : Int)) (by omega)
        generalize hgx : spotI x (2 * (K : Int)) = sx at *
        generalize hgy : spotI y (2 * (K : Int)) = sy at *
        have HG : Hid (spotI x (2 * (K : Int)) = sx ∧ spotI y (2 * (K : Int)) = sy) := ⟨hgx, hgy⟩
        clear hgx hgy
        have hi1 : (0 : Int) ≤ (k : Int) := by omega
        have hi2 : (k : Int) < (n : Int) := by omega
        have hi3 : (k : Int) < (M : Int) := by omega
        have hbw : b < wr.heap.size := Nat.lt_of_lt_of_le hb hsz
        have hww : w.heap.size ≤ wr.heap.size := hsz
        have hwx : IntKind.i64.wrap (sx - (K : Int)) = sx - (K : Int) := by rw [IntKind.wrap_i64]; omega
        have hwy : IntKind.i64.wrap (sy - (K : Int)) = sy - (K : Int) := by rw [IntKind.wrap_i64]; omega
        have OW : Hid (∀ o, (wr.alloc o).drew.ownsRow w.heap.size 87 2 u7 k (cellsL ((zs.take k).map (nearP K)))) := fun o => by
          have h1 := Kept.owns KP.out
          rw [List.length_map, List.length_take, HL.out, Nat.min_eq_left hkn] at h1
          exact h1.alloc o
        go_wp2_with fail
        go_region_held3 (fun w' => w'.cell? ⟨b, off + k * 2, none⟩ = some (.int .i64 x) ∧ w'.cell? ⟨b, off + k * 2 + 1, none⟩ = some (.int .i64 y)) (first | go_keep | (exact ⟨grown_cell hgrow5 (Kept.owns KP.out) c0 hbw hb rfl, grown_cell hgrow5 (Kept.owns KP.out) c1 hbw hb rfl⟩))
          (first | (go_at_call_of 36 x; refine (hsx _).mono ?_; rintro e w' ⟨rfl, hw⟩; subst hw) | (go_at_call_of 36 y; refine (hsy _).mono ?_; rintro e w' ⟨rfl, hw⟩; subst hw) | (refine step_append_own _ (by rfl) _ _ 69 (by rfl) w.heap.size 87 i0 (.agg #[.int .i64 0, .int .i64 0]) 2 16 Try.underlying69 hi hz0 hz1 hz2 rfl (by decide) u7 k (cellsL ((zs.take k).map (nearP K))) (by rfl) (OW.out _) ⟨wr.heap.size, 0, none⟩ 1 1 [.int .i64 (sx - (K : Int)), .int .i64 (sy - (K : Int))] (by rfl) rfl (cell_two_new _ _ _ _) (by intro u hu; simp at hu; rcases hu with rfl | rfl <;> rfl) (by unfold maxLen; omega) (by omega) (by simp; omega) ?_; intro v5 w5 hown5 hgrow5 hnil5))
        go_wp2_with fail
        go_roundg (gk - 1)
        case measure => have := HK.out; omega
        case rel =>
          have h1 := HK.out
          have hts : (zs.take (k + 1)).map (nearP K) = (zs.take k).map (nearP K) ++ [(sx - (K : Int), sy - (K : Int))] := by
            rw [List.take_succ_eq_append_getElem (by rw [HL.out]; exact hlt), List.map_append, ← getElem!_pos zs k, HZ.out]
            simp [nearP, nearI, HG.out.1, HG.out.2]
          refine ⟨k + 1, by omega, by omega, by go_num, (hbr.alloc hsz _).drew.grown hgrow5 (by simp; omega) (fun g hg => ((OW.out (.cells #[] 0)).lt g hg).1), Or.inr ⟨by rw [hts]; simp, ?_⟩⟩
          rw [hts, cellsL_append, List.length_append, List.length_map, List.length_take, HL.out, Nat.min_eq_left hkn]
          exact hown5
      · have hq : (k : Int) < (n : Int) := by omega
        have hq2 : ¬ (k : Int) < (M : Int) := by omega
        have HKE : Hid (k = M) := by show k = M; omega
        clear hlt2 hk300 hlt
        go_wp2
        go_ret
        have hke := HKE.out
        refine ⟨_, rfl, hbr, ?_⟩
        rw [someL, ← hke]
        exact KP.out
    · go_wp2
      go_ret
      refine ⟨_, rfl, hbr, ?_⟩
      have h1 := KP.out
      rw [List.take_of_length_le (by rw [HL.out]; omega)] at h1
      rw [someL, List.take_of_length_le (by rw [HL.out]; omega)]
      exact h1
theorem some_any (v : Value) (zs : List (Int × Int)) (M K : Nat) (w : World) (h : RRow w v zs) (hM : M ≤ 4096) (hK0 : 0 < K) (hK2 : K ≤ 549755813888) :
    Calls Try.prog 53 #[v, .int .i64 M, .int .i64 K] w fun e w' => ∃ u, e = .returned u ∧ Below w.heap.size w w' ∧ Kept w' w.heap.size u (someL M K zs) := by
  obtain ⟨a, c, rfl, hc, hm, ha, h⟩ := h
  rcases h with h0 | ⟨b, off, rfl, hlt, hp⟩
  · have hz : zs = [] := List.length_eq_zero_iff.1 h0
    subst hz
    exact (some_none a c M K w).mono fun e w' ⟨h1, h2⟩ => ⟨_, h1, by rw [h2]; exact Below.refl _ _, Or.inl ⟨by simp [someL], rfl⟩⟩
  · exact some_some b off zs.length c M K zs w hM hK0 hK2 hlt rfl hp
end A
end Go.Proofs.Ythobobgiendcfaa
