/- A root without cells; what get answers. -/
import Derived.Test.YtgipjplifndniaaGreatDoorLpAddC
import Derived.Deep.RegionHeld3
import Derived.Test.YtgipjplifndniaaGreatDoorLpWide
import Derived.Test.YtgipjplifndniaaGreatDoorSqKnow
import Derived.Test.YtgipjplifndniaaGreatDoorLpGood
import Derived.Test.YtgipjplifndniaaGreatDoorLpOpenA
import Derived.Test.YtgipjplifndniaaGreatDoorLpItem
import Derived.Test.YtgipjplifndniaaGreatDoorArReach
import Derived.Test.YtgipjplifndniaaGreatDoorHaPut
namespace Go.Proofs.YtgipjplifndniaaGreatDoor.A
open Go.RowKit Go.Lib Go.Sort
attribute [local go_sem ↓] Go.wp_at_zero Go.wp_at_succ

def spotI (v n : Int) : Int := if v.tmod n < 0 then v.tmod n + n else v.tmod n
theorem spotI_bound (v n : Int) (hn : 0 < n) : 0 ≤ spotI v n ∧ spotI v n < n := by
  have h1 := Int.lt_tmod_of_pos v hn
  have h2 := Int.tmod_lt_of_pos v hn
  unfold spotI
  split <;> omega
set_option maxHeartbeats 1000000 in
theorem spot_any (v n : Int) (w : World) (hn : 0 < n) (hn2 : n ≤ 4611686018427387904) : Calls Tryz.prog 6 #[.int .i64 v, .int .i64 n] w fun e w' => e = .returned (.int .i64 (spotI v n)) ∧ w' = w := by
  have h1 := Int.lt_tmod_of_pos v hn
  have h2 := Int.tmod_lt_of_pos v hn
  have hz : (n == 0) = false := by simp; omega
  by_cases h0 : v.tmod n < 0
  · have e : spotI v n = v.tmod n + n := by rw [spotI, if_pos h0]
    rw [e]
    go_enter Tryz.func6, Tryz.ntmps6
    go_wp2
    go_ret
    exact ⟨rfl, rfl⟩
  · have e : spotI v n = v.tmod n := by rw [spotI, if_neg h0]
    rw [e]
    go_enter Tryz.func6, Tryz.ntmps6
    go_wp2
    go_ret
    exact ⟨rfl, rfl⟩

def nearI (K : Nat) (v : Int) : Int := spotI v (2 * K) - K
def nearP (K : Nat) (p : Int × Int) : Int × Int := (nearI K p.1, nearI K p.2)
theorem nearI_bound (K : Nat) (hK : 0 < K) (v : Int) : -(K : Int) ≤ nearI K v ∧ nearI K v < K := by
  have := spotI_bound v (2 * K) (by omega)
  unfold nearI
  omega
def someL (M K : Nat) (zs : List (Int × Int)) : List (Int × Int) := (zs.take M).map (nearP K)
theorem someL_len (M K : Nat) (zs : List (Int × Int)) : (someL M K zs).length ≤ M := by simp [someL]; omega
theorem someL_near {M K : Nat} (hK : 0 < K) {zs : List (Int × Int)} {p : Int × Int} (hp : p ∈ someL M K zs) : -(K : Int) ≤ p.1 ∧ p.1 < K ∧ -(K : Int) ≤ p.2 ∧ p.2 < K := by
  simp only [someL, List.mem_map] at hp
  obtain ⟨q, _, rfl⟩ := hp
  have h1 := nearI_bound K hK q.1
  have h2 := nearI_bound K hK q.2
  simp only [nearP]
  omega
theorem near_far {K : Nat} (hK2 : K ≤ 549755813888) {p : Int × Int} (h : -(K : Int) ≤ p.1 ∧ p.1 < K ∧ -(K : Int) ≤ p.2 ∧ p.2 < K) : farP p = false := by
  have e1 : farI p.1 = false := by unfold farI; rw [decide_eq_false (by omega), decide_eq_false (by omega)]; rfl
  have e2 : farI p.2 = false := by unfold farI; rw [decide_eq_false (by omega), decide_eq_false (by omega)]; rfl
  simp [farP, e1, e2]
theorem someL_code {M K : Nat} (hM : M ≤ 4096) (hK : 0 < K) (hK2 : K ≤ 549755813888) (zs : List (Int × Int)) : tcode (someL M K zs) = 0 := by
  unfold tcode
  have hl := someL_len M K zs
  rw [if_neg (by omega), if_neg]
  simp only [Bool.not_eq_true, List.any_eq_false]
  intro p hp
  simp [near_far hK2 (someL_near hK hp)]

theorem step_append_own {P : Program} (w : World) {ops : Array Oper} {o : Oper} {a : Act} {K : Act → World → Prop} {Q : Exit → Act → World → Prop} {E : Prop} (hgd : o.guard = none) (s x : Operand) (t : TypeId)
    (ho : o.op = .call { callee := .builtin .append, args := #[s, x], argTypes := #[t, t] })
    (base : Nat) (e : TypeId) (i : TypeInfo) (z : Value) (size bytes : Nat) (ht : P.underlying t = some (.slice e)) (hi : P.info? e = some i) (hz : i.zero = some z)
    (hsize : i.size = size) (hby : i.bytes = bytes) (hzs : z.cells.size = size) (hsz : 0 < size)
    (v : Value) (n : Nat) (xs : List Value) (hs : a.eval s = v) (hown : w.ownsRow base e size v n xs)
    (ad : Addr) (m c : Nat) (news : List Value) (hx : a.eval x = .slice (some ad) m c) (hl : news.length = m * size) (hnews : ∀ j u, news[j]? = some u → w.cell? (ad.add j) = some u) (h1 : ∀ u, u ∈ news → u.oneCell' = true)
    (h63 : n + m ≤ maxLen) (hbytes : (n + m) * bytes ≤ 140737488355328) (hbase : base ≤ w.heap.size)
    (h : ∀ v' w', w'.ownsRow base e size v' (n + m) (xs ++ news) → w.grownBy w' v.ownBlock → (v' = .slice none 0 0 ↔ v = .slice none 0 0 ∧ m = 0) → K (a.put o.dst v') w') :
    if Region.wanted o (yielded ops a.tmps) = true then Oper.wp P o a w K Q else E := by
  have hw : Region.wanted o (yielded ops a.tmps) = true := by simp [Region.wanted, hgd]
  rw [if_pos hw]
  exact wp_append_own w s x t ho base e i z size bytes ht hi hz hsize hby hzs hsz v n xs hs hown ad m c news hx hl hnews h1 h63 hbytes hbase h
theorem Kept.owns {w : World} {base : Nat} {v : Value} {ys : List (Int × Int)} (h : Kept w base v ys) : w.ownsRow base 50 2 v ys.length (cellsL ys) := by
  rcases h with ⟨rfl, rfl⟩ | ⟨_, h⟩
  · exact World.ownsRow_nil _ _ _ _
  · exact h
theorem grown_cell {w0 w w' : World} {base k : Nat} {v : Value} {xs : List Value} {o : Obj} {a : Addr} {u : Value} (hg : (w.alloc o).drew.grownBy w' v.ownBlock) (hown : w.ownsRow base 50 2 v k xs) (hc : w.cell? a = some u) (ha : a.block < w.heap.size) (hb : a.block < w0.heap.size) (hbase : base = w0.heap.size) : w'.cell? a = some u := by
  refine hg.cell (a := a) ?_ ?_
  · show (w.alloc o).cell? a = some u
    rw [World.cell?_alloc_lt _ _ _ ha]
    exact hc
  · intro e
    have := (hown.lt a.block e.symm).1
    omega

set_option maxHeartbeats 2000000 in
theorem some_none (a : Option Addr) (c : Nat) (M K : Int) (w : World) : Calls Tryz.prog 5 #[.slice a 0 c, .int .i64 M, .int .i64 K] w fun e w' => e = .returned (.slice none 0 0) ∧ w' = w := by
  go_enter Tryz.func5, Tryz.ntmps5
  go_wp2
  refine wp_loop_rounds 1 ?_
  rw [rounds_succ]
  go_wp2
  go_ret
  exact ⟨rfl, rfl⟩

set_option maxRecDepth 100000 in
set_option maxHeartbeats 2000000 in
theorem some_some (b off n c M K : Nat) (zs : List (Int × Int)) (w : World) (hM : M ≤ 4096) (hK0 : 0 < K) (hK2 : K ≤ 549755813888) (hb : b < w.heap.size) (HL : Hid (zs.length = n)) (HH : Hid (HoldsR w b off zs)) :
    Calls Tryz.prog 5 #[.slice (some ⟨b, off, none⟩) n c, .int .i64 M, .int .i64 K] w fun e w' => ∃ u, e = .returned u ∧ Below w.heap.size w w' ∧ Kept w' w.heap.size u (someL M K zs) := by
  obtain ⟨i0, hi, hz0, hz1, hz2⟩ := info_parts Tryz.info50
  have hw2 : IntKind.i64.wrap (2 * (K : Int)) = 2 * (K : Int) := by rw [IntKind.wrap_i64]; omega
  go_enter Tryz.func5, Tryz.ntmps5
  go_wp2
  go_loopg [7, 8] M (fun gk s7 s8 wr => ∃ k : Nat, k + gk = M ∧ k ≤ n ∧ s8 = .int .i64 k ∧ Below w.heap.size w wr ∧ Kept wr w.heap.size s7 ((zs.take k).map (nearP K)))
  case atStart => exact ⟨0, by omega, by omega, rfl, Below.refl _ _, Or.inl ⟨by simp, rfl⟩⟩
  case round =>
    obtain ⟨k, hk, hkn, rfl, hbr, hkept⟩ := hrel
    have HK : Hid (k + gk = M) := hk
    have KP : Hid (Kept wr w.heap.size u7 ((zs.take k).map (nearP K))) := hkept
    have hk300 : k ≤ M := by omega
    have hsz := hbr.size
    clear hk hkept
    by_cases hlt : k < n
    · by_cases hlt2 : k < M
      · obtain ⟨c0, c1⟩ := HH.out k (by rw [HL.out]; exact hlt)
        rw [← hbr.cell (p := ⟨b, off + k * 2, none⟩) hb] at c0
        rw [← hbr.cell (p := ⟨b, off + k * 2 + 1, none⟩) hb] at c1
        generalize hz : zs[k]! = z at c0 c1
        have HZ : Hid (zs[k]! = z) := hz
        clear hz
        obtain ⟨x, y⟩ := z
        simp only at c0 c1
        have hsx := fun W => spot_any x (2 * (K : Int)) W (by omega) (by omega)
        have hsy := fun W => spot_any y (2 * (K : Int)) W (by omega) (by omega)
        obtain ⟨x0, x1⟩ := spotI_bound x (2 * (K : Int)) (by omega)
        obtain ⟨y0, y1⟩ := spotI_bound y (2 * (K : Int)) (by omega)
        generalize hgx : spotI x (2 * (K : Int)) = sx at *
        generalize hgy : spotI y (2 * (K : Int)) = sy at *
        have HG : Hid (spotI x (2 * (K : Int)) = sx ∧ spotI y (2 * (K : Int)) = sy) := ⟨hgx, hgy⟩
        clear hgx hgy
        have hi1 : (0 : Int) ≤ (k : Int) := by omega
        have hi2 : (k : Int) < (n : Int) := by omega
        have hi3 : (k : Int) < (M : Int) := by omega
        have hbw : b < wr.heap.size := Nat.lt_of_lt_of_le hb hsz
        have hww : w.heap.size ≤ wr.heap.size := hsz
        have hwx : IntKind.i64.wrap (sx - (K : Int)) = sx - (K : Int) := by rw [IntKind.wrap_i64]; omega
        have hwy : IntKind.i64.wrap (sy - (K : Int)) = sy - (K : Int) := by rw [IntKind.wrap_i64]; omega
        have OW : Hid (∀ o, (wr.alloc o).drew.ownsRow w.heap.size 50 2 u7 k (cellsL ((zs.take k).map (nearP K)))) := fun o => by
          have h1 := Kept.owns KP.out
          rw [List.length_map, List.length_take, HL.out, Nat.min_eq_left hkn] at h1
          exact h1.alloc o
        go_wp2_with fail
        go_region_held3 (fun w' => w'.cell? ⟨b, off + k * 2, none⟩ = some (.int .i64 x) ∧ w'.cell? ⟨b, off + k * 2 + 1, none⟩ = some (.int .i64 y)) (first | go_keep | (exact ⟨grown_cell hgrow5 (Kept.owns KP.out) c0 hbw hb rfl, grown_cell hgrow5 (Kept.owns KP.out) c1 hbw hb rfl⟩))
          (first | (go_at_call_of 6 x; refine (hsx _).mono ?_; rintro e w' ⟨rfl, hw⟩; subst hw) | (go_at_call_of 6 y; refine (hsy _).mono ?_; rintro e w' ⟨rfl, hw⟩; subst hw) | (refine step_append_own _ (by rfl) _ _ 22 (by rfl) w.heap.size 50 i0 (.agg #[.int .i64 0, .int .i64 0]) 2 16 Tryz.underlying22 hi hz0 hz1 hz2 rfl (by decide) u7 k (cellsL ((zs.take k).map (nearP K))) (by rfl) (OW.out _) ⟨wr.heap.size, 0, none⟩ 1 1 [.int .i64 (sx - (K : Int)), .int .i64 (sy - (K : Int))] (by rfl) rfl (cell_two_new _ _ _ _) (by intro u hu; simp at hu; rcases hu with rfl | rfl <;> rfl) (by unfold maxLen; omega) (by omega) (by simp; omega) ?_; intro v5 w5 hown5 hgrow5 hnil5))
        go_wp2_with fail
        go_roundg (gk - 1)
        case measure => have := HK.out; omega
        case rel =>
          have h1 := HK.out
          have hts : (zs.take (k + 1)).map (nearP K) = (zs.take k).map (nearP K) ++ [(sx - (K : Int), sy - (K : Int))] := by
            rw [List.take_succ_eq_append_getElem (by rw [HL.out]; exact hlt), List.map_append, ← getElem!_pos zs k, HZ.out]
            simp [nearP, nearI, HG.out.1, HG.out.2]
          refine ⟨k + 1, by omega, by omega, by go_num, (hbr.alloc hsz _).drew.grown hgrow5 (by simp; omega) (fun g hg => ((OW.out (.cells #[] 0)).lt g hg).1), Or.inr ⟨by rw [hts]; simp, ?_⟩⟩
          rw [hts, cellsL_append, List.length_append, List.length_map, List.length_take, HL.out, Nat.min_eq_left hkn]
          exact hown5
      · have hq : (k : Int) < (n : Int) := by omega
        have hq2 : ¬ (k : Int) < (M : Int) := by omega
        have HKE : Hid (k = M) := by show k = M; omega
        clear hlt2 hk300 hlt
        go_wp2
        go_ret
        have hke := HKE.out
        refine ⟨_, rfl, hbr, ?_⟩
        rw [someL, ← hke]
        exact KP.out
    · go_wp2
      go_ret
      refine ⟨_, rfl, hbr, ?_⟩
      have h1 := KP.out
      rw [List.take_of_length_le (by rw [HL.out]; omega)] at h1
      rw [someL, List.take_of_length_le (by rw [HL.out]; omega)]
      exact h1
theorem some_any (v : Value) (zs : List (Int × Int)) (M K : Nat) (w : World) (h : RRow w v zs) (hM : M ≤ 4096) (hK0 : 0 < K) (hK2 : K ≤ 549755813888) :
    Calls Tryz.prog 5 #[v, .int .i64 M, .int .i64 K] w fun e w' => ∃ u, e = .returned u ∧ Below w.heap.size w w' ∧ Kept w' w.heap.size u (someL M K zs) := by
  obtain ⟨a, c, rfl, hc, hm, ha, h⟩ := h
  rcases h with h0 | ⟨b, off, rfl, hlt, hp⟩
  · have hz : zs = [] := List.length_eq_zero_iff.1 h0
    subst hz
    exact (some_none a c M K w).mono fun e w' ⟨h1, h2⟩ => ⟨_, h1, by rw [h2]; exact Below.refl _ _, Or.inl ⟨by simp [someL], rfl⟩⟩
  · exact some_some b off zs.length c M K zs w hM hK0 hK2 hlt rfl hp
end Go.Proofs.YtgipjplifndniaaGreatDoor.A

namespace Go.Proofs.YtgipjplifndniaaGreatDoor.A
open Go.RowKit Go.Maps Go.ChangeMaps Go.WideElems

section
variable {w w' : World} {wb m b t k : Nat} {e : Int} {v : Value} {l : List Th} {D : DataW Unit}
set_option maxRecDepth 20000 in
set_option maxHeartbeats 8000000 in
theorem wcellsX (h : WX w wb m b t k e v l D) (he : e ≠ 0) (n : Nat) (hn : n < 44) (id level : Int) (hi : Fits id) (hl : levelF l t id = some ((n + 1 : Nat) : Int)) (hlev : level = ((n + 1 : Nat) : Int)) (hh : Maps.has D (.int .i64 id) = true) (hne : cellsF l (n + 1) id ≠ []) :
    Calls Tryz.prog 112 #[.pointer (some ⟨wb, 0, none⟩), .int .i64 id, .int .i64 level] w fun y w' => y = .returned (.slice none 0 0) ∧ Below w.heap.size w w' := by
  have hf : ∀ W, Calls Tryz.prog 95 #[.int .i64 level] W fun x w' => x = .returned (.int .i64 (halfN (n + 1) : Int)) ∧ w' = W := fun W => by rw [hlev]; exact half_any (n + 1) W (by omega) (by omega)
  have hpb : (halfN (n + 1) : Int) ≤ 8796093022208 := by
    have : halfN (n + 1) ≤ halfN 44 := Nat.pow_le_pow_right (by omega) (by omega)
    have e : halfN 44 = 8796093022208 := by decide
    omega
  have hp0 : (0 : Int) ≤ (halfN (n + 1) : Int) := Int.natCast_nonneg _
  have hneg : IntKind.i64.wrap (-(halfN (n + 1) : Int)) = -(halfN (n + 1) : Int) := by rw [IntKind.wrap_i64]; omega
  have b3 : Below w.heap.size w (((w.alloc (.cells #[.pointer (some ⟨wb, 0, none⟩)] 204)).alloc (.cells #[.slice none 0 0] 22)).alloc (.cells #[cFn w.heap.size (w.heap.size + 1) (w.heap.size + 1 + 1)] 208)) := (((Below.refl _ _).alloc (Nat.le_refl _) _).alloc (by simp) _).alloc (by simp; omega) _
  have e0 : (((w.alloc (.cells #[.pointer (some ⟨wb, 0, none⟩)] 204)).alloc (.cells #[.slice none 0 0] 22)).alloc (.cells #[cFn w.heap.size (w.heap.size + 1) (w.heap.size + 1 + 1)] 208)).heap[w.heap.size]? = some (.cells #[.pointer (some ⟨wb, 0, none⟩)] 204 (0, 0)) := (push_old (by simp; omega)).trans (heap_alloc2_old w _ _)
  have e1 : (((w.alloc (.cells #[.pointer (some ⟨wb, 0, none⟩)] 204)).alloc (.cells #[.slice none 0 0] 22)).alloc (.cells #[cFn w.heap.size (w.heap.size + 1) (w.heap.size + 1 + 1)] 208)).heap[w.heap.size + 1]? = some (.cells #[.slice none 0 0] 22 (0, 0)) := (push_old (by simp)).trans (heap_alloc2_new w _ _)
  have e2 : (((w.alloc (.cells #[.pointer (some ⟨wb, 0, none⟩)] 204)).alloc (.cells #[.slice none 0 0] 22)).alloc (.cells #[cFn w.heap.size (w.heap.size + 1) (w.heap.size + 1 + 1)] 208)).heap[w.heap.size + 1 + 1]? = some (.cells #[cFn w.heap.size (w.heap.size + 1) (w.heap.size + 1 + 1)] 208 (0, 0)) := by
    have := heap_alloc_new ((w.alloc (.cells #[.pointer (some ⟨wb, 0, none⟩)] 204)).alloc (.cells #[.slice none 0 0] 22)) (.cells #[cFn w.heap.size (w.heap.size + 1) (w.heap.size + 1 + 1)] 208)
    simpa using this
  generalize hW : (((w.alloc (.cells #[.pointer (some ⟨wb, 0, none⟩)] 204)).alloc (.cells #[.slice none 0 0] 22)).alloc (.cells #[cFn w.heap.size (w.heap.size + 1) (w.heap.size + 1 + 1)] 208)) = W at *
  have C0 : CX W wb m b t k e v l D w.heap.size (w.heap.size + 1) (w.heap.size + 1 + 1) := ⟨h.below b3, e0, e2⟩
  have hdr : Below W.heap.size W W.drew := ⟨rfl, rfl, rfl, Nat.le_refl _, fun _ _ => rfl⟩
  have C1 := C0.below hdr
  have HC := walkX C1 he n hn id level (-(halfN (n + 1) : Int)) (-(halfN (n + 1) : Int)) hi hl hlev hh hne
  have hcf : W.cell? ⟨w.heap.size + 1 + 1, 0, none⟩ = some (cFn w.heap.size (w.heap.size + 1) (w.heap.size + 1 + 1)) := Lib.cell_of_heap e2 0
  have HF : Hid (∀ w', Below W.drew.heap.size W.drew w' → w'.cell? ⟨w.heap.size + 1 + 1, 0, none⟩ = some (cFn w.heap.size (w.heap.size + 1) (w.heap.size + 1 + 1)) ∧ w'.cell? ⟨w.heap.size + 1, 0, none⟩ = some (.slice none 0 0) ∧ Below w.heap.size w w') := fun w' hb => by
    have hb2 := hdr.trans hb
    exact ⟨Lib.cell_of_heap ((hb2.block _ (Array.getElem?_eq_some_iff.1 e2).1).trans e2) 0, Lib.cell_of_heap ((hb2.block _ (Array.getElem?_eq_some_iff.1 e1).1).trans e1) 0, b3.trans (hb2.mono b3.size)⟩
  have HW : Hid ((((w.alloc (.cells #[.pointer (some ⟨wb, 0, none⟩)] 204)).alloc (.cells #[.slice none 0 0] 22)).alloc (.cells #[cFn w.heap.size (w.heap.size + 1) (w.heap.size + 1 + 1)] 208)) = W) := hW
  generalize (halfN (n + 1) : Int) = hf' at *
  clear hlev C0 C1 e0 e1 e2 hl b3 hdr
  clear hW
  go_enter Tryz.func112, Tryz.ntmps112
  go_wp2_with fail
  rw [HW.out]
  go_region_held3 (fun w' => w'.cell? ⟨w.heap.size + 1 + 1, 0, none⟩ = some (cFn w.heap.size (w.heap.size + 1) (w.heap.size + 1 + 1))) (first | exact hcf | exact (HF.out _ hR).1) ((first | (go_at_call 95; refine (hf _).mono ?_; rintro e w5 ⟨rfl, rfl⟩) | (go_at_call 138; refine HC.mono ?_; rintro e w6 ⟨rfl, hR⟩)))
  all_goals
    obtain ⟨_, hu, hB⟩ := HF.out _ hR
    clear hR
    go_wp2_with fail
    go_ret
    exact ⟨rfl, hB⟩
theorem keep_sets (err : Int) (h : HandAt w wb b t 0 v) :
    Calls Tryz.prog 111 #[.pointer (some ⟨wb, 0, none⟩), .int .i64 err] w fun x w' => x = .returned (.tuple #[]) ∧ w' = w.setCell ⟨wb, 2, none⟩ (.int .i64 err) := by
  have c2 := h.c2
  have z2 := h.z2
  go_enter Tryz.func111, Tryz.ntmps111
  go_wp2_with fail
  go_end0
  exact ⟨rfl, rfl⟩
end
set_option maxRecDepth 20000 in
set_option maxHeartbeats 4000000 in
theorem Cells_full (b n t lv : Nat) (id : Int) (F : Nat → Prop) (A : Ar) (w : World) (hA : ArAt w b F n A) (hI : Inv A) (ht : t < 64) (hm : ∀ x ∈ A.ths, x.mask < 18446744073709551616) (hf : A.ths.length < 1000000) (hl : levelF A.ths t id = some ((lv + 1 : Nat) : Int)) (hlv : lv + 1 ≤ 44) (hbig : 4096 < (cellsF A.ths (lv + 1) id).length) (hlen : (cellsF A.ths (lv + 1) id).length < 4611686018427387904) :
    Calls Tryz.prog 63 #[.pointer (some ⟨b, 0, none⟩), .int .i64 t, .int .i64 id] w fun x w' => x = .returned (.tuple #[.slice none 0 0, .int .i64 5]) ∧ Below w.heap.size w w' := by
  have hr := fits_of hl hf
  have hflt := hA.flt
  have hid2 : 2 ≤ id := by
    obtain ⟨x, _, _, h2, _⟩ := square_of hI hl
    exact h2
  have hta := fun wb m v k D W hh => tally_knows wb m b n t v F A hI ht hm hf lv id hlv hl hlen k D W ((lv + 1 : Nat) : Int) rfl hh
  have HX : Hid (∀ (wb m k : Nat) (v : Value) (D : DataW Unit) (W : World), WX W wb m b t k 5 v A.ths D → Maps.has D (.int .i64 id) = true → Calls Tryz.prog 112 #[.pointer (some ⟨wb, 0, none⟩), .int .i64 id, .int .i64 ((lv + 1 : Nat) : Int)] W fun y w' => y = .returned (.slice none 0 0) ∧ Below W.heap.size W w') := fun wb m k v D W h hh => wcellsX h (by decide) lv (by omega) id _ hr hl rfl hh (by intro e; rw [e] at hbig; simp at hbig)
  obtain ⟨N, hN⟩ : ∃ N, N = lv + 1 := ⟨_, rfl⟩
  have hN1 : 1 ≤ N := by omega
  rw [← hN] at hl hbig hlen hlv hta HX
  clear hN
  have hlev := fun W hb v (hh : HandAt W hb b t 0 v) (hW : ArAt W b F n A) (hn : ¬ F hb) => handLevel_ok hb b n t id 1 44 N v F A W hh hW hn ht hm hr hl (by omega) (by omega)
  clear hl
  go_enter Tryz.func63, Tryz.ntmps63
  go_wp2_with fail
  refine (newWalker_G b t _).mono ?_
  rintro x w1 ⟨g, m, D, rfl, hb1, hown, hkn, hmg, _, _, _⟩
  obtain ⟨Q0, b2⟩ := WG.born (g := g) (t := t) hA hf hb1 hown hkn hmg
  have hno := born_no hkn hr hid2
  have hh := Q0.hand
  have hs1 := hb1.size
  clear hkn hown
  go_wp2_with fail
  refine (hlev _ _ _ hh (hA.below b2) Q0.nFw).mono ?_
  rintro x w3 ⟨rfl, h3, g3, h34⟩
  have c2 := h3.c2
  have Q3 := Q0.kids h3 g3 (h34.trans Q0.c4)
  have b3 : Below w.heap.size w w3 := b2.trans ⟨g3.os, g3.tape, g3.output, g3.size, fun k hk => g3.block k (by have := b2.size; omega) (by simp; omega)⟩
  clear hlev
  go_wp2_with fail
  refine (hta _ _ _ 2 D _ hno Q3).mono ?_
  rintro x w4 ⟨c, x0, y0, x1, y1, rfl, hT, T4, k4, D4, Q4, hD4⟩
  have hlt3 := Q3.hand.lt
  have hfz := field_tv c x0 y0 x1 y1 w4
  have hcl : c = ((cellsF A.ths N id).length : Int) := hT.1
  have hcb : (4096 : Int) < c := by omega
  have b4 : Below w.heap.size w w4 := ⟨T4.os.trans b3.os, T4.tape.trans b3.tape, T4.output.trans b3.output, Nat.le_trans b3.size T4.size, fun k hk => (T4.block k (by have := b3.size; omega) (by omega) (by omega)).trans (b3.block k hk)⟩
  have hks := keep_sets 5 Q4.hand
  have X5 : WX (w4.setCell ⟨w1.heap.size, 2, none⟩ (.int .i64 5)) w1.heap.size m b t k4 5 (.slice (some ⟨g, 0, none⟩) 1 1) A.ths D4 := by
    have hm5 := Q4.ne
    refine ⟨Q4.hand.setE 5, talG_other Q4.map (heap_set fun e => hm5 e.symm), Q4.known, (cell_set_other (by omega)).trans Q4.c4⟩
  have b5 : Below w.heap.size w (w4.setCell ⟨w1.heap.size, 2, none⟩ (.int .i64 5)) := b4.setCell (p := ⟨w1.heap.size, 2, none⟩) (by show w.heap.size ≤ w1.heap.size; omega) _
  have hce := HX.out _ _ _ _ _ _ X5 hD4
  have d2 := fun W (hW : Below (w4.setCell ⟨w1.heap.size, 2, none⟩ (.int .i64 5)).heap.size (w4.setCell ⟨w1.heap.size, 2, none⟩ (.int .i64 5)) W) => (X5.below hW).hand.c2
  have HB5 : Hid (Below w.heap.size w (w4.setCell ⟨w1.heap.size, 2, none⟩ (.int .i64 5))) := b5
  clear hcl hT hta T4 Q4 X5 b5 b4 Q3 Q0 HX hno hD4
  go_wp2_with fail
  refine hks.mono ?_
  rintro x w5 ⟨rfl, rfl⟩
  go_wp2_with fail
  refine hce.mono ?_
  rintro x w6 ⟨rfl, hb6⟩
  have d6 := d2 _ hb6
  have b6 := HB5.out.trans (hb6.mono HB5.out.size)
  clear hce hb6 d2 hks
  go_wp2_with fail
  go_quiet (fail)
  go_wp2_with fail
  go_ret2
  exact ⟨rfl, ⟨b6.os, b6.tape, b6.output, b6.size, b6.block⟩⟩
end Go.Proofs.YtgipjplifndniaaGreatDoor.A

namespace Go.Proofs.YtgipjplifndniaaGreatDoor.A
open Go.RowKit Go.Maps Go.Proofs.YtgipjplifndniaaGreatDoor.L

variable {w : World} {o : Nat → Nat} {b t : Nat} {A : Ar} {PR : (Bool → Nat → Bool) → Int → Prop} {q : Nat → Int} {g : Gr} {id : Int}
def CellsR (g : Gr) (w : World) (x : Ending) (w' : World) : Prop :=
  ∃ zs : List (Int × Int), (∀ p : Int × Int, p ∈ zs ↔ g p.1 p.2 = true) ∧ zs.Nodup ∧ ((4096 < zs.length ∧ x = .returned (.tuple #[.slice none 0 0, .int .i64 5]) ∧ Below w.heap.size w w') ∨ (zs.length ≤ 4096 ∧ ∃ u ys, x = .returned (.tuple #[u, .int .i64 (tcode zs)]) ∧ Tidied zs ys ∧ ORow w' w.heap.size u ys ∧ Below w.heap.size w w'))
theorem shift_nodup {dx dy : Int} {zs : List (Int × Int)} (h : zs.Nodup) : (shiftL dx dy zs).Nodup := by
  unfold shiftL
  refine List.Pairwise.map _ (fun a b hab e => hab ?_) h
  have h1 := congrArg Prod.fst e
  have h2 := congrArg Prod.snd e
  simp only at h1 h2
  exact Prod.ext (by omega) (by omega)
theorem cells_rel {n : Nat} (hA : ArL w o b A) (hst : NxSt PR t q A) (ht : t < 64) (hrt : Rt A t n id g) (hn : n + 1 ≤ 44) (hlen : (cellsF A.ths (n + 1) id).length < 4611686018427387904) :
    Calls Tryz.prog 63 #[.pointer (some ⟨b, 0, none⟩), .int .i64 t, .int .i64 id] w (CellsR g w) := by
  obtain ⟨F, hFA, hF1⟩ := hA
  obtain ⟨L, hat⟩ := hFA.ar
  have hI := inv_of hst.s hst.g L
  have hl : levelF A.ths t id = some ((n + 1 : Nat) : Int) := by rw [levelF_V]; exact hrt.lev
  have hf : A.ths.length < 1000000 := by have := hst.s.len; have := hst.s.room1; omega
  have hG : Good A.ths := good_of hst.s hst.g
  have hmem := hrt.cells hst ht
  have hnd : (absC A.ths (n + 1) id).Nodup := shift_nodup (cells_nodup hG (n + 1) id (glevel_of hl))
  have hsl : (absC A.ths (n + 1) id).length = (cellsF A.ths (n + 1) id).length := shift_len _ _ _
  by_cases hbig : (cellsF A.ths (n + 1) id).length ≤ 4096
  · refine (Cells_root b _ t (n + 1) id F _ w hat hI ht hst.s.mask hf hl (by omega) hn hbig).mono ?_
    rintro x w' ⟨u, ys, rfl, h1, h2, h3⟩
    exact ⟨_, hmem, hnd, Or.inr ⟨by rw [hsl]; exact hbig, u, ys, rfl, h1, h2, h3⟩⟩
  · refine (Cells_full b _ t n id F _ w hat hI ht hst.s.mask hf hl hn (Nat.lt_of_not_le hbig) hlen).mono ?_
    rintro x w' ⟨rfl, h3⟩
    exact ⟨_, hmem, hnd, Or.inl ⟨by rw [hsl]; omega, rfl, h3⟩⟩
end Go.Proofs.YtgipjplifndniaaGreatDoor.A

namespace Go.Proofs.YtgipjplifndniaaGreatDoor.A
open Go.RowKit Go.Maps Go.Proofs.YtgipjplifndniaaGreatDoor.L

variable {w W W' : World} {o o' oa ob oa' : Nat → Nat} {a b rk : Nat} {rb rl : Int} {A B A' : Ar} {rows : List (Value × List (Int × Int))}
theorem st_lim {PR : (Bool → Nat → Bool) → Int → Prop} {q : Nat → Int} {t : Nat} (h : NxSt PR t q A) {n : Int} (h0 : 0 ≤ n) (h1 : n ≤ A.room) : NxSt PR t q (A.limP t n) :=
  ⟨lim_sound h.s h0 h1, glob_lim h.g t n, h.p, h.n, h.u, h.r⟩
theorem lim_is (A : Ar) (t : Nat) (n : Int) : (A.limP t n).lim t = n := by
  show upd A.lim t n t = n
  unfold upd
  rw [if_pos rfl]
variable {R : Bool → Nat → Bool} {rn : Int} {g : Gr} {PR : (Bool → Nat → Bool) → Int → Prop}
theorem tidied_exists (zs : List (Int × Int)) (hc : tcode zs = 0) : ∃ ys, Tidied zs ys := by
  have key : ∀ l : List (Int × Int), ∃ ys, Tidy ys ∧ ∀ p, p ∈ ys ↔ p ∈ l := fun l => by
    induction l with
    | nil => exact ⟨[], List.Pairwise.nil, fun _ => Iff.rfl⟩
    | cons c r ih =>
      obtain ⟨ys, h1, h2⟩ := ih
      have d : ∀ p q : Int × Int, Decidable (ahead p q) := fun p q => by unfold ahead; infer_instance
      refine ⟨ys.filter (fun p => decide (ahead p c)) ++ c :: ys.filter (fun p => decide (ahead c p)), ?_, fun p => ?_⟩
      · unfold Tidy at h1 ⊢
        rw [List.pairwise_append, List.pairwise_cons]
        refine ⟨h1.filter _, ⟨fun q hq => by simpa using (List.mem_filter.1 hq).2, h1.filter _⟩, fun a ha q hq => ?_⟩
        have h3 : ahead a c := by simpa using (List.mem_filter.1 ha).2
        rcases List.mem_cons.1 hq with rfl | hq
        · exact h3
        · exact ahead_trans h3 (by simpa using (List.mem_filter.1 hq).2)
      · rw [List.mem_append, List.mem_cons, List.mem_filter, List.mem_filter, List.mem_cons, ← h2 p]
        constructor
        · rintro (⟨h, _⟩ | h | ⟨h, _⟩)
          · exact .inr h
          · exact .inl h
          · exact .inr h
        · rintro (h | h)
          · exact .inr (.inl h)
          · rcases ahead_or p c with e | e | e
            · exact .inl ⟨h, by simpa using e⟩
            · exact .inr (.inl e)
            · exact .inr (.inr ⟨h, by simpa using e⟩)
  obtain ⟨ys, h1, h2⟩ := key zs
  exact ⟨ys, h1, fun p => by rw [h2 p]; simp [hc]⟩
end Go.Proofs.YtgipjplifndniaaGreatDoor.A

namespace Go.Proofs.YtgipjplifndniaaGreatDoor.U
open Go.RowKit Go.Maps Go.Proofs.YtgipjplifndniaaGreatDoor.L Go.Proofs.YtgipjplifndniaaGreatDoor.A Go.Proofs.YtgipjplifndniaaGreatDoor.K

variable {w w1 w2 : World} {o o1 o2 : Nat → Nat} {hb b t : Nat} {PR : (Bool → Nat → Bool) → Int → Prop}
set_option maxHeartbeats 1000000 in
theorem hallNew_any (a : Addr) (tenant draw : Int) (w : World) (h0 : 0 ≤ tenant) (h1 : tenant < 64) : Calls Tryz.prog 13 #[.pointer (some a), .int .i64 tenant, .int .i64 draw] w fun e w' => e = .returned (.tuple #[.pointer (some ⟨w.heap.size, 0, none⟩), .int .i64 0]) ∧ w' = w.alloc (.cells #[.pointer (some a), .int .i64 tenant, .int .i64 draw, .slice none 0 0, .int .i64 0, .slice none 0 0] 56) := by
  have q1 : ¬ tenant < 0 := by omega
  have q2 : ¬ 64 ≤ tenant := by omega
  go_enter Tryz.func13, Tryz.ntmps13
  go_wp2_with fail
  go_ret2
  exact ⟨rfl, rfl⟩
theorem beg9_st (hu : ∀ R R' rn, PR R rn → PR R' rn → R = R') : NxSt PR 9 (fun _ => 199999) (arBegL.limP 9 200000) := by
  have h : NxSt PR 9 (fun _ => 199999) arBegL := by
    refine ⟨begL_snd, begL_glob, fun id f hf _ => ?_, fun R rn _ x hx hk => ?_, hu, ?_⟩
    · obtain ⟨_, x, hx, hb, _⟩ := ownV_iff.1 hf
      have h0 := begL_snd.cnt 9 (by omega)
      rw [show arBegL.cnt 9 = 0 by decide +kernel] at h0
      have h1 : ownN arBegL.ths 9 = 0 := by omega
      have := List.countP_eq_zero.1 h1 x (List.mem_of_getElem? hx)
      exact absurd hb this
    · have := List.all_eq_true.1 begL_kinds x hx
      rw [hk] at this
      cases this
    · show lsum tens (fun u => if u = 9 then (199999 : Int) else arBegL.cnt u) ≤ arBegL.room
      decide +kernel
  exact st_lim h (by omega) (by decide +kernel)
theorem beg9_cnt : (arBegL.limP 9 200000).cnt 9 = 0 := by decide +kernel
theorem beg9_lim : (arBegL.limP 9 200000).lim 9 = 200000 := lim_is _ _ _
theorem rooms_any (w : World) : Calls Tryz.prog 4 #[.int .i64 200000] w fun e w' => ∃ hb b o', e = .returned (.tuple #[.pointer (some ⟨b, 0, none⟩), .pointer (some ⟨hb, 0, none⟩), .bool true]) ∧ ArL w' o' b (arBegL.limP 9 200000) ∧ HlAt w' o' 5 hb b 9 77 ⟨[], 0, []⟩ [] (.slice none 0 0) (.slice none 0 0) ∧ Ch (fun l => l = 1 ∨ l = 5) (fun _ => 0) w o' w' := by
  have hbe := begL_any w
  go_enter Tryz.func4, Tryz.ntmps4
  go_wp2_with fail
  refine hbe.mono ?_
  rintro e w1 ⟨rfl, hA1, hb1⟩
  have C1 : Ch (fun l => l = 1 ∨ l = 5) (fun _ => 0) w (fun k => if k < w.heap.size then 0 else 1) w1 := ⟨hb1.os, hb1.tape, hb1.output, hb1.size, fun k hk => if_pos hk, fun k hk _ => hb1.block k hk⟩
  obtain ⟨F, f1, f2⟩ := hA1
  have hlm := limP_any (w.heap.size + 1) 9 F 200000 arBegL w1 f1 (by omega) (by omega) (by decide +kernel)
  have HF : Hid (∀ k, F k → (if k < w.heap.size then 0 else 1) = 1) := f2
  have HC1 : Hid (Ch (fun l => l = 1 ∨ l = 5) (fun _ => 0) w (fun k => if k < w.heap.size then 0 else 1) w1) := C1
  clear hb1 hbe f1 f2 C1
  go_wp2_with fail
  refine hlm.mono ?_
  rintro e w2 ⟨rfl, hl2⟩
  obtain ⟨A2, C2⟩ := led_ch (o := fun k => if k < w.heap.size then 0 else 1) HF.out hl2
  have HN : Hid (ArL w2 (ext (fun k => if k < w.heap.size then 0 else 1) w1.heap.size 1) (w.heap.size + 1) (arBegL.limP 9 200000) ∧ Ch (fun l => l = 1 ∨ l = 5) (fun _ => 0) w (ext (fun k => if k < w.heap.size then 0 else 1) w1.heap.size 1) w2) := ⟨A2, HC1.out.trans (C2.mono fun l hl => .inl hl)⟩
  have hnw := hallNew_any ⟨w.heap.size + 1, 0, none⟩ 9 77 w2 (by omega) (by omega)
  clear A2 C2 hl2 hlm
  go_wp2_with fail
  refine hnw.mono ?_
  rintro e w3 ⟨rfl, rfl⟩
  go_wp2_with fail
  have hb3 : Below w2.heap.size w2 (w2.alloc (.cells #[.pointer (some ⟨w.heap.size + 1, 0, none⟩), .int .i64 9, .int .i64 77, .slice none 0 0, .int .i64 0, .slice none 0 0] 56)) := (Below.refl _ _).alloc (Nat.le_refl _) _
  refine bodyPost_ret (v := .tuple #[.pointer (some ⟨w.heap.size + 1, 0, none⟩), .pointer (some ⟨w2.heap.size, 0, none⟩), .bool true]) (by simp [results, Tryz.results4, go_sem]) rfl ⟨w2.heap.size, w.heap.size + 1, ext (ext (fun k => if k < w.heap.size then 0 else 1) w1.heap.size 1) w2.heap.size 5, rfl, HN.out.1.ch (L := fun _ => False) (Ch.ofBelow hb3 5) (fun h => h), ?_, HN.out.2.trans (Ch.ofBelow hb3 5)⟩
  exact ⟨Go.Deep.blk_alloc_new _ _, ext_new (Nat.le_refl _), World.ownsRow_nil _ _ _ _, fun k hk => (by cases hk), rfl, fun i k x hk => (by cases hk), List.nodup_nil, World.ownsRow_nil _ _ _ _, fun k hk => (by cases hk), fun k hk => (by cases hk), fun k hk => (by cases hk), fun h => (by cases h)⟩
theorem add_at (b off j : Nat) : ((⟨b, off, none⟩ : Addr).add j) = ⟨b, off + j, none⟩ := by
  unfold Addr.add
  split
  · rename_i h
    have e : j = 0 := by simpa using h
    subst e
    rfl
  · rfl
theorem Tryz.infoCe : (Tryz.prog.info? 50).map (fun i => (i.zero, i.size, i.bytes)) = some (some (.agg #[.int .i64 0, .int .i64 0]), 2, 16) := by kernel_rfl
set_option maxHeartbeats 1000000 in
theorem cellsK_any (v : Value) (zs : List (Int × Int)) (w : World) (h : Row w v zs) (hn : zs.length ≤ 4096) : Calls Tryz.prog 8 #[v] w fun e w' => ∃ u, e = .returned u ∧ Below w.heap.size w w' ∧ Kept w' w.heap.size u zs := by
  rcases h with ⟨rfl, rfl⟩ | ⟨hz, b, off, c, rfl, hlt, hl, hm, hh⟩
  · go_enter Tryz.func8, Tryz.ntmps8
    go_wp2_with fail
    go_ret
    exact ⟨_, rfl, Below.refl _ _, .inl ⟨rfl, rfl⟩⟩
  · obtain ⟨i0, hi, hz0, hz1, hz2⟩ := info_parts Tryz.infoCe
    have hnews : ∀ (j : Nat) u, (cellsL zs)[j]? = some u → w.cell? ((⟨b, off, none⟩ : Addr).add j) = some u := fun j u hu => by
      have hj : j < zs.length * 2 := by rw [← cellsL_length]; exact (List.getElem?_eq_some_iff.1 hu).1
      have hq : j / 2 < zs.length := by omega
      obtain ⟨g0, g1⟩ := cellsL_get zs (j / 2) hq
      obtain ⟨h0, h1⟩ := hh (j / 2) hq
      rcases Nat.mod_two_eq_zero_or_one j with e | e
      · have e2 : j = j / 2 * 2 := by omega
        have g2 : (cellsL zs)[j]? = some (.int .i64 (zs[j / 2]!).1) := by rw [← g0]; congr 1
        rw [g2] at hu
        cases hu
        have e3 : off + j / 2 * 2 = off + j := by omega
        rw [e3] at h0
        rw [add_at]
        exact h0
      · have e2 : j = j / 2 * 2 + 1 := by omega
        have g2 : (cellsL zs)[j]? = some (.int .i64 (zs[j / 2]!).2) := by rw [← g1]; congr 1
        rw [g2] at hu
        cases hu
        have e3 : off + j / 2 * 2 + 1 = off + j := by omega
        rw [e3] at h1
        rw [add_at]
        exact h1
    have hlen : (cellsL zs).length = zs.length * 2 := cellsL_length zs
    have hone : ∀ u ∈ cellsL zs, u.oneCell' = true := cellsL_one zs
    have HN : Hid (∀ (j : Nat) u, (cellsL zs)[j]? = some u → w.cell? ((⟨b, off, none⟩ : Addr).add j) = some u) := hnews
    have HZ : Hid (zs ≠ []) := hz
    have HL : Hid ((cellsL zs).length = zs.length * 2) := hlen
    have HO : Hid (∀ u ∈ cellsL zs, u.oneCell' = true) := hone
    have HQ : Hid (zs.length ≤ 4096) := hn
    clear hnews hz hlen hone hh hm hl hn
    go_enter Tryz.func8, Tryz.ntmps8
    go_wp2_with (at_builtin; refine wpList_append_own _ rfl _ _ 22 rfl w.heap.size 50 i0 _ 2 16 Tryz.underlying22 hi hz0 hz1 hz2 rfl (by decide) (.slice none 0 0) 0 [] rfl (World.ownsRow_nil _ _ _ _) ⟨b, off, none⟩ zs.length c (cellsL zs) rfl HL.out HN.out HO.out (by have := HQ.out; unfold maxLen; omega) (by have := HQ.out; omega) (Nat.le_refl _) ?_; intro v' w1 hown hgrow hnil; have HX : Hid (w1.ownsRow w.heap.size 50 2 v' zs.length (cellsL zs) ∧ Below w.heap.size w w1) := ⟨(by rw [Nat.zero_add, List.nil_append] at hown; exact hown), ⟨hgrow.os, hgrow.tape, hgrow.output, hgrow.size, fun k hk => hgrow.block k hk (by simp [Value.ownBlock])⟩⟩; clear hown hgrow hnil)
    go_ret
    exact ⟨_, rfl, HX.out.2, .inr ⟨HZ.out, HX.out.1⟩⟩
end Go.Proofs.YtgipjplifndniaaGreatDoor.U

namespace Go.Proofs.YtgipjplifndniaaGreatDoor.U
open Go.RowKit Go.Maps Go.Proofs.YtgipjplifndniaaGreatDoor.L Go.Proofs.YtgipjplifndniaaGreatDoor.A Go.Proofs.YtgipjplifndniaaGreatDoor.K

variable {w w1 : World} {o o1 : Nat → Nat} {L hb b t : Nat} {draw : Int} {S : Hl} {ids : List Nat} {wv kv : Value} {A A' : Ar} {PR : (Bool → Nat → Bool) → Int → Prop} {q : Nat → Int} {g : Gr}
theorem tidied_nil : Tidied [] [] := by
  exact ⟨List.Pairwise.nil, fun p => by simp⟩
set_option maxRecDepth 20000 in
set_option maxHeartbeats 1000000 in
theorem bare_any (hL : L ≠ 1) (h : HlAt w o L hb b t draw S ids wv kv) (hA : ArL w o b A) (hst : NxSt PR t q A) (ht : t < 64) :
    Calls Tryz.prog 28 #[.pointer (some ⟨hb, 0, none⟩)] w fun r w' => ∃ id e', r = .returned (.tuple #[.int .i64 id, .int .i64 e']) ∧ ∃ A' o', ArL w' o' b A' ∧ Ch (fun l => l = 1) o w o' w' ∧ NxSt PR t q A' ∧ FromR t A A' [] id e' := by
  have HS : Hid (∀ W oo, Ch (fun l => l = 1) o w oo W → W.cell? ⟨hb, 0, none⟩ = some (.pointer (some ⟨b, 0, none⟩)) ∧ W.cell? ⟨hb, 1, none⟩ = some (.int .i64 t)) := fun W oo c => by
    obtain ⟨c0, c1, _⟩ := (h.ch c hL).cells
    exact ⟨c0, c1⟩
  have HF : Hid (∀ W (_ : ArL W o b A), Calls Tryz.prog 53 #[.pointer (some ⟨b, 0, none⟩), .int .i64 t, .slice none 0 0] W fun r w' => ∃ id e', r = .returned (.tuple #[.int .i64 id, .int .i64 e']) ∧ ∃ A' o', ArL w' o' b A' ∧ Ch (fun l => l = 1) o W o' w' ∧ NxSt PR t q A' ∧ FromR t A A' [] id e') := fun W hW => from_rel hW hst ht (.slice none 0 0) [] [] (.inl ⟨rfl, rfl⟩) rfl tidied_nil
  have HA : Hid (ArL w.drew o b A) := hA.ch (L := fun _ => False) (Ch.drew (Ch.refl _ _ _)) fun h => h
  obtain ⟨s0, s1⟩ := HS.out w o (Ch.refl _ _ _)
  clear h hA hst
  go_enter Tryz.func28, Tryz.ntmps28
  go_wp2_with fail
  go_region_held3 (fun W => W.cell? ⟨hb, 0, none⟩ = some (.pointer (some ⟨b, 0, none⟩)) ∧ W.cell? ⟨hb, 1, none⟩ = some (.int .i64 t)) (first | exact ⟨s0, s1⟩ | exact HS.out _ _ (⟨h2.os, h2.tape, h2.output, h2.size, h2.lab, h2.block⟩))
    (first | (go_at_call 53; refine (HF.out _ HA.out).mono ?_; rintro e w1 ⟨id, e', rfl, A1, o1, h1, h2, h3, h4⟩))
  have HE : Hid (ArL w1 o1 b A1 ∧ Ch (fun l => l = 1) o w o1 w1 ∧ NxSt PR t q A1 ∧ FromR t A A1 [] id e') := ⟨h1, ⟨h2.os, h2.tape, h2.output, h2.size, h2.lab, h2.block⟩, h3, h4⟩
  clear h1 h2 h3 h4
  go_wp2_with fail
  go_ret2
  exact ⟨_, _, rfl, _, _, HE.out⟩
end Go.Proofs.YtgipjplifndniaaGreatDoor.U
