/- RleBack: the walk of the law itself. -/
import Derived.Test.YtmpjlbafjmocbadGreatDoorOrderLaw
import Derived.Test.YtmpjlbafjmocbadGreatDoorRefShift
import Derived.Test.YtmpjlbafjmocbadGreatDoorAlive
import Derived.Test.YtmpjlbafjmocbadGreatDoorText
import Derived.Test.YtmpjlbafjmocbadGreatDoorLawPure
import Derived.Test.YtmpjlbafjmocbadGreatDoorEncode
import Derived.Test.YtmpjlbafjmocbadGreatDoorWrites
namespace Go.Proofs.YtmpjlbafjmocbadGreatDoor
open Go.RowKit Go.Lib Go.Sort

attribute [local go_sem ↓] Go.wp_at_zero Go.wp_at_succ

/-- a number made nearer to 0 than 2^30 -/
def nearI (v : Int) : Int := spotI v 2147483648 - 1073741824
def nearP (p : Int × Int) : Int × Int := (nearI p.1, nearI p.2)
theorem nearI_bound (v : Int) : -1073741824 ≤ nearI v ∧ nearI v < 1073741824 := by
  have := spotI_bound v 2147483648 (by omega)
  unfold nearI
  omega
/-- the list that some makes -/
def someL (zs : List (Int × Int)) : List (Int × Int) := (zs.take 400).map nearP
theorem someL_code (zs : List (Int × Int)) : tcode (someL zs) = 0 := by
  rw [tcode_zero]
  refine ⟨by simp [someL]; omega, ?_⟩
  rw [List.any_eq_false]
  intro p hp
  simp only [someL, List.mem_map] at hp
  obtain ⟨q, _, rfl⟩ := hp
  have h1 := nearI_bound q.1
  have h2 := nearI_bound q.2
  have e1 : farI (nearI q.1) = false := by unfold farI; rw [decide_eq_false (by omega), decide_eq_false (by omega)]; rfl
  have e2 : farI (nearI q.2) = false := by unfold farI; rw [decide_eq_false (by omega), decide_eq_false (by omega)]; rfl
  simp [farP, nearP, e1, e2]

theorem grown_cell {w0 w w' : World} {base k : Nat} {v : Value} {xs : List Value} {o : Obj} {a : Addr} {u : Value} (hg : (w.alloc o).drew.grownBy w' v.ownBlock) (hown : w.ownsRow base 45 2 v k xs) (hc : w.cell? a = some u) (ha : a.block < w.heap.size) (hb : a.block < base) (_h : w0 = w) : w'.cell? a = some u := by
  refine hg.cell (a := a) ?_ ?_
  · show (w.alloc o).cell? a = some u
    rw [World.cell?_alloc_lt _ _ _ ha]
    exact hc
  · intro e
    have := (hown.lt a.block e.symm).1
    omega

set_option maxHeartbeats 2000000 in
theorem some_none (a : Option Addr) (c : Nat) (w : World) : Calls Tryz.prog 7 #[.slice a 0 c, .int .i64 400, .int .i64 1073741824] w fun e w' => e = .returned (.slice none 0 0) ∧ w' = w := by
  go_enter Tryz.func7, Tryz.ntmps7
  go_wp2
  refine wp_loop_rounds 1 ?_
  rw [rounds_succ]
  go_wp2
  go_ret
  exact ⟨rfl, rfl⟩

set_option maxRecDepth 100000 in
set_option maxHeartbeats 2000000 in
theorem some_some (b off n c : Nat) (zs : List (Int × Int)) (w : World) (hb : b < w.heap.size) (HL : Hid (zs.length = n)) (HH : Hid (HoldsR w b off zs)) :
    Calls Tryz.prog 7 #[.slice (some ⟨b, off, none⟩) n c, .int .i64 400, .int .i64 1073741824] w fun e w' => ∃ u, e = .returned u ∧ Below w.heap.size w w' ∧ Kept w' w.heap.size u (someL zs) := by
  obtain ⟨i0, hi, hz0, hz1, hz2⟩ := info_parts Tryz.info45
  go_enter Tryz.func7, Tryz.ntmps7
  go_wp2
  go_loopg [7, 8] 400 (fun gk s7 s8 wr => ∃ k : Nat, k + gk = 400 ∧ k ≤ n ∧ s8 = .int .i64 k ∧ Below w.heap.size w wr ∧ Kept wr w.heap.size s7 ((zs.take k).map nearP))
  case atStart => exact ⟨0, by omega, by omega, rfl, Below.refl _ _, Or.inl ⟨by simp, rfl⟩⟩
  case round =>
    obtain ⟨k, hk, hkn, rfl, hbr, hkept⟩ := hrel
    have HK : Hid (k + gk = 400) := hk
    have KP : Hid (Kept wr w.heap.size u7 ((zs.take k).map nearP)) := hkept
    have hk300 : k ≤ 400 := by omega
    have hsz := hbr.size
    clear hk hkept
    by_cases hlt : k < n
    · by_cases hlt2 : k < 400
      · obtain ⟨c0, c1⟩ := HH.out k (by rw [HL.out]; exact hlt)
        rw [← hbr.cell (p := ⟨b, off + k * 2, none⟩) hb] at c0
        rw [← hbr.cell (p := ⟨b, off + k * 2 + 1, none⟩) hb] at c1
        generalize hz : zs[k]! = z at c0 c1
        have HZ : Hid (zs[k]! = z) := hz
        clear hz
        obtain ⟨x, y⟩ := z
        simp only at c0 c1
        have hsx := fun W => spot_any x 2147483648 W (by omega) (by omega)
        have hsy := fun W => spot_any y 2147483648 W (by omega) (by omega)
        obtain ⟨x0, x1⟩ := spotI_bound x 2147483648 (by omega)
        obtain ⟨y0, y1⟩ := spotI_bound y 2147483648 (by omega)
        generalize hgx : spotI x 2147483648 = sx at *
        generalize hgy : spotI y 2147483648 = sy at *
        have HG : Hid (spotI x 2147483648 = sx ∧ spotI y 2147483648 = sy) := ⟨hgx, hgy⟩
        clear hgx hgy
        have hi1 : (0 : Int) ≤ (k : Int) := by omega
        have hi2 : (k : Int) < (n : Int) := by omega
        have hi3 : (k : Int) < 400 := by omega
        have hbw : b < wr.heap.size := Nat.lt_of_lt_of_le hb hsz
        have hww : w.heap.size ≤ wr.heap.size := hsz
        have hwx : IntKind.i64.wrap (sx - 1073741824) = sx - 1073741824 := by rw [IntKind.wrap_i64]; omega
        have hwy : IntKind.i64.wrap (sy - 1073741824) = sy - 1073741824 := by rw [IntKind.wrap_i64]; omega
        have OW : Hid (∀ o, (wr.alloc o).drew.ownsRow w.heap.size 45 2 u7 k (cellsL ((zs.take k).map nearP))) := fun o => by
          have h1 := KP.out.owns
          rw [List.length_map, List.length_take, HL.out, Nat.min_eq_left hkn] at h1
          exact h1.alloc o
        go_wp2_with fail
        go_region_held3 (fun w' => w'.cell? ⟨b, off + k * 2, none⟩ = some (.int .i64 x) ∧ w'.cell? ⟨b, off + k * 2 + 1, none⟩ = some (.int .i64 y)) (first | go_keep | (exact ⟨grown_cell hgrow5 KP.out.owns c0 hbw hb rfl, grown_cell hgrow5 KP.out.owns c1 hbw hb rfl⟩))
          (first | (go_at_call_of 15 x; refine (hsx _).mono ?_; rintro e w' ⟨rfl, hw⟩; subst hw) | (go_at_call_of 15 y; refine (hsy _).mono ?_; rintro e w' ⟨rfl, hw⟩; subst hw) | (refine step_append_own _ (by rfl) _ _ 22 (by rfl) w.heap.size 45 i0 (.agg #[.int .i64 0, .int .i64 0]) 2 16 Tryz.underlying22 hi hz0 hz1 hz2 rfl (by decide) u7 k (cellsL ((zs.take k).map nearP)) (by rfl) (OW.out _) ⟨wr.heap.size, 0, none⟩ 1 1 [.int .i64 (sx - 1073741824), .int .i64 (sy - 1073741824)] (by rfl) rfl (cell_two_new _ _ _ _) (by intro u hu; simp at hu; rcases hu with rfl | rfl <;> rfl) (by unfold maxLen; omega) (by omega) (by simp; omega) ?_; intro v5 w5 hown5 hgrow5 hnil5))
        go_wp2_with fail
        go_roundg (gk - 1)
        case measure => have := HK.out; omega
        case rel =>
          have h1 := HK.out
          have hts : (zs.take (k + 1)).map nearP = (zs.take k).map nearP ++ [(sx - 1073741824, sy - 1073741824)] := by
            rw [List.take_succ_eq_append_getElem (by rw [HL.out]; exact hlt), List.map_append, ← getElem!_pos zs k, HZ.out]
            simp [nearP, nearI, HG.out.1, HG.out.2]
          refine ⟨k + 1, by omega, by omega, by go_num, (hbr.alloc hsz _).drew.grown hgrow5 (by simp; omega) (fun g hg => ((OW.out (.cells #[] 0)).lt g hg).1), Or.inr ⟨by rw [hts]; simp, ?_⟩⟩
          rw [hts, cellsL_append, List.length_append, List.length_map, List.length_take, HL.out, Nat.min_eq_left hkn]
          exact hown5
      · have hq : (k : Int) < (n : Int) := by omega
        have hq2 : ¬ (k : Int) < 400 := by omega
        have HKE : Hid (k = 400) := by show k = 400; omega
        clear hlt2 hk300 hlt
        go_wp2
        go_ret
        have hke := HKE.out
        refine ⟨_, rfl, hbr, ?_⟩
        rw [someL, ← hke]
        exact KP.out
    · go_wp2
      go_ret
      refine ⟨_, rfl, hbr, ?_⟩
      have h1 := KP.out
      rw [List.take_of_length_le (by rw [HL.out]; omega)] at h1
      rw [someL, List.take_of_length_le (by rw [HL.out]; omega)]
      exact h1
end Go.Proofs.YtmpjlbafjmocbadGreatDoor

namespace Go.Proofs.YtmpjlbafjmocbadGreatDoor
open Go.RowKit

/-- the rule that right makes -/
def rightB (b : Int) : Int := bits .andNot .i64 (spotI b 512) 1

set_option maxHeartbeats 1000000 in
theorem right_any (b l : Int) (w : World) : Calls Tryz.prog 6 #[.agg #[.int .i64 b, .int .i64 l]] w fun e w' => e = .returned (.agg #[.int .i64 (rightB b), .int .i64 (spotI l 512)]) ∧ Below w.heap.size w w' := by
  have h0 := fun o => pair_drew (pair_go (pair_born w (.int .i64 b) (.int .i64 l) 24) ((Below.refl _ _).alloc (Nat.le_refl _) o))
  have hb1 := fun W => spot_any b 512 W (by omega) (by omega)
  have hl1 := fun W => spot_any l 512 W (by omega) (by omega)
  have hr : rightB b = bits .andNot .i64 (spotI b 512) 1 := rfl
  rw [hr]
  generalize spotI b 512 = sb at *
  generalize spotI l 512 = sl at *
  go_enter Tryz.func6, Tryz.ntmps6
  go_wp2_with fail
  go_region_held3 (fun w' => w'.cell? ⟨w.heap.size, 0, none⟩ = some (.int .i64 b) ∧ w'.cell? ⟨w.heap.size, 1, none⟩ = some (.int .i64 l) ∧ w.heap.size < w'.heap.size ∧ Below w.heap.size w w') (first | exact h0 _ | assumption)
    (first | (go_at_call_of 15 b; refine (hb1 _).mono ?_; rintro e w' ⟨rfl, hw⟩; subst hw) | (go_at_call_of 15 l; refine (hl1 _).mono ?_; rintro e w' ⟨rfl, hw⟩; subst hw))
  rename_i hH
  go_wp2_with fail
  refine bodyPost_ret (v := .agg #[.int .i64 (bits .andNot .i64 sb 1), .int .i64 sl]) ?_ rfl ⟨rfl, hH.2.2.2⟩
  simp [results, Tryz.results6, go_sem]

theorem right_table : ∀ n : Fin 512, (withinB (bits .andNot .i64 (n.val : Int) 1) && !hasB (bits .andNot .i64 (n.val : Int) 1) 0) = true := by decide +kernel
theorem right_good (b l : Int) : goodB (rightB b) (spotI l 512) = true := by
  obtain ⟨h0, h1⟩ := spotI_bound b 512 (by omega)
  obtain ⟨k0, k1⟩ := spotI_bound l 512 (by omega)
  obtain ⟨m, hm⟩ := Int.eq_ofNat_of_zero_le h0
  have ht := right_table ⟨m, by omega⟩
  simp only at ht
  unfold goodB rightB
  rw [hm]
  have hw : withinB (spotI l 512) = true := by simp [withinB]; omega
  rw [hw, Bool.and_true]
  exact ht

end Go.Proofs.YtmpjlbafjmocbadGreatDoor

namespace Go.Proofs.YtmpjlbafjmocbadGreatDoor
open Go.Shelf Go.RowKit

theorem some_any (v : Value) (zs : List (Int × Int)) (w : World) (h : RRow w v zs) :
    Calls Tryz.prog 7 #[v, .int .i64 400, .int .i64 1073741824] w fun e w' => ∃ u, e = .returned u ∧ Below w.heap.size w w' ∧ Kept w' w.heap.size u (someL zs) := by
  obtain ⟨a, c, rfl, _, _, _, h⟩ := h
  rcases h with h | ⟨b, off, rfl, hb, hp⟩
  · have hz := List.length_eq_zero_iff.1 h
    subst hz
    exact (some_none a c w).mono fun e w' ⟨he, hw⟩ => ⟨_, he, by rw [hw]; exact Below.refl _ _, Or.inl ⟨rfl, rfl⟩⟩
  · exact (some_some b off _ c zs w hb rfl hp).mono fun e w' ⟨u, he, hbel, hk⟩ => ⟨u, he, hbel, hk⟩

theorem someL_in (zs : List (Int × Int)) (p : Int × Int) (h : p ∈ someL zs) : -1073741824 ≤ p.1 ∧ p.1 < 1073741824 ∧ -1073741824 ≤ p.2 ∧ p.2 < 1073741824 := by
  simp only [someL, List.mem_map] at h
  obtain ⟨q, _, rfl⟩ := h
  have h1 := nearI_bound q.1
  have h2 := nearI_bound q.2
  exact ⟨h1.1, h1.2, h2.1, h2.2⟩

/-- what holds of the list in order -/
theorem some_box {zs ys : List (Int × Int)} (h : Tidied (someL zs) ys) : Tidy ys ∧ ys.length ≤ 4096 ∧ wOf ys < 1000000000000 ∧ hOf ys < 1000000000000 ∧ -1073741824 ≤ loX ys ∧ loX ys ≤ 1073741824 ∧ -1073741824 ≤ loY ys ∧ loY ys ≤ 1073741824 ∧
    shiftF ys (tcode (someL zs)) (-loX ys) (-loY ys) = (0, ys.map (toCorner (loX ys) (loY ys))) := by
  have hc := someL_code zs
  have hin : ∀ p ∈ ys, -1073741824 ≤ p.1 ∧ p.1 < 1073741824 ∧ -1073741824 ≤ p.2 ∧ p.2 < 1073741824 := fun p hp => someL_in zs p ((h.2 p).1 hp).1
  have hb : -1073741824 ≤ loX ys ∧ loX ys ≤ 1073741824 ∧ -1073741824 ≤ loY ys ∧ loY ys ≤ 1073741824 ∧ wOf ys < 1000000000000 ∧ hOf ys < 1000000000000 := by
    by_cases h0 : ys.length = 0
    · have : ys = [] := List.length_eq_zero_iff.1 h0
      subst this
      simp [loX, loY, lo', wOf, hOf]
    · obtain ⟨⟨p1, hp1, e1⟩, ⟨p2, hp2, e2⟩, ⟨p3, hp3, e3⟩, ⟨p4, hp4, e4⟩⟩ := box_mem ys h0
      have a1 := hin p1 hp1
      have a2 := hin p2 hp2
      have a3 := hin p3 hp3
      have a4 := hin p4 hp4
      unfold wOf hOf
      rw [if_neg h0, if_neg h0]
      omega
  have hnear : (ys.map (mv (-loX ys) (-loY ys))).any farP = false := by
    rw [List.any_eq_false]
    intro p hp
    rw [List.mem_map] at hp
    obtain ⟨q, hq, rfl⟩ := hp
    have := hin q hq
    have h1 : farI (q.1 + -loX ys) = false := by unfold farI; simp; omega
    have h2 : farI (q.2 + -loY ys) = false := by unfold farI; simp; omega
    simp [mv, farP, h1, h2]
  refine ⟨h.1, tidied_short h hc, hb.2.2.2.2.1, hb.2.2.2.2.2, hb.1, hb.2.1, hb.2.2.1, hb.2.2.2.1, ?_⟩
  rw [hc]
  exact shiftF_ok (by simp [far2]; omega) hnear

set_option maxRecDepth 20000 in
set_option maxHeartbeats 4000000 in
theorem back_any (u : Value) (zs : List (Int × Int)) (b l : Int) (w : World) (hr : RRow w u zs) (hv : Vars w) :
    Calls Tryz.prog 3 #[u, .agg #[.int .i64 b, .int .i64 l]] w fun e w' => e = .returned (.bool true) ∧ Below w.heap.size w w' := by
  have q0 := RuleIn.born w b l 24
  have hr8 := hv.room
  have hri := fun W => right_any b l W
  have hg := right_good b l
  have hso := fun W (h : RRow W u zs) => some_any u zs W h
  generalize hrb : rightB b = b1 at *
  generalize hrl : spotI l 512 = l1 at *
  clear hrb hrl
  obtain ⟨r0, r1, _⟩ := id q0
  go_enter Tryz.func3, Tryz.ntmps3
  go_wp2_with fail
  refine (hri _).mono ?_
  rintro e w1 ⟨rfl, hb1⟩
  have q1 := q0.go hb1
  have hS := hso w1 (hr.below q1.2.2.2.2.2)
  go_wp2_with fail
  refine hS.mono ?_
  rintro e w2 ⟨v, rfl, hb2, hkp2⟩
  have q2 := q1.go hb2
  obtain ⟨a0, a1, f0, f1, _⟩ := id q2
  have q3 := q2.set b1 l1
  have hlt1 : w.heap.size < w1.heap.size := q1.2.2.2.2.1
  have hkp3 : Kept ((w2.setCell ⟨w.heap.size, 0, none⟩ (.int .i64 b1)).setCell ⟨w.heap.size, 1, none⟩ (.int .i64 l1)) w1.heap.size v (someL zs) := by
    have hno : v.ownBlock ≠ some w.heap.size := fun e => by have := (hkp2.owns.lt _ e).1; omega
    exact (hkp2.setOther hno).setOther hno
  have hv3 := hv.go q3.2.2.2.2.2 hr8
  obtain ⟨y0, y1, _⟩ := id q3
  have hrow3 := hkp3.row
  have hE := encode_any v (someL zs) b1 l1 _ hrow3 hv3
  generalize hW3 : (w2.setCell ⟨w.heap.size, 0, none⟩ (.int .i64 b1)).setCell ⟨w.heap.size, 1, none⟩ (.int .i64 l1) = w3 at *
  clear q0 q1 q2 hri hso hS r0 r1 hkp2 hkp3
  go_wp2_with fail
  refine hE.mono ?_
  rintro e w4 ⟨ys, hty, rfl, hb4⟩
  obtain ⟨ht, hl, hw, hh, x1, x2, x3, x4, hsf⟩ := some_box hty
  have hc := someL_code zs
  have hen : encF ys (tcode (someL zs)) b1 l1 = (encT ys b1 l1, 0) := by rw [encF, if_neg (by rw [hc]; simp), if_pos hg]
  rw [hen]
  have q4 := q3.go hb4
  have hv4 := hv3.go hb4 hv3.room
  have hdec := dec_of_enc ys b1 l1 ht hl hg hw hh
  have hdc := fun V hV => decode_list (encT ys b1 l1) V hV
  unfold DecOut at hdc
  have HT : Hid (Tidied (someL zs) ys) := hty
  have hrow4 := hrow3.below hb4
  simp only
  generalize encT ys b1 l1 = T at *
  clear hen hE hty
  by_cases hlen : T.length ≤ 20000
  · have hlen' : (T.length : Int) ≤ 20000 := by omega
    have hD := hdc _ hv4
    simp only [hdec hlen] at hD
    clear hdec hdc
    go_wp2_with fail
    refine hD.mono ?_
    rintro e w5 ⟨bk, rfl, hrow5, hb5⟩
    have q5 := q4.go hb5
    have hv5 := hv4.go hb5 hv4.room
    have z5 := RuleIn.born w5 b1 l1 24
    have hb6 := z5.2.2.2.2.2
    have q6 := q5.go hb6
    have hv6 := hv5.go hb6 hv5.room
    have htd := tidy_told v (someL zs) _ ((hrow4.below hb5).below hb6)
    rw [hc] at htd
    go_wp2_with fail
    refine htd.mono ?_
    rintro e w7 ⟨t7, ts, rfl, hb7, hts, ho7⟩
    have hte : ts = ys := hts.unique HT.out
    subst hte
    have q7 := q6.go hb7
    have z7 := z5.go hb7
    have hv7 := hv6.go hb7 hv6.room
    have hrow7 := ho7.read
    have hbk7 := (hrow5.below hb6).below hb7
    have hbd := bounds_any t7 ts.length (fun j => (ts[j]!).1) (fun j => (ts[j]!).2) _ hrow7.isRow
    go_wp2_with fail
    refine hbd.mono ?_
    rintro e w8 ⟨rfl, hb8⟩
    have hbox : boxOf (fun j => (ts[j]!).1) (fun j => (ts[j]!).2) ts.length = .tuple #[.agg #[.int .i64 (loX ts), .int .i64 (loY ts), .int .i64 (hiX ts), .int .i64 (hiY ts)], .bool (decide (0 < ts.length))] := rfl
    rw [hbox]
    have hb9 : Below w8.heap.size w8 (w8.alloc (.cells #[.int .i64 (loX ts), .int .i64 (loY ts), .int .i64 (hiX ts), .int .i64 (hiY ts)] 36)) := (Below.refl _ _).alloc (Nat.le_refl _) _
    have q8 := q7.go hb8
    have q9 := q8.go hb9
    have z9 := (z7.go hb8).go hb9
    have hv9 := (hv7.go hb8 hv7.room).go hb9 (hv7.go hb8 hv7.room).room
    have hrow9 := (hrow7.below hb8).below hb9
    have hbk9 := (hbk7.below hb8).below hb9
    have heq := rule_eq b1 l1 b1 l1
    simp only [decide_true] at heq
    clear hbox hbd htd hD q3 q4 q5 q6 q7 q8 z5 z7 hrow3 hrow4 hrow5 hrow7 hbk7 y0 y1 a0 a1 f0 f1 ho7 hb2 hb4 hb5 hb6 hb7
    by_cases hn0 : ts.length = 0
    · have hts0 : ts = [] := List.length_eq_zero_iff.1 hn0
      subst hts0
      have hu : bk = .slice none 0 0 := by
        rcases hbk9 with ⟨_, h⟩ | ⟨h, _⟩
        · exact h
        · exact absurd rfl h
      subst hu
      have hd0 : decide (0 < ([] : List (Int × Int)).length) = false := rfl
      rw [hd0]
      have hwr := writes_any _ hv9
      go_wp2_with fail
      refine hwr.mono ?_
      rintro e w10 ⟨rfl, hb10⟩
      have q10 := q9.go hb10
      obtain ⟨c0, c1, _⟩ := id q10
      obtain ⟨c2, c3, _⟩ := z9.go hb10
      clear q9 z9
      go_wp2_with fail
      go_ret
      exact ⟨rfl, q10.2.2.2.2.2⟩
    · have hd0 : decide (0 < ts.length) = true := by simp; omega
      rw [hd0]
      have htc : tcode ts = 0 := tcode_zero.2 ⟨hl, tidied_near HT.out⟩
      have hsh := fun W (h : Row W t7 ts) => shift_any t7 ts (-loX ts) (-loY ts) W h
      have hsh2 : ∀ W, Row W t7 ts → Calls Tryz.prog 13 #[t7, .int .i64 (-loX ts), .int .i64 (-loY ts)] W fun e w' => ∃ u, e = .returned (.tuple #[u, .int .i64 0]) ∧ Below W.heap.size W w' ∧ Row w' u (ts.map (toCorner (loX ts) (loY ts))) := fun W h => by
        refine (hsh W h).mono ?_
        rintro e w' ⟨u, ys', hy', he, hb, ho⟩
        have : ys' = ts := hy'.unique (tidied_self ht htc)
        subst this
        rw [hc] at hsf
        rw [htc, hsf] at he ho
        exact ⟨u, he, hb, ho.read⟩
      clear hsh htc hsf hd0
      have e0 : (w8.alloc (.cells #[.int .i64 (loX ts), .int .i64 (loY ts), .int .i64 (hiX ts), .int .i64 (hiY ts)] 36)).heap[w8.heap.size]? = some (.cells #[.int .i64 (loX ts), .int .i64 (loY ts), .int .i64 (hiX ts), .int .i64 (hiY ts)] 36 (0, 0)) := heap_alloc_new w8 _
      generalize hX0 : loX ts = X0 at *
      generalize hY0 : loY ts = Y0 at *
      clear hX0 hY0
      have hS := hsh2 _ hrow9
      go_wp2_with fail
      refine hS.mono ?_
      rintro e w10 ⟨s10, rfl, hb10, hrow10⟩
      have q10 := q9.go hb10
      have z10 := z9.go hb10
      have hv10 := hv9.go hb10 hv9.room
      have hbk10 := hbk9.below hb10
      have hwr := writes_any _ hv10
      clear hsh2 hS q9 z9 hrow9 hbk9 e0
      go_wp2_with fail
      refine hwr.mono ?_
      rintro e w11 ⟨rfl, hb11⟩
      have q11 := q10.go hb11
      obtain ⟨c0, c1, _⟩ := id q11
      obtain ⟨c2, c3, _⟩ := z10.go hb11
      have hsm := same_any _ _ _ _ (hbk10.below hb11) (hrow10.below hb11)
      clear q10 z10
      go_wp2_with fail
      refine hsm.mono ?_
      rintro e w12 ⟨rfl, hb12⟩
      go_wp2_with fail
      go_ret
      exact ⟨rfl, (q11.go hb12).2.2.2.2.2⟩
  · have hlen' : (20000 : Int) < (T.length : Int) := by omega
    have hwr := writes_any _ hv4
    clear hdec hdc
    go_wp2_with fail
    refine hwr.mono ?_
    rintro e w5 ⟨rfl, hb5⟩
    go_wp2_with fail
    go_ret
    exact ⟨rfl, (q4.go hb5).2.2.2.2.2⟩
end Go.Proofs.YtmpjlbafjmocbadGreatDoor
