/- RleLines: the walk of the law itself. -/
import Derived.Test.YtmpjlbafjmocbadGreatDoorOrderLaw
import Derived.Test.YtmpjlbafjmocbadGreatDoorRefShift
import Derived.Test.YtmpjlbafjmocbadGreatDoorAlive
import Derived.Test.YtmpjlbafjmocbadGreatDoorText
import Derived.Test.YtmpjlbafjmocbadGreatDoorLawPure
import Derived.Test.YtmpjlbafjmocbadGreatDoorEncode
import Derived.Test.YtmpjlbafjmocbadGreatDoorWrites
namespace Go.Proofs.YtmpjlbafjmocbadGreatDoor
open Go.RowKit Go.Lib Go.Sort

attribute [local go_sem ↓] Go.wp_at_zero Go.wp_at_succ

/-- a number made nearer to 0 than 2^39 -/
def nearI (v : Int) : Int := spotI v 1099511627776 - 549755813888
def nearP (p : Int × Int) : Int × Int := (nearI p.1, nearI p.2)
theorem nearI_bound (v : Int) : -549755813888 ≤ nearI v ∧ nearI v < 549755813888 := by
  have := spotI_bound v 1099511627776 (by omega)
  unfold nearI
  omega
/-- the list that some makes -/
def someL (zs : List (Int × Int)) : List (Int × Int) := (zs.take 1000).map nearP
theorem someL_code (zs : List (Int × Int)) : tcode (someL zs) = 0 := by
  rw [tcode_zero]
  refine ⟨by simp [someL]; omega, ?_⟩
  rw [List.any_eq_false]
  intro p hp
  simp only [someL, List.mem_map] at hp
  obtain ⟨q, _, rfl⟩ := hp
  have h1 := nearI_bound q.1
  have h2 := nearI_bound q.2
  have e1 : farI (nearI q.1) = false := by unfold farI; rw [decide_eq_false (by omega), decide_eq_false (by omega)]; rfl
  have e2 : farI (nearI q.2) = false := by unfold farI; rw [decide_eq_false (by omega), decide_eq_false (by omega)]; rfl
  simp [farP, nearP, e1, e2]

theorem grown_cell {w0 w w' : World} {base k : Nat} {v : Value} {xs : List Value} {o : Obj} {a : Addr} {u : Value} (hg : (w.alloc o).drew.grownBy w' v.ownBlock) (hown : w.ownsRow base 45 2 v k xs) (hc : w.cell? a = some u) (ha : a.block < w.heap.size) (hb : a.block < base) (_h : w0 = w) : w'.cell? a = some u := by
  refine hg.cell (a := a) ?_ ?_
  · show (w.alloc o).cell? a = some u
    rw [World.cell?_alloc_lt _ _ _ ha]
    exact hc
  · intro e
    have := (hown.lt a.block e.symm).1
    omega

set_option maxHeartbeats 2000000 in
theorem some_none (a : Option Addr) (c : Nat) (w : World) : Calls Tryz.prog 7 #[.slice a 0 c, .int .i64 1000, .int .i64 549755813888] w fun e w' => e = .returned (.slice none 0 0) ∧ w' = w := by
  go_enter Tryz.func7, Tryz.ntmps7
  go_wp2
  refine wp_loop_rounds 1 ?_
  rw [rounds_succ]
  go_wp2
  go_ret
  exact ⟨rfl, rfl⟩

set_option maxRecDepth 100000 in
set_option maxHeartbeats 2000000 in
theorem some_some (b off n c : Nat) (zs : List (Int × Int)) (w : World) (hb : b < w.heap.size) (HL : Hid (zs.length = n)) (HH : Hid (HoldsR w b off zs)) :
    Calls Tryz.prog 7 #[.slice (some ⟨b, off, none⟩) n c, .int .i64 1000, .int .i64 549755813888] w fun e w' => ∃ u, e = .returned u ∧ Below w.heap.size w w' ∧ Kept w' w.heap.size u (someL zs) := by
  obtain ⟨i0, hi, hz0, hz1, hz2⟩ := info_parts Tryz.info45
  go_enter Tryz.func7, Tryz.ntmps7
  go_wp2
  go_loopg [7, 8] 1000 (fun gk s7 s8 wr => ∃ k : Nat, k + gk = 1000 ∧ k ≤ n ∧ s8 = .int .i64 k ∧ Below w.heap.size w wr ∧ Kept wr w.heap.size s7 ((zs.take k).map nearP))
  case atStart => exact ⟨0, by omega, by omega, rfl, Below.refl _ _, Or.inl ⟨by simp, rfl⟩⟩
  case round =>
    obtain ⟨k, hk, hkn, rfl, hbr, hkept⟩ := hrel
    have HK : Hid (k + gk = 1000) := hk
    have KP : Hid (Kept wr w.heap.size u7 ((zs.take k).map nearP)) := hkept
    have hk1000 : k ≤ 1000 := by omega
    have hsz := hbr.size
    clear hk hkept
    by_cases hlt : k < n
    · by_cases hlt2 : k < 1000
      · obtain ⟨c0, c1⟩ := HH.out k (by rw [HL.out]; exact hlt)
        rw [← hbr.cell (p := ⟨b, off + k * 2, none⟩) hb] at c0
        rw [← hbr.cell (p := ⟨b, off + k * 2 + 1, none⟩) hb] at c1
        generalize hz : zs[k]! = z at c0 c1
        have HZ : Hid (zs[k]! = z) := hz
        clear hz
        obtain ⟨x, y⟩ := z
        simp only at c0 c1
        have hsx := fun W => spot_any x 1099511627776 W (by omega) (by omega)
        have hsy := fun W => spot_any y 1099511627776 W (by omega) (by omega)
        obtain ⟨x0, x1⟩ := spotI_bound x 1099511627776 (by omega)
        obtain ⟨y0, y1⟩ := spotI_bound y 1099511627776 (by omega)
        generalize hgx : spotI x 1099511627776 = sx at *
        generalize hgy : spotI y 1099511627776 = sy at *
        have HG : Hid (spotI x 1099511627776 = sx ∧ spotI y 1099511627776 = sy) := ⟨hgx, hgy⟩
        clear hgx hgy
        have hi1 : (0 : Int) ≤ (k : Int) := by omega
        have hi2 : (k : Int) < (n : Int) := by omega
        have hi3 : (k : Int) < 1000 := by omega
        have hbw : b < wr.heap.size := Nat.lt_of_lt_of_le hb hsz
        have hww : w.heap.size ≤ wr.heap.size := hsz
        have hwx : IntKind.i64.wrap (sx - 549755813888) = sx - 549755813888 := by rw [IntKind.wrap_i64]; omega
        have hwy : IntKind.i64.wrap (sy - 549755813888) = sy - 549755813888 := by rw [IntKind.wrap_i64]; omega
        have OW : Hid (∀ o, (wr.alloc o).drew.ownsRow w.heap.size 45 2 u7 k (cellsL ((zs.take k).map nearP))) := fun o => by
          have h1 := KP.out.owns
          rw [List.length_map, List.length_take, HL.out, Nat.min_eq_left hkn] at h1
          exact h1.alloc o
        go_wp2_with fail
        go_region_held3 (fun w' => w'.cell? ⟨b, off + k * 2, none⟩ = some (.int .i64 x) ∧ w'.cell? ⟨b, off + k * 2 + 1, none⟩ = some (.int .i64 y)) (first | go_keep | (exact ⟨grown_cell hgrow5 KP.out.owns c0 hbw hb rfl, grown_cell hgrow5 KP.out.owns c1 hbw hb rfl⟩))
          (first | (go_at_call_of 15 x; refine (hsx _).mono ?_; rintro e w' ⟨rfl, hw⟩; subst hw) | (go_at_call_of 15 y; refine (hsy _).mono ?_; rintro e w' ⟨rfl, hw⟩; subst hw) | (refine step_append_own _ (by rfl) _ _ 22 (by rfl) w.heap.size 45 i0 (.agg #[.int .i64 0, .int .i64 0]) 2 16 Tryz.underlying22 hi hz0 hz1 hz2 rfl (by decide) u7 k (cellsL ((zs.take k).map nearP)) (by rfl) (OW.out _) ⟨wr.heap.size, 0, none⟩ 1 1 [.int .i64 (sx - 549755813888), .int .i64 (sy - 549755813888)] (by rfl) rfl (cell_two_new _ _ _ _) (by intro u hu; simp at hu; rcases hu with rfl | rfl <;> rfl) (by unfold maxLen; omega) (by omega) (by simp; omega) ?_; intro v5 w5 hown5 hgrow5 hnil5))
        go_wp2_with fail
        go_roundg (gk - 1)
        case measure => have := HK.out; omega
        case rel =>
          have h1 := HK.out
          have hts : (zs.take (k + 1)).map nearP = (zs.take k).map nearP ++ [(sx - 549755813888, sy - 549755813888)] := by
            rw [List.take_succ_eq_append_getElem (by rw [HL.out]; exact hlt), List.map_append, ← getElem!_pos zs k, HZ.out]
            simp [nearP, nearI, HG.out.1, HG.out.2]
          refine ⟨k + 1, by omega, by omega, by go_num, (hbr.alloc hsz _).drew.grown hgrow5 (by simp; omega) (fun g hg => ((OW.out (.cells #[] 0)).lt g hg).1), Or.inr ⟨by rw [hts]; simp, ?_⟩⟩
          rw [hts, cellsL_append, List.length_append, List.length_map, List.length_take, HL.out, Nat.min_eq_left hkn]
          exact hown5
      · have hq : (k : Int) < (n : Int) := by omega
        have hq2 : ¬ (k : Int) < 1000 := by omega
        have HKE : Hid (k = 1000) := by show k = 1000; omega
        clear hlt2 hk1000 hlt
        go_wp2
        go_ret
        have hke := HKE.out
        refine ⟨_, rfl, hbr, ?_⟩
        rw [someL, ← hke]
        exact KP.out
    · go_wp2
      go_ret
      refine ⟨_, rfl, hbr, ?_⟩
      have h1 := KP.out
      rw [List.take_of_length_le (by rw [HL.out]; omega)] at h1
      rw [someL, List.take_of_length_le (by rw [HL.out]; omega)]
      exact h1
end Go.Proofs.YtmpjlbafjmocbadGreatDoor

namespace Go.Proofs.YtmpjlbafjmocbadGreatDoor
open Go.RowKit

/-- the rule that right makes -/
def rightB (b : Int) : Int := bits .andNot .i64 (spotI b 512) 1

set_option maxHeartbeats 1000000 in
theorem right_any (b l : Int) (w : World) : Calls Tryz.prog 6 #[.agg #[.int .i64 b, .int .i64 l]] w fun e w' => e = .returned (.agg #[.int .i64 (rightB b), .int .i64 (spotI l 512)]) ∧ Below w.heap.size w w' := by
  have h0 := fun o => pair_drew (pair_go (pair_born w (.int .i64 b) (.int .i64 l) 24) ((Below.refl _ _).alloc (Nat.le_refl _) o))
  have hb1 := fun W => spot_any b 512 W (by omega) (by omega)
  have hl1 := fun W => spot_any l 512 W (by omega) (by omega)
  have hr : rightB b = bits .andNot .i64 (spotI b 512) 1 := rfl
  rw [hr]
  generalize spotI b 512 = sb at *
  generalize spotI l 512 = sl at *
  go_enter Tryz.func6, Tryz.ntmps6
  go_wp2_with fail
  go_region_held3 (fun w' => w'.cell? ⟨w.heap.size, 0, none⟩ = some (.int .i64 b) ∧ w'.cell? ⟨w.heap.size, 1, none⟩ = some (.int .i64 l) ∧ w.heap.size < w'.heap.size ∧ Below w.heap.size w w') (first | exact h0 _ | assumption)
    (first | (go_at_call_of 15 b; refine (hb1 _).mono ?_; rintro e w' ⟨rfl, hw⟩; subst hw) | (go_at_call_of 15 l; refine (hl1 _).mono ?_; rintro e w' ⟨rfl, hw⟩; subst hw))
  rename_i hH
  go_wp2_with fail
  refine bodyPost_ret (v := .agg #[.int .i64 (bits .andNot .i64 sb 1), .int .i64 sl]) ?_ rfl ⟨rfl, hH.2.2.2⟩
  simp [results, Tryz.results6, go_sem]

theorem right_table : ∀ n : Fin 512, (withinB (bits .andNot .i64 (n.val : Int) 1) && !hasB (bits .andNot .i64 (n.val : Int) 1) 0) = true := by decide +kernel
theorem right_good (b l : Int) : goodB (rightB b) (spotI l 512) = true := by
  obtain ⟨h0, h1⟩ := spotI_bound b 512 (by omega)
  obtain ⟨k0, k1⟩ := spotI_bound l 512 (by omega)
  obtain ⟨m, hm⟩ := Int.eq_ofNat_of_zero_le h0
  have ht := right_table ⟨m, by omega⟩
  simp only at ht
  unfold goodB rightB
  rw [hm]
  have hw : withinB (spotI l 512) = true := by simp [withinB]; omega
  rw [hw, Bool.and_true]
  exact ht

end Go.Proofs.YtmpjlbafjmocbadGreatDoor

namespace Go.Proofs.YtmpjlbafjmocbadGreatDoor
open Go.Shelf Go.RowKit

theorem some_any (v : Value) (zs : List (Int × Int)) (w : World) (h : RRow w v zs) :
    Calls Tryz.prog 7 #[v, .int .i64 1000, .int .i64 549755813888] w fun e w' => ∃ u, e = .returned u ∧ Below w.heap.size w w' ∧ Row w' u (someL zs) := by
  obtain ⟨a, c, rfl, _, _, _, h⟩ := h
  rcases h with h | ⟨b, off, rfl, hb, hp⟩
  · have hz := List.length_eq_zero_iff.1 h
    subst hz
    exact (some_none a c w).mono fun e w' ⟨he, hw⟩ => ⟨_, he, by rw [hw]; exact Below.refl _ _, Or.inl ⟨rfl, rfl⟩⟩
  · exact (some_some b off _ c zs w hb rfl hp).mono fun e w' ⟨u, he, hbel, hk⟩ => ⟨u, he, hbel, hk.row⟩

/-- lines are gone through byte by byte -/
theorem scan_step (n : Nat) (f : Bool) (c : UInt8) (r : List UInt8) : scanL n f (c :: r) = (if c = 10 then (if f = false ∧ 71 < n + 1 then none else scanL 0 false r) else scanL (n + 1) f r) := rfl

theorem enc_len (l : List (Int × Int)) (b v : Int) (ht : Tidy l) (hl : l.length ≤ 4096) (hn : l.any farP = false) : (encT l b v).length ≤ 10000000 := by
  have hb := box_near l hn
  have hw := wOf_le l hn
  have hw0 := wOf_nonneg l
  have h1 := Lib.itoa_length_le (wOf l) (by omega) (by omega)
  have h2 := Lib.itoa_length_le (hOf l) (by omega) (by omega)
  have h3 := textL_length b v
  have hok := pieces_ok (loX l) (loY l) 4398046511104 4398046511104 (by omega) (by omega) l.length (loX l) (loY l) l hl
    (told_box l ht _ _ (fun p hp => by have := mem_box l p hp; omega) (fun p hp => by have := mem_box l p hp; omega))
  have h4 := pieces_length (loX l) l.length (loX l) (loY l) l
  have h5 := lay_le 0 ((pieces (loX l) l.length (loX l) (loY l) l).map pieceT ++ [[33]]) (by
    intro t ht
    simp only [List.mem_append, List.mem_map, List.mem_singleton] at ht
    rcases ht with ⟨p, hp, rfl⟩ | rfl
    · have := hok p hp
      exact pieceT_le p (by omega) this.2.1
    · simp)
  simp only [List.length_append, List.length_map, List.length_singleton] at h5
  simp only [encT, headT, bodyT, List.length_append, List.length_cons, List.length_nil]
  omega
theorem enc_some {zs ys : List (Int × Int)} {b v : Int} (hg : goodB b v = true) (h : Tidied (someL zs) ys) : encF ys (tcode (someL zs)) b v = (encT ys b v, 0) ∧ scanL 0 true (encT ys b v) = some (0, false) ∧ (encT ys b v).length ≤ 10000000 := by
  have hc := someL_code zs
  have hl := tidied_short h hc
  have hn := tidied_near h
  exact ⟨by rw [encF, if_neg (by rw [hc]; simp), if_pos hg], enc_lines ys b v h.1 hl hn, enc_len ys b v h.1 hl hn⟩
theorem below3 {w W0 w1 w2 w3 : World} (h0 : Below w.heap.size w W0) (h1 : Below W0.drew.heap.size W0.drew w1) (h2 : Below w1.heap.size w1 w2) (h3 : Below w2.heap.size w2 w3) : Below w.heap.size w w3 := by
  have a := h0.size
  have b := h1.size
  have c := h2.size
  have a' : w.heap.size ≤ W0.drew.heap.size := a
  exact ((h0.drew.trans (h1.mono a')).trans (h2.mono (Nat.le_trans a' b))).trans (h3.mono (Nat.le_trans a' (Nat.le_trans b c)))

set_option maxRecDepth 20000 in
set_option maxHeartbeats 4000000 in
theorem lines_any (u : Value) (zs : List (Int × Int)) (b l : Int) (w : World) (hr : RRow w u zs) (hv : Vars w) :
    Calls Tryz.prog 5 #[u, .agg #[.int .i64 b, .int .i64 l]] w fun e w' => e = .returned (.bool true) ∧ Below w.heap.size w w' := by
  have q0 := RuleIn.born w b l 24
  have hr8 := hv.room
  have hri := fun W => right_any b l W
  have hg := right_good b l
  have hso := fun W (h : RRow W u zs) => some_any u zs W h
  generalize hrb : rightB b = b1 at *
  generalize hrl : spotI l 512 = l1 at *
  clear hrb hrl
  obtain ⟨r0, r1, _⟩ := id q0
  have hb0 := q0.2.2.2.2.2
  have hlt0 := q0.2.2.2.2.1
  have hrow0 := hr.below hb0
  have hv0 := hv.go hb0 hr8
  go_enter Tryz.func5, Tryz.ntmps5
  go_wp2_with fail
  generalize hW0 : w.alloc (.cells #[.int .i64 b, .int .i64 l] 24) = W0 at *
  clear hW0
  go_cut [5, 6] from 10 to 17 (fun s5 s6 wc => ∃ T : List UInt8, s5 = .string ⟨T.toArray⟩ ∧ s6 = .int .i64 0 ∧ scanL 0 true T = some (0, false) ∧ T.length ≤ 10000000 ∧ Below w.heap.size w wc)
  case first =>
    go_region_with (first | (go_at_call 7; refine (hso _ (by first | exact hrow0 | exact hrow0.below hb2)).mono ?_; rintro e w1 ⟨u1, rfl, hb1, hr1⟩; try (have g0 := (hb1.cell (p := ⟨w.heap.size, 0, none⟩) hlt0).trans r0; have g1 := (hb1.cell (p := ⟨w.heap.size, 1, none⟩) hlt0).trans r1)) | (go_at_call 6; refine (hri _).mono ?_; rintro e w2 ⟨rfl, hb2⟩) | (go_at_call 8; refine (encode_any _ _ _ _ _ (by first | exact hr1 | exact hr1.below hb2) (by first | exact (hv0.drew.go hb2 hv0.room).go hb1 (hv0.drew.go hb2 hv0.room).room | exact (hv0.drew.go hb1 hv0.room).go hb2 (hv0.drew.go hb1 hv0.room).room)).mono ?_; rintro e w3 ⟨ys, hty, rfl, hb3⟩))
    all_goals
      go_wp2
      go_meet
      case rel =>
        have hen := enc_some hg hty
        refine ⟨encT ys b1 l1, by rw [hen.1], by rw [hen.1], hen.2.1, hen.2.2, ?_⟩
        first | exact below3 hb0 hb1 hb2 hb3 | exact below3 hb0 hb2 hb1 hb3
  case rest =>
  obtain ⟨T, rfl, rfl, hsc, hTl, hbT⟩ := hcut
  have hvT := hv.go hbT hr8
  have hwr := writes_any _ hvT
  have HSC : Hid (scanL 0 true T = some (0, false)) := hsc
  clear hsc hso hri hrow0 hv0 r0 r1 q0 hb0 hlt0
  go_wp2_with fail
  go_loopg [7, 8, 9] (T.length + 1) (fun gk s7 s8 s9 wr => ∃ (k n : Nat) (f : Bool), k + gk = T.length + 1 ∧ k ≤ T.length ∧ n ≤ k ∧ s9 = .int .i64 k ∧ s7 = .int .i64 n ∧ s8 = .bool f ∧ scanL n f (T.drop k) = some (0, false) ∧ wr = wc)
  case atStart => exact ⟨0, 0, true, by omega, by omega, by omega, rfl, rfl, rfl, by simpa using HSC.out, rfl⟩
  case round =>
    obtain ⟨k, n, f, hk, hkl, hnk, rfl, rfl, rfl, hsk, rfl⟩ := hrel
    have HK : Hid (k + gk = T.length + 1) := hk
    have HSK : Hid (scanL n f (T.drop k) = some (0, false)) := hsk
    clear hk hsk
    by_cases hlt : k < T.length
    · have hi1 : (0 : Int) ≤ (k : Int) := by omega
      have hi2 : (k : Int) < (T.length : Int) := by omega
      have hs2 := HSK.out
      have hbk : ∀ h, ((⟨T.toArray⟩ : ByteArray)[k]'h).toNat = (T[k]).toNat := fun _ => rfl
      rw [List.drop_eq_getElem_cons hlt, scan_step] at hs2
      by_cases hc : T[k] = 10
      · have hcn : (((T[k]).toNat : Int) == 10) = true := by rw [hc]; decide
        rw [if_pos hc] at hs2
        cases f with
        | true =>
          rw [if_neg (by simp)] at hs2
          have HS2 : Hid (scanL 0 false (T.drop (k + 1)) = some (0, false)) := hs2
          clear hs2 hc
          go_wp2_with fail
          go_roundg (gk - 1)
          case measure => have := HK.out; omega
          case rel =>
            have h5 := HK.out
            exact ⟨k + 1, 0, false, by omega, by omega, by omega, by go_num, rfl, rfl, HS2.out, rfl⟩
        | false =>
          by_cases hn : 71 < n + 1
          · rw [if_pos ⟨rfl, hn⟩] at hs2
            simp at hs2
          · rw [if_neg (by omega)] at hs2
            have HS2 : Hid (scanL 0 false (T.drop (k + 1)) = some (0, false)) := hs2
            have hn2 : (n : Int) + 1 ≤ 71 := by omega
            clear hs2 hc hn
            go_wp2_with fail
            go_roundg (gk - 1)
            case measure => have := HK.out; omega
            case rel =>
              have h5 := HK.out
              exact ⟨k + 1, 0, false, by omega, by omega, by omega, by go_num, rfl, rfl, HS2.out, rfl⟩
      · have hcn : (((T[k]).toNat : Int) == 10) = false := by
          rw [beq_eq_false_iff_ne]
          intro h
          exact hc (UInt8.toNat.inj (by simp; omega))
        rw [if_neg hc] at hs2
        have HS2 : Hid (scanL (n + 1) f (T.drop (k + 1)) = some (0, false)) := hs2
        clear hs2 hc
        go_wp2_with fail
        go_roundg (gk - 1)
        case measure => have := HK.out; omega
        case rel =>
          have h5 := HK.out
          exact ⟨k + 1, n + 1, f, by omega, by omega, by omega, by go_num, by go_num, rfl, HS2.out, rfl⟩
    · have hkk : k = T.length := by omega
      have hs2 := HSK.out
      rw [List.drop_of_length_le (by omega), scanL] at hs2
      simp only [Option.some.injEq, Prod.mk.injEq] at hs2
      obtain ⟨rfl, rfl⟩ := hs2
      subst hkk
      clear hlt
      go_wp2_with fail
      refine hwr.mono ?_
      rintro e w5 ⟨rfl, hb5⟩
      go_wp2_with fail
      go_ret
      exact ⟨rfl, hbT.trans (hb5.mono hbT.size)⟩
end Go.Proofs.YtmpjlbafjmocbadGreatDoor
