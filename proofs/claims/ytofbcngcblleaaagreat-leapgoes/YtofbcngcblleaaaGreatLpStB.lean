/- LeapSteps: the walk. -/
import Derived.Test.YtofbcngcblleaaaGreatLpMovesN
import Derived.Test.YtofbcngcblleaaaGreatQuCount
import Derived.Deep.CutRange
import Derived.Test.YtofbcngcblleaaaGreatLpStepsX
import Derived.Test.YtofbcngcblleaaaGreatRfNext
import Derived.Test.YtofbcngcblleaaaGreatLpFind0
import Derived.Test.YtofbcngcblleaaaGreatLpQtM
namespace Go.Proofs.YtofbcngcblleaaaGreat.A
open Go.RowKit Go.Maps Go.Proofs.YtofbcngcblleaaaGreat.L
theorem new200_room : RoomT 3 200000 (arNew 200000) := by
  show lsum tens (fun u => if u = 3 then (200000 : Int) else (arNew 200000).cnt u) ≤ (arNew 200000).room
  decide +kernel
theorem new200_st {PR : (Bool → Nat → Bool) → Int → Prop} (hu : ∀ R R' rn, PR R rn → PR R' rn → R = R') : NxSt PR 3 (fun _ => 200000) (arNew 200000) := by
  refine ⟨new_sound (by omega) (by omega), glob_new 200000, fun id f hf _ => ?_, fun R rn _ x hx _ => (by cases hx), hu, new200_room⟩
  obtain ⟨_, x, hx, _⟩ := ownV_iff.1 hf
  cases hx
set_option maxRecDepth 20000 in
set_option maxHeartbeats 4000000 in
theorem made_rel {PR : (Bool → Nat → Bool) → Int → Prop} (hu : ∀ R R' rn, PR R rn → PR R' rn → R = R') (v : Value) (zs ys : List (Int × Int)) (w : World) (hrow : RRow w v zs) (hlen : zs.length * 16 ≤ 140737488351232) (hc : tcode zs = 0) (hys : Tidied zs ys) :
    Calls Tryz.prog 10 #[v] w fun x w' => ∃ (b : Nat) (id e' : Int), x = .returned (.tuple #[.pointer (some ⟨b, 0, none⟩), .int .i64 id, .int .i64 e', .bool true]) ∧ Below w.heap.size w w' ∧ ∃ A o, ArL w' o b A ∧ (∀ k, k < w.heap.size → o k = 0) ∧ NxSt PR 3 (fun _ => 200000) A ∧ FromR 3 (arNew 200000) A ys id e' := by
  have hN := fun W => newP_any 200000 W (by omega) (by omega)
  obtain ⟨a, cv, hv, _⟩ := id hrow
  have HROW : Hid (RRow w v zs) := hrow
  have hCE := fun W h => cells_row v zs W (by omega) h
  have HST : Hid (NxSt PR 3 (fun _ => 200000) (arNew 200000)) := new200_st hu
  have HC : Hid (tcode zs = 0 ∧ Tidied zs ys) := ⟨hc, hys⟩
  clear hrow hv hlen hc hys hu
  go_enter Tryz.func10, Tryz.ntmps10
  go_wp2_with fail
  refine (hN _).mono ?_
  rintro e w1 ⟨rfl, ⟨F1, hF1, A1⟩, hb1⟩
  go_wp2_with fail
  refine (hCE _ (RRow.below HROW.out hb1)).mono ?_
  rintro e w2 ⟨u, rfl, hb2, hr2⟩
  have b2 : Below w.heap.size w w2 := hb1.trans (hb2.mono hb1.size)
  have hA2 : ArL w2 (fun k => if k < w.heap.size then 0 else 1) (w.heap.size + 1) (arNew 200000) := by
    refine ⟨F1, A1.other hb2.size fun k hk => hb2.block k (A1.flt k hk), fun k hk => ?_⟩
    have := hF1 k hk
    show (if k < w.heap.size then 0 else 1) = 1
    rw [if_neg (by omega)]
  have hF := from_rel (t := 3) hA2 HST.out (by omega) u zs ys hr2 HC.out.1 HC.out.2
  have HB : Hid (Below w.heap.size w w2) := b2
  clear hCE hN hF1 A1 hb1 hb2 hr2 b2 hA2
  go_wp2_with fail
  refine hF.mono ?_
  rintro e w3 ⟨id, e', rfl, A', o', a1, a2, a3, a4⟩
  have HE : Hid (Below w.heap.size w w3 ∧ ∀ k, k < w.heap.size → o' k = 0) := by
    have hs := HB.out.size
    refine ⟨⟨a2.os.trans HB.out.os, a2.tape.trans HB.out.tape, a2.output.trans HB.out.output, Nat.le_trans hs a2.size, fun i hi => (a2.block i (by omega) ?_).trans (HB.out.block i hi)⟩, fun k hk => ?_⟩
    · show ¬ (if i < w.heap.size then 0 else 1) = 1
      rw [if_pos hi]
      decide
    · rw [a2.lab k (by omega)]
      show (if k < w.heap.size then 0 else 1) = 0
      rw [if_pos hk]
  have HX : Hid (ArL w3 o' (w.heap.size + 1) A' ∧ NxSt PR 3 (fun _ => 200000) A' ∧ FromR 3 (arNew 200000) A' ys id e') := ⟨a1, a3, a4⟩
  clear hF a1 a2 a3 a4
  go_wp2_with fail
  refine bodyPost_ret (v := .tuple #[.pointer (some ⟨w.heap.size + 1, 0, none⟩), .int .i64 id, .int .i64 e', .bool true]) ?_ rfl ⟨_, id, e', rfl, HE.out.1, A', o', HX.out.1, HE.out.2, HX.out.2.1, HX.out.2.2⟩
  simp [results, Tryz.results10, go_sem]
end Go.Proofs.YtofbcngcblleaaaGreat.A

namespace Go.Proofs.YtofbcngcblleaaaGreat.A
open Go.RowKit Go.Maps Go.Proofs.YtofbcngcblleaaaGreat.L
def fewP (p : Int × Int) : Int × Int := (p.1.tmod 20, p.2.tmod 20)
def fewL (zs : List (Int × Int)) : List (Int × Int) := (zs.take 40).map fewP
theorem fewL_len (zs : List (Int × Int)) : (fewL zs).length ≤ 40 := by simp [fewL]; omega
theorem fewL_near {zs : List (Int × Int)} {p : Int × Int} (hp : p ∈ fewL zs) : -(20 : Int) ≤ p.1 ∧ p.1 < 20 ∧ -(20 : Int) ≤ p.2 ∧ p.2 < 20 := by
  simp only [fewL, List.mem_map] at hp
  obtain ⟨q, _, rfl⟩ := hp
  have h1 := Int.lt_tmod_of_pos q.1 (b := 20) (by omega)
  have h2 := Int.tmod_lt_of_pos q.1 (b := 20) (by omega)
  have h3 := Int.lt_tmod_of_pos q.2 (b := 20) (by omega)
  have h4 := Int.tmod_lt_of_pos q.2 (b := 20) (by omega)
  simp only [fewP]
  omega
theorem fewL_code (zs : List (Int × Int)) : tcode (fewL zs) = 0 := by
  unfold tcode
  have hl := fewL_len zs
  rw [if_neg (by omega), if_neg]
  simp only [Bool.not_eq_true, List.any_eq_false]
  intro p hp
  simp [near_far (K := 20) (by omega) (fewL_near hp)]
set_option maxHeartbeats 2000000 in
theorem few_none (a : Option Addr) (c : Nat) (w : World) : Calls Tryz.prog 9 #[.slice a 0 c] w fun e w' => e = .returned (.slice none 0 0) ∧ w' = w := by
  go_enter Tryz.func9, Tryz.ntmps9
  go_wp2
  refine wp_loop_rounds 1 ?_
  rw [rounds_succ]
  go_wp2
  go_ret
  exact ⟨rfl, rfl⟩
set_option maxRecDepth 100000 in
set_option maxHeartbeats 2000000 in
theorem few_some (b off n c : Nat) (zs : List (Int × Int)) (w : World) (hb : b < w.heap.size) (HL : Hid (zs.length = n)) (HH : Hid (HoldsR w b off zs)) :
    Calls Tryz.prog 9 #[.slice (some ⟨b, off, none⟩) n c] w fun e w' => ∃ u, e = .returned u ∧ Below w.heap.size w w' ∧ Kept w' w.heap.size u (fewL zs) := by
  obtain ⟨i0, hi, hz0, hz1, hz2⟩ := info_parts Tryz.info52
  go_enter Tryz.func9, Tryz.ntmps9
  go_wp2
  go_loopg [3, 4] 40 (fun gk s3 s4 wr => ∃ k : Nat, k + gk = 40 ∧ k ≤ n ∧ s4 = .int .i64 k ∧ Below w.heap.size w wr ∧ Kept wr w.heap.size s3 ((zs.take k).map fewP))
  case atStart => exact ⟨0, by omega, by omega, rfl, Below.refl _ _, Or.inl ⟨by simp, rfl⟩⟩
  case round =>
    obtain ⟨k, hk, hkn, rfl, hbr, hkept⟩ := hrel
    have HK : Hid (k + gk = 40) := hk
    have KP : Hid (Kept wr w.heap.size u3 ((zs.take k).map fewP)) := hkept
    have hk300 : k ≤ 40 := by omega
    have hsz := hbr.size
    clear hk hkept
    by_cases hlt : k < n
    · by_cases hlt2 : k < 40
      · obtain ⟨c0, c1⟩ := HH.out k (by rw [HL.out]; exact hlt)
        rw [← hbr.cell (p := ⟨b, off + k * 2, none⟩) hb] at c0
        rw [← hbr.cell (p := ⟨b, off + k * 2 + 1, none⟩) hb] at c1
        generalize hz : zs[k]! = z at c0 c1
        have HZ : Hid (zs[k]! = z) := hz
        clear hz
        obtain ⟨x, y⟩ := z
        simp only at c0 c1
        have hi1 : (0 : Int) ≤ (k : Int) := by omega
        have hi2 : (k : Int) < (n : Int) := by omega
        have hi3 : (k : Int) < 40 := by omega
        have hbw : b < wr.heap.size := Nat.lt_of_lt_of_le hb hsz
        have hww : w.heap.size ≤ wr.heap.size := hsz
        have OW : Hid (∀ o, (wr.alloc o).drew.ownsRow w.heap.size 52 2 u3 k (cellsL ((zs.take k).map fewP))) := fun o => by
          have h1 := Kept.owns KP.out
          rw [List.length_map, List.length_take, HL.out, Nat.min_eq_left hkn] at h1
          exact h1.alloc o
        go_wp2_with fail
        go_region_held3 (fun w' => w'.cell? ⟨b, off + k * 2, none⟩ = some (.int .i64 x) ∧ w'.cell? ⟨b, off + k * 2 + 1, none⟩ = some (.int .i64 y)) (first | go_keep | (exact ⟨grown_cell hgrow5 (Kept.owns KP.out) c0 hbw hb rfl, grown_cell hgrow5 (Kept.owns KP.out) c1 hbw hb rfl⟩))
          ((refine step_append_own _ (by rfl) _ _ 24 (by rfl) w.heap.size 52 i0 (.agg #[.int .i64 0, .int .i64 0]) 2 16 Tryz.underlying24 hi hz0 hz1 hz2 rfl (by decide) u3 k (cellsL ((zs.take k).map fewP)) (by rfl) (OW.out _) ⟨wr.heap.size, 0, none⟩ 1 1 [.int .i64 (x.tmod 20), .int .i64 (y.tmod 20)] (by rfl) rfl (cell_two_new _ _ _ _) (by intro u hu; simp at hu; rcases hu with rfl | rfl <;> rfl) (by unfold maxLen; omega) (by omega) (by simp; omega) ?_; intro v5 w5 hown5 hgrow5 hnil5))
        go_wp2_with fail
        go_roundg (gk - 1)
        case measure => have := HK.out; omega
        case rel =>
          have h1 := HK.out
          have hts : (zs.take (k + 1)).map fewP = (zs.take k).map fewP ++ [(x.tmod 20, y.tmod 20)] := by
            rw [List.take_succ_eq_append_getElem (by rw [HL.out]; exact hlt), List.map_append, ← getElem!_pos zs k, HZ.out]
            simp [fewP]
          refine ⟨k + 1, by omega, by omega, by go_num, (hbr.alloc hsz _).drew.grown hgrow5 (by simp; omega) (fun g hg => ((OW.out (.cells #[] 0)).lt g hg).1), Or.inr ⟨by rw [hts]; simp, ?_⟩⟩
          rw [hts, cellsL_append, List.length_append, List.length_map, List.length_take, HL.out, Nat.min_eq_left hkn]
          exact hown5
      · have hq : (k : Int) < (n : Int) := by omega
        have hq2 : ¬ (k : Int) < 40 := by omega
        have HKE : Hid (k = 40) := by show k = 40; omega
        clear hlt2 hk300 hlt
        go_wp2
        go_ret
        have hke := HKE.out
        refine ⟨_, rfl, hbr, ?_⟩
        rw [fewL, ← hke]
        exact KP.out
    · go_wp2
      go_ret
      refine ⟨_, rfl, hbr, ?_⟩
      have h1 := KP.out
      rw [List.take_of_length_le (by rw [HL.out]; omega)] at h1
      rw [fewL, List.take_of_length_le (by rw [HL.out]; omega)]
      exact h1
theorem few_any (v : Value) (zs : List (Int × Int)) (w : World) (h : RRow w v zs) :
    Calls Tryz.prog 9 #[v] w fun e w' => ∃ u, e = .returned u ∧ Below w.heap.size w w' ∧ Kept w' w.heap.size u (fewL zs) := by
  obtain ⟨a, c, rfl, hc, hm, ha, h⟩ := h
  rcases h with h0 | ⟨b, off, rfl, hlt, hp⟩
  · have hz : zs = [] := List.length_eq_zero_iff.1 h0
    subst hz
    exact (few_none a c w).mono fun e w' ⟨h1, h2⟩ => ⟨_, h1, by rw [h2]; exact Below.refl _ _, Or.inl ⟨by simp [fewL], rfl⟩⟩
  · exact few_some b off zs.length c zs w hlt rfl hp
end Go.Proofs.YtofbcngcblleaaaGreat.A

namespace Go.Proofs.YtofbcngcblleaaaGreat.A
open Go.RowKit Go.Maps Go.Proofs.YtofbcngcblleaaaGreat.L
set_option maxHeartbeats 1000000 in
theorem Steps_out (p : Value) (t rb rl id n : Int) (w : World) (hn : n < 0 ∨ 1073741824 < n) :
    Calls Tryz.prog 17 #[p, .int .i64 t, .agg #[.int .i64 rb, .int .i64 rl], .int .i64 id, .int .i64 n] w fun r w' => r = .returned (.tuple #[.int .i64 0, .int .i64 3]) ∧ Below w.heap.size w w' := by
  by_cases h0 : n < 0
  · clear hn
    go_enter Tryz.func17, Tryz.ntmps17
    go_wp2_with fail
    go_ret2
    exact ⟨rfl, (Below.refl _ _).alloc (Nat.le_refl _) _⟩
  · have h1 : 1073741824 < n := by omega
    clear hn
    go_enter Tryz.func17, Tryz.ntmps17
    go_wp2_with fail
    go_ret2
    exact ⟨rfl, (Below.refl _ _).alloc (Nat.le_refl _) _⟩
set_option maxHeartbeats 1000000 in
theorem Steps_bad (p : Value) (t rb rl id n : Int) (w : World) (h0 : 0 ≤ n) (h1 : n ≤ 1073741824) (hg : goodB rb rl = false) :
    Calls Tryz.prog 17 #[p, .int .i64 t, .agg #[.int .i64 rb, .int .i64 rl], .int .i64 id, .int .i64 n] w fun r w' => r = .returned (.tuple #[.int .i64 0, .int .i64 4]) ∧ Below w.heap.size w w' := by
  have hgd := fun W => good_any rb rl W
  rw [hg] at hgd
  have k0 : ¬ n < 0 := by omega
  have k1 : ¬ 1073741824 < n := by omega
  clear hg
  go_enter Tryz.func17, Tryz.ntmps17
  go_wp2_with fail
  refine (hgd _).mono ?_
  rintro r w1 ⟨rfl, b1⟩
  have HB : Hid (Below w.heap.size w w1) := ((Below.refl _ _).alloc (Nat.le_refl _) _).trans (b1.mono (by simp))
  go_wp2_with fail
  go_ret2
  exact ⟨rfl, HB.out⟩
set_option maxHeartbeats 1000000 in
theorem Leap_bad (p : Value) (t rb rl id j : Int) (w : World) (hg : goodB rb rl = false) :
    Calls Tryz.prog 11 #[p, .int .i64 t, .agg #[.int .i64 rb, .int .i64 rl], .int .i64 id, .int .i64 j] w fun r w' => r = .returned (.tuple #[.int .i64 0, .int .i64 4]) ∧ Below w.heap.size w w' := by
  have hgd := fun W => good_any rb rl W
  rw [hg] at hgd
  clear hg
  go_enter Tryz.func11, Tryz.ntmps11
  go_wp2_with fail
  refine (hgd _).mono ?_
  rintro r w1 ⟨rfl, b1⟩
  have HB : Hid (Below w.heap.size w w1) := ((Below.refl _ _).alloc (Nat.le_refl _) _).trans (b1.mono (by simp))
  go_wp2_with fail
  go_ret2
  exact ⟨rfl, HB.out⟩
set_option maxHeartbeats 1000000 in
theorem Leap_out (p : Value) (t rb rl id j : Int) (w : World) (hg : goodB rb rl = true) (hj : j < 0 ∨ 30 < j) :
    Calls Tryz.prog 11 #[p, .int .i64 t, .agg #[.int .i64 rb, .int .i64 rl], .int .i64 id, .int .i64 j] w fun r w' => r = .returned (.tuple #[.int .i64 0, .int .i64 3]) ∧ Below w.heap.size w w' := by
  have hgd := fun W => good_any rb rl W
  rw [hg] at hgd
  clear hg
  by_cases h0 : j < 0
  all_goals
    first | (have h1 : 30 < j := by omega) | skip
    clear hj
    go_enter Tryz.func11, Tryz.ntmps11
    go_wp2_with fail
    refine (hgd _).mono ?_
    rintro r w1 ⟨rfl, b1⟩
    have HB : Hid (Below w.heap.size w w1) := ((Below.refl _ _).alloc (Nat.le_refl _) _).trans (b1.mono (by simp))
    go_wp2_with fail
    go_ret2
    exact ⟨rfl, HB.out⟩
variable {w w1 : World} {o : Nat → Nat} {lb b t : Nat} {rb rl e : Int} {A A' : Ar} {q : Nat → Int} {g : Gr} {PR : (Bool → Nat → Bool) → Int → Prop}
set_option maxRecDepth 20000 in
set_option maxHeartbeats 4000000 in
theorem Leap_rel (hA : ArL w o b A) (hst : NxSt PR t q A) (ht : t < 64) (hgood : goodB rb rl = true) (hP : PR (lifeR rb rl) (rnum rb rl)) (id : Int) (m : Nat) (hm1 : 1 ≤ m) (hm : m ≤ 32) (hrt : Rt A t m id g) (j : Nat) (hj : j < 5)
    (hbig : ∀ s, s ≤ 2 ^ j → ∀ A' m' x', NxSt PR t q A' → Rt A' t m' x' (iter (lifeR rb rl) s g) → m' ≤ 34 → (cellsF A'.ths (m' + 1) x').length < 4611686018427387904) :
    Calls Tryz.prog 11 #[.pointer (some ⟨b, 0, none⟩), .int .i64 t, .agg #[.int .i64 rb, .int .i64 rl], .int .i64 id, .int .i64 j] w fun r w' => ∃ x e', r = .returned (.tuple #[.int .i64 x, .int .i64 e']) ∧ ∃ A' o', ArL w' o' b A' ∧ Ch (fun l => l = 1) o w o' w' ∧ NxSt PR t q A' ∧ StepsR PR rb rl t q A A' g (2 ^ j) x e' := by
  obtain ⟨g1, g2, g3⟩ := goodR_of hgood
  have hb0 : Below w.heap.size w (w.alloc (.cells #[.int .i64 rb, .int .i64 rl] 23)) := (Below.refl _ _).alloc (Nat.le_refl _) _
  have hx0 : (w.alloc (.cells #[.int .i64 rb, .int .i64 rl] 23)).heap[w.heap.size]? = some (.cells #[.int .i64 rb, .int .i64 rl] 23 (0, 0)) := heap_alloc_new w _
  have hs0 : w.heap.size < (w.alloc (.cells #[.int .i64 rb, .int .i64 rl] 23)).heap.size := by simp
  generalize hw0 : w.alloc (.cells #[.int .i64 rb, .int .i64 rl] 23) = w0 at *
  have hgd := fun W => good_any rb rl W
  rw [hgood] at hgd
  have hlev : ∀ W, Below w.heap.size w W → Calls Tryz.prog 30 #[.pointer (some ⟨b, 0, none⟩), .int .i64 t, .int .i64 id] W fun e w' => e = .returned (.tuple #[.int .i64 ((m + 1 : Nat) : Int), .int .i64 0]) ∧ Below W.heap.size W w' := fun W hW => by
    obtain ⟨F, hF, _⟩ := hA
    have hflt := hF.flt
    have := LevelP_any b t F id A W (hF.other hW.size fun k hk => hW.block k (hflt k hk)) hst.s ht (lev_fits hst.s hrt.lev)
    have hl : levelF A.ths t id = some ((m + 1 : Nat) : Int) := by rw [levelF_V]; exact hrt.lev
    rw [hl] at this
    exact this
  obtain ⟨pw, hpw⟩ : ∃ pw : Int, pw = ((2 ^ j : Nat) : Int) := ⟨_, rfl⟩
  have hn16 : 2 ^ j ≤ 2 ^ 4 := Nat.pow_le_pow_right (by omega) (by omega)
  have hstp : ∀ W, Below w.heap.size w W → Calls Tryz.prog 31 #[.pointer (some ⟨b, 0, none⟩), .int .i64 t, .agg #[.int .i64 rb, .int .i64 rl], .int .i64 id, .int .i64 pw] W fun r w' => ∃ x e', r = .returned (.tuple #[.int .i64 x, .int .i64 e']) ∧ ∃ A' o', ArL w' o' b A' ∧ Ch (fun l => l = 1) o w o' w' ∧ NxSt PR t q A' ∧ StepsR PR rb rl t q A A' g (2 ^ j) x e' := fun W hW => by
    have c : Ch (fun l => l = 1) o w (ext o w.heap.size 0) W := Ch.ofBelow hW 0
    have cA : ArL W (ext o w.heap.size 0) b A := hA.ch (L := fun _ => False) (Ch.ofBelow hW 0) fun h => h
    rw [hpw]
    refine (steps_rel cA hst ht ⟨g1, hP⟩ g2 g3 id m hm1 hm hrt (2 ^ j) (by omega) hbig).mono ?_
    rintro r w' ⟨x, e', rfl, A', o', a1, a2, a3, a4⟩
    exact ⟨x, e', rfl, A', o', a1, c.trans a2, a3, a4⟩
  have HST : Hid (∀ W, Below w.heap.size w W → Calls Tryz.prog 31 #[.pointer (some ⟨b, 0, none⟩), .int .i64 t, .agg #[.int .i64 rb, .int .i64 rl], .int .i64 id, .int .i64 pw] W fun r w' => ∃ x e', r = .returned (.tuple #[.int .i64 x, .int .i64 e']) ∧ ∃ A' o', ArL w' o' b A' ∧ Ch (fun l => l = 1) o w o' w' ∧ NxSt PR t q A' ∧ StepsR PR rb rl t q A A' g (2 ^ j) x e') := hstp
  have c0 : w0.cell? ⟨w.heap.size, 0, none⟩ = some (.int .i64 rb) := by rw [Lib.cell_of_heap hx0]; rfl
  have c1 : w0.cell? ⟨w.heap.size, 1, none⟩ = some (.int .i64 rl) := by rw [Lib.cell_of_heap hx0]; rfl
  have HKEEP : Hid (∀ W, Below w0.heap.size w0 W → W.cell? ⟨w.heap.size, 0, none⟩ = some (.int .i64 rb) ∧ W.cell? ⟨w.heap.size, 1, none⟩ = some (.int .i64 rl)) := fun W hW => by
    have := (hW.block w.heap.size hs0).trans hx0
    rw [Lib.cell_of_heap this, Lib.cell_of_heap this]
    exact ⟨rfl, rfl⟩
  have HB0 : Hid (Below w.heap.size w w0) := hb0
  have hlm : (2 : Int) ≤ ((m + 1 : Nat) : Int) := by omega
  have hlm2 : ((m + 1 : Nat) : Int) ≤ 42 := by omega
  obtain ⟨LV, hLV⟩ : ∃ L : Int, L = ((m + 1 : Nat) : Int) := ⟨_, rfl⟩
  rw [← hLV] at hlev hlm hlm2
  clear hA hst hrt hstp hbig hb0 hx0 hm1 hm g1 g2 g3 hgood hP hLV hs0 hn16
  have hj5 : j = 0 ∨ j = 1 ∨ j = 2 ∨ j = 3 ∨ j = 4 := by omega
  clear hj
  rcases hj5 with rfl | rfl | rfl | rfl | rfl
  all_goals
    first | (have hp2 : pw = 1 := hpw.trans (by decide)) | (have hp2 : pw = 2 := hpw.trans (by decide)) | (have hp2 : pw = 4 := hpw.trans (by decide)) | (have hp2 : pw = 8 := hpw.trans (by decide)) | (have hp2 : pw = 16 := hpw.trans (by decide)) | fail
    clear hpw
    subst hp2
    go_enter Tryz.func11, Tryz.ntmps11
    go_wp2_with fail
    refine (hgd _).mono ?_
    rintro r w1 ⟨rfl, b1⟩
    obtain ⟨d0, d1⟩ := HKEEP.out _ b1
    have hl1 := hlev w1 (HB0.out.trans (b1.mono HB0.out.size))
    go_wp2_with fail
    refine hl1.mono ?_
    rintro r w2 ⟨rfl, b2⟩
    have b12 := b1.trans (b2.mono b1.size)
    obtain ⟨d20, d21⟩ := HKEEP.out _ b12
    have hs2 := HST.out w2.drew (HB0.out.trans (b12.mono HB0.out.size)).drew
    clear hl1 d0 d1
    go_wp2_with fail
    go_region_with (go_at_call 31; refine hs2.mono ?_; rintro r w3 ⟨x, e', rfl, HO⟩; have HOO : Hid (∃ A' o', ArL w3 o' b A' ∧ Ch (fun l => l = 1) o w o' w3 ∧ NxSt PR t q A' ∧ StepsR PR rb rl t q A A' g _ x e') := HO; clear HO)
    all_goals
      go_wp2_with fail
      go_ret2
      exact ⟨x, e', rfl, HOO.out⟩
end Go.Proofs.YtofbcngcblleaaaGreat.A

namespace Go.Proofs.YtofbcngcblleaaaGreat.F
open Go.RowKit Go.Proofs.YtofbcngcblleaaaGreat.L Go.Proofs.YtofbcngcblleaaaGreat.A
def StepsTo (b l : Int) (zs : List (Int × Int)) : Nat → Int → List (Int × Int) → Prop
  | 0, c, ts => c = tcode zs ∧ Tidied zs ts
  | m + 1, c, ts => ∃ c' ts', StepsTo b l zs m c' ts' ∧ ((c' ≠ 0 ∧ c = c' ∧ ts = []) ∨ (c' = 0 ∧ NextIs b l ts' c ts))
def RunIs (b l : Int) (zs : List (Int × Int)) (n : Int) (c : Int) (ts : List (Int × Int)) : Prop :=
  if n < 0 ∨ 256 < n then c = 3 ∧ ts = [] else if goodB b l = false then c = 4 ∧ ts = [] else StepsTo b l zs n.toNat c ts
def SaysR (b l : Int) (zs : List (Int × Int)) (n : Int) (w : World) (e : Ending) (w' : World) : Prop :=
  ∃ u c ts, e = .returned (.tuple #[u, .int .i64 c]) ∧ Below w.heap.size w w' ∧ OwnR w' w.heap.size u ts ∧ RunIs b l zs n c ts
set_option maxHeartbeats 1000000 in
theorem refRun_out (b l n : Int) (v : Value) (zs : List (Int × Int)) (w : World) (hn : n < 0 ∨ 256 < n) :
    Calls Tryz.prog 13 #[.agg #[.int .i64 b, .int .i64 l], v, .int .i64 n] w fun e w' => SaysR b l zs n w e w' := by
  have HN : Hid (n < 0 ∨ 256 < n) := hn
  by_cases h0 : n < 0
  · clear hn
    go_enter Tryz.func13, Tryz.ntmps13
    go_wp2_with fail
    go_ret2
    exact ⟨_, _, [], rfl, (Below.refl _ _).alloc (Nat.le_refl _) _, OwnR.nil _ _, by unfold RunIs; rw [if_pos HN.out]; exact ⟨rfl, rfl⟩⟩
  · have h1 : 256 < n := by omega
    clear hn
    go_enter Tryz.func13, Tryz.ntmps13
    go_wp2_with fail
    go_ret2
    exact ⟨_, _, [], rfl, (Below.refl _ _).alloc (Nat.le_refl _) _, OwnR.nil _ _, by unfold RunIs; rw [if_pos HN.out]; exact ⟨rfl, rfl⟩⟩
set_option maxHeartbeats 1000000 in
theorem refRun_bad (b l n : Int) (v : Value) (zs : List (Int × Int)) (w : World) (h0 : 0 ≤ n) (h1 : n ≤ 256) (hg : goodB b l = false) :
    Calls Tryz.prog 13 #[.agg #[.int .i64 b, .int .i64 l], v, .int .i64 n] w fun e w' => SaysR b l zs n w e w' := by
  have hgd := fun W => refGood_any b l W
  have q0 := RuleIn.born w b l 23
  rw [hg] at hgd
  have HGD : Hid (goodB b l = false) := hg
  have k0 : ¬ n < 0 := by omega
  have k1 : ¬ 256 < n := by omega
  clear hg
  go_enter Tryz.func13, Tryz.ntmps13
  go_wp2_with fail
  refine (hgd _).mono ?_
  rintro e w1 ⟨rfl, c1⟩
  have b1 := (q0.go c1).2.2.2.2.2
  go_wp2_with fail
  go_ret2
  exact ⟨_, _, [], rfl, b1, OwnR.nil _ _, by unfold RunIs; rw [if_neg (by omega), if_pos HGD.out]; exact ⟨rfl, rfl⟩⟩
set_option maxRecDepth 4000 in
set_option maxHeartbeats 2000000 in
theorem refRun_good (b l : Int) (v : Value) (zs : List (Int × Int)) (hg : goodB b l = true) : ∀ (m : Nat) (w : World), m ≤ 256 → RRow w v zs →
    Calls Tryz.prog 13 #[.agg #[.int .i64 b, .int .i64 l], v, .int .i64 (m : Int)] w fun e w' => SaysR b l zs (m : Int) w e w'
  | 0, w, _, h => by
    have hgd := fun W => refGood_any b l W
    have q0 := RuleIn.born w b l 23
    have HV : Hid (RRow w v zs) := h
    rw [hg] at hgd
    have HGD : Hid (goodB b l = true) := hg
    clear hg h
    go_enter Tryz.func13, Tryz.ntmps13
    go_wp2_with fail
    refine (hgd _).mono ?_
    rintro e w1 ⟨rfl, c1⟩
    have b1 := (q0.go c1).2.2.2.2.2
    have hTa := refTidy_own v zs w1 (HV.out.below b1)
    go_wp2_with fail
    refine hTa.mono ?_
    rintro e w2 ⟨va, ys, rfl, c2, ht2, hr2⟩
    have HT : Hid (Tidied zs ys ∧ OwnR w2 w.heap.size va ys) := ⟨ht2, (OwnR.of hr2).low b1.size⟩
    clear ht2 hr2 hTa
    go_wp2_with fail
    go_ret2
    exact ⟨va, _, ys, rfl, b1.trans (c2.mono b1.size), HT.out.2, by unfold RunIs; rw [if_neg (by simp), if_neg (by rw [HGD.out]; simp)]; exact ⟨rfl, HT.out.1⟩⟩
  | m + 1, w, hm, h => by
    have ih := fun W (hW : RRow W v zs) => refRun_good b l v zs hg m W (by omega) hW
    have hgd := fun W => refGood_any b l W
    have q0 := RuleIn.born w b l 23
    have HV : Hid (RRow w v zs) := h
    rw [hg] at hgd
    have HGD : Hid (goodB b l = true) := hg
    clear hg h
    have k0 : ¬ ((m + 1 : Nat) : Int) < 0 := by omega
    have k1 : ¬ 256 < ((m + 1 : Nat) : Int) := by omega
    have k2 : ¬ ((m + 1 : Nat) : Int) = 0 := by omega
    have k3 : ((m + 1 : Nat) : Int) - 1 = (m : Int) := by omega
    obtain ⟨N, hN⟩ : ∃ N : Int, N = ((m + 1 : Nat) : Int) := ⟨_, rfl⟩
    rw [← hN] at k0 k1 k2 k3 ⊢
    have HN : Hid (N = ((m + 1 : Nat) : Int)) := hN
    clear hN
    go_enter Tryz.func13, Tryz.ntmps13
    go_wp2_with fail
    refine (hgd _).mono ?_
    rintro e w1 ⟨rfl, c1⟩
    have q1 := q0.go c1
    obtain ⟨r0, r1, _⟩ := id q1
    have b1 := q1.2.2.2.2.2
    have hI := ih w1 (HV.out.below b1)
    clear ih hgd q0 c1
    go_wp2_with fail
    refine hI.mono ?_
    rintro e w2 ⟨va, cc, ys, rfl, c2, hr2, hs2⟩
    have q2 := q1.go c2
    have HS : Hid (RunIs b l zs (m : Int) cc ys ∧ Row w2 va ys) := ⟨hs2, hr2.1⟩
    obtain ⟨t0, t1, _⟩ := id q2
    have b2 := q2.2.2.2.2.2
    have HSt : Hid (StepsTo b l zs m cc ys) := by
      show StepsTo b l zs m cc ys
      have h := hs2
      unfold RunIs at h
      rw [if_neg (by omega), if_neg (by rw [HGD.out]; simp)] at h
      simpa using h
    clear hs2 hr2 hI r0 r1 q1 q2 b1 c2
    by_cases hcc : cc = 0
    · have hnx := refNext_says b l va ys w2 HS.out.2.isRow
      subst hcc
      go_wp2_with fail
      refine hnx.mono ?_
      rintro e w3 ⟨vb, cd, us, rfl, c3, hr3, hs3⟩
      have HX : Hid (OwnR w3 w.heap.size vb us ∧ NextIs b l ys cd us) := ⟨hr3.low b2.size, hs3⟩
      clear hr3 hs3 hnx
      go_wp2_with fail
      go_ret2
      exact ⟨vb, cd, us, rfl, b2.trans (c3.mono b2.size), HX.out.1, by unfold RunIs; rw [HN.out, if_neg (by omega), if_neg (by rw [HGD.out]; simp)]; exact ⟨0, ys, HSt.out, Or.inr ⟨rfl, HX.out.2⟩⟩⟩
    · have hne : (cc != 0) = true := by simpa using hcc
      have HCC : Hid (cc ≠ 0) := hcc
      clear hcc
      go_wp2_with fail
      go_ret2
      exact ⟨_, cc, [], rfl, b2, OwnR.nil _ _, by unfold RunIs; rw [HN.out, if_neg (by omega), if_neg (by rw [HGD.out]; simp)]; exact ⟨cc, ys, HSt.out, Or.inl ⟨HCC.out, rfl, rfl⟩⟩⟩
theorem refRun_says (b l n : Int) (v : Value) (zs : List (Int × Int)) (w : World) (h : RRow w v zs) :
    Calls Tryz.prog 13 #[.agg #[.int .i64 b, .int .i64 l], v, .int .i64 n] w fun e w' => SaysR b l zs n w e w' := by
  by_cases hn : n < 0 ∨ 256 < n
  · exact refRun_out b l n v zs w hn
  · by_cases hg : goodB b l = true
    · obtain ⟨m, rfl⟩ := Int.eq_ofNat_of_zero_le (show 0 ≤ n by omega)
      exact refRun_good b l v zs hg m w (by omega) h
    · exact refRun_bad b l n v zs w (by omega) (by omega) (by simpa using hg)
end Go.Proofs.YtofbcngcblleaaaGreat.F

namespace Go.Proofs.YtofbcngcblleaaaGreat.F
open Go.RowKit Go.Maps Go.Proofs.YtofbcngcblleaaaGreat.L Go.Proofs.YtofbcngcblleaaaGreat.A
theorem flen_cons {α : Type} (f : α → Bool) (a : α) (l : List α) : ((a :: l).filter f).length = b2n (f a) + (l.filter f).length := by
  rw [List.filter_cons]
  cases h : f a
  · simp [b2n]
  · simp [b2n]; omega
theorem around_nbr {ys : List (Int × Int)} (h : ys.Nodup) (x y : Int) : around ys (x, y) = (nbr (cellsG ys) x y : Int) := by
  rw [← eight_is ys (x, y) h]
  unfold eightTo
  rw [nine_but]
  simp only [flen_cons, List.filter_nil, List.length_nil]
  unfold nbr cellsG
  omega
theorem next_plane {b l : Int} {ys out : List (Int × Int)} (hn : ys.Nodup) (h : NextSet b l ys out) : cellsG out = L.stepG (lifeR b l) (cellsG ys) := by
  funext x y
  have h1 := h.2 (x, y)
  rw [lv_around, around_nbr hn] at h1
  show decide ((x, y) ∈ out) = livesB b l (decide ((x, y) ∈ ys)) (nbr (cellsG ys) x y)
  cases hv : livesB b l (decide ((x, y) ∈ ys)) (nbr (cellsG ys) x y) with
  | true => exact decide_eq_true (h1.2 hv)
  | false => exact decide_eq_false fun hm => by rw [h1.1 hm] at hv; cases hv
theorem cellsG_ext {a b : List (Int × Int)} (h : ∀ p, p ∈ a ↔ p ∈ b) : cellsG a = cellsG b := by
  funext x y
  unfold cellsG
  simp only [h]
theorem tidied_plane {zs ts : List (Int × Int)} (h : Tidied zs ts) (hc : tcode zs = 0) : cellsG ts = cellsG zs := cellsG_ext fun p => by rw [h.2 p]; simp [hc]
theorem tidied_ok {zs ts : List (Int × Int)} (h : Tidied zs ts) (hc : tcode zs = 0) : tcode ts = 0 := tcode_zero.2 ⟨tidied_short h hc, tidied_near h⟩
theorem steps_plane {b l : Int} {zs : List (Int × Int)} : ∀ {m : Nat} {ts : List (Int × Int)}, StepsTo b l zs m 0 ts → tcode ts = 0 ∧ Tidy ts ∧ cellsG ts = iter (lifeR b l) m (cellsG zs)
  | 0, ts, h => ⟨tidied_ok h.2 h.1.symm, h.2.1, tidied_plane h.2 h.1.symm⟩
  | m + 1, ts, ⟨c', ts', h1, h2⟩ => by
    rcases h2 with ⟨a1, a2, _⟩ | ⟨a1, a2⟩
    · exact absurd a2.symm a1
    · subst a1
      obtain ⟨_, _, i3⟩ := steps_plane h1
      rcases a2 with ⟨_, e, _⟩ | ⟨_, e1, e2, _⟩ | ⟨_, k2, ys, out, k3, k4, k5, k6⟩
      · cases e
      · exact absurd e2.symm e1
      · refine ⟨tidied_ok k6 k5.symm, k6.1, ?_⟩
        rw [tidied_plane k6 k5.symm, next_plane (tidy_nodup k3.1) k4, tidied_plane k3 k2, i3, ← iter_add m 1]
        rfl
end Go.Proofs.YtofbcngcblleaaaGreat.F

namespace Go.Proofs.YtofbcngcblleaaaGreat.A
open Go.RowKit Go.Maps Go.Proofs.YtofbcngcblleaaaGreat.L
variable {R : Bool → Nat → Bool} {rn : Int} {g : Gr} {PR : (Bool → Nat → Bool) → Int → Prop} {A A' : Ar}
theorem from_fine3 {ys : List (Int × Int)} {p e' : Int} (hst : NxSt PR 3 (fun _ => 200000) A') (h : FromR 3 (arNew 200000) A' ys p e') (hl : ys.length ≤ 40) : e' = 0 ∧ A'.cnt 3 ≤ 1700 ∧ A'.lim 3 = 200000 ∧ ∃ N, 1 ≤ N ∧ Rt A' 3 N p (cellsG ys) ∧ LeastG (N + 1) (cellsG ys) := by
  obtain ⟨N, f1, f2, f3, f4, f5⟩ := h
  have h1 := from_count f4 hst (by omega) (by omega)
  have h0 : (arNew 200000).cnt 3 = 0 := rfl
  have h2 : (N + 1) * ys.length ≤ 41 * 40 := Nat.mul_le_mul (by omega) hl
  have h3 : A'.lim 3 = 200000 := f4.lim.trans rfl
  have hne : ¬ Er e' := gx_fine f4 hst (by show A'.cnt 3 < 200000; omega) (by omega)
  rcases f5 with ⟨h, _⟩ | ⟨h, hrt⟩
  · exact absurd h hne
  · exact ⟨h, by omega, h3, N, f2, hrt, from_least f2 f1 hrt⟩
def Near20 (g : Gr) : Prop := ∀ X Y, g X Y = true → (0 : Int) - (20 : Nat) ≤ X ∧ X < 0 + (20 : Nat) ∧ (0 : Int) - (20 : Nat) ≤ Y ∧ Y < 0 + (20 : Nat)
theorem few_near20 {zs ys : List (Int × Int)} (h : Tidied (fewL zs) ys) : Near20 (cellsG ys) := fun X Y hXY => by
  have h1 : (X, Y) ∈ ys := by unfold cellsG at hXY; simpa using hXY
  have := fewL_near ((h.2 (X, Y)).1 h1).1
  simp only at this
  omega
theorem steps_fine3 {e' : Int} {S1 : Item → Prop} {n : Nat} (h4 : NxSt PR 3 (fun _ => 200000) A') (k : Gx 3 A A' 0 e' (StepsD R rn S1 g n)) (hR : R false 0 = false) (hn : n < 40) (hg1 : Near20 g) (hc : A.cnt 3 ≤ 1700) (hl : A.lim 3 = 200000) : ¬ Er e' := by
  have hcnt := gx_count k h4 (by omega) (boxL R g rn 20 9 0 0 n) fun i hi => box_steps hR hg1 (LM := 9) (by omega) (by omega) (fun T N hT hL => by
    have := box_level (M := 6) hR hg1 (by omega) (fun z hz => by omega) hL
    omega) hi
  have b1 := boxN_steps n hn
  rw [boxL_len] at hcnt
  have hl' : A'.lim 3 = 200000 := k.lim.trans hl
  exact gx_fine k h4 (by show A'.cnt 3 < 200000; omega) (by omega)
theorem run_big20 {q : Nat → Int} (hR : R false 0 = false) (hg : Near20 g) {s : Nat} (hs : s < 40) {A : Ar} {m : Nat} {x : Int} (h1 : NxSt PR 3 q A) (h2 : Rt A 3 m x (iter R s g)) : (cellsF A.ths (m + 1) x).length < 4611686018427387904 := by
  have h3 := cells_few h1 (by omega) h2 (sqC (-80) (-80) 160) fun X Y hXY => by
    have := box_live hR hg s X Y hXY
    exact sqC_in (by omega) (by omega) (by omega) (by omega)
  rw [sqC_len] at h3
  omega
theorem least20 (hR : R false 0 = false) (hg : Near20 g) {s N : Nat} (hs : s < 40) (hL : LeastG (N + 1) (iter R s g)) : N ≤ 6 :=
  box_level (M := 6) hR hg (by omega) (fun z hz => by omega) hL
theorem cells_told {w w' : World} {x : Ending} {zs ts : List (Int × Int)} {b l : Int} {k : Nat} (h : CellsR (iter (lifeR b l) k (cellsG zs)) w x w') (hs : F.StepsTo b l zs k 0 ts) : ∃ u, x = .returned (.tuple #[u, .int .i64 0]) ∧ ORow w' w.heap.size u ts ∧ Below w.heap.size w w' := by
  obtain ⟨h1, h2, h3⟩ := F.steps_plane hs
  obtain ⟨z1, hz, nd, hC⟩ := h
  have hmem : ∀ p, p ∈ ts ↔ p ∈ z1 := fun p => by
    rw [hz p, ← h3]
    unfold cellsG
    simp
  have hlen := (F.perm_of (F.tidy_nodup h2) nd hmem).length_eq
  have ht := F.tcode_zero.1 h1
  rcases hC with ⟨hbig, _⟩ | ⟨_, u, ys1, he, t1, r1, hb⟩
  · omega
  · obtain ⟨e1, e2⟩ := same_tidied hmem hlen t1 (near_tidied h2 ht.1 ht.2).2
    rw [← e1, h1] at he
    rw [← e2] at r1
    exact ⟨u, he, r1, hb⟩
end Go.Proofs.YtofbcngcblleaaaGreat.A

namespace Go.Proofs.YtofbcngcblleaaaGreat.A
open Go.RowKit Go.Lib Go.Sort
set_option maxHeartbeats 1000000 in
theorem sameC_nil (w : World) : Calls Tryz.prog 16 #[.slice none 0 0, .slice none 0 0] w fun e w' => e = .returned (.bool true) ∧ w' = w := by
  go_enter Tryz.func16, Tryz.ntmps16
  go_wp2
  refine wp_loop_rounds 1 ?_
  rw [rounds_succ]
  go_wp2
  go_ret
  exact ⟨rfl, rfl⟩
set_option maxHeartbeats 1000000 in
theorem sameC_some (b off c b' off' c' : Nat) (zs : List (Int × Int)) (w : World) (hn : zs.length ≤ 9223372036854775807) (h : HoldsR w b off zs) (h' : HoldsR w b' off' zs) :
    Calls Tryz.prog 16 #[.slice (some ⟨b, off, none⟩) zs.length c, .slice (some ⟨b', off', none⟩) zs.length c'] w fun e w' => e = .returned (.bool true) ∧ ∃ q, w' = w.drewN q := by
  have HA : Hid (HoldsR w b off zs) := h
  have HB : Hid (HoldsR w b' off' zs) := h'
  clear h h'
  generalize hl : zs.length = n at *
  have HL : Hid (zs.length = n) := hl
  clear hl
  go_enter Tryz.func16, Tryz.ntmps16
  go_wp2
  go_loopg [13] n (fun g s wr => ∃ k q : Nat, k + g = n ∧ s = .int .i64 k ∧ wr = w.drewN q)
  case atStart => exact ⟨0, 0, by omega, rfl, rfl⟩
  case round =>
    obtain ⟨k, q, hk, rfl, rfl⟩ := hrel
    have HK : Hid (k + gk = n) := hk
    have hkn : k ≤ n := by omega
    clear hk
    by_cases hlt : k < n
    · obtain ⟨c0, c1⟩ := HA.out k (by rw [HL.out]; exact hlt)
      obtain ⟨d0, d1⟩ := HB.out k (by rw [HL.out]; exact hlt)
      generalize zs[k]! = x at c0 c1 d0 d1
      have hi1 : (0 : Int) ≤ (k : Int) := by omega
      have hi2 : (k : Int) < (n : Int) := by omega
      have hne : ∀ w, (binOp .neq 52 (.agg #[.int .i64 x.1, .int .i64 x.2]) (.agg #[.int .i64 x.1, .int .i64 x.2])).run Tryz.prog w = .ok (.bool false) w := fun w => by rw [neP_run]; simp
      go_wp2
      go_region
      go_wp2
      go_roundg (gk - 1)
      case measure => have := HK.out; omega
      case rel => have := HK.out; exact ⟨k + 1, q + 1, by omega, by go_num, rfl⟩
    · go_wp2
      go_ret
      exact ⟨rfl, q, rfl⟩
theorem below_drewN2 (w : World) (q : Nat) : Below w.heap.size w (w.drewN q) := ⟨rfl, rfl, rfl, Nat.le_refl _, fun _ _ => rfl⟩
theorem sameC_any (v u : Value) (zs : List (Int × Int)) (w : World) (h : Row w v zs) (h' : Row w u zs) : Calls Tryz.prog 16 #[v, u] w fun e w' => e = .returned (.bool true) ∧ Below w.heap.size w w' := by
  rcases h with ⟨rfl, rfl⟩ | ⟨hz, b, off, c, rfl, _, hl, hm, hh⟩
  · rcases h' with ⟨_, rfl⟩ | ⟨hz, _⟩
    · exact (sameC_nil w).mono fun e w' ⟨he, hw⟩ => ⟨he, by rw [hw]; exact Below.refl _ _⟩
    · exact absurd rfl hz
  · rcases h' with ⟨e, _⟩ | ⟨_, b', off', c', rfl, _, _, _, hh'⟩
    · exact absurd e hz
    · unfold maxLen at hm
      exact (sameC_some b off c b' off' c' zs w (by omega) hh hh').mono fun e w' ⟨he, q, hw⟩ => ⟨he, by rw [hw]; exact below_drewN2 w q⟩
end Go.Proofs.YtofbcngcblleaaaGreat.A

namespace Go.Proofs.YtofbcngcblleaaaGreat.A
open Go.RowKit Go.Maps Go.Proofs.YtofbcngcblleaaaGreat.L
structure LwB (w W : World) (rb rl : Int) (vl : Value) (zs : List (Int × Int)) : Prop where
  rule : W.heap[w.heap.size]? = some (.cells #[.int .i64 rb, .int .i64 rl] 23 (0, 0))
  row : Row W vl zs
  below : Below w.heap.size w W
theorem LwB.go {w W W' : World} {rb rl : Int} {vl : Value} {zs : List (Int × Int)} (h : LwB w W rb rl vl zs) (k : Below W.heap.size W W') : LwB w W' rb rl vl zs :=
  ⟨(k.block _ (Array.getElem?_eq_some_iff.1 h.rule).1).trans h.rule, h.row.below k, h.below.trans (k.mono h.below.size)⟩
theorem LwB.rule0 {w W : World} {rb rl : Int} {vl : Value} {zs : List (Int × Int)} (h : LwB w W rb rl vl zs) : W.cell? ⟨w.heap.size, 0, none⟩ = some (.int .i64 rb) ∧ W.cell? ⟨w.heap.size, 1, none⟩ = some (.int .i64 rl) :=
  ⟨by rw [Lib.cell_of_heap h.rule]; rfl, by rw [Lib.cell_of_heap h.rule]; rfl⟩
theorem lwB_first {w w1 : World} {rb rl : Int} {vl : Value} {zs : List (Int × Int)} (c : Below (w.alloc (.cells #[.int .i64 rb, .int .i64 rl] 23)).heap.size (w.alloc (.cells #[.int .i64 rb, .int .i64 rl] 23)) w1) (k : Kept w1 (w.alloc (.cells #[.int .i64 rb, .int .i64 rl] 23)).heap.size vl zs) : LwB w w1 rb rl vl zs :=
  ⟨(c.block w.heap.size (by simp)).trans (heap_alloc_new w _), k.row, ((Below.refl _ _).alloc (Nat.le_refl _) _).trans (c.mono (by simp))⟩
theorem LwB.mv {w W W' : World} {o : Nat → Nat} {b : Nat} {rb rl : Int} {vl : Value} {zs : List (Int × Int)} {A : Ar} (h : LwB w W rb rl vl zs) (k : Below W.heap.size W W') (hA : ArL W' o b A) (hl : ∀ k, k < W.heap.size → o k = 0) : MvL w W' o b w.heap.size rb rl A [(vl, zs)] := by
  have hlt := (Array.getElem?_eq_some_iff.1 h.rule).1
  refine ⟨hA, (h.go k).rule, by rw [hl _ hlt]; decide, fun x hx => ?_, (h.go k).below, fun i hi => by rw [hl i (Nat.lt_of_lt_of_le hi h.below.size)]; decide⟩
  simp only [List.mem_singleton] at hx
  subst hx
  rcases h.row with h | ⟨h0, b, off, c, h1, h2, h3, h4, h5⟩
  · exact Or.inl h
  · have hb := k.block b h2
    exact Or.inr ⟨h0, b, off, c, h1, by rw [hl b h2]; decide, Nat.lt_of_lt_of_le h2 k.size, h3, h4, fun j hj => ⟨(World.cell?_of_block (a := ⟨b, off + j * 2, none⟩) hb).trans (h5 j hj).1, (World.cell?_of_block (a := ⟨b, off + j * 2 + 1, none⟩) hb).trans (h5 j hj).2⟩⟩
end Go.Proofs.YtofbcngcblleaaaGreat.A
