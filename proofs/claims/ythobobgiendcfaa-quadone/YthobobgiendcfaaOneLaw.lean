/- QuadOne: the law's walk. -/
import Derived.Test.YthobobgiendcfaaSqKeep
import Derived.Test.YthobobgiendcfaaSqPut3
import Derived.Test.YthobobgiendcfaaPutsLaw
import Derived.Test.YthobobgiendcfaaWrapsLaw
namespace Go.Proofs.Ythobobgiendcfaa.A
open Go.RowKit Go.Maps

theorem least_nil {N : Nat} (h : LeastLv N []) : N = 2 := by
  have h1 := h.two
  rcases Nat.lt_or_ge 2 N with h2 | h2
  · exact absurd (fun p hp => by cases hp) (h.least 2 (Nat.le_refl _) h2)
  · omega

/-- between the rounds: an arena, a square of a level with the cells S -/
def OneSt (w : World) (lo hi b : Nat) (u : Value) (L : List (Int × Int)) (A0 : Ar) (S : List (Int × Int)) (o : Int) (lv K : Nat) (A : Ar) (F : Nat → Prop) (n : Nat) (wr : World) : Prop :=
  ArAt wr b F n A ∧ Inv A ∧ Pur A 1 K n ∧ Ext A0.ths A.ths ∧ levelF A.ths 1 o = some (lv : Int) ∧ (∀ p : Int × Int, p ∈ cellsF A.ths lv o ↔ (p.1 - (halfN lv : Int), p.2 - (halfN lv : Int)) ∈ S) ∧ RowIn wr lo hi u L ∧ (∀ k, lo ≤ k → k < hi → ¬ F k) ∧ (∀ k, F k → w.heap.size ≤ k) ∧ Below w.heap.size w wr ∧ hi ≤ wr.heap.size
theorem OneSt.below {w : World} {lo hi b : Nat} {u : Value} {L : List (Int × Int)} {A0 : Ar} {S : List (Int × Int)} {o : Int} {lv K : Nat} {A : Ar} {F : Nat → Prop} {n : Nat} {wr wr' : World} (h : OneSt w lo hi b u L A0 S o lv K A F n wr) (hb : Below wr.heap.size wr wr') : OneSt w lo hi b u L A0 S o lv K A F n wr' := by
  obtain ⟨h1, h2, h3, h4, h5, h6, h7, h8, h9, h10, h11⟩ := h
  exact ⟨h1.below hb, h2, h3, h4, h5, h6, h7.apart (apart_of_below hb F) h8, h8, h9, h10.trans (hb.mono h10.size), Nat.le_trans h11 hb.size⟩
theorem OneSt.less {w : World} {lo hi b : Nat} {u : Value} {L : List (Int × Int)} {A0 : Ar} {S : List (Int × Int)} {o : Int} {lv K K' : Nat} {A : Ar} {F : Nat → Prop} {n : Nat} {wr : World} (h : OneSt w lo hi b u L A0 S o lv K A F n wr) (hk : K' ≤ K) : OneSt w lo hi b u L A0 S o lv K' A F n wr := by
  obtain ⟨h1, h2, h3, h4⟩ := h
  exact ⟨h1, h2, h3.less hk, h4⟩
theorem OneSt.next {w : World} {lo hi b : Nat} {u : Value} {L : List (Int × Int)} {A0 : Ar} {S S' : List (Int × Int)} {o o' : Int} {lv lv' K K' : Nat} {A A' : Ar} {F F' : Nat → Prop} {n n' : Nat} {wr wr' : World} {N : List Int} (h : OneSt w lo hi b u L A0 S o lv K A F n wr)
    (hA : ArAt wr' b F' n' A') (hF : ∀ k, F' k → F k ∨ wr.heap.size ≤ k) (P : Apart F wr wr') (hI : Inv A') (hP : Pur A' 1 K' n') (g : Gain 1 A A' N) (hl : levelF A'.ths 1 o' = some (lv' : Int)) (hc : ∀ p : Int × Int, p ∈ cellsF A'.ths lv' o' ↔ (p.1 - (halfN lv' : Int), p.2 - (halfN lv' : Int)) ∈ S') :
    OneSt w lo hi b u L A0 S' o' lv' K' A' F' n' wr' := by
  obtain ⟨h1, h2, h3, h4, h5, h6, h7, h8, h9, h10, h11⟩ := h
  refine ⟨hA, hI, hP, h4.trans g.ext, hl, hc, h7.apart P h8, fun k k1 k2 e => ?_, fun k e => ?_, below_apart h10 P h9, Nat.le_trans h11 P.size⟩
  · rcases hF k e with e | e
    · exact h8 k k1 k2 e
    · omega
  · rcases hF k e with e | e
    · exact h9 k e
    · exact Nat.le_trans h10.size e
theorem HoldsR.drop {w : World} {b off : Nat} {zs : List (Int × Int)} (h : HoldsR w b off zs) (k : Nat) : HoldsR w b (off + k * 2) (zs.drop k) := fun j hj => by
  rw [List.length_drop] at hj
  have := h (k + j) (by omega)
  rw [getElem!_pos zs (k + j) (by omega)] at this
  rw [getElem!_pos (zs.drop k) j (by rw [List.length_drop]; omega), List.getElem_drop]
  rw [show off + k * 2 + j * 2 = off + (k + j) * 2 by omega]
  exact this
theorem HoldsR.take {w : World} {b off : Nat} {zs : List (Int × Int)} (h : HoldsR w b off zs) (k : Nat) : HoldsR w b off (zs.take k) := fun j hj => by
  have hj' : j < k ∧ j < zs.length := by simp at hj; omega
  have := h j hj'.2
  rw [getElem!_pos zs j hj'.2] at this
  rw [getElem!_pos (zs.take k) j hj, List.getElem_take]
  exact this

/-- a cell nearer to 0 than 2^20 is reached from level 21 on -/
theorem near_reach {lv : Nat} {X Y : Int} (h : -1048576 ≤ X ∧ X < 1048576 ∧ -1048576 ≤ Y ∧ Y < 1048576) (hr : reachB lv X Y X Y = false) : lv ≤ 20 := by
  rcases Nat.lt_or_ge 20 lv with h1 | h1
  · exfalso
    have h2 : 2 ^ 20 ≤ halfN lv := Nat.pow_le_pow_right (by omega) (by omega)
    unfold reachB at hr
    have h3 := of_decide_eq_false hr
    omega
  · exact h1
theorem put_more {S : List (Int × Int)} {X Y : Int} : ∀ p, p ∈ S ++ [(X, Y)] ↔ (p = (X, Y) ∧ true = true) ∨ (p ≠ (X, Y) ∧ p ∈ S) := fun p => by
  rw [List.mem_append, List.mem_singleton]
  by_cases e : p = (X, Y) <;> simp [e]

set_option maxRecDepth 20000 in
set_option maxHeartbeats 8000000 in
theorem one_any (v : Value) (zs : List (Int × Int)) (at_ : Int) (w : World) (hrow : RRow w v zs) :
    Calls Try.prog 13 #[v, .int .i64 at_] w fun e w' => e = .returned (.bool true) ∧ Below w.heap.size w w' := by
  have c1 : ∀ W, RRow W v zs → Calls Try.prog 53 #[v, .int .i64 120, .int .i64 1048576] W fun e w' => ∃ u, e = .returned u ∧ Below W.heap.size W w' ∧ Kept w' W.heap.size u (someL 120 1048576 zs) := fun W h => some_any v zs 120 1048576 W h (by omega) (by omega) (by omega)
  have c4 := fun W => begun_any W
  go_enter Try.func13, Try.ntmps13
  go_wp2_with fail
  refine (c1 _ hrow).mono ?_
  rintro e w1 ⟨u1, rfl, hb1, hk1⟩
  have R1 := rowIn_kept hk1
  clear c1 hk1 hrow
  go_wp2_with fail
  refine (c4 _).mono ?_
  rintro e w2 ⟨b, F, rfl, hA2, hF2, hb2⟩
  have b2 : Below w.heap.size w w2 := hb1.trans (hb2.mono hb1.size)
  obtain ⟨L, hL⟩ : ∃ L, L = someL 120 1048576 zs := ⟨_, rfl⟩
  rw [← hL] at R1
  have hcode : tcode L = 0 := by rw [hL]; exact someL_code (by omega) (by omega) (by omega) zs
  have hlen : L.length ≤ 120 := by rw [hL]; exact someL_len _ _ _
  have HNEAR : Hid (∀ p ∈ L, -1048576 ≤ p.1 ∧ p.1 < 1048576 ∧ -1048576 ≤ p.2 ∧ p.2 < 1048576) := fun p hp => by
    have := someL_near (M := 120) (K := 1048576) (by omega) (by rw [← hL]; exact hp)
    omega
  obtain ⟨ys, hys⟩ := tidied_exists L
  have hyl : ys.length ≤ 120 := Nat.le_trans (tidied_len hys) hlen
  have R2 := R1.apart (apart_of_below hb2 F) (fun k _ h2 e => by have := hF2 k e; omega)
  have c5 := from_any b 1 1 30000 F arBegun u1 L ys w2 hA2 (by omega) begun_inv R2.row hcode hys (begun_pur 1 _ (by omega) (by omega))
  clear c4 hL
  go_wp2_with fail
  refine c5.mono ?_
  rintro e w3 ⟨p, rfl, A3, F3, n3, N3, lv, hA3, hF3, P3, hI3, hP3, g3, s3, hL3, hlv3, hl3, hc3⟩
  have b3 : Below w.heap.size w w3 := below_apart b2 P3 (fun k e => by have := hF2 k e; have := hb1.size; omega)
  have R3 := R2.apart P3 (fun k _ h2 e => by have := hF2 k e; omega)
  have hF3w : ∀ k, F3 k → w1.heap.size ≤ k := fun k e => by
    rcases hF3 k e with h | h
    · exact hF2 k h
    · have := hb2.size; omega
  have c6 := from_any b n3 1 20000 F3 A3 (.slice none 0 0) [] [] w3 hA3 (by omega) hI3 (Or.inl ⟨rfl, rfl⟩) rfl ⟨List.Pairwise.nil, fun p => by simp⟩ (hP3.less (by simp))
  clear c5
  go_wp2_with fail
  refine c6.mono ?_
  rintro e w4 ⟨o, rfl, A4, F4, n4, N4, lv4, hA4, hF4, P4, hI4, hP4, g4, _, hL4, hlv4, hl4, hc4⟩
  obtain rfl := least_nil hL4
  have b4 : Below w.heap.size w w4 := below_apart b3 P4 (fun k e => by have := hF3w k e; have := hb1.size; omega)
  have R4 := R3.apart P4 (fun k _ h2 e => by have := hF3w k e; omega)
  have hF4w : ∀ k, F4 k → w1.heap.size ≤ k := fun k e => by
    rcases hF4 k e with h | h
    · exact hF3w k h
    · have := hb2.size; have := P3.size; omega
  obtain ⟨ua, uc, rfl⟩ := row_shape R4.row
  clear c6 R1 R2 R3
  have HR4 : Hid (RowIn w4 w.heap.size w1.heap.size (.slice ua L.length uc) L) := R4
  have hs14 : w1.heap.size ≤ w4.heap.size := by have h1 := hb2.size; have h2 := P3.size; have h3 := P4.size; omega
  have HF4 : Hid (∀ k, F4 k → w1.heap.size ≤ k ∧ k < w4.heap.size) := fun k e => ⟨hF4w k e, hA4.flt k e⟩
  obtain ⟨ln, hln⟩ : ∃ n, n = L.length := ⟨_, rfl⟩
  rw [← hln] at HR4 hlen ⊢
  have HLN : Hid (ln = L.length) := hln
  clear hln R4
  go_upto_if 41 with fail
  go_cut [0, 11] from 39 to 53 (fun s0 s11 wc => ∃ (ra : Option Addr) (rc : Nat) (L2 : List (Int × Int)) (lo hi : Nat), s0 = .slice ra L2.length rc ∧ L2.length ≤ 120 ∧ (∀ p, p ∈ L2 ↔ p ∈ L) ∧ RowIn wc lo hi s0 L2 ∧ (∀ k, lo ≤ k → k < hi → ¬ F4 k) ∧ Below w4.heap.size w4 wc ∧ hi ≤ wc.heap.size)
  case first =>
    by_cases h0 : 0 < ln
    · have h1 : (0 : Int) < (ln : Int) := by omega
      obtain ⟨k, hkl, hk⟩ : ∃ k : Nat, k < ln ∧ spotI at_ (ln : Int) = (k : Int) := ⟨(spotI at_ ln).toNat, by have := spotI_bound at_ ln h1; omega, by have := spotI_bound at_ ln h1; omega⟩
      have c7 := fun W => spot_any at_ (ln : Int) W h1 (by omega)
      rw [hk] at c7
      obtain ⟨bb, off, hua, hbw, hcl, hcm, hh⟩ : ∃ bb off, ua = some ⟨bb, off, none⟩ ∧ bb < w1.heap.size ∧ ln ≤ uc ∧ uc ≤ maxLen ∧ HoldsR w4 bb off L := by
        rcases HR4.out with ⟨h, _⟩ | ⟨_, bb, off, c, hv, _, h4, _, h6, h7, h8⟩
        · rw [h] at HLN; have := HLN.out; simp at this; omega
        · simp only [Value.slice.injEq] at hv
          obtain ⟨rfl, _, rfl⟩ := hv
          exact ⟨bb, off, rfl, h4, by rw [HLN.out]; exact h6, h7, h8⟩
      subst hua
      have hd : (L.drop k).length = ln - k := by rw [List.length_drop, ← HLN.out]
      have hrd : Row w4 (.slice (some ⟨bb, off + k * 2, none⟩) (ln - k) (uc - k)) (L.drop k) := Or.inr ⟨fun e => by rw [e] at hd; simp at hd; omega, bb, off + k * 2, uc - k, by rw [hd], by omega, by rw [hd]; omega, by omega, HoldsR.drop hh k⟩
      have c8 : Hid (Calls Try.prog 56 #[.slice (some ⟨bb, off + k * 2, none⟩) (ln - k) (uc - k)] w4.drew fun e w' => ∃ u, e = .returned u ∧ Below w4.heap.size w4 w' ∧ Kept w' w4.heap.size u (L.drop k)) :=
        (kcells_any _ _ w4.drew hrd (by rw [hd]; omega)).mono fun e w' ⟨u, he, hbb, hkp⟩ => ⟨u, he, ⟨hbb.os, hbb.tape, hbb.output, hbb.size, hbb.block⟩, hkp⟩
      have hbb4 : bb < w4.heap.size := by omega
      have hs3 : ¬ uc = k := by omega
      have HH : Hid (HoldsR w4 bb off L ∧ (L.take k).length = k) := ⟨hh, by rw [List.length_take, ← HLN.out]; omega⟩
      have hk0 : (0 : Int) ≤ (k : Int) := by omega
      have hk1 : (k : Int) ≤ (ln : Int) := by omega
      have hk2 : (ln : Int) ≤ (uc : Int) := by omega
      have hk3 : (k : Int) ≤ (uc : Int) := by omega
      obtain ⟨i0, hi, hz0, hz1, hz2⟩ := info_parts Try.info87
      clear hh hrd hk hcl
      go_wp2_with fail
      refine (c7 _).mono ?_
      rintro e w4' ⟨rfl, hw⟩
      have hw' := hw.symm
      subst hw'
      clear c7 hw
      go_wp2_with fail
      go_region_held3 (fun _ => True) (exact trivial)
        (first | (go_at_call 56; refine (c8.out).mono ?_; rintro e w5 ⟨u5, rfl, hb5, hk5⟩) | (refine step_append_own _ (by rfl) _ _ 69 (by rfl) w4.heap.size 87 i0 (.agg #[.int .i64 0, .int .i64 0]) 2 16 Try.underlying69 hi hz0 hz1 hz2 rfl (by decide) u5 (L.drop k).length (cellsL (L.drop k)) (by rfl) (Kept.owns hk5) ⟨bb, off, none⟩ k uc (cellsL (L.take k)) (by rfl) (by rw [cellsL_length, HH.out.2]) (cells_at (fun j hj => by rw [hb5.cell (p := ⟨bb, off + j * 2, none⟩) hbb4, hb5.cell (p := ⟨bb, off + j * 2 + 1, none⟩) hbb4]; exact HoldsR.take HH.out.1 k j hj)) (cellsL_one _) (by unfold maxLen; omega) (by omega) hb5.size ?_; intro v6 w6 hown6 hgrow6 hnil6))
      have hk6 : Kept w6 w4.heap.size v6 (L.drop k ++ L.take k) := Or.inr ⟨fun e => by
        have h2 := congrArg List.length e
        rw [List.length_append, hd] at h2
        simp at h2
        omega, by
        rw [cellsL_append, List.length_append, HH.out.2]
        exact hown6⟩
      have b46 : Below w4.heap.size w4 w6 := hb5.grown hgrow6 hb5.size (fun g hg => ((Kept.owns hk5).lt g hg).1)
      have R6 := rowIn_kept hk6
      obtain ⟨ra, rc, rfl⟩ := row_shape R6.row
      have HR6 : Hid (RowIn w6 w4.heap.size w6.heap.size (.slice ra (L.drop k ++ L.take k).length rc) (L.drop k ++ L.take k)) := R6
      have HH2 : Hid ((L.drop k ++ L.take k).length ≤ 120 ∧ ∀ p, p ∈ L.drop k ++ L.take k ↔ p ∈ L) := ⟨by rw [List.length_append, hd, HH.out.2]; omega, fun p => by rw [List.mem_append, or_comm, ← List.mem_append, List.take_append_drop]⟩
      generalize L.drop k ++ L.take k = L2 at *
      clear hown6 hgrow6 hnil6 hk6 R6 hk5
      go_wp2_with fail
      go_meet
      case rel => exact ⟨ra, rc, L2, w4.heap.size, w6.heap.size, rfl, HH2.out.1, HH2.out.2, HR6.out, fun k h1 _ e => by have := (HF4.out k e).2; omega, b46, Nat.le_refl _⟩
    · have h1 : ¬ (0 : Int) < (ln : Int) := by omega
      have HH : Hid (ln ≤ 120) := hlen
      clear hlen h0
      go_wp2_with fail
      go_meet
      case rel => exact ⟨ua, uc, L, w.heap.size, w1.heap.size, by rw [HLN.out], by rw [← HLN.out]; exact HH.out, fun p => Iff.rfl, HR4.out, fun k _ h2 e => by have := (HF4.out k e).1; omega, Below.refl _ _, hs14⟩
  case rest =>
  obtain ⟨ra, rc, L2, lo, hi, rfl, hl2, hmem2, R5, hFr, hb5, hhi⟩ := hcut
  have HMEM : Hid (∀ p, p ∈ L2 ↔ p ∈ L) := hmem2
  have HST0 : Hid (OneSt w lo hi b (.slice ra L2.length rc) L2 A4 [] o 2 6820 A4 F4 n4 wc) := ⟨hA4.below hb5, hI4, hP4.less (by omega), Ext.refl _, hl4, hc4, R5, hFr, fun k e => by have := (HF4.out k e).1; have := hb1.size; omega, b4.trans (hb5.mono b4.size), hhi⟩
  have HROOT : Hid (LeastLv lv ys ∧ Tidied L ys ∧ tcode L = 0 ∧ Good A3.ths ∧ levelF A3.ths 1 p = some (lv : Int) ∧ Ext A3.ths A4.ths ∧ ∀ q : Int × Int, q ∈ cellsF A3.ths lv p ↔ (q.1 - (halfN lv : Int), q.2 - (halfN lv : Int)) ∈ ys) := ⟨hL3, hys, hcode, hI3.good, hl3, g4.ext, hc3⟩
  obtain ⟨n2, hn2⟩ : ∃ n, n = L2.length := ⟨_, rfl⟩
  rw [← hn2] at HST0 hl2 ⊢
  have HN2 : Hid (n2 = L2.length) := hn2
  clear hn2 hmem2 R5 hFr hb5 hhi hA4 hI4 hP4 hl4 hc4 hA3 hI3 hP3 hl3 hc3 hys hcode hL3 hL4 g3 g4 s3 P3 P4 hF3 hF4 hF3w hF4w HF4 HR4 hA2 hF2 hb2 b2 b3 b4 hlv3 hlv4 hs14 hyl hlen
  go_wp2_with fail
  go_loopg [9, 56] n2 (fun g s9 s56 wr => ∃ (i : Nat) (oo : Int) (lv : Nat) (A : Ar) (F : Nat → Prop) (n : Nat), i + g = n2 ∧ s56 = .int .i64 i ∧ s9 = .int .i64 oo ∧ 2 ≤ lv ∧ lv ≤ 21 ∧ OneSt w lo hi b (.slice ra n2 rc) L2 A4 (L2.take i) oo lv (46 * (120 - i) + 60 * (22 - lv) + 100) A F n wr)
  case atStart => exact ⟨0, o, 2, A4, F4, n4, by omega, rfl, rfl, by omega, by omega, HST0.out⟩
  case round =>
    obtain ⟨i, oo, lvo, A, F, n, hi', rfl, rfl, hv2, hv21, hst⟩ := hrel
    have HI : Hid (i + gk = n2) := hi'
    have hin : i ≤ n2 := by omega
    clear hi' HST0
    by_cases hlt : i < n2
    · have h0 : (0 : Int) ≤ (i : Int) := by omega
      have h1 : (i : Int) < (n2 : Int) := by omega
      obtain ⟨rb, roff, hra, hrb, hrbF, hx0, hy0⟩ : ∃ rb roff, ra = some (⟨rb, roff, none⟩ : Addr) ∧ rb < wr.heap.size ∧ ¬ F rb ∧ wr.cell? ⟨rb, roff + i * 2, none⟩ = some (.int .i64 (L2[i]!).1) ∧ wr.cell? ⟨rb, roff + i * 2 + 1, none⟩ = some (.int .i64 (L2[i]!).2) := by
        obtain ⟨_, _, _, _, _, _, h7, h8, _, _, h11⟩ := hst
        rcases h7 with ⟨h, _⟩ | ⟨_, bb, off, c, hv, hlo, hhi, _, _, _, hh⟩
        · have := HN2.out; rw [h] at this; simp at this; omega
        · simp only [Value.slice.injEq] at hv
          obtain ⟨rfl, _⟩ := hv
          obtain ⟨e0, e1⟩ := hh i (by rw [← HN2.out]; exact hlt)
          exact ⟨bb, off, rfl, by omega, h8 bb hlo hhi, e0, e1⟩
      subst hra
      have HIN : Hid (L2[i]! ∈ L2 ∧ L2.take (i + 1) = L2.take i ++ [L2[i]!]) := by
        have hl : i < L2.length := by rw [← HN2.out]; exact hlt
        rw [getElem!_pos L2 i hl]
        exact ⟨List.getElem_mem hl, List.take_succ_eq_append_getElem hl⟩
      obtain ⟨⟨X, Y⟩, hXY⟩ : ∃ q, q = L2[i]! := ⟨_, rfl⟩
      rw [← hXY] at hx0 hy0 HIN
      simp only at hx0 hy0
      have HLT : Hid (i < n2) := hlt
      have HST : Hid (OneSt w lo hi b (.slice (some ⟨rb, roff, none⟩) n2 rc) L2 A4 (L2.take i) oo lvo (46 * (120 - i) + 60 * (22 - lvo) + 100) A F n wr) := hst
      have HV : Hid (2 ≤ lvo ∧ lvo ≤ 21) := ⟨hv2, hv21⟩
      clear hXY hlt hst
      go_wp2_with fail
      obtain ⟨gK, hgK⟩ : ∃ a, a = gk := ⟨_, rfl⟩
      rw [← hgK] at HI
      subst hgK
      obtain ⟨wO, hwO⟩ : ∃ a, a = wr := ⟨_, rfl⟩
      subst hwO
      have HST1 : Hid (OneSt w lo hi b (.slice (some ⟨rb, roff, none⟩) n2 rc) L2 A4 (L2.take i) oo lvo (46 * (120 - i) + 60 * (22 - lvo) + 100) A F n (wO.alloc (.cells #[.int .i64 X, .int .i64 Y] 87))) := HST.out.below ((Below.refl _ _).alloc (Nat.le_refl _) _)
      have HCB : Hid ((wO.alloc (.cells #[.int .i64 X, .int .i64 Y] 87)).heap[wO.heap.size]? = some (.cells #[.int .i64 X, .int .i64 Y] 87 (0, 0)) ∧ ¬ F wO.heap.size) := ⟨heap_alloc_new wO _, fun e => by have := HST.out.1.flt _ e; omega⟩
      clear hx0 hy0 hrbF HST
      go_loopg [9, 60] 30 (fun g s9 s60 wr => ∃ (j : Nat) (o2 : Int) (lv2 : Nat) (A2 : Ar) (F2 : Nat → Prop) (n' : Nat), j + g = 30 ∧ s60 = .int .i64 j ∧ s9 = .int .i64 o2 ∧ lv2 = lvo + j ∧ lv2 ≤ 21 ∧ OneSt w lo hi b (.slice (some ⟨rb, roff, none⟩) n2 rc) L2 A4 (L2.take i) o2 lv2 (46 * (120 - i) + 60 * (22 - lv2) + 100) A2 F2 n' wr ∧ wr.heap[wO.heap.size]? = some (.cells #[.int .i64 X, .int .i64 Y] 87 (0, 0)) ∧ ¬ F2 wO.heap.size)
      case atStart => exact ⟨0, oo, lvo, A, F, n, by omega, rfl, rfl, by omega, HV.out.2, HST1.out, HCB.out.1, HCB.out.2⟩
      case round =>
        obtain ⟨j, o2, lv2, A2, F2, n', hj, rfl, rfl, hlv2, hlv21, hst2, hcb, hFc⟩ := hrel
        have HJ : Hid (j + gk = 30 ∧ lv2 = lvo + j) := ⟨hj, hlv2⟩
        have hj30 : (j : Int) < 30 := by have := HV.out; omega
        have hj2 : j < 30 := by omega
        have hx2 : wr.cell? ⟨wO.heap.size, 0, none⟩ = some (.int .i64 X) := Lib.cell_of_heap hcb 0
        have hy2 : wr.cell? ⟨wO.heap.size, 1, none⟩ = some (.int .i64 Y) := Lib.cell_of_heap hcb 1
        have HCB2 : Hid (wr.heap[wO.heap.size]? = some (.cells #[.int .i64 X, .int .i64 Y] 87 (0, 0)) ∧ ¬ F2 wO.heap.size) := ⟨hcb, hFc⟩
        have hlt2 : wO.heap.size < wr.heap.size := (Array.getElem?_eq_some_iff.1 hcb).1
        have HST2 : Hid (OneSt w lo hi b (.slice (some ⟨rb, roff, none⟩) n2 rc) L2 A4 (L2.take i) o2 lv2 (46 * (120 - i) + 60 * (22 - lv2) + 100) A2 F2 n' wr) := hst2
        obtain ⟨hA2, hI2, hP2, _, hl2', hc2, _⟩ := hst2
        obtain ⟨m', rfl⟩ : ∃ m', lv2 = m' + 1 := ⟨lv2 - 1, by have := HV.out; omega⟩
        have HLV : Hid (m' + 1 ≤ 21) := hlv21
        clear hcb hFc hlv2 hlv21 hj
        cases hr : reachB (m' + 1) X Y X Y with
        | true =>
          have c9 := Put_root b n' 1 (46 * (120 - (i + 1)) + 60 * (22 - (m' + 1)) + 100) m' o2 X Y true F2 A2 wr hA2 hI2 (by omega) hl2' (by have := HLV.out; omega) (hP2.less (by have := HLT.out; omega)) hr
          have HC2 : Hid (∀ q : Int × Int, q ∈ cellsF A2.ths (m' + 1) o2 ↔ (q.1 - (halfN (m' + 1) : Int), q.2 - (halfN (m' + 1) : Int)) ∈ L2.take i) := hc2
          clear hc2 hr hA2 hI2 hP2 hl2'
          go_wp2_with fail
          refine c9.mono ?_
          rintro e w5 ⟨o3, rfl, A3', F3', n3', N3', hA3, hF3, P3, hI3, hP3, g3, hl3, hc3⟩
          have HST3 : Hid (OneSt w lo hi b (.slice (some ⟨rb, roff, none⟩) n2 rc) L2 A4 (L2.take (i + 1)) o3 (m' + 1) (46 * (120 - (i + 1)) + 60 * (22 - (m' + 1)) + 100) A3' F3' n3' w5) := by
            refine HST2.out.next hA3 hF3 P3 hI3 hP3 g3 hl3 ?_
            rw [HIN.out.2]
            exact put_cells HC2.out hc3 put_more
          clear c9 hA3 hF3 P3 hI3 hP3 g3 hl3 hc3 hx2 hy2
          go_wp2_with fail
          go_roundg (gK - 1)
          case measure => have := HI.out; have := HLT.out; omega
          case rel => exact ⟨i + 1, o3, m' + 1, A3', F3', n3', by have := HI.out; have := HLT.out; omega, by go_num, rfl, by have := HJ.out.2; have := HV.out; omega, HLV.out, HST3.out⟩
        | false =>
          have HLV2 : Hid (m' + 1 ≤ 20) := near_reach (HNEAR.out _ ((HMEM.out _).1 HIN.out.1)) hr
          have c9 := Put_far b n' 1 0 m' o2 X Y true F2 A2 wr hA2 (by omega) hl2' (by have := HLV.out; omega) (hP2.less (by have := HLV2.out; omega)) hr
          have c10 := fun W h => Wrap_root b n' 1 (46 * (120 - i) + 60 * (22 - (m' + 1 + 1)) + 100) m' o2 F2 A2 W h hI2 (by omega) hl2' (by have := HLV.out; omega) (hP2.less (by have := HLV2.out; omega))
          have HC2 : Hid (∀ q : Int × Int, q ∈ cellsF A2.ths (m' + 1) o2 ↔ (q.1 - (halfN (m' + 1) : Int), q.2 - (halfN (m' + 1) : Int)) ∈ L2.take i) := hc2
          clear hc2 hr hP2 hl2'
          go_wp2_with fail
          refine c9.mono ?_
          rintro e w5 ⟨rfl, hA5, P5⟩
          have HST5 : Hid (OneSt w lo hi b (.slice (some ⟨rb, roff, none⟩) n2 rc) L2 A4 (L2.take i) o2 (m' + 1) (46 * (120 - i) + 60 * (22 - (m' + 1)) + 100) A2 F2 n' w5) := by
            obtain ⟨k1, k2, k3, k4, k5, k6, k7, k8, k9, k10, k11⟩ := HST2.out
            exact ⟨hA5, k2, k3, k4, k5, k6, k7.apart P5 k8, k8, k9, below_apart k10 P5 k9, Nat.le_trans k11 P5.size⟩
          have hcb5 : w5.heap[wO.heap.size]? = some (.cells #[.int .i64 X, .int .i64 Y] 87 (0, 0)) := (P5.block _ hlt2 HCB2.out.2).trans HCB2.out.1
          have HCB5 : Hid (w5.heap[wO.heap.size]? = some (.cells #[.int .i64 X, .int .i64 Y] 87 (0, 0)) ∧ wO.heap.size < w5.heap.size) := ⟨hcb5, Nat.lt_of_lt_of_le hlt2 P5.size⟩
          have c11 := c10 w5 hA5
          clear c9 c10 hcb5 hA2 hI2 hA5 P5 hx2 hy2
          go_wp2_with fail
          refine c11.mono ?_
          rintro e w6 ⟨o3, rfl, A3', F3', n3', N3', hA3, hF3, P3, hI3, hP3, g3, hl3, hc3⟩
          have HST3 : Hid (OneSt w lo hi b (.slice (some ⟨rb, roff, none⟩) n2 rc) L2 A4 (L2.take i) o3 (m' + 1 + 1) (46 * (120 - i) + 60 * (22 - (m' + 1 + 1)) + 100) A3' F3' n3' w6) := HST5.out.next hA3 hF3 P3 hI3 hP3 g3 hl3 (wrap_cells HC2.out hc3)
          have HCB6 : Hid (w6.heap[wO.heap.size]? = some (.cells #[.int .i64 X, .int .i64 Y] 87 (0, 0)) ∧ ¬ F3' wO.heap.size) := ⟨(P3.block _ HCB5.out.2 HCB2.out.2).trans HCB5.out.1, fun e => by
            rcases hF3 _ e with e | e
            · exact HCB2.out.2 e
            · have := HCB5.out.2; omega⟩
          clear c11 hA3 hF3 P3 hI3 hP3 g3 hl3 hc3
          go_wp2_with fail
          go_roundg (gk - 1)
          case measure => have := HJ.out; omega
          case rel => exact ⟨j + 1, o3, m' + 1 + 1, A3', F3', n3', by have := HJ.out; omega, by go_num, rfl, by have := HJ.out.2; omega, by have := HLV2.out; omega, HST3.out, HCB6.out.1, HCB6.out.2⟩
    · have h1 : ¬ (i : Int) < (n2 : Int) := by omega
      have hte : L2.take i = L2 := List.take_of_length_le (by rw [← HN2.out]; omega)
      rw [hte] at hst
      obtain ⟨hA, hI, hP, hx, hl, hc, _, _, hFw, hbw, _⟩ := hst
      obtain ⟨m', rfl⟩ : ∃ m', lvo = m' + 1 := ⟨lvo - 1, by omega⟩
      have hbig : (cellsF A.ths (m' + 1) oo).length ≤ 120 := by
        have h2 := len_le (ys := cellsF A.ths (m' + 1) oo) (zs := shiftL (halfN (m' + 1) : Int) (halfN (m' + 1) : Int) L2) (cells_nodup hI.good _ _ (glevel_of hl)) (fun q hq => by
          rw [mem_shift]
          exact (hc q).1 hq)
        rw [shift_len, ← HN2.out] at h2
        omega
      have c9 := Peel_root b n 1 0 m' oo F A wr hA hI (by omega) hl (by omega) (by omega) (by omega) (hP.less (by omega))
      have c10 : Calls Try.prog 48 #[.pointer (some ⟨b, 0, none⟩), .int .i64 1, .int .i64 oo] wr fun x w' => x = .returned (.tuple #[.int .i64 p, .int .i64 0]) ∧ Below w.heap.size w w' := c9.mono fun x w' ⟨id7, h1, A7, F7, n7, N', N7, h2, h3, h4, h5, h6, h7, h8, h9, h10⟩ => by
        obtain ⟨r1, r2, r3, r4, r5, r6, r7⟩ := HROOT.out
        have hlv2 := r1.two
        obtain ⟨mr, rfl⟩ : ∃ mr, lv = mr + 1 := ⟨lv - 1, by omega⟩
        have hS : ∀ q, q ∈ absC A.ths (m' + 1) oo ↔ q ∈ ys := fun q => by
          refine (made_mem hc q).trans ?_
          rw [HMEM.out q, r2.2 q, r3]
          simp
        rw [h1, peel_same r4 h5 (r6.trans (hx.trans h7.ext)) (glevel_of r5) r1 hS r7 h8 (glevel_of h9) h10]
        exact ⟨rfl, below_apart hbw h4 hFw⟩
      clear c9 hte hbig hc hl hx hP hI hA
      go_wp2_with fail
      refine c10.mono ?_
      rintro e w9 ⟨rfl, hb9⟩
      clear c10
      go_wp2_with fail
      go_ret
      exact ⟨rfl, hb9⟩
end Go.Proofs.Ythobobgiendcfaa.A
