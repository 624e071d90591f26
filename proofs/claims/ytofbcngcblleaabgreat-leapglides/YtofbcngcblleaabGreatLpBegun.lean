/- How the keepers' laws begin: an arena of the greatest room, with one square of tenant 63. -/
import Derived.Test.YtofbcngcblleaabGreatLpSquare
import Derived.Test.YtofbcngcblleaabGreatSqPeel2
import Derived.Test.YtofbcngcblleaabGreatLpRoot
import Derived.Test.YtofbcngcblleaabGreatLpStep
import Derived.Test.YtofbcngcblleaabGreatLpStepsX
import Derived.Test.YtofbcngcblleaabGreatArHand
import Derived.Deep.QuietTactic
namespace Go.Proofs.YtofbcngcblleaabGreat.A
open Go.RowKit Go.Maps Go.Proofs.YtofbcngcblleaabGreat.L
variable {w w1 w2 : World} {o o1 o2 : Nat → Nat} {hb b t : Nat} {e : Int} {A A' : Ar} {PR : (Bool → Nat → Bool) → Int → Prop} {q : Nat → Int} {E : List Int}
def cellsG (ys : List (Int × Int)) : Gr := fun X Y => decide ((X, Y) ∈ ys)
def FromR (t : Nat) (A A' : Ar) (ys : List (Int × Int)) (id e' : Int) : Prop :=
  ∃ N, LeastLv (N + 1) ys ∧ 1 ≤ N ∧ N ≤ 40 ∧ Gx t A A' 0 e' (SqD (N + 1) .no ys (-(2 ^ N)) (-(2 ^ N))) ∧ ((Er e' ∧ id = 0) ∨ (e' = 0 ∧ Rt A' t N id (cellsG ys)))
theorem rt_of_sq {N : Nat} {id : Int} {ys : List (Int × Int)} (hN : LeastLv (N + 1) ys) (hl : levV (view A t).V id = some ((N + 1 : Nat) : Int)) (hp : picQ (QV (view A t)) (N + 1) id = litP (N + 1) .no ys (-(2 ^ N)) (-(2 ^ N))) : Rt A t N id (cellsG ys) := by
  refine ⟨hl, fun x y hx hy => ?_, fun X Y h => ?_⟩
  · have h := shows_pic (Q := QV (view A t)) (n := N + 1) (id := id) x y hx hy
    rw [h, hp, Int.zero_add, Int.zero_add]
    unfold litP cellsG
    rw [no_show]
    simp [noP]
  · unfold cellsG at h
    have := hN.fits (X, Y) (by simpa using h)
    rw [halfN_succ, powI] at this
    exact this
set_option maxRecDepth 20000 in
set_option maxHeartbeats 8000000 in
theorem from_rel (hA : ArL w o b A) (hst : NxSt PR t q A) (ht : t < 64) (v : Value) (zs ys : List (Int × Int)) (hrow : Row w v zs) (hc : tcode zs = 0) (hys : Tidied zs ys) :
    Calls Tryz.prog 6 #[.pointer (some ⟨b, 0, none⟩), .int .i64 t, v] w fun r w' => ∃ id e', r = .returned (.tuple #[.int .i64 id, .int .i64 e']) ∧ ∃ A' o', ArL w' o' b A' ∧ Ch (fun l => l = 1) o w o' w' ∧ NxSt PR t q A' ∧ FromR t A A' ys id e' := by
  have hT := fun W (h : Row W v zs) => tidy_told v zs W h
  rw [hc] at hT
  obtain ⟨N, hN41, hN⟩ := least_exists (tidied_far hys)
  have hlen4 : ys.length ≤ 4096 := by
    have h1 := tidied_len hys
    unfold tcode at hc
    split at hc
    · omega
    · omega
  have hN2 := hN.two
  have HROW : Hid (Row w v zs) := hrow
  clear hrow
  go_enter Tryz.func6, Tryz.ntmps6
  go_wp2_with fail
  refine (hT _ HROW.out).mono ?_
  rintro e w1 ⟨u, ys', rfl, hb1, ht1, hr1⟩
  obtain rfl : ys' = ys := ht1.unique hys
  have HU : Hid (ORow w1 w.heap.size u ys') := hr1
  have HLV : Hid (LeastLv N ys' ∧ N ≤ 41 ∧ ys'.length ≤ 4096) := ⟨hN, hN41, hlen4⟩
  have HST : Hid (NxSt PR t q A) := hst
  have H1 : Hid (ArL w1 (ext o w.heap.size 0) b A ∧ Ch (fun l => l = 1) o w (ext o w.heap.size 0) w1 ∧ w.heap.size ≤ w1.heap.size) := ⟨hA.ch (L := fun _ => False) (Ch.ofBelow hb1 0) fun h => h, Ch.ofBelow hb1 0, hb1.size⟩
  clear hr1 ht1 hys hc hT hN hst hA hlen4
  obtain ⟨x0, y0, x1, y1, bl, hbox, hBd⟩ : ∃ x0 y0 x1 y1 bl, BoxOr ys' x0 y0 x1 y1 ∧ ∀ W, Row W u ys' → Calls Tryz.prog 14 #[u] W fun e w' => e = .returned (.tuple #[.agg #[.int .i64 x0, .int .i64 y0, .int .i64 x1, .int .i64 y1], .bool bl]) ∧ Below W.heap.size W w' := by
    by_cases h0 : ys' = []
    · exact ⟨0, 0, 0, 0, false, Or.inl ⟨h0, rfl, rfl, rfl, rfl⟩, fun W h => by subst h0; exact bounds_any u 0 (fun j => (([] : List (Int × Int))[j]!).1) (fun j => (([] : List (Int × Int))[j]!).2) W h.isRow⟩
    · exact ⟨_, _, _, _, _, Or.inr (box_is h0), fun W h => bounds_any u ys'.length (fun j => (ys'[j]!).1) (fun j => (ys'[j]!).2) W h.isRow⟩
  have hLL := fun W => least_any N x0 y0 x1 y1 W hN2 (by omega) ((reach_fits hbox (by omega)).2 HLV.out.1.fits) (fun j h1 h2 => by
    have := HLV.out.1.least j h1 h2
    rw [← reach_fits hbox (by omega)] at this
    simpa using this)
  go_wp2_with fail
  refine (newHand_any b t _).mono ?_
  rintro e w2 ⟨rfl, hE2, hb2⟩
  obtain ⟨S0, BW⟩ := HE.born (t := t) H1.out.1 hE2 hb2
  go_wp2_with fail
  refine (hBd _ ?_).mono ?_
  · exact (HU.out.below BW).read
  rintro e w3 ⟨rfl, hb3⟩
  go_wp2_with fail
  refine (hLL _).mono ?_
  rintro e w4 ⟨rfl, hb4⟩
  generalize hwh : w2.alloc (.cells #[.pointer (some ⟨b, 0, none⟩), .int .i64 t, .int .i64 0, .slice (some ⟨w1.heap.size + 1, 0, none⟩) 1 1] 46) = wh at *
  have hb34 : Below wh.heap.size wh w4 := by
    have a1 := hb3.alloc hb3.size (.cells #[.int .i64 x0, .int .i64 y0, .int .i64 x1, .int .i64 y1] 49)
    exact a1.trans (hb4.mono a1.size)
  have hh2 : ∀ W, Calls Tryz.prog 19 #[.int .i64 (N : Int)] W fun x w' => x = .returned (.int .i64 (halfN N : Int)) ∧ w' = W := fun W => half_any N W (by omega) (by omega)
  have hbd := halfN_bd N (by omega)
  obtain ⟨hf, hhf⟩ : ∃ hf : Nat, hf = halfN N := ⟨_, rfl⟩
  rw [← hhf] at hh2 hbd
  have hpow : (2 : Int) ^ N = (hf : Int) + hf := by
    obtain ⟨m, rfl⟩ : ∃ m, N = m + 1 := ⟨N - 1, by omega⟩
    rw [hhf, halfN_succ, powI, two_powI]
  have hpb : (hf : Int) ≤ 1099511627776 := by
    have : halfN N ≤ halfN 41 := Nat.pow_le_pow_right (by omega) (by omega)
    have e : halfN 41 = 1099511627776 := by decide
    omega
  have hneg : IntKind.i64.wrap (-(hf : Int)) = -(hf : Int) := by rw [IntKind.wrap_i64]; omega
  obtain ⟨oi, hoi⟩ : ∃ oi, oi = hin (ext o w.heap.size 0) w1.heap.size (w1.heap.size + 1) w2.heap.size := ⟨_, rfl⟩
  rw [← hoi] at S0
  have HOI : Hid (oi = hin (ext o w.heap.size 0) w1.heap.size (w1.heap.size + 1) w2.heap.size ∧ Below w1.heap.size w1 wh) := ⟨hoi, BW⟩
  have HBU : Hid (∀ W, Below w4.heap.size w4 W → Calls Tryz.prog 17 #[.pointer (some ⟨w2.heap.size, 0, none⟩), bareV, u, .int .i64 (N : Int), .int .i64 (-(hf : Int)), .int .i64 (-(hf : Int))] W fun r w' => ∃ k, r = .returned (.int .i64 k) ∧ SqCalls PR wh oi w2.heap.size b t q 0 A N .no ys' (-(hf : Int)) (-(hf : Int)) (SqD N .no ys' (-(hf : Int)) (-(hf : Int))) k w') := by
    intro W hW
    have hbW : Below wh.heap.size wh W := hb34.trans (hW.mono hb34.size)
    have hr := HU.out.below (BW.trans (hbW.mono BW.size))
    refine (square_any N PR W (ext oi wh.heap.size 0) w2.heap.size b t q 0 [0] A ys' u (-(hf : Int)) (-(hf : Int)) N (S0.below hbW) HST.out ht (.inl rfl) ⟨by simp, by simp⟩ (fun _ i x hx => ?_) (RowL.of hr.read) (fun k hk => ?_) HLV.out.2.2 (fun p hp => ?_) (by omega) rfl (by omega) (by omega) (by omega) (by omega)).mono ?_
    · have hi : i = 0 := by have := (List.getElem?_eq_some_iff.1 hx).1; simpa using this
      subst hi
      have hx0 : x = 0 := by simpa using hx.symm
      subst hx0
      exact ⟨rfl, fun _ _ _ _ => rfl⟩
    · have hkk : w.heap.size ≤ k ∧ k < w1.heap.size := by
        rcases HU.out with ⟨_, rfl⟩ | ⟨_, b', off, c', rfl, h1, h2, _⟩
        · simp [Value.ownBlock] at hk
        · simp only [Value.ownBlock, Option.some.injEq] at hk
          omega
      have : k < wh.heap.size := Nat.lt_of_lt_of_le hkk.2 BW.size
      rw [ext_old this, HOI.out.1]
      unfold hin
      rw [if_pos hkk.2, ext_new hkk.1]
      rfl
    · have := HLV.out.1.fits p hp
      rw [← hhf] at this
      omega
    · rintro r w5 ⟨k, rfl, hB⟩
      exact ⟨k, rfl, hB.ahead (Ch.ofBelow hbW 0)⟩
  have HHF : Hid (hf = halfN N) := hhf
  clear hhf hE2 hBd hLL hbox S0 BW hoi hb34
  go_wp2_with fail
  refine (bare_any _).mono ?_
  rintro e w5 ⟨rfl, hb5⟩
  go_wp2_with fail
  refine (hh2 _).mono ?_
  rintro e w6 ⟨rfl, rfl⟩
  go_wp2_with fail
  refine (hh2 _).mono ?_
  rintro e w6 ⟨rfl, rfl⟩
  go_wp2_with fail
  refine (HBU.out _ hb5).mono ?_
  rintro r w6 ⟨id, rfl, e9, E9, A9, o9, S9, C9, SO⟩
  have HO : Hid (∃ A' o', ArL w6 o' b A' ∧ Ch (fun l => l = 1) o w o' w6 ∧ NxSt PR t q A' ∧ (e9 = 0 → FromR t A A' ys' id 0) ∧ (Er e9 → FromR t A A' ys' 0 e9)) := by
    rw [HOI.out.1] at C9
    obtain ⟨v9, hv9, _⟩ := S9
    obtain ⟨a1, a2⟩ := hand_out HOI.out.2 C9 hv9.ar
    obtain ⟨n', hn'⟩ : ∃ n', N = n' + 1 := ⟨N - 1, by omega⟩
    have hf2 : (hf : Int) = 2 ^ n' := by rw [HHF.out, hn', halfN_succ, powI]
    obtain ⟨s1, s2, s3, s4, s5⟩ := SO
    rw [hf2, hn'] at s2
    have hlv := HLV.out.1
    rw [hn'] at hlv
    have hg : ∀ x, x = e9 → Gx t A A9 0 x (SqD (n' + 1) .no ys' (-(2 ^ n')) (-(2 ^ n'))) := fun x hx => by rw [hx]; exact s2
    refine ⟨A9, _, a1, H1.out.2.1.trans a2, s1, fun e0 => ⟨n', hlv, by omega, by omega, hg 0 e0.symm, .inr ⟨rfl, ?_⟩⟩, fun e0 => ⟨n', hlv, by omega, by omega, s2, .inl ⟨e0, rfl⟩⟩⟩
    obtain ⟨_, _, b1, b2⟩ := s5 e0
    rw [hf2, hn'] at b2
    rw [hn'] at b1
    exact rt_of_sq hlv b1 b2
  have he9 : e9 = 0 ∨ Er e9 := SO.2.2.2.1
  obtain ⟨v9, hv9, _⟩ := S9
  have hh9 := hv9.hand
  clear hv9 C9 SO HBU
  go_wp2_with fail
  rcases he9 with rfl | he9
  · refine (answer_ok _ b t id v9 _ hh9).mono ?_
    rintro r w7 ⟨rfl, h7⟩
    have h8 := h7.symm
    subst h8
    go_wp2_with fail
    go_ret2
    obtain ⟨A', o', a1, a2, a3, a4, _⟩ := HO.out
    exact ⟨_, _, rfl, A', o', a1, a2, a3, a4 trivial⟩
  · refine (answer_no _ b t e9 id v9 _ hh9 he9.ne).mono ?_
    rintro r w7 ⟨rfl, nd, rfl⟩
    go_wp2_with fail
    go_ret2
    obtain ⟨A', o', a1, a2, a3, _, a4⟩ := HO.out
    exact ⟨_, _, rfl, A', o', a1.ch ((Ch.refl (fun _ => False) o' _).drewN nd) (fun h => h), a2.drewN nd, a3, a4 he9⟩
end Go.Proofs.YtofbcngcblleaabGreat.A

namespace Go.Proofs.YtofbcngcblleaabGreat.A
open Go.RowKit Go.Proofs.YtofbcngcblleaabGreat.L
theorem inj_len {α : Type} (P : Int → α → Prop) : ∀ (X : List α) (l : List Int), l.Nodup → (∀ id ∈ l, ∃ i ∈ X, P id i) → (∀ i a c, P a i → P c i → a = c) → l.length ≤ X.length
  | [], l, _, h, _ => by
    cases l with
    | nil => exact Nat.le_refl _
    | cons a l => obtain ⟨i, hi, _⟩ := h a (by simp); cases hi
  | x :: X, l, hn, h, hu => by
    by_cases hx : ∃ id ∈ l, P id x
    · obtain ⟨id, h1, h2⟩ := hx
      have := inj_len P X (l.erase id) (hn.erase id) (fun c hc => by
        obtain ⟨hne, hc⟩ := (hn.mem_erase_iff).1 hc
        obtain ⟨i, hi, hp⟩ := h c hc
        rcases List.mem_cons.1 hi with rfl | hi
        · exact absurd (hu _ _ _ hp h2) hne
        · exact ⟨i, hi, hp⟩) hu
      have hl := List.length_erase_of_mem h1
      have := List.length_pos_of_mem h1
      simp only [List.length_cons]
      omega
    · have := inj_len P X l hn (fun c hc => by
        obtain ⟨i, hi, hp⟩ := h c hc
        rcases List.mem_cons.1 hi with rfl | hi
        · exact absurd ⟨c, hc, hp⟩ hx
        · exact ⟨i, hi, hp⟩) hu
      simp only [List.length_cons]
      omega
theorem view_keys {A : Ar} (hS : Sound A) (t : Nat) : ∀ a c f g, (view A t).V a = some f → (view A t).V c = some g → f.1.k ≠ 0 → f.1 = g.1 → a = c := fun a c f g ha hc hk e => by
  obtain ⟨h1, x, hx, _, hf⟩ := ownV_iff.1 ha
  obtain ⟨k1, y, hy, _, hg⟩ := ownV_iff.1 hc
  have e1 : x.key = f.1 := by rw [← hf]; rfl
  have e2 : y.key = g.1 := by rw [← hg]; rfl
  have := hS.uniq _ _ x y hx hy (by show x.key.k ≠ 0; rw [e1]; exact hk) (by rw [e1, e2, e])
  omega
theorem is_two {PR : (Bool → Nat → Bool) → Int → Prop} {t : Nat} {q : Nat → Int} {A : Ar} (h : NxSt PR t q A) (ht : t < 64) {a c : Int} {i : Item} (h1 : Is (view A t) a i) (h2 : Is (view A t) c i) : a = c := by
  cases i with
  | sq n p =>
    obtain ⟨b1, b2, b3⟩ := h1
    obtain ⟨c1, c2, c3⟩ := h2
    have hw := h.g.wel t ht
    exact sq_one (uq_view h.s t) n (isSq_of_lev hw h.p _ _ b2) (isSq_of_lev hw h.p _ _ c2) (picQ_cells (b3.trans c3.symm))
  | nt rn n p j =>
    obtain ⟨f, f1, f2, f3, f4, fz, f5, f6⟩ := h1
    obtain ⟨g, g1, g2, g3, g4, gz, g5, g6⟩ := h2
    have hw := h.g.wel t ht
    have e0 : f.1.p0 = g.1.p0 := sq_one (uq_view h.s t) n (isSq_of_lev hw h.p _ _ f5) (isSq_of_lev hw h.p _ _ g5) (picQ_cells (f6.trans g6.symm))
    refine view_keys h.s t a c f g f1 g1 (by rw [f2]; decide) ?_
    have e3 := fz.trans gz.symm
    cases hf : f.1 with
    | mk a0 a1 a2 a3 a4 =>
      cases hg : g.1 with
      | mk b0 b1 b2 b3 b4 =>
        rw [hf] at f2 f3 f4 e0 e3
        rw [hg] at g2 g3 g4 e0 e3
        simp only at f2 f3 f4 g2 g3 g4 e0 e3
        rw [f2, g2, f3, g3, f4, g4, e0, e3]
theorem gx_count {PR : (Bool → Nat → Bool) → Int → Prop} {t : Nat} {q : Nat → Int} {A A' : Ar} {e e' : Int} {D : Item → Prop} (g : Gx t A A' e e' D) (h : NxSt PR t q A') (ht : t < 64) (X : List Item) (hX : ∀ i, D i → i ∈ X) : A'.cnt t ≤ A.cnt t + (X.length : Int) := by
  obtain ⟨l, hl, _, hb, hc⟩ := g.fresh
  obtain ⟨h1, h2⟩ := fresh_own h.s ht
  rw [hl] at h1
  have hn : l.Nodup := h1.sublist (List.sublist_append_right _ _)
  have := inj_len (fun id i => Is (view A' t) id i) X l hn (fun id hid => by
    obtain ⟨k2, x, hx, hb'⟩ := h2 id (by rw [hl]; exact List.mem_append_right _ hid)
    have hV : (view A' t).V id = some x.face := ownV_iff.2 ⟨k2, x, hx, hb', rfl⟩
    rcases g.new id _ hV with h3 | ⟨i, h3, h4⟩
    · rw [hb id hid] at h3; cases h3
    · exact ⟨i, hX i h4, h3⟩) (fun i a c h3 h4 => is_two h ht h3 h4)
  omega
end Go.Proofs.YtofbcngcblleaabGreat.A

namespace Go.Proofs.YtofbcngcblleaabGreat.A
open Go.RowKit Go.Maps Go.Proofs.YtofbcngcblleaabGreat.L
def spotJ (v n : Int) : Int := if v.tmod n < 0 then v.tmod n + n else v.tmod n
theorem spotJ_bound (v n : Int) (hn : 0 < n) : 0 ≤ spotJ v n ∧ spotJ v n < n := by
  have h1 := Int.lt_tmod_of_pos v hn
  have h2 := Int.tmod_lt_of_pos v hn
  unfold spotJ
  split <;> omega
set_option maxHeartbeats 1000000 in
theorem spotJ_any (v n : Int) (w : World) (hn : 0 < n) (hn2 : n ≤ 4611686018427387904) : Calls Tryz.prog 4 #[.int .i64 v, .int .i64 n] w fun e w' => e = .returned (.int .i64 (spotJ v n)) ∧ w' = w := by
  have h1 := Int.lt_tmod_of_pos v hn
  have h2 := Int.tmod_lt_of_pos v hn
  have hz : (n == 0) = false := by simp; omega
  by_cases h0 : v.tmod n < 0
  · have e : spotJ v n = v.tmod n + n := by rw [spotJ, if_pos h0]
    rw [e]
    go_enter Tryz.func4, Tryz.ntmps4
    go_wp2
    go_ret
    exact ⟨rfl, rfl⟩
  · have e : spotJ v n = v.tmod n := by rw [spotJ, if_neg h0]
    rw [e]
    go_enter Tryz.func4, Tryz.ntmps4
    go_wp2
    go_ret
    exact ⟨rfl, rfl⟩
def arBegL : Ar := ((arNew 200000).joinP 63 1 0 0 1).1
theorem begL_cnt : arBegL.cnt 63 = 1 := by decide +kernel
theorem begL_full : ((arNew 200000).joinP 63 1 0 0 1).2 = (2, 0) := by decide +kernel
theorem oneL_fits : Fits 1 := ⟨by omega, by omega⟩
theorem begL_snd : Sound arBegL := join_sound (new_sound (by omega) (by omega)) (by omega) oneL_fits fits_zero fits_zero oneL_fits
theorem begL_glob : Glob arBegL := glob_join (glob_new 200000) (new_sound (by omega) (by omega)) (by omega) (by rw [begL_full]; decide)
theorem begL_lim : arBegL.lim 1 = 200000 := by decide +kernel
theorem begL_zero : arBegL.cnt 1 = 0 := by decide +kernel
theorem begL_kinds : arBegL.ths.all (fun x => x.k == 1) = true := by decide +kernel
theorem begL_room : RoomT 1 199999 arBegL := by
  show lsum tens (fun u => if u = 1 then (199999 : Int) else arBegL.cnt u) ≤ arBegL.room
  decide +kernel
theorem begL_st {PR : (Bool → Nat → Bool) → Int → Prop} (hu : ∀ R R' rn, PR R rn → PR R' rn → R = R') : NxSt PR 1 (fun _ => 199999) arBegL := by
  refine ⟨begL_snd, begL_glob, fun id f hf _ => ?_, fun R rn _ x hx hk => ?_, hu, begL_room⟩
  · obtain ⟨_, x, hx, hb, _⟩ := ownV_iff.1 hf
    have h0 := begL_snd.cnt 1 (by omega)
    rw [begL_zero] at h0
    have h1 : ownN arBegL.ths 1 = 0 := by omega
    have := List.countP_eq_zero.1 h1 x (List.mem_of_getElem? hx)
    exact absurd hb this
  · have := List.all_eq_true.1 begL_kinds x hx
    rw [hk] at this
    cases this
set_option maxRecDepth 20000 in
set_option maxHeartbeats 1000000 in
theorem begL_any (w : World) : Calls Tryz.prog 5 #[] w fun e w' => e = .returned (.tuple #[.pointer (some ⟨w.heap.size + 1, 0, none⟩), .bool true]) ∧ ArL w' (fun k => if k < w.heap.size then 0 else 1) (w.heap.size + 1) arBegL ∧ Below w.heap.size w w' := by
  have hnew := newP_any 200000 w (by omega) (by omega)
  have HE := begL_full
  have HC := begL_cnt
  unfold arBegL at HC ⊢
  generalize hA2 : ((arNew 200000).joinP 63 1 0 0 1).1 = A2 at HC ⊢
  have HA2 : Hid (((arNew 200000).joinP 63 1 0 0 1).1 = A2) := hA2
  clear hA2
  go_enter Tryz.func5, Tryz.ntmps5
  go_wp2_with fail
  refine hnew.mono ?_
  rintro e w1 ⟨rfl, ⟨F1, hF1, A1⟩, hb1⟩
  have hj := joinP_any (w.heap.size + 1) 63 1 0 0 1 F1 (arNew 200000) w1 A1 (new_sound (by omega) (by omega)) (by omega) oneL_fits fits_zero fits_zero oneL_fits
  unfold JoinPOut at hj
  rw [HE, HA2.out] at hj
  unfold quad4 at hj
  clear HE A1
  go_wp2_with fail
  refine hj.mono ?_
  rintro e w2 ⟨rfl, F2, hF2, A2', P2⟩
  have hcn := countP_any (w.heap.size + 1) 63 F2 A2 w2 A2' (by omega)
  rw [HC] at hcn
  have HFIN : Hid (ArL w2 (fun k => if k < w.heap.size then 0 else 1) (w.heap.size + 1) A2 ∧ Below w.heap.size w w2) := ⟨⟨F2, A2', fun k hk => by
      have : w.heap.size ≤ k := by
        rcases hF2 k hk with e | e
        · exact hF1 k e
        · exact Nat.le_trans hb1.size e
      simp only
      rw [if_neg (by omega)]⟩, ⟨P2.os.trans hb1.os, P2.tape.trans hb1.tape, P2.output.trans hb1.output, Nat.le_trans hb1.size P2.size, fun k hk => (P2.block k (Nat.lt_of_lt_of_le hk hb1.size) fun hf => by have := hF1 k hf; omega).trans (hb1.block k hk)⟩⟩
  clear A2' P2 hF2 hF1 hb1 hj hnew HC
  go_wp2_with fail
  all_goals
    refine hcn.mono ?_
    rintro e w3 ⟨rfl, rfl⟩
    go_wp2_with fail
    go_ret2
    exact ⟨rfl, HFIN.out⟩
def sqL : Nat → List (Int × Int) → Int → Int → List Item
  | 0, _, _, _ => []
  | n + 1, zs, x, y => if zs = [] then [] else .sq (n + 1) (litP (n + 1) .no zs x y) :: (sqL n (part (x + 2 ^ n) (y + 2 ^ n) zs 0) (qx n x 0) (qy n y 0) ++ sqL n (part (x + 2 ^ n) (y + 2 ^ n) zs 1) (qx n x 1) (qy n y 1) ++ sqL n (part (x + 2 ^ n) (y + 2 ^ n) zs 2) (qx n x 2) (qy n y 2) ++ sqL n (part (x + 2 ^ n) (y + 2 ^ n) zs 3) (qx n x 3) (qy n y 3))
theorem sqL_len : ∀ (n : Nat) (zs : List (Int × Int)) (x y : Int), (sqL n zs x y).length ≤ n * zs.length
  | 0, zs, _, _ => by simp [sqL]
  | n + 1, zs, x, y => by
    unfold sqL
    split
    · simp
    · rename_i h0
      have hl : 1 ≤ zs.length := List.length_pos_iff.2 h0
      have h := parts_len (x + 2 ^ n) (y + 2 ^ n) zs
      have a0 := sqL_len n (part (x + 2 ^ n) (y + 2 ^ n) zs 0) (qx n x 0) (qy n y 0)
      have a1 := sqL_len n (part (x + 2 ^ n) (y + 2 ^ n) zs 1) (qx n x 1) (qy n y 1)
      have a2 := sqL_len n (part (x + 2 ^ n) (y + 2 ^ n) zs 2) (qx n x 2) (qy n y 2)
      have a3 := sqL_len n (part (x + 2 ^ n) (y + 2 ^ n) zs 3) (qx n x 3) (qy n y 3)
      have hs : n * (part (x + 2 ^ n) (y + 2 ^ n) zs 0).length + n * (part (x + 2 ^ n) (y + 2 ^ n) zs 1).length + n * (part (x + 2 ^ n) (y + 2 ^ n) zs 2).length + n * (part (x + 2 ^ n) (y + 2 ^ n) zs 3).length = n * zs.length := by
        rw [← h, Nat.mul_add, Nat.mul_add, Nat.mul_add]
      rw [Nat.add_mul, Nat.one_mul]
      simp only [List.length_cons, List.length_append]
      omega
def empL : List Item := (List.range 45).map fun k => .sq k noP
theorem sqD_in : ∀ (n : Nat) {zs : List (Int × Int)} {x y : Int} {i : Item}, n ≤ 44 → SqD n .no zs x y i → i ∈ empL ++ sqL n zs x y
  | 0, _, _, _, _, _, h => h.elim
  | n + 1, zs, x, y, i, hn, h => by
    rcases h with ⟨_, _, k, h1, h2, rfl⟩ | ⟨h0, h⟩
    · exact List.mem_append_left _ (List.mem_map.2 ⟨k, List.mem_range.2 (by omega), rfl⟩)
    · have hz : ¬ zs = [] := fun e => h0 ⟨e, trivial⟩
      rw [sqL, if_neg hz]
      rcases h with rfl | ⟨r, hr, h⟩
      · exact List.mem_append_right _ List.mem_cons_self
      · have := sqD_in n (by omega) h
        rcases List.mem_append.1 this with h1 | h1
        · exact List.mem_append_left _ h1
        · refine List.mem_append_right _ (List.mem_cons_of_mem _ ?_)
          have hr' : r = 0 ∨ r = 1 ∨ r = 2 ∨ r = 3 := by omega
          simp only [List.mem_append]
          rcases hr' with rfl | rfl | rfl | rfl
          · exact .inl (.inl (.inl h1))
          · exact .inl (.inl (.inr h1))
          · exact .inl (.inr h1)
          · exact .inr h1
theorem from_count {PR : (Bool → Nat → Bool) → Int → Prop} {t : Nat} {q : Nat → Int} {A A' : Ar} {e e' : Int} {n : Nat} {ys : List (Int × Int)} {x y : Int} (g : Gx t A A' e e' (SqD n .no ys x y)) (h : NxSt PR t q A') (ht : t < 64) (hn : n ≤ 44) : A'.cnt t ≤ A.cnt t + (45 + n * ys.length : Nat) := by
  have h1 := gx_count g h ht (empL ++ sqL n ys x y) fun i hi => sqD_in n hn hi
  have h2 := sqL_len n ys x y
  rw [List.length_append] at h1
  have h3 : empL.length = 45 := by simp [empL]
  omega
theorem gx_fine {PR : (Bool → Nat → Bool) → Int → Prop} {t : Nat} {q : Nat → Int} {A A' : Ar} {e' : Int} {D : Item → Prop} (g : Gx t A A' 0 e' D) (h : NxSt PR t q A') (h1 : A'.cnt t < q t) (h2 : A'.cnt t < A'.lim t) : ¬ Er e' := fun he => by
  rcases g.bad he with h3 | ⟨h3, _⟩
  · exact absurd rfl h3.ne
  · rcases h3 with ⟨_, h3⟩ | ⟨_, _, h3⟩
    · omega
    · have := h3 (q t) h.r
      omega
end Go.Proofs.YtofbcngcblleaabGreat.A
