/- From, over any arena, where it may fail. -/
import Derived.Test.YtofbcngcblleaaaGreatLpSquare
import Derived.Test.YtofbcngcblleaaaGreatSqPeel2
import Derived.Test.YtofbcngcblleaaaGreatLpRoot
namespace Go.Proofs.YtofbcngcblleaaaGreat.A
open Go.RowKit Go.Maps Go.Proofs.YtofbcngcblleaaaGreat.L

variable {w w1 w2 : World} {o o1 o2 : Nat → Nat} {hb b t : Nat} {e : Int} {A A' : Ar} {PR : (Bool → Nat → Bool) → Int → Prop} {q : Nat → Int} {E : List Int}
/-- a plane of a list of cells -/
def cellsG (ys : List (Int × Int)) : Gr := fun X Y => decide ((X, Y) ∈ ys)
/-- what From leaves -/
def FromR (t : Nat) (A A' : Ar) (ys : List (Int × Int)) (id e' : Int) : Prop :=
  ∃ N, LeastLv (N + 1) ys ∧ 1 ≤ N ∧ N ≤ 40 ∧ Gx t A A' 0 e' (SqD (N + 1) .no ys (-(2 ^ N)) (-(2 ^ N))) ∧ ((Er e' ∧ id = 0) ∨ (e' = 0 ∧ Rt A' t N id (cellsG ys)))
theorem rt_of_sq {N : Nat} {id : Int} {ys : List (Int × Int)} (hN : LeastLv (N + 1) ys) (hl : levV (view A t).V id = some ((N + 1 : Nat) : Int)) (hp : picQ (QV (view A t)) (N + 1) id = litP (N + 1) .no ys (-(2 ^ N)) (-(2 ^ N))) : Rt A t N id (cellsG ys) := by
  refine ⟨hl, fun x y hx hy => ?_, fun X Y h => ?_⟩
  · have h := shows_pic (Q := QV (view A t)) (n := N + 1) (id := id) x y hx hy
    rw [h, hp, Int.zero_add, Int.zero_add]
    unfold litP cellsG
    rw [no_show]
    simp [noP]
  · unfold cellsG at h
    have := hN.fits (X, Y) (by simpa using h)
    rw [halfN_succ, powI] at this
    exact this
set_option maxRecDepth 20000 in
set_option maxHeartbeats 8000000 in
theorem from_rel (hA : ArL w o b A) (hst : NxSt PR t q A) (ht : t < 64) (v : Value) (zs ys : List (Int × Int)) (hrow : Row w v zs) (hc : tcode zs = 0) (hys : Tidied zs ys) :
    Calls Tryz.prog 22 #[.pointer (some ⟨b, 0, none⟩), .int .i64 t, v] w fun r w' => ∃ id e', r = .returned (.tuple #[.int .i64 id, .int .i64 e']) ∧ ∃ A' o', ArL w' o' b A' ∧ Ch (fun l => l = 1) o w o' w' ∧ NxSt PR t q A' ∧ FromR t A A' ys id e' := by
  have hT := fun W (h : Row W v zs) => tidy_told v zs W h
  rw [hc] at hT
  obtain ⟨N, hN41, hN⟩ := least_exists (tidied_far hys)
  have hlen4 : ys.length ≤ 4096 := by
    have h1 := tidied_len hys
    unfold tcode at hc
    split at hc
    · omega
    · omega
  have hN2 := hN.two
  have HROW : Hid (Row w v zs) := hrow
  clear hrow
  go_enter Tryz.func22, Tryz.ntmps22
  go_wp2_with fail
  refine (hT _ HROW.out).mono ?_
  rintro e w1 ⟨u, ys', rfl, hb1, ht1, hr1⟩
  obtain rfl : ys' = ys := ht1.unique hys
  have HU : Hid (ORow w1 w.heap.size u ys') := hr1
  have HLV : Hid (LeastLv N ys' ∧ N ≤ 41 ∧ ys'.length ≤ 4096) := ⟨hN, hN41, hlen4⟩
  have HST : Hid (NxSt PR t q A) := hst
  have H1 : Hid (ArL w1 (ext o w.heap.size 0) b A ∧ Ch (fun l => l = 1) o w (ext o w.heap.size 0) w1 ∧ w.heap.size ≤ w1.heap.size) := ⟨hA.ch (L := fun _ => False) (Ch.ofBelow hb1 0) fun h => h, Ch.ofBelow hb1 0, hb1.size⟩
  clear hr1 ht1 hys hc hT hN hst hA hlen4
  obtain ⟨x0, y0, x1, y1, bl, hbox, hBd⟩ : ∃ x0 y0 x1 y1 bl, BoxOr ys' x0 y0 x1 y1 ∧ ∀ W, Row W u ys' → Calls Tryz.prog 47 #[u] W fun e w' => e = .returned (.tuple #[.agg #[.int .i64 x0, .int .i64 y0, .int .i64 x1, .int .i64 y1], .bool bl]) ∧ Below W.heap.size W w' := by
    by_cases h0 : ys' = []
    · exact ⟨0, 0, 0, 0, false, Or.inl ⟨h0, rfl, rfl, rfl, rfl⟩, fun W h => by subst h0; exact bounds_any u 0 (fun j => (([] : List (Int × Int))[j]!).1) (fun j => (([] : List (Int × Int))[j]!).2) W h.isRow⟩
    · exact ⟨_, _, _, _, _, Or.inr (box_is h0), fun W h => bounds_any u ys'.length (fun j => (ys'[j]!).1) (fun j => (ys'[j]!).2) W h.isRow⟩
  have hLL := fun W => least_any N x0 y0 x1 y1 W hN2 (by omega) ((reach_fits hbox (by omega)).2 HLV.out.1.fits) (fun j h1 h2 => by
    have := HLV.out.1.least j h1 h2
    rw [← reach_fits hbox (by omega)] at this
    simpa using this)
  go_wp2_with fail
  refine (newHand_any b t _).mono ?_
  rintro e w2 ⟨rfl, hE2, hb2⟩
  obtain ⟨S0, BW⟩ := HE.born (t := t) H1.out.1 hE2 hb2
  go_wp2_with fail
  refine (hBd _ ?_).mono ?_
  · exact (HU.out.below BW).read
  rintro e w3 ⟨rfl, hb3⟩
  go_wp2_with fail
  refine (hLL _).mono ?_
  rintro e w4 ⟨rfl, hb4⟩
  generalize hwh : w2.alloc (.cells #[.pointer (some ⟨b, 0, none⟩), .int .i64 t, .int .i64 0, .slice (some ⟨w1.heap.size + 1, 0, none⟩) 1 1] 61) = wh at *
  have hb34 : Below wh.heap.size wh w4 := by
    have a1 := hb3.alloc hb3.size (.cells #[.int .i64 x0, .int .i64 y0, .int .i64 x1, .int .i64 y1] 68)
    exact a1.trans (hb4.mono a1.size)
  have hh2 : ∀ W, Calls Tryz.prog 50 #[.int .i64 (N : Int)] W fun x w' => x = .returned (.int .i64 (halfN N : Int)) ∧ w' = W := fun W => half_any N W (by omega) (by omega)
  have hbd := halfN_bd N (by omega)
  obtain ⟨hf, hhf⟩ : ∃ hf : Nat, hf = halfN N := ⟨_, rfl⟩
  rw [← hhf] at hh2 hbd
  have hpow : (2 : Int) ^ N = (hf : Int) + hf := by
    obtain ⟨m, rfl⟩ : ∃ m, N = m + 1 := ⟨N - 1, by omega⟩
    rw [hhf, halfN_succ, powI, two_powI]
  have hpb : (hf : Int) ≤ 1099511627776 := by
    have : halfN N ≤ halfN 41 := Nat.pow_le_pow_right (by omega) (by omega)
    have e : halfN 41 = 1099511627776 := by decide
    omega
  have hneg : IntKind.i64.wrap (-(hf : Int)) = -(hf : Int) := by rw [IntKind.wrap_i64]; omega
  obtain ⟨oi, hoi⟩ : ∃ oi, oi = hin (ext o w.heap.size 0) w1.heap.size (w1.heap.size + 1) w2.heap.size := ⟨_, rfl⟩
  rw [← hoi] at S0
  have HOI : Hid (oi = hin (ext o w.heap.size 0) w1.heap.size (w1.heap.size + 1) w2.heap.size ∧ Below w1.heap.size w1 wh) := ⟨hoi, BW⟩
  have HBU : Hid (∀ W, Below w4.heap.size w4 W → Calls Tryz.prog 48 #[.pointer (some ⟨w2.heap.size, 0, none⟩), bareV, u, .int .i64 (N : Int), .int .i64 (-(hf : Int)), .int .i64 (-(hf : Int))] W fun r w' => ∃ k, r = .returned (.int .i64 k) ∧ SqCalls PR wh oi w2.heap.size b t q 0 A N .no ys' (-(hf : Int)) (-(hf : Int)) (SqD N .no ys' (-(hf : Int)) (-(hf : Int))) k w') := by
    intro W hW
    have hbW : Below wh.heap.size wh W := hb34.trans (hW.mono hb34.size)
    have hr := HU.out.below (BW.trans (hbW.mono BW.size))
    refine (square_any N PR W (ext oi wh.heap.size 0) w2.heap.size b t q 0 [0] A ys' u (-(hf : Int)) (-(hf : Int)) N (S0.below hbW) HST.out ht (.inl rfl) ⟨by simp, by simp⟩ (fun _ i x hx => ?_) (RowL.of hr.read) (fun k hk => ?_) HLV.out.2.2 (fun p hp => ?_) (by omega) rfl (by omega) (by omega) (by omega) (by omega)).mono ?_
    · have hi : i = 0 := by have := (List.getElem?_eq_some_iff.1 hx).1; simpa using this
      subst hi
      have hx0 : x = 0 := by simpa using hx.symm
      subst hx0
      exact ⟨rfl, fun _ _ _ _ => rfl⟩
    · have hkk : w.heap.size ≤ k ∧ k < w1.heap.size := by
        rcases HU.out with ⟨_, rfl⟩ | ⟨_, b', off, c', rfl, h1, h2, _⟩
        · simp [Value.ownBlock] at hk
        · simp only [Value.ownBlock, Option.some.injEq] at hk
          omega
      have : k < wh.heap.size := Nat.lt_of_lt_of_le hkk.2 BW.size
      rw [ext_old this, HOI.out.1]
      unfold hin
      rw [if_pos hkk.2, ext_new hkk.1]
      rfl
    · have := HLV.out.1.fits p hp
      rw [← hhf] at this
      omega
    · rintro r w5 ⟨k, rfl, hB⟩
      exact ⟨k, rfl, hB.ahead (Ch.ofBelow hbW 0)⟩
  have HHF : Hid (hf = halfN N) := hhf
  clear hhf hE2 hBd hLL hbox S0 BW hoi hb34
  go_wp2_with fail
  refine (bare_any _).mono ?_
  rintro e w5 ⟨rfl, hb5⟩
  go_wp2_with fail
  refine (hh2 _).mono ?_
  rintro e w6 ⟨rfl, rfl⟩
  go_wp2_with fail
  refine (hh2 _).mono ?_
  rintro e w6 ⟨rfl, rfl⟩
  go_wp2_with fail
  refine (HBU.out _ hb5).mono ?_
  rintro r w6 ⟨id, rfl, e9, E9, A9, o9, S9, C9, SO⟩
  have HO : Hid (∃ A' o', ArL w6 o' b A' ∧ Ch (fun l => l = 1) o w o' w6 ∧ NxSt PR t q A' ∧ (e9 = 0 → FromR t A A' ys' id 0) ∧ (Er e9 → FromR t A A' ys' 0 e9)) := by
    rw [HOI.out.1] at C9
    obtain ⟨v9, hv9, _⟩ := S9
    obtain ⟨a1, a2⟩ := hand_out HOI.out.2 C9 hv9.ar
    obtain ⟨n', hn'⟩ : ∃ n', N = n' + 1 := ⟨N - 1, by omega⟩
    have hf2 : (hf : Int) = 2 ^ n' := by rw [HHF.out, hn', halfN_succ, powI]
    obtain ⟨s1, s2, s3, s4, s5⟩ := SO
    rw [hf2, hn'] at s2
    have hlv := HLV.out.1
    rw [hn'] at hlv
    have hg : ∀ x, x = e9 → Gx t A A9 0 x (SqD (n' + 1) .no ys' (-(2 ^ n')) (-(2 ^ n'))) := fun x hx => by rw [hx]; exact s2
    refine ⟨A9, _, a1, H1.out.2.1.trans a2, s1, fun e0 => ⟨n', hlv, by omega, by omega, hg 0 e0.symm, .inr ⟨rfl, ?_⟩⟩, fun e0 => ⟨n', hlv, by omega, by omega, s2, .inl ⟨e0, rfl⟩⟩⟩
    obtain ⟨_, _, b1, b2⟩ := s5 e0
    rw [hf2, hn'] at b2
    rw [hn'] at b1
    exact rt_of_sq hlv b1 b2
  have he9 : e9 = 0 ∨ Er e9 := SO.2.2.2.1
  obtain ⟨v9, hv9, _⟩ := S9
  have hh9 := hv9.hand
  clear hv9 C9 SO HBU
  go_wp2_with fail
  rcases he9 with rfl | he9
  · refine (answer_ok _ b t id v9 _ hh9).mono ?_
    rintro r w7 ⟨rfl, h7⟩
    have h8 := h7.symm
    subst h8
    go_wp2_with fail
    go_ret2
    obtain ⟨A', o', a1, a2, a3, a4, _⟩ := HO.out
    exact ⟨_, _, rfl, A', o', a1, a2, a3, a4 trivial⟩
  · refine (answer_no _ b t e9 id v9 _ hh9 he9.ne).mono ?_
    rintro r w7 ⟨rfl, nd, rfl⟩
    go_wp2_with fail
    go_ret2
    obtain ⟨A', o', a1, a2, a3, _, a4⟩ := HO.out
    exact ⟨_, _, rfl, A', o', a1.ch ((Ch.refl (fun _ => False) o' _).drewN nd) (fun h => h), a2.drewN nd, a3, a4 he9⟩
end Go.Proofs.YtofbcngcblleaaaGreat.A
