/- rule.Good. -/
import Derived.Test.YtgipjplifndniaaGreatDoorSqBox
import Derived.Test.YtgipjplifndniaaGreatDoorSqCells
import Derived.Test.YtgipjplifndniaaGreatDoorLpGnd
import Derived.Test.YtgipjplifndniaaGreatDoorLpWide
import Derived.BigRegion
import Derived.Test.YtgipjplifndniaaGreatDoorLpStep
import Derived.Lib.MinMax
import Derived.Test.YtgipjplifndniaaGreatDoorLpSquare
namespace Go.Proofs.YtgipjplifndniaaGreatDoor.A
open Go.RowKit Go.Maps Go.ChangeMaps Go.WideElems

def absC (l : List Th) (n : Nat) (id : Int) : List (Int × Int) := shiftL (-(halfN n : Int)) (-(halfN n : Int)) (cellsF l n id)
theorem mem_abs {l : List Th} {n : Nat} {id : Int} {p : Int × Int} : p ∈ absC l n id ↔ (p.1 + (halfN n : Int), p.2 + (halfN n : Int)) ∈ cellsF l n id := by
  unfold absC
  rw [mem_shift, show p.1 - -(halfN n : Int) = p.1 + (halfN n : Int) by omega, show p.2 - -(halfN n : Int) = p.2 + (halfN n : Int) by omega]
end Go.Proofs.YtgipjplifndniaaGreatDoor.A

namespace Go.Proofs.YtgipjplifndniaaGreatDoor.A
open Go.RowKit Go.Maps Go.Proofs.YtgipjplifndniaaGreatDoor.L

variable {w : World} {b t : Nat} {A : Ar} {PR : (Bool → Nat → Bool) → Int → Prop} {q : Nat → Int}
theorem closed_of (hS : Sound A) (hG : Glob A) (u : Nat) : Closed A.ths u := fun x hx hk hb => by
  have hu : u < 64 := by
    rcases Nat.lt_or_ge u 64 with h | h
    · exact h
    · have h1 := hS.mask x hx
      have h2 : x.mask.testBit u = false := Nat.testBit_lt_two_pow (Nat.lt_of_lt_of_le h1 (by rw [show (18446744073709551616 : Nat) = 2 ^ 64 by decide]; exact Nat.pow_le_pow_right (by omega) h))
      rw [h2] at hb
      cases hb
  obtain ⟨j, hj⟩ := List.getElem?_of_mem hx
  have hV : (view A u).V ((j : Int) + 2) = some x.face := ownV_iff.2 ⟨by omega, x, by rw [show (((j : Int) + 2 - 2).toNat) = j by omega]; exact hj, hb, rfl⟩
  have hl := (hG.wel u hu).lev _ _ hV hk
  have hr : refsV x.face = [x.p0, x.p1, x.p2, x.p3] := by unfold refsV; rw [if_pos (show x.face.1.k = 1 from hk)]; rfl
  rw [hr] at hl
  have f : ∀ r, levV (view A u).V r = some (x.lv - 1) → levelF A.ths u r = some (x.lv - 1) := fun r h => by rw [levelF_V]; exact h
  exact ⟨f _ (hl _ (by simp)), f _ (hl _ (by simp)), f _ (hl _ (by simp)), f _ (hl _ (by simp))⟩
theorem good_of (hS : Sound A) (hG : Glob A) : Good A.ths := by
  refine ⟨fun x hx hk => ?_⟩
  have h := hG.gl.sq x hx hk
  have g : ∀ r ∈ partsT x, glevel A.ths r = some (x.lv - 1) := fun r hr => h r hr
  have h0 := glev_nn (lv0_of hS) (h x.p0 (by simp [partsT]))
  exact ⟨by omega, (hS.lv x hx).2, g _ (by simp [partsT]), g _ (by simp [partsT]), g _ (by simp [partsT]), g _ (by simp [partsT])⟩
theorem inv_of (hS : Sound A) (hG : Glob A) (L : List Int) : Inv { A with free := L } := ⟨good_of (A := A) hS hG, hS.uniq, closed_of (A := A) hS hG, hS.cnt⟩
theorem mem_shiftI {dx dy : Int} {zs : List (Int × Int)} {p : Int × Int} : p ∈ shiftL dx dy zs ↔ (p.1 - dx, p.2 - dy) ∈ zs := by
  unfold shiftL
  rw [List.mem_map]
  constructor
  · rintro ⟨c, h, rfl⟩
    simpa [show c.1 + dx - dx = c.1 by omega, show c.2 + dy - dy = c.2 by omega] using h
  · intro h
    exact ⟨_, h, by simp [show p.1 - dx + dx = p.1 by omega, show p.2 - dy + dy = p.2 by omega]⟩
theorem cells_shows {l : List Th} : ∀ (n : Nat) {id : Int} {g : Gr} {a c : Int}, IsSq (QG l) n id → Shows (QG l) n id g a c → ∀ p : Int × Int, p ∈ cellsF l n id ↔ 0 ≤ p.1 ∧ p.1 < 2 ^ n ∧ 0 ≤ p.2 ∧ p.2 < 2 ^ n ∧ g (a + p.1) (c + p.2) = true
  | 0, id, g, a, c, hi, hs, p => by
    have h0 := hs 0 0 (by decide) (by decide)
    rw [cellV] at h0
    simp only [Int.natCast_zero, Int.add_zero] at h0
    rw [cellsF]
    obtain ⟨x, y⟩ := p
    constructor
    · intro h
      split at h
      · rename_i h1
        simp only [List.mem_singleton, Prod.mk.injEq] at h
        obtain ⟨rfl, rfl⟩ := h
        refine ⟨by decide, by decide, by decide, by decide, ?_⟩
        simp only [Int.add_zero]
        rw [← h0]
        simpa using h1
      · cases h
    · rintro ⟨h1, h2, h3, h4, h5⟩
      simp only at h1 h2 h3 h4 h5
      have hx : x = 0 := by simp at h2; omega
      have hy : y = 0 := by simp at h4; omega
      subst hx hy
      simp only [Int.add_zero] at h5
      rw [h5] at h0
      rw [if_pos (by simpa using h0)]
      simp
  | n + 1, id, g, a, c, ⟨k, hk, i0, i1, i2, i3⟩, hs, p => by
    obtain ⟨s0, s1, s2, s3⟩ := shows_kids hk hs
    obtain ⟨h2, x, hx, _, rfl⟩ := QG_iff.1 hk
    have c0 := cells_shows n i0 s0
    have c1 := cells_shows n i1 s1
    have c2 := cells_shows n i2 s2
    have c3 := cells_shows n i3 s3
    simp only at c0 c1 c2 c3
    have hp := two_powI n
    have hI := powI n
    have hpos : (0 : Int) < 2 ^ n := by have : 0 < 2 ^ n := Nat.pow_pos (by omega); omega
    rw [cellsF, thAt_eq hx, List.mem_append, List.mem_append, List.mem_append, mem_shiftI, mem_shiftI, mem_shiftI, c0, c1, c2, c3]
    obtain ⟨u, v⟩ := p
    simp only
    rw [show a + 2 ^ n + (u - ((2 ^ n : Nat) : Int)) = a + u by omega, show c + 2 ^ n + (v - ((2 ^ n : Nat) : Int)) = c + v by omega, show c + (v - 0) = c + v by omega, show a + (u - 0) = a + u by omega, hp, hI]
    generalize (2 : Int) ^ n = z at *
    cases g (a + u) (c + v) with
    | false => simp
    | true => simp only [and_true]; omega
end Go.Proofs.YtgipjplifndniaaGreatDoor.A

namespace Go.Proofs.YtgipjplifndniaaGreatDoor.A
open Go.RowKit Go.Proofs.YtgipjplifndniaaGreatDoor.L

theorem bits_one (a : Int) : bits .and .i64 a 1 = a % 2 := by
  have h : (BitVec.ofInt 64 a &&& BitVec.ofInt 64 1).toNat = (a % 2).toNat := by
    rw [BitVec.toNat_and, BitVec.toNat_ofInt, BitVec.toNat_ofInt]
    rw [show ((1 : Int) % ((2 ^ 64 : Nat) : Int)).toNat = 1 by decide, Nat.and_one_is_mod]
    have e : ((2 ^ 64 : Nat) : Int) = 18446744073709551616 := by decide
    rw [e]
    omega
  show IntKind.i64.wrap ((BitVec.ofInt 64 a &&& BitVec.ofInt 64 1).toNat : Int) = a % 2
  rw [h]
  obtain h | h : a % 2 = 0 ∨ a % 2 = 1 := by omega
  all_goals rw [h]; decide

def hasB (x : Int) (n : Nat) : Bool := decide (x / 2 ^ n % 2 = 1)

set_option maxHeartbeats 400000 in
theorem has_any (x : Int) (n : Nat) (w : World) (hn : n ≤ 8) : Calls Tryz.prog 87 #[.int .i64 x, .int .i64 n] w fun e w' => e = .returned (.bool (hasB x n)) ∧ w' = w := by
  go_enter Tryz.func87, Tryz.ntmps87
  go_wp2
  go_ret
  rw [bits_one]
  refine ⟨?_, rfl⟩
  by_cases h : x / 2 ^ n % 2 = 1 <;> simp [hasB, h]

end Go.Proofs.YtgipjplifndniaaGreatDoor.A

namespace Go.Proofs.YtgipjplifndniaaGreatDoor.A
open Go.RowKit Go.Maps Go.Proofs.YtgipjplifndniaaGreatDoor.L

variable {t : Nat} {A A' : Ar} {R : Bool → Nat → Bool} {PR : (Bool → Nat → Bool) → Int → Prop} {q : Nat → Int} {g : Gr} {id : Int}
structure Rt (A : Ar) (t n : Nat) (id : Int) (g : Gr) : Prop where
  lev : levV (view A t).V id = some ((n + 1 : Nat) : Int)
  shows : Shows (QV (view A t)) (n + 1) id g (-(2 ^ n)) (-(2 ^ n))
  out : ∀ X Y, g X Y = true → -(2 ^ n) ≤ X ∧ X < 2 ^ n ∧ -(2 ^ n) ≤ Y ∧ Y < 2 ^ n
theorem cells_len (l : List Th) : ∀ (n : Nat) (id : Int), (cellsF l n id).length ≤ 4 ^ n
  | 0, id => by rw [cellsF]; split <;> simp
  | n + 1, id => by
    have h0 := cells_len l n (thAt l id).p0
    have h1 := cells_len l n (thAt l id).p1
    have h2 := cells_len l n (thAt l id).p2
    have h3 := cells_len l n (thAt l id).p3
    rw [cellsF, Nat.pow_succ]
    simp only [List.length_append, shiftL, List.length_map]
    omega
theorem Rt.big {n : Nat} (hn : n + 1 ≤ 30) : (cellsF A.ths (n + 1) id).length < 4611686018427387904 := by
  have h := cells_len A.ths (n + 1) id
  have h2 : 4 ^ (n + 1) ≤ 4 ^ 30 := Nat.pow_le_pow_right (by omega) hn
  have h3 : 4 ^ 30 < 4611686018427387904 := by decide
  omega
theorem Rt.cells {n : Nat} (h : Rt A t n id g) (hst : NxSt PR t q A) (ht : t < 64) (p : Int × Int) : p ∈ absC A.ths (n + 1) id ↔ g p.1 p.2 = true := by
  have hs := isSq_of_lev (hst.g.wel t ht) hst.p _ _ h.lev
  have hI := powI n
  have hp := two_powI n
  rw [mem_abs, halfN_succ, cells_shows (n + 1) (hs.ext (view_QG A t)) (h.shows.ext hs (view_QG A t))]
  simp only
  rw [hI, show -(2 ^ n : Int) + (p.1 + 2 ^ n) = p.1 by omega, show -(2 ^ n : Int) + (p.2 + 2 ^ n) = p.2 by omega, hp]
  constructor
  · exact fun a => a.2.2.2.2
  · intro a
    have := h.out p.1 p.2 a
    exact ⟨by omega, by omega, by omega, by omega, a⟩
structure LeastG (N : Nat) (g : Gr) : Prop where
  two : 2 ≤ N
  fits : ∀ X Y, g X Y = true → -(2 ^ (N - 1)) ≤ X ∧ X < 2 ^ (N - 1) ∧ -(2 ^ (N - 1)) ≤ Y ∧ Y < 2 ^ (N - 1)
  least : ∀ j, 2 ≤ j → j < N → ¬ ∀ X Y, g X Y = true → -(2 ^ (j - 1)) ≤ X ∧ X < 2 ^ (j - 1) ∧ -(2 ^ (j - 1)) ≤ Y ∧ Y < 2 ^ (j - 1)
end Go.Proofs.YtgipjplifndniaaGreatDoor.A

namespace Go.Proofs.YtgipjplifndniaaGreatDoor.A
open Go.RowKit Go.Maps Go.Proofs.YtgipjplifndniaaGreatDoor.L

variable {w w1 w2 : World} {o o1 o2 : Nat → Nat} {hb b t : Nat} {e : Int} {A A' : Ar} {PR : (Bool → Nat → Bool) → Int → Prop} {q : Nat → Int} {E : List Int}
def cellsG (ys : List (Int × Int)) : Gr := fun X Y => decide ((X, Y) ∈ ys)
def FromR (t : Nat) (A A' : Ar) (ys : List (Int × Int)) (id e' : Int) : Prop :=
  ∃ N, LeastLv (N + 1) ys ∧ 1 ≤ N ∧ N ≤ 40 ∧ Gx t A A' 0 e' (SqD (N + 1) .no ys (-(2 ^ N)) (-(2 ^ N))) ∧ ((Er e' ∧ id = 0) ∨ (e' = 0 ∧ Rt A' t N id (cellsG ys)))
theorem rt_of_sq {N : Nat} {id : Int} {ys : List (Int × Int)} (hN : LeastLv (N + 1) ys) (hl : levV (view A t).V id = some ((N + 1 : Nat) : Int)) (hp : picQ (QV (view A t)) (N + 1) id = litP (N + 1) .no ys (-(2 ^ N)) (-(2 ^ N))) : Rt A t N id (cellsG ys) := by
  refine ⟨hl, fun x y hx hy => ?_, fun X Y h => ?_⟩
  · have h := shows_pic (Q := QV (view A t)) (n := N + 1) (id := id) x y hx hy
    rw [h, hp, Int.zero_add, Int.zero_add]
    unfold litP cellsG
    rw [no_show]
    simp [noP]
  · unfold cellsG at h
    have := hN.fits (X, Y) (by simpa using h)
    rw [halfN_succ, powI] at this
    exact this
set_option maxRecDepth 20000 in
set_option maxHeartbeats 8000000 in
theorem from_rel (hA : ArL w o b A) (hst : NxSt PR t q A) (ht : t < 64) (v : Value) (zs ys : List (Int × Int)) (hrow : Row w v zs) (hc : tcode zs = 0) (hys : Tidied zs ys) :
    Calls Tryz.prog 53 #[.pointer (some ⟨b, 0, none⟩), .int .i64 t, v] w fun r w' => ∃ id e', r = .returned (.tuple #[.int .i64 id, .int .i64 e']) ∧ ∃ A' o', ArL w' o' b A' ∧ Ch (fun l => l = 1) o w o' w' ∧ NxSt PR t q A' ∧ FromR t A A' ys id e' := by
  have hT := fun W (h : Row W v zs) => tidy_told v zs W h
  rw [hc] at hT
  obtain ⟨N, hN41, hN⟩ := least_exists (tidied_far hys)
  have hlen4 : ys.length ≤ 4096 := by
    have h1 := tidied_len hys
    unfold tcode at hc
    split at hc
    · omega
    · omega
  have hN2 := hN.two
  have HROW : Hid (Row w v zs) := hrow
  clear hrow
  go_enter Tryz.func53, Tryz.ntmps53
  go_wp2_with fail
  refine (hT _ HROW.out).mono ?_
  rintro e w1 ⟨u, ys', rfl, hb1, ht1, hr1⟩
  obtain rfl : ys' = ys := ht1.unique hys
  have HU : Hid (ORow w1 w.heap.size u ys') := hr1
  have HLV : Hid (LeastLv N ys' ∧ N ≤ 41 ∧ ys'.length ≤ 4096) := ⟨hN, hN41, hlen4⟩
  have HST : Hid (NxSt PR t q A) := hst
  have H1 : Hid (ArL w1 (ext o w.heap.size 0) b A ∧ Ch (fun l => l = 1) o w (ext o w.heap.size 0) w1 ∧ w.heap.size ≤ w1.heap.size) := ⟨hA.ch (L := fun _ => False) (Ch.ofBelow hb1 0) fun h => h, Ch.ofBelow hb1 0, hb1.size⟩
  clear hr1 ht1 hys hc hT hN hst hA hlen4
  obtain ⟨x0, y0, x1, y1, bl, hbox, hBd⟩ : ∃ x0 y0 x1 y1 bl, BoxOr ys' x0 y0 x1 y1 ∧ ∀ W, Row W u ys' → Calls Tryz.prog 90 #[u] W fun e w' => e = .returned (.tuple #[.agg #[.int .i64 x0, .int .i64 y0, .int .i64 x1, .int .i64 y1], .bool bl]) ∧ Below W.heap.size W w' := by
    by_cases h0 : ys' = []
    · exact ⟨0, 0, 0, 0, false, Or.inl ⟨h0, rfl, rfl, rfl, rfl⟩, fun W h => by subst h0; exact bounds_any u 0 (fun j => (([] : List (Int × Int))[j]!).1) (fun j => (([] : List (Int × Int))[j]!).2) W h.isRow⟩
    · exact ⟨_, _, _, _, _, Or.inr (box_is h0), fun W h => bounds_any u ys'.length (fun j => (ys'[j]!).1) (fun j => (ys'[j]!).2) W h.isRow⟩
  have hLL := fun W => least_any N x0 y0 x1 y1 W hN2 (by omega) ((reach_fits hbox (by omega)).2 HLV.out.1.fits) (fun j h1 h2 => by
    have := HLV.out.1.least j h1 h2
    rw [← reach_fits hbox (by omega)] at this
    simpa using this)
  go_wp2_with fail
  refine (newHand_any b t _).mono ?_
  rintro e w2 ⟨rfl, hE2, hb2⟩
  obtain ⟨S0, BW⟩ := HE.born (t := t) H1.out.1 hE2 hb2
  go_wp2_with fail
  refine (hBd _ ?_).mono ?_
  · exact (HU.out.below BW).read
  rintro e w3 ⟨rfl, hb3⟩
  go_wp2_with fail
  refine (hLL _).mono ?_
  rintro e w4 ⟨rfl, hb4⟩
  generalize hwh : w2.alloc (.cells #[.pointer (some ⟨b, 0, none⟩), .int .i64 t, .int .i64 0, .slice (some ⟨w1.heap.size + 1, 0, none⟩) 1 1] 143) = wh at *
  have hb34 : Below wh.heap.size wh w4 := by
    have a1 := hb3.alloc hb3.size (.cells #[.int .i64 x0, .int .i64 y0, .int .i64 x1, .int .i64 y1] 31)
    exact a1.trans (hb4.mono a1.size)
  have hh2 : ∀ W, Calls Tryz.prog 95 #[.int .i64 (N : Int)] W fun x w' => x = .returned (.int .i64 (halfN N : Int)) ∧ w' = W := fun W => half_any N W (by omega) (by omega)
  have hbd := halfN_bd N (by omega)
  obtain ⟨hf, hhf⟩ : ∃ hf : Nat, hf = halfN N := ⟨_, rfl⟩
  rw [← hhf] at hh2 hbd
  have hpow : (2 : Int) ^ N = (hf : Int) + hf := by
    obtain ⟨m, rfl⟩ : ∃ m, N = m + 1 := ⟨N - 1, by omega⟩
    rw [hhf, halfN_succ, powI, two_powI]
  have hpb : (hf : Int) ≤ 1099511627776 := by
    have : halfN N ≤ halfN 41 := Nat.pow_le_pow_right (by omega) (by omega)
    have e : halfN 41 = 1099511627776 := by decide
    omega
  have hneg : IntKind.i64.wrap (-(hf : Int)) = -(hf : Int) := by rw [IntKind.wrap_i64]; omega
  obtain ⟨oi, hoi⟩ : ∃ oi, oi = hin (ext o w.heap.size 0) w1.heap.size (w1.heap.size + 1) w2.heap.size := ⟨_, rfl⟩
  rw [← hoi] at S0
  have HOI : Hid (oi = hin (ext o w.heap.size 0) w1.heap.size (w1.heap.size + 1) w2.heap.size ∧ Below w1.heap.size w1 wh) := ⟨hoi, BW⟩
  have HBU : Hid (∀ W, Below w4.heap.size w4 W → Calls Tryz.prog 93 #[.pointer (some ⟨w2.heap.size, 0, none⟩), bareV, u, .int .i64 (N : Int), .int .i64 (-(hf : Int)), .int .i64 (-(hf : Int))] W fun r w' => ∃ k, r = .returned (.int .i64 k) ∧ SqCalls PR wh oi w2.heap.size b t q 0 A N .no ys' (-(hf : Int)) (-(hf : Int)) (SqD N .no ys' (-(hf : Int)) (-(hf : Int))) k w') := by
    intro W hW
    have hbW : Below wh.heap.size wh W := hb34.trans (hW.mono hb34.size)
    have hr := HU.out.below (BW.trans (hbW.mono BW.size))
    refine (square_any N PR W (ext oi wh.heap.size 0) w2.heap.size b t q 0 [0] A ys' u (-(hf : Int)) (-(hf : Int)) N (S0.below hbW) HST.out ht (.inl rfl) ⟨by simp, by simp⟩ (fun _ i x hx => ?_) (RowL.of hr.read) (fun k hk => ?_) HLV.out.2.2 (fun p hp => ?_) (by omega) rfl (by omega) (by omega) (by omega) (by omega)).mono ?_
    · have hi : i = 0 := by have := (List.getElem?_eq_some_iff.1 hx).1; simpa using this
      subst hi
      have hx0 : x = 0 := by simpa using hx.symm
      subst hx0
      exact ⟨rfl, fun _ _ _ _ => rfl⟩
    · have hkk : w.heap.size ≤ k ∧ k < w1.heap.size := by
        rcases HU.out with ⟨_, rfl⟩ | ⟨_, b', off, c', rfl, h1, h2, _⟩
        · simp [Value.ownBlock] at hk
        · simp only [Value.ownBlock, Option.some.injEq] at hk
          omega
      have : k < wh.heap.size := Nat.lt_of_lt_of_le hkk.2 BW.size
      rw [ext_old this, HOI.out.1]
      unfold hin
      rw [if_pos hkk.2, ext_new hkk.1]
      rfl
    · have := HLV.out.1.fits p hp
      rw [← hhf] at this
      omega
    · rintro r w5 ⟨k, rfl, hB⟩
      exact ⟨k, rfl, hB.ahead (Ch.ofBelow hbW 0)⟩
  have HHF : Hid (hf = halfN N) := hhf
  clear hhf hE2 hBd hLL hbox S0 BW hoi hb34
  go_wp2_with fail
  refine (bare_any _).mono ?_
  rintro e w5 ⟨rfl, hb5⟩
  go_wp2_with fail
  refine (hh2 _).mono ?_
  rintro e w6 ⟨rfl, rfl⟩
  go_wp2_with fail
  refine (hh2 _).mono ?_
  rintro e w6 ⟨rfl, rfl⟩
  go_wp2_with fail
  refine (HBU.out _ hb5).mono ?_
  rintro r w6 ⟨id, rfl, e9, E9, A9, o9, S9, C9, SO⟩
  have HO : Hid (∃ A' o', ArL w6 o' b A' ∧ Ch (fun l => l = 1) o w o' w6 ∧ NxSt PR t q A' ∧ (e9 = 0 → FromR t A A' ys' id 0) ∧ (Er e9 → FromR t A A' ys' 0 e9)) := by
    rw [HOI.out.1] at C9
    obtain ⟨v9, hv9, _⟩ := S9
    obtain ⟨a1, a2⟩ := hand_out HOI.out.2 C9 hv9.ar
    obtain ⟨n', hn'⟩ : ∃ n', N = n' + 1 := ⟨N - 1, by omega⟩
    have hf2 : (hf : Int) = 2 ^ n' := by rw [HHF.out, hn', halfN_succ, powI]
    obtain ⟨s1, s2, s3, s4, s5⟩ := SO
    rw [hf2, hn'] at s2
    have hlv := HLV.out.1
    rw [hn'] at hlv
    have hg : ∀ x, x = e9 → Gx t A A9 0 x (SqD (n' + 1) .no ys' (-(2 ^ n')) (-(2 ^ n'))) := fun x hx => by rw [hx]; exact s2
    refine ⟨A9, _, a1, H1.out.2.1.trans a2, s1, fun e0 => ⟨n', hlv, by omega, by omega, hg 0 e0.symm, .inr ⟨rfl, ?_⟩⟩, fun e0 => ⟨n', hlv, by omega, by omega, s2, .inl ⟨e0, rfl⟩⟩⟩
    obtain ⟨_, _, b1, b2⟩ := s5 e0
    rw [hf2, hn'] at b2
    rw [hn'] at b1
    exact rt_of_sq hlv b1 b2
  have he9 : e9 = 0 ∨ Er e9 := SO.2.2.2.1
  obtain ⟨v9, hv9, _⟩ := S9
  have hh9 := hv9.hand
  clear hv9 C9 SO HBU
  go_wp2_with fail
  rcases he9 with rfl | he9
  · refine (answer_ok _ b t id v9 _ hh9).mono ?_
    rintro r w7 ⟨rfl, h7⟩
    have h8 := h7.symm
    subst h8
    go_wp2_with fail
    go_ret2
    obtain ⟨A', o', a1, a2, a3, a4, _⟩ := HO.out
    exact ⟨_, _, rfl, A', o', a1, a2, a3, a4 trivial⟩
  · refine (answer_no _ b t e9 id v9 _ hh9 he9.ne).mono ?_
    rintro r w7 ⟨rfl, nd, rfl⟩
    go_wp2_with fail
    go_ret2
    obtain ⟨A', o', a1, a2, a3, _, a4⟩ := HO.out
    exact ⟨_, _, rfl, A', o', a1.ch ((Ch.refl (fun _ => False) o' _).drewN nd) (fun h => h), a2.drewN nd, a3, a4 he9⟩
end Go.Proofs.YtgipjplifndniaaGreatDoor.A

namespace Go.Proofs.YtgipjplifndniaaGreatDoor.A
open Go.RowKit Go.Proofs.YtgipjplifndniaaGreatDoor.L

def withinB (x : Int) : Bool := decide (0 ≤ x) && decide (x < 512)
def goodB (b l : Int) : Bool := withinB b && withinB l && !hasB b 0
set_option maxHeartbeats 400000 in
theorem within_any (x : Int) (w : World) : Calls Tryz.prog 86 #[.int .i64 x] w fun e w' => e = .returned (.bool (withinB x)) ∧ w' = w := by
  by_cases h0 : 0 ≤ x
  · by_cases h1 : x < 512
    · go_enter Tryz.func86, Tryz.ntmps86
      go_wp2
      go_ret
      exact ⟨by simp [withinB, h0, h1], rfl⟩
    · go_enter Tryz.func86, Tryz.ntmps86
      go_wp2
      go_ret
      exact ⟨by simp [withinB, h1], rfl⟩
  · go_enter Tryz.func86, Tryz.ntmps86
    go_wp2
    go_ret
    exact ⟨by simp [withinB]; omega, rfl⟩
set_option maxHeartbeats 1000000 in
theorem good_any (b l : Int) (w : World) : Calls Tryz.prog 49 #[.agg #[.int .i64 b, .int .i64 l]] w fun e w' => e = .returned (.bool (goodB b l)) ∧ Below w.heap.size w w' := by
  have hw1 := fun W => within_any b W
  have hw2 := fun W => within_any l W
  have hw3 := fun W => has_any b 0 W (by omega)
  have hg : goodB b l = (withinB b && withinB l && !hasB b 0) := rfl
  generalize goodB b l = g at hg
  generalize withinB b = p at *
  generalize withinB l = q at *
  generalize hasB b 0 = r at *
  cases p <;> cases q <;> cases r
  all_goals
    simp at hg
    subst hg
    go_enter Tryz.func49, Tryz.ntmps49
    go_wp2_with (first | (go_at_call_of 86 b; refine (hw1 _).mono ?_; rintro e w' ⟨rfl, hw⟩; have hw2 := hw.symm; subst hw2) | (go_at_call 86; refine (hw2 _).mono ?_; rintro e w' ⟨rfl, hw⟩; have hw2 := hw.symm; subst hw2) | (go_at_call 87; refine (hw3 _).mono ?_; rintro e w' ⟨rfl, hw⟩; have hw2 := hw.symm; subst hw2))
  all_goals go_ret
  all_goals exact ⟨rfl, (Below.refl _ _).alloc (Nat.le_refl _) _⟩
end Go.Proofs.YtgipjplifndniaaGreatDoor.A
