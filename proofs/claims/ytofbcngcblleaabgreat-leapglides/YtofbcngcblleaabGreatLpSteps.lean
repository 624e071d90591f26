/- Steps. -/
import Derived.Test.YtofbcngcblleaabGreatLpRoot
import Derived.Test.YtofbcngcblleaabGreatArBack
import Derived.Test.YtofbcngcblleaabGreatArGlob
import Derived.Test.YtofbcngcblleaabGreatLpStep
import Derived.Test.YtofbcngcblleaabGreatLpGood
namespace Go.Proofs.YtofbcngcblleaabGreat.A
open Go.RowKit Go.Maps Go.Proofs.YtofbcngcblleaabGreat.L
variable {w : World} {o : Nat → Nat} {lb b t : Nat} {rb rl e : Int} {A : Ar} {q : Nat → Int} {g : Gr}
def LeapG (rb rl : Int) (S : Item → Prop) (t m j : Nat) (g : Gr) (x : Int) (A' : Ar) : Prop := (∃ n, n ≤ m ∧ LeastG (n + 1) g ∧ Rt A' t (max (n + 1) (j + 1)) x (iter (lifeR rb rl) (2 ^ j) g)) ∧ Cl (lifeR rb rl) (rnum rb rl) S (view A' t)
def PeelP (g : Gr) (i : Item) : Prop := ∃ n, LeastG (n + 1) g ∧ i = .sq (n + 1) (pic g (-(2 ^ n)) (-(2 ^ n)) (n + 1))
def wideOf (n j : Nat) : Nat := max (n + 3) (j + 3)
def WsD (g : Gr) (n c : Nat) (i : Item) : Prop := LeastG (n + 1) g ∧ ∃ k, n ≤ k ∧ k < n + c ∧ WrapD k g i
def LeapD (R : Bool → Nat → Bool) (rn : Int) (S : Item → Prop) (g : Gr) (j : Nat) (i : Item) : Prop := PeelP g i ∨ ∃ n, LeastG (n + 1) g ∧ ((∃ k, n ≤ k ∧ k + 1 < wideOf n j ∧ WrapD k g i) ∨ Dem R rn S (wideOf n j - 2) (pic g (-(2 ^ (wideOf n j - 1))) (-(2 ^ (wideOf n j - 1))) (wideOf n j)) j i)
theorem wrapD_sq {m : Nat} (i : Item) (h : WrapD m g i) : ∃ n p, i = .sq n p := by
  rcases h with (⟨_, _, _, _, h⟩ | ⟨_, _, h⟩) | h <;> exact ⟨_, _, h⟩
structure LG (PR : (Bool → Nat → Bool) → Int → Prop) (rb rl : Int) (S : Item → Prop) (t : Nat) (q : Nat → Int) (A0 A : Ar) (e e0 : Int) (n i : Nat) (g : Gr) (x : Int) : Prop where
  st : NxSt PR t q A
  gx : Gx t A0 A e0 e (fun it => PeelP g it ∨ WsD g n i it)
  er : e = 0 ∨ Er e
  rt : e = 0 → e0 = 0 ∧ Rt A t (n + i) x g ∧ LeastG (n + 1) g
  cl : e = 0 → Cl (lifeR rb rl) (rnum rb rl) S (view A t)
set_option maxRecDepth 20000 in
set_option maxHeartbeats 4000000 in
theorem lpLeap_rel {PR : (Bool → Nat → Bool) → Int → Prop} {S : Item → Prop} (h : LS w o lb b t rb rl e A) (hst : NxSt PR t q A) (ht : t < 64) (h0 : PB PR rb rl) (h1 : rb ≤ 511) (hR : lifeR rb rl false 0 = false) (he : e = 0 ∨ Er e) (id : Int) (m : Nat) (hm1 : 1 ≤ m) (hm : m + 1 ≤ 36) (hbig : e = 0 → (cellsF A.ths (m + 1) id).length < 4611686018427387904) (hrt : e = 0 → Rt A t m id g ∧ Cl (lifeR rb rl) (rnum rb rl) S (view A t)) (j : Nat) (hj : j ≤ 30) (J : Int) (hJ : J = (j : Int)) :
    Calls Tryz.prog 40 #[.pointer (some ⟨lb, 0, none⟩), .int .i64 id, .int .i64 J] w fun r w' => ∃ x, r = .returned (.int .i64 x) ∧ OutE PR rb rl t q A o w lb b e (LeapD (lifeR rb rl) (rnum rb rl) S g j) (LeapG rb rl S t m j g x) w' := by
  have hrc : Calls Tryz.prog 59 #[.pointer (some ⟨lb, 0, none⟩), .int .i64 id] w fun r w' => r = .returned (.tuple #[]) ∧ Kp o w lb b t rb rl e A w' := by
    rcases he with rfl | he
    · have rt := (hrt rfl).1
      refine lpReach_ok h hst ht id (m + 1) (by omega) (by omega) rt.lev (hbig rfl) fun p hp => ?_
      have h2 := rt.out p.1 p.2 ((rt.cells hst ht p).1 hp)
      have h3 : (2 : Int) ^ m ≤ 2 ^ 41 := by
        have h4 : 2 ^ m ≤ 2 ^ 41 := Nat.pow_le_pow_right (by omega) (by omega)
        have := powI m
        have := powI 41
        omega
      rw [halfN_succ, powI]
      omega
    · exact lpReach_dead h he.ne id
  have H0 : Hid (NxSt PR t q A ∧ (e = 0 ∨ Er e) ∧ (e = 0 → Rt A t m id g ∧ Cl (lifeR rb rl) (rnum rb rl) S (view A t)) ∧ J = (j : Int) ∧ 1 ≤ m ∧ m + 1 ≤ 36 ∧ j ≤ 30 ∧ (e = 0 → (cellsF A.ths (m + 1) id).length < 4611686018427387904)) := ⟨hst, he, hrt, hJ, hm1, hm, hj, hbig⟩
  have hjb : 0 ≤ J ∧ J ≤ 30 := by omega
  clear h hst he hrt hJ hm1 hm hj hbig
  go_enter Tryz.func40, Tryz.ntmps40
  go_wp2_with fail
  refine hrc.mono ?_
  rintro r w1 ⟨rfl, o1, h1', k1⟩
  have hpl := lpPeel_rel h1' H0.out.1 ht H0.out.2.1 id m H0.out.2.2.2.2.1 (by have := H0.out.2.2.2.2.2.1; omega) (fun e0 => (H0.out.2.2.1 e0).1.lev) (fun e0 => H0.out.2.2.2.2.2.2.2 e0)
  have HK1 : Hid (Ch AL o w o1 w1) := k1
  clear hrc h1' k1
  go_wp2_with fail
  refine hpl.mono ?_
  rintro r w2 ⟨x, rfl, e2, A2, ⟨o2, h2, k2⟩, s2, g2, d2⟩
  obtain ⟨n, hn⟩ : ∃ n, 1 ≤ n ∧ n ≤ m ∧ (Er e2 ∨ (e2 = 0 ∧ e = 0 ∧ Rt A2 t n x g ∧ LeastG (n + 1) g)) := by
    rcases d2 with d2 | ⟨d2, d3, n, d4, d5, d6, d7⟩
    · exact ⟨1, by omega, H0.out.2.2.2.2.1, .inl d2⟩
    · have rt := (H0.out.2.2.1 d3).1
      exact ⟨n, by have := d4.two; omega, d5, .inr ⟨d2, d3, rt.peel H0.out.1 ht (rt.go H0.out.1 ht g2.toGoes1) d4 d6 d7, (rt.least H0.out.1 ht).1 d4⟩⟩
  have g2p : Gx t A A2 e e2 (PeelP g) := g2.eqv (fun e0 it => by
    have rt := (H0.out.2.2.1 e0).1
    unfold PeelD PeelP
    rw [rt.plane]
    exact ⟨fun ⟨n', a1, a2⟩ => ⟨n', (rt.least H0.out.1 ht).1 a1, a2⟩, fun ⟨n', a1, a2⟩ => ⟨n', (rt.least H0.out.1 ht).2 a1, a2⟩⟩) H0.out.2.1
  have he2 : e2 = 0 ∨ Er e2 := by rcases hn.2.2 with h | h; exact .inr h; exact .inl h.1
  have hlv := lpLevel_rel h2 s2 ht he2 x (n + 1) (fun e0 => by rcases hn.2.2 with h | h; (first | exact absurd e0 h.ne | exact absurd h e0.ne); exact h.2.2.1.lev)
  have H2 : Hid (Ch AL o w o2 w2 ∧ NxSt PR t q A2 ∧ Gx t A A2 e e2 (PeelP g) ∧ (e2 = 0 ∨ Er e2) ∧ 1 ≤ n ∧ n ≤ m ∧ (Er e2 ∨ (e2 = 0 ∧ e = 0 ∧ Rt A2 t n x g ∧ LeastG (n + 1) g))) := ⟨HK1.out.trans k2, s2, g2p, he2, hn⟩
  clear hpl h2 k2 s2 g2 d2 hn he2
  go_wp2_with fail
  refine hlv.mono ?_
  rintro r w3 ⟨l, rfl, ⟨o3, h3, k3⟩, l0, l9⟩
  obtain ⟨n0, hn0⟩ : ∃ n0 : Nat, l = ((n0 + 1 : Nat) : Int) ∧ 1 ≤ n0 ∧ n0 ≤ m ∧ (e2 = 0 → n0 = n) := by
    rcases H2.out.2.2.2.1 with h | h
    · exact ⟨n, l0 h, H2.out.2.2.2.2.1, H2.out.2.2.2.2.2.1, fun _ => rfl⟩
    · exact ⟨1, l9 h, by omega, H0.out.2.2.2.2.1, fun e0 => by first | exact absurd e0 h.ne | exact absurd h e0.ne⟩
  obtain ⟨WD, hWD⟩ : ∃ W : Nat, W = max (n0 + 3) (j + 3) := ⟨_, rfl⟩
  have hlb : 2 ≤ l ∧ l ≤ 36 := by have := H0.out.2.2.2.2.2.1; omega
  have wa : IntKind.i64.wrap (l + 2) = l + 2 := by rw [IntKind.wrap_i64]; omega
  have wb : IntKind.i64.wrap (J + 3) = J + 3 := by rw [IntKind.wrap_i64]; omega
  have wm : max (l + 2) (J + 3) = (WD : Int) := by have := H0.out.2.2.2.1; omega
  have ws : IntKind.i64.wrap ((WD : Int) - l) = ((WD - (n0 + 1) : Nat) : Int) := by rw [IntKind.wrap_i64]; have := H0.out.2.2.2.2.2; omega
  have H3 : Hid (LS w3 o3 lb b t rb rl e2 A2 ∧ Ch AL o w o3 w3) := ⟨h3, H2.out.1.trans k3⟩
  have HN : Hid (l = ((n0 + 1 : Nat) : Int) ∧ 1 ≤ n0 ∧ n0 ≤ m ∧ (e2 = 0 → n0 = n) ∧ WD = max (n0 + 3) (j + 3)) := ⟨hn0.1, hn0.2.1, hn0.2.2.1, hn0.2.2.2, hWD⟩
  obtain ⟨C, hC⟩ : ∃ C : Nat, C = WD - (n0 + 1) := ⟨_, rfl⟩
  rw [← hC] at ws
  have HC : Hid (C = WD - (n0 + 1)) := hC
  have hcb : C < 100 := by have := H0.out.2.2.2.2.2; omega
  have HG0 : Hid (LG PR rb rl S t q A A2 e2 e n0 0 g x) := ⟨H2.out.2.1, H2.out.2.2.1.eqv (fun _ it => ⟨fun h => .inl h, fun h => by rcases h with h | ⟨_, _, _, h, _⟩; exact h; omega⟩) H0.out.2.1, H2.out.2.2.2.1, fun e0 => by
    rcases H2.out.2.2.2.2.2.2 with h | h
    · first | exact absurd e0 h.ne | exact absurd h e0.ne
    · rw [HN.out.2.2.2.1 e0]; exact ⟨h.2.1, h.2.2.1, h.2.2.2⟩, fun e0 => by
    have e00 := (H2.out.2.2.1.all e0).1
    exact (H0.out.2.2.1 e00).2.more H0.out.1 ht H2.out.2.2.1 fun it ⟨_, _, h⟩ => ⟨_, _, h⟩⟩
  clear hlv h3 k3 l0 l9 hn0 hWD hC
  go_wp2_with fail
  go_loopg [1, 26] C (fun gg s1 s26 wr => ∃ i : Nat, i + gg = C ∧ s26 = .int .i64 i ∧ ∃ y, s1 = .int .i64 y ∧ ∃ e1 A1 o1, LS wr o1 lb b t rb rl e1 A1 ∧ Ch AL o w o1 wr ∧ LG PR rb rl S t q A A1 e1 e n0 i g y)
  case atStart => exact ⟨0, by omega, rfl, x, rfl, e2, A2, o3, H3.out.1, H3.out.2, HG0.out⟩
  case round =>
    clear H3 HG0
    obtain ⟨i, hig, rfl, y, rfl, e1, A1, o4, hL, hK, hG⟩ := hrel
    have HI : Hid (i + gk = C) := hig
    have hiC : i ≤ C := by omega
    clear hig
    have HG : Hid (LG PR rb rl S t q A A1 e1 e n0 i g y ∧ Ch AL o w o4 wr) := ⟨hG, hK⟩
    by_cases hlt : i < C
    · have hwr := lpWrap_rel hL hG.st ht hG.er y (n0 + i) (by have := HC.out; have := HN.out; have := H0.out; omega) (fun e0 => (hG.rt e0).2.1.lev)
      have hil : (i : Int) < (C : Int) := by omega
      clear hL hG hK
      go_wp2_with fail
      refine hwr.mono ?_
      rintro r w5 ⟨z, rfl, e5, A5, ⟨o5, h5, k5⟩, s5, g5, d5⟩
      have HL5 : Hid (LS w5 o5 lb b t rb rl e5 A5 ∧ Ch AL o w o5 w5 ∧ LG PR rb rl S t q A A5 e5 e n0 (i + 1) g z) := by
        have hwd : e1 = 0 → WrapD (n0 + i) (ctr (n0 + i) (picQ (QV (view A1 t)) (n0 + i + 1) y)) = WrapD (n0 + i) g := fun e0 => by rw [((HG.out.1.rt e0).2.1).plane]
        refine ⟨h5, HG.out.2.trans k5, s5, Gx.seq HG.out.1.st ht HG.out.1.er HG.out.1.gx g5 (fun it h => ?_) (fun e0 _ it h => ?_) (fun _ e0 _ it h => ?_), ?_, fun e0 => ?_, fun e0 => ?_⟩
        · rcases h with h | ⟨a1, k, a2, a3, a4⟩
          · exact .inl h
          · exact .inr ⟨a1, k, a2, by omega, a4⟩
        · rw [hwd e0] at h
          exact .inr ⟨(HG.out.1.rt e0).2.2, n0 + i, by omega, by omega, h⟩
        · rw [hwd e0]
          rcases h with h | ⟨a1, k, a2, a3, a4⟩
          · exact .inl (.inl h)
          · rcases Nat.lt_or_ge k (n0 + i) with h3 | h3
            · exact .inl (.inr ⟨a1, k, a2, h3, a4⟩)
            · have : k = n0 + i := by omega
              subst this
              exact .inr a4
        · rcases d5 with d5 | d5; exact .inr d5; exact .inl d5.1
        · rcases d5 with d5 | ⟨_, d6, d7⟩
          · first | exact absurd e0 d5.ne | exact absurd d5 e0.ne
          · obtain ⟨a1, a2, a3⟩ := HG.out.1.rt d6
            exact ⟨a1, (a2.go HG.out.1.st ht g5.toGoes1).wrap d7.1 d7.2, a3⟩
        · have e10 : e1 = 0 := (g5.all e0).1
          exact (HG.out.1.cl e10).more HG.out.1.st ht g5 fun it h => wrapD_sq it h
      clear h5 k5 s5 g5 d5 hwr
      go_wp2_with fail
      go_roundg (gk - 1)
      case measure => have := HI.out; omega
      case rel => exact ⟨i + 1, by have := HI.out; omega, by go_num, z, rfl, e5, A5, o5, HL5.out.1, HL5.out.2.1, HL5.out.2.2⟩
    · have hiq : i = C := by omega
      have hil : ¬ (i : Int) < (C : Int) := by omega
      have hlev : e1 = 0 → levV (view A1 t).V y = some ((WD - 2 + 2 : Nat) : Int) := fun e0 => by
        rw [(hG.rt e0).2.1.lev]
        have := HC.out
        have := HN.out
        congr 1
        omega
      have hnx := lpNext_rel (next_all (WD - 2)) hL hG.st ht h0 h1 (by have := HN.out; have := H0.out; omega) hG.er y j (by have := HN.out; omega) (fun e0 => ⟨hlev e0, hG.cl e0⟩)
      rw [show ((WD - 2 + 2 : Nat) : Int) = (WD : Int) by have := HN.out; omega, ← H0.out.2.2.2.1] at hnx
      have HQ : Hid (i = C) := hiq
      clear hL hG hK hiq hlev
      go_wp2_with fail
      refine hnx.mono ?_
      rintro r w5 ⟨z, rfl, e5, A5, ⟨o5, h5, k5⟩, s5, g5, d5⟩
      have HO : Hid (OutE PR rb rl t q A o w lb b e (LeapD (lifeR rb rl) (rnum rb rl) S g j) (LeapG rb rl S t m j g z) w5) := by
        have hww : wideOf n0 j = WD := HN.out.2.2.2.2.symm
        have hdm : e1 = 0 → picQ (QV (view A1 t)) (WD - 2 + 2) y = pic g (-(2 ^ (wideOf n0 j - 1))) (-(2 ^ (wideOf n0 j - 1))) (wideOf n0 j) := fun e0 => by
          have a2 := (HG.out.1.rt e0).2.1
          have e4 : n0 + i = WD - 1 := by have := HC.out; have := HN.out; have := HQ.out; omega
          rw [e4] at a2
          have := pic_shows a2.shows
          rw [hww, show WD - 2 + 2 = WD - 1 + 1 by have := HN.out; omega, this]
          congr 1
          have := HN.out
          omega
        refine ⟨e5, A5, ⟨o5, h5, HG.out.2.trans k5⟩, s5, Gx.seq HG.out.1.st ht HG.out.1.er HG.out.1.gx g5 (fun it h => ?_) (fun e0 _ it h => ?_) (fun _ e0 _ it h => ?_), ?_⟩
        · rcases h with h | ⟨a1, k, a2, a3, a4⟩
          · exact .inl h
          · exact .inr ⟨n0, a1, .inl ⟨k, a2, by rw [hww]; have := HC.out; have := HN.out; have := HQ.out; omega, a4⟩⟩
        · rw [hdm e0] at h
          rw [show WD - 2 = wideOf n0 j - 2 by rw [hww]] at h
          exact .inr ⟨n0, (HG.out.1.rt e0).2.2, .inr h⟩
        · rw [hdm e0, show WD - 2 = wideOf n0 j - 2 by rw [hww]]
          rcases h with h | ⟨n', a1, a2⟩
          · exact .inl (.inl h)
          · have hu := a1.unique (HG.out.1.rt e0).2.2
            have hu' : n' = n0 := by omega
            subst hu'
            rcases a2 with ⟨k, b1, b2, b3⟩ | a2
            · exact .inl (.inr ⟨a1, k, b1, by rw [hww] at b2; have := HC.out; have := HN.out; have := HQ.out; omega, b3⟩)
            · exact .inr a2
        rcases d5 with d5 | ⟨d5, d6, d7, d8, d9⟩
        · exact .inl d5
        · obtain ⟨a1, a2, a3⟩ := HG.out.1.rt d6
          have e4 : n0 + i = WD - 2 + 1 := by have := HC.out; have := HN.out; have := HQ.out; omega
          rw [e4] at a2
          have hfit : ∀ X Y, g X Y = true → -(2 ^ n0) ≤ X ∧ X < 2 ^ n0 ∧ -(2 ^ n0) ≤ Y ∧ Y < 2 ^ n0 := a3.fits
          have hfin : Rt A5 t (WD - 2) z (iter (lifeR rb rl) (2 ^ j) g) := by
            refine (a2.go HG.out.1.st ht g5.toGoes1).next hR d7 d8 hfit ?_
            have p1 := two_pow (WD - 3)
            have p2 : 2 ^ n0 ≤ 2 ^ (WD - 3) := Nat.pow_le_pow_right (by omega) (by have := HN.out; omega)
            have p3 : 2 ^ j ≤ 2 ^ (WD - 3) := Nat.pow_le_pow_right (by omega) (by have := HN.out; omega)
            rw [show WD - 3 + 1 = WD - 2 by have := HN.out; omega] at p1
            rw [← powI n0, ← powI (WD - 2)]
            omega
          exact .inr ⟨d5, a1, ⟨n0, HN.out.2.2.1, a3, by rw [show max (n0 + 1) (j + 1) = WD - 2 by have := HN.out; omega]; exact hfin⟩, d9⟩
      clear h5 k5 s5 g5 d5 hnx
      go_wp2_with fail
      go_ret
      exact ⟨_, rfl, HO.out⟩
end Go.Proofs.YtofbcngcblleaabGreat.A

namespace Go.Proofs.YtofbcngcblleaabGreat.A
open Go.RowKit Go.Maps
theorem glob_back {A : Ar} (h : Glob A) (hS : Sound A) {t : Nat} (ht : t < 64) (k : Nat) : Glob (A.lose t ((A.fresh t).drop k) ((A.fresh t).take k)) := by
  obtain ⟨hnd, hown⟩ := fresh_own hS ht
  have ho : OwnIds A.ths t ((A.fresh t).drop k) := ⟨hnd.sublist (List.drop_sublist _ _), fun id hid => hown id (List.mem_of_mem_drop hid)⟩
  refine ⟨gl_lose h.gl hS ht ho, fun u hu => ?_⟩
  obtain ⟨v1, v2⟩ := view_lose (f := (A.fresh t).take k) hS ht ho
  by_cases e : u = t
  · subst e
    rw [v1]
    refine (h.wel u hu).less (fun id f hf hn => ?_) (fun n id f hf hn hn2 r hr => ?_) (fun id hid => ?_)
    · exact (h.wel u hu).fr k id f hf hn
    · by_cases hl : n ≤ ((A.fresh u).take k).length
      · have hd : (A.fresh u).drop n = ((A.fresh u).take k).drop n ++ (A.fresh u).drop k := by
          rw [← List.drop_append_of_le_length hl, List.take_append_drop]
        have h1 := (h.wel u hu).fr n id f hf (by
          show id ∉ (A.fresh u).drop n
          rw [hd]
          exact fun hm => (List.mem_append.1 hm).elim hn2 hn) r hr
        have h1 : r ∉ (A.fresh u).drop n := h1
        rw [hd] at h1
        exact fun hm => h1 (List.mem_append_left _ hm)
      · rw [List.drop_of_length_le (by omega)]
        simp
    · refine ⟨fun hd => ?_, (h.wel u hu).fo id (List.mem_of_mem_take hid)⟩
      have h3 : ((A.fresh u).take k ++ (A.fresh u).drop k).Nodup := by rw [List.take_append_drop]; exact hnd
      exact (List.nodup_append.1 h3).2.2 id hid id hd rfl
  · rw [v2 u e]; exact h.wel u hu
end Go.Proofs.YtofbcngcblleaabGreat.A

namespace Go.Proofs.YtofbcngcblleaabGreat.A
open Go.RowKit Go.Proofs.YtofbcngcblleaabGreat.L
theorem freshP_any (b t : Nat) (F : Nat → Prop) (A : Ar) (w : World) (h : AtP w b F A) (ht : t < 64) :
    Calls Tryz.prog 39 #[.pointer (some ⟨b, 0, none⟩), .int .i64 t] w fun e w' => e = .returned (.int .i64 ((A.fresh t).length : Int)) ∧ w' = w := by
  obtain ⟨L, r, D, h, _, _⟩ := h
  have hc := h.raw.at (4 + t * 3 + 2) (by omega)
  rw [Raw.cf] at hc
  obtain ⟨a, c, hv⟩ := (h.fresh t ht).shape
  have hL : (({ A with free := L } : Ar).fresh t) = A.fresh t := rfl
  rw [hL] at hv
  rw [hv] at hc
  generalize (A.fresh t).length = n at hc ⊢
  have hi := fun W => tenant_yes t ht W
  have h0 : (0 : Int) ≤ t := by omega
  have h1 : (t : Int) < 64 := by omega
  clear hv hL h
  go_enter Tryz.func39, Tryz.ntmps39
  go_wp2_with fail
  refine (hi _).mono ?_
  rintro e w1 ⟨rfl, rfl⟩
  go_wp2_with fail
  go_ret
  exact ⟨rfl, rfl⟩
theorem notes_lose {R : Bool → Nat → Bool} {rn : Int} {A : Ar} {t : Nat} {ids f : List Int} (h : NotesG R rn A.ths) (hg : GL A.ths) (hS : Sound A) (ht : t < 64) (ho : OwnIds A.ths t ids) : NotesG R rn (A.lose t ids f).ths := by
  have hl : (A.lose t ids f).ths = (A.takes t ids).ths := rfl
  have hlen := takes_len A t ids
  have hids : ∀ id ∈ ids, 2 ≤ id ∧ (id - 2).toNat < A.ths.length := fun id hid => by
    obtain ⟨h2, x, hx, _⟩ := ho.2 id hid
    exact ⟨h2, (List.getElem?_eq_some_iff.1 hx).1⟩
  have hget := takes_get t ht ids A hids hS.mask
  have hface : ∀ (j : Nat) (x : Th), A.ths[j]? = some x → ∃ y, (A.takes t ids).ths[j]? = some y ∧ y.face = x.face := fun j x hx => by
    obtain ⟨y, h1, h2, h3, h4, _⟩ := hget j x hx
    exact ⟨y, h1, by unfold Th.face; rw [h2, h3, h4]⟩
  have hi : Inc A.ths (A.takes t ids).ths := fun j x hx _ => hface j x hx
  rw [hl]
  intro y hy hk
  obtain ⟨j, hj⟩ := mem_get hy
  have hlt : j < A.ths.length := by rw [← hlen]; exact (List.getElem?_eq_some_iff.1 hj).1
  obtain ⟨y', h1, h2⟩ := hface j _ (List.getElem?_eq_getElem hlt)
  rw [hj] at h1
  cases h1
  have hk' := (face_all h2).1
  exact (h _ (List.getElem_mem hlt) (by rw [← hk']; exact hk)).inc h2 hi hg (lv0_of hS)
theorem back_st {PR : (Bool → Nat → Bool) → Int → Prop} {t : Nat} {q : Nat → Int} {A A' : Ar} (hst0 : NxSt PR t q A) (ht : t < 64) (hst : NxSt PR t q A') (g : Goes1 t A A') :
    NxSt PR t q (A'.lose t ((A'.fresh t).drop (A.fresh t).length) ((A'.fresh t).take (A.fresh t).length)) ∧ (∀ u, view (A'.lose t ((A'.fresh t).drop (A.fresh t).length) ((A'.fresh t).take (A.fresh t).length)) u = view A u) ∧ backK (A.fresh t).length (A'.fresh t) = (A.fresh t).length := by
  obtain ⟨l, hl, ha, hb, hc⟩ := g.fresh
  have ho : OwnIds A'.ths t ((A'.fresh t).drop (A.fresh t).length) := by
    obtain ⟨h1, h2⟩ := fresh_own hst.s ht
    exact ⟨h1.sublist (List.drop_sublist _ _), fun id hid => h2 id (List.mem_of_mem_drop hid)⟩
  have hd : (A'.fresh t).drop (A.fresh t).length = l := by rw [hl, List.drop_left]
  have hk : (A'.fresh t).take (A.fresh t).length = A.fresh t := by rw [hl, List.take_left]
  obtain ⟨v1, v2⟩ := view_lose (f := (A'.fresh t).take (A.fresh t).length) hst.s ht ho
  have hv : view (A'.lose t ((A'.fresh t).drop (A.fresh t).length) ((A'.fresh t).take (A.fresh t).length)) t = view A t := by
    rw [v1]
    unfold Vw.less
    rw [hd, hk]
    have e1 : (fun k => if k ∈ l then none else (view A' t).V k) = (view A t).V := by
      funext id
      by_cases hi : id ∈ l
      · rw [if_pos hi, hb id hi]
      · rw [if_neg hi]
        cases hv : (view A' t).V id with
        | none =>
          cases hv0 : (view A t).V id with
          | none => rfl
          | some f => rw [g.sees id f hv0] at hv; cases hv
        | some f =>
          rcases ha id f hv with h | h
          · exact absurd h hi
          · exact h.symm
    rw [e1]
    have e2 : (view A' t).cnt - (l.length : Int) = (view A t).cnt := by show A'.cnt t - _ = A.cnt t; omega
    have e3 : (view A' t).lim = (view A t).lim := g.lim
    rw [e2, e3]
    rfl
  have hall : ∀ u, view (A'.lose t ((A'.fresh t).drop (A.fresh t).length) ((A'.fresh t).take (A.fresh t).length)) u = view A u := fun u => by
    by_cases hu : u = t
    · subst hu; exact hv
    · rw [v2 u hu]; exact g.oth u hu
  have hlim := (lose_rest A' t ((A'.fresh t).drop (A.fresh t).length) ((A'.fresh t).take (A.fresh t).length)).1
  refine ⟨⟨backN_sound hst.s ht _, glob_back hst.g hst.s ht _, ?_, fun R rn hP => notes_lose (hst.n R rn hP) hst.g.gl hst.s ht ho, hst.u, ?_⟩, hall, ?_⟩
  · rw [hv]; exact hst0.p
  · exact hst.r.same (lose_rest A' t _ _).2 fun u _ => (congrArg Vw.cnt (hall u)).trans (congrArg Vw.cnt (g.oth u ‹_›)).symm
  · unfold backK
    rw [hl, List.length_append]
    omega
end Go.Proofs.YtofbcngcblleaabGreat.A

namespace Go.Proofs.YtofbcngcblleaabGreat.A
open Go.RowKit Go.Maps Go.Proofs.YtofbcngcblleaabGreat.L
variable {w w1 : World} {o : Nat → Nat} {lb b t : Nat} {rb rl e : Int} {A A' : Ar} {q : Nat → Int} {g : Gr} {PR : (Bool → Nat → Bool) → Int → Prop} {S : Item → Prop}
def lin (o : Nat → Nat) (s h : Nat) : Nat → Nat := fun k => if k < s then (if o k = 1 then 1 else 0) else if k = h then 2 else 0
theorem LS.born (hA : ArL w o b A) (hb1 : Below w.heap.size w w1) :
    LS (w1.alloc (.cells #[.pointer (some ⟨b, 0, none⟩), .int .i64 t, .int .i64 rb, .int .i64 rl, .int .i64 0] 88)) (lin o w.heap.size w1.heap.size) w1.heap.size b t rb rl 0 A ∧ Below w.heap.size w (w1.alloc (.cells #[.pointer (some ⟨b, 0, none⟩), .int .i64 t, .int .i64 rb, .int .i64 rl, .int .i64 0] 88)) := by
  have b2 : Below w.heap.size w (w1.alloc (.cells #[.pointer (some ⟨b, 0, none⟩), .int .i64 t, .int .i64 rb, .int .i64 rl, .int .i64 0] 88)) := hb1.alloc hb1.size _
  have hs := hb1.size
  obtain ⟨F, hF, hF1⟩ := hA
  have hflt := hF.flt
  refine ⟨⟨heap_alloc_new w1 _, ?_, F, hF.other b2.size fun k hk => b2.block k (hflt k hk), fun k hk => ?_⟩, b2⟩
  · unfold lin
    rw [if_neg (by omega), if_pos rfl]
  · unfold lin
    rw [if_pos (hflt k hk), if_pos (hF1 k hk)]
theorem lp_out {h : Nat} {w9 : World} {o9 : Nat → Nat} (hb1 : Below w.heap.size w w1) (hc : Ch AL (lin o w.heap.size h) w1 o9 w9) (hA : ArL w9 o9 b A) : ArL w9 (hout o o9 w.heap.size) b A ∧ Ch (fun l => l = 1) o w (hout o o9 w.heap.size) w9 := by
  have hs := hb1.size
  refine ⟨?_, hc.os.trans hb1.os, hc.tape.trans hb1.tape, hc.output.trans hb1.output, Nat.le_trans hs hc.size, fun k hk => by unfold hout; rw [if_pos hk], fun k hk hn => ?_⟩
  · obtain ⟨F, h1, h2⟩ := hA
    refine ⟨F, h1, fun k hk => ?_⟩
    have h3 := h2 k hk
    unfold hout
    split
    · rename_i hlt
      have h4 := hc.lab k (by omega)
      unfold lin at h4
      rw [if_pos hlt, h3] at h4
      split at h4
      · assumption
      · cases h4
    · first | rfl | rw [if_pos h3]
  · refine (hc.block k (by omega) ?_).trans (hb1.block k hk)
    unfold lin AL
    rw [if_pos hk, if_neg hn]
    omega
def WayD (R : Bool → Nat → Bool) (rn : Int) (S : Item → Prop) (g : Gr) (n i : Nat) (it : Item) : Prop := ∃ j, j < i ∧ n / 2 ^ j % 2 = 1 ∧ LeapD R rn S (iter R (n % 2 ^ j) g) j it
def StepsD (R : Bool → Nat → Bool) (rn : Int) (S : Item → Prop) (g : Gr) (n : Nat) (it : Item) : Prop := WayD R rn S g n 31 it ∨ PeelP (iter R n g) it
def StepsR (PR : (Bool → Nat → Bool) → Int → Prop) (rb rl : Int) (t : Nat) (q : Nat → Int) (A A' : Ar) (g : Gr) (n : Nat) (x e' : Int) : Prop :=
  (Er e' ∧ x = 0 ∧ (∀ u, view A' u = view A u) ∧ ∃ A1, NxSt PR t q A1 ∧ Gx t A A1 0 e' (StepsD (lifeR rb rl) (rnum rb rl) (Has (view A t)) g n)) ∨ (e' = 0 ∧ Gx t A A' 0 0 (StepsD (lifeR rb rl) (rnum rb rl) (Has (view A t)) g n) ∧ ∃ N, LeastG (N + 1) (iter (lifeR rb rl) n g) ∧ Rt A' t N x (iter (lifeR rb rl) n g))
structure SG (PR : (Bool → Nat → Bool) → Int → Prop) (rb rl : Int) (t : Nat) (q : Nat → Int) (A0 A : Ar) (e : Int) (m n i : Nat) (g : Gr) (x : Int) : Prop where
  st : NxSt PR t q A
  gx : Gx t A0 A 0 e (WayD (lifeR rb rl) (rnum rb rl) (Has (view A0 t)) g n i)
  er : e = 0 ∨ Er e
  rt : e = 0 → ∃ m', 1 ≤ m' ∧ m' ≤ max m i + 2 ∧ Rt A t m' x (iter (lifeR rb rl) (n % 2 ^ i) g)
  cl : e = 0 → Cl (lifeR rb rl) (rnum rb rl) (Has (view A0 t)) (view A t)
theorem least_le {N M : Nat} (h : LeastG N g) (hM : 1 ≤ M) (hf : ∀ X Y, g X Y = true → -(2 ^ M) ≤ X ∧ X < 2 ^ M ∧ -(2 ^ M) ≤ Y ∧ Y < 2 ^ M) : N ≤ M + 1 := by
  rcases Nat.lt_or_ge (M + 1) N with h1 | h1
  · exact absurd hf (h.least (M + 1) (by omega) h1)
  · exact h1
theorem bit_one {n i : Nat} (h : n / 2 ^ i % 2 = 1) : n % 2 ^ (i + 1) = n % 2 ^ i + 2 ^ i := by
  rw [Nat.pow_succ, Nat.mod_mul, h, Nat.mul_one]
theorem bit_zero {n i : Nat} (h : n / 2 ^ i % 2 = 0) : n % 2 ^ (i + 1) = n % 2 ^ i := by
  rw [Nat.pow_succ, Nat.mod_mul, h, Nat.mul_zero, Nat.add_zero]
theorem SG.skip {A0 : Ar} {m n i : Nat} {x : Int} (h : SG PR rb rl t q A0 A e m n i g x) (hb : n / 2 ^ i % 2 = 0) : SG PR rb rl t q A0 A e m n (i + 1) g x := by
  refine ⟨h.st, h.gx.eqv (fun _ it => ⟨fun ⟨j, h1, h2⟩ => ⟨j, by omega, h2⟩, fun ⟨j, h1, h2, h3⟩ => ?_⟩) (.inl rfl), h.er, fun e0 => ?_, h.cl⟩
  · rcases Nat.lt_or_ge j i with h4 | h4
    · exact ⟨j, h4, h2, h3⟩
    · have : j = i := by omega
      subst this
      omega
  · obtain ⟨m', a1, a2, a3⟩ := h.rt e0
    rw [bit_zero hb]
    exact ⟨m', a1, by omega, a3⟩
theorem SG.leap {A0 A2 : Ar} {m n i m' : Nat} {x y e2 : Int} (h : SG PR rb rl t q A0 A e m n i g x) (ht : t < 64) (hb : n / 2 ^ i % 2 = 1) (hR : lifeR rb rl false 0 = false) (hm : 1 ≤ m) (hg : ∀ X Y, g X Y = true → -(2 ^ m) ≤ X ∧ X < 2 ^ m ∧ -(2 ^ m) ≤ Y ∧ Y < 2 ^ m)
    (s2 : NxSt PR t q A2) (g2 : Gx t A A2 e e2 (LeapD (lifeR rb rl) (rnum rb rl) (Has (view A0 t)) (iter (lifeR rb rl) (n % 2 ^ i) g) i)) (d2 : Er e2 ∨ (e2 = 0 ∧ e = 0 ∧ LeapG rb rl (Has (view A0 t)) t m' i (iter (lifeR rb rl) (n % 2 ^ i) g) y A2)) : SG PR rb rl t q A0 A2 e2 m n (i + 1) g y := by
  refine ⟨s2, Gx.seq h.st ht h.er h.gx g2 (fun it ⟨j, h1, h2⟩ => ⟨j, by omega, h2⟩) (fun _ _ it hi => ⟨i, by omega, hb, hi⟩) (fun _ _ _ it ⟨j, h1, h2, h3⟩ => ?_), ?_, fun e0 => ?_, fun e0 => ?_⟩
  · rcases Nat.lt_or_ge j i with h4 | h4
    · exact .inl ⟨j, h4, h2, h3⟩
    · have : j = i := by omega
      subst this
      exact .inr h3
  · rcases d2 with d | d; exact .inr d; exact .inl d.1
  · rcases d2 with d | ⟨_, _, ⟨n0, a1, a2, a3⟩, _⟩
    · first | exact absurd e0 d.ne | exact absurd d e0.ne
    · rw [bit_one hb, ← iter_add]
      refine ⟨max (n0 + 1) (i + 1), by omega, ?_, a3⟩
      have h5 : n0 + 1 ≤ max m i + 1 + 1 := least_le a2 (by omega) fun X Y hg' => by
        have h6 := spread hR hg (n % 2 ^ i) X Y hg'
        have h7 : n % 2 ^ i < 2 ^ i := Nat.mod_lt _ (Nat.pow_pos (by omega))
        have p0 := two_pow (max m i)
        have p1 : 2 ^ m ≤ 2 ^ (max m i) := Nat.pow_le_pow_right (by omega) (by omega)
        have p2 : 2 ^ i ≤ 2 ^ (max m i) := Nat.pow_le_pow_right (by omega) (by omega)
        rw [← powI m] at h6
        rw [← powI (max m i + 1)]
        omega
      omega
  · rcases d2 with d | ⟨_, _, _, d⟩
    · first | exact absurd e0 d.ne | exact absurd d e0.ne
    · exact d
end Go.Proofs.YtofbcngcblleaabGreat.A
