/- A leaper's leap. -/
import Derived.Test.YtofbcngcblleaaaGreatLpRoot
namespace Go.Proofs.YtofbcngcblleaaaGreat.A
open Go.RowKit Go.Maps Go.Proofs.YtofbcngcblleaaaGreat.L

variable {w : World} {o : Nat → Nat} {lb b t : Nat} {rb rl e : Int} {A : Ar} {q : Nat → Int} {g : Gr}
def LeapG (rb rl : Int) (S : Item → Prop) (t m j : Nat) (g : Gr) (x : Int) (A' : Ar) : Prop := (∃ n, n ≤ m ∧ LeastG (n + 1) g ∧ Rt A' t (max (n + 1) (j + 1)) x (iter (lifeR rb rl) (2 ^ j) g)) ∧ Cl (lifeR rb rl) (rnum rb rl) S (view A' t)
/-- the root that is peeled -/
def PeelP (g : Gr) (i : Item) : Prop := ∃ n, LeastG (n + 1) g ∧ i = .sq (n + 1) (pic g (-(2 ^ n)) (-(2 ^ n)) (n + 1))
/-- how wide a root is made ahead of a leap -/
def wideOf (n j : Nat) : Nat := max (n + 3) (j + 3)
/-- what is made while a root is wrapped c times -/
def WsD (g : Gr) (n c : Nat) (i : Item) : Prop := LeastG (n + 1) g ∧ ∃ k, n ≤ k ∧ k < n + c ∧ WrapD k g i
/-- what a leap makes -/
def LeapD (R : Bool → Nat → Bool) (rn : Int) (S : Item → Prop) (g : Gr) (j : Nat) (i : Item) : Prop := PeelP g i ∨ ∃ n, LeastG (n + 1) g ∧ ((∃ k, n ≤ k ∧ k + 1 < wideOf n j ∧ WrapD k g i) ∨ Dem R rn S (wideOf n j - 2) (pic g (-(2 ^ (wideOf n j - 1))) (-(2 ^ (wideOf n j - 1))) (wideOf n j)) j i)
theorem wrapD_sq {m : Nat} (i : Item) (h : WrapD m g i) : ∃ n p, i = .sq n p := by
  rcases h with (⟨_, _, _, _, h⟩ | ⟨_, _, h⟩) | h <;> exact ⟨_, _, h⟩
/-- what is known while a root is wrapped -/
structure LG (PR : (Bool → Nat → Bool) → Int → Prop) (rb rl : Int) (S : Item → Prop) (t : Nat) (q : Nat → Int) (A0 A : Ar) (e e0 : Int) (n i : Nat) (g : Gr) (x : Int) : Prop where
  st : NxSt PR t q A
  gx : Gx t A0 A e0 e (fun it => PeelP g it ∨ WsD g n i it)
  er : e = 0 ∨ Er e
  rt : e = 0 → e0 = 0 ∧ Rt A t (n + i) x g ∧ LeastG (n + 1) g
  cl : e = 0 → Cl (lifeR rb rl) (rnum rb rl) S (view A t)
set_option maxRecDepth 20000 in
set_option maxHeartbeats 4000000 in
theorem lpLeap_rel {PR : (Bool → Nat → Bool) → Int → Prop} {S : Item → Prop} (h : LS w o lb b t rb rl e A) (hst : NxSt PR t q A) (ht : t < 64) (h0 : PB PR rb rl) (h1 : rb ≤ 511) (hR : lifeR rb rl false 0 = false) (he : e = 0 ∨ Er e) (id : Int) (m : Nat) (hm1 : 1 ≤ m) (hm : m + 1 ≤ 36) (hbig : e = 0 → (cellsF A.ths (m + 1) id).length < 4611686018427387904) (hrt : e = 0 → Rt A t m id g ∧ Cl (lifeR rb rl) (rnum rb rl) S (view A t)) (j : Nat) (hj : j ≤ 30) (J : Int) (hJ : J = (j : Int)) :
    Calls Tryz.prog 59 #[.pointer (some ⟨lb, 0, none⟩), .int .i64 id, .int .i64 J] w fun r w' => ∃ x, r = .returned (.int .i64 x) ∧ OutE PR rb rl t q A o w lb b e (LeapD (lifeR rb rl) (rnum rb rl) S g j) (LeapG rb rl S t m j g x) w' := by
  have hrc : Calls Tryz.prog 81 #[.pointer (some ⟨lb, 0, none⟩), .int .i64 id] w fun r w' => r = .returned (.tuple #[]) ∧ Kp o w lb b t rb rl e A w' := by
    rcases he with rfl | he
    · have rt := (hrt rfl).1
      refine lpReach_ok h hst ht id (m + 1) (by omega) (by omega) rt.lev (hbig rfl) fun p hp => ?_
      have h2 := rt.out p.1 p.2 ((rt.cells hst ht p).1 hp)
      have h3 : (2 : Int) ^ m ≤ 2 ^ 41 := by
        have h4 : 2 ^ m ≤ 2 ^ 41 := Nat.pow_le_pow_right (by omega) (by omega)
        have := powI m
        have := powI 41
        omega
      rw [halfN_succ, powI]
      omega
    · exact lpReach_dead h he.ne id
  have H0 : Hid (NxSt PR t q A ∧ (e = 0 ∨ Er e) ∧ (e = 0 → Rt A t m id g ∧ Cl (lifeR rb rl) (rnum rb rl) S (view A t)) ∧ J = (j : Int) ∧ 1 ≤ m ∧ m + 1 ≤ 36 ∧ j ≤ 30 ∧ (e = 0 → (cellsF A.ths (m + 1) id).length < 4611686018427387904)) := ⟨hst, he, hrt, hJ, hm1, hm, hj, hbig⟩
  have hjb : 0 ≤ J ∧ J ≤ 30 := by omega
  clear h hst he hrt hJ hm1 hm hj hbig
  go_enter Tryz.func59, Tryz.ntmps59
  go_wp2_with fail
  refine hrc.mono ?_
  rintro r w1 ⟨rfl, o1, h1', k1⟩
  have hpl := lpPeel_rel h1' H0.out.1 ht H0.out.2.1 id m H0.out.2.2.2.2.1 (by have := H0.out.2.2.2.2.2.1; omega) (fun e0 => (H0.out.2.2.1 e0).1.lev) (fun e0 => H0.out.2.2.2.2.2.2.2 e0)
  have HK1 : Hid (Ch AL o w o1 w1) := k1
  clear hrc h1' k1
  go_wp2_with fail
  refine hpl.mono ?_
  rintro r w2 ⟨x, rfl, e2, A2, ⟨o2, h2, k2⟩, s2, g2, d2⟩
  obtain ⟨n, hn⟩ : ∃ n, 1 ≤ n ∧ n ≤ m ∧ (Er e2 ∨ (e2 = 0 ∧ e = 0 ∧ Rt A2 t n x g ∧ LeastG (n + 1) g)) := by
    rcases d2 with d2 | ⟨d2, d3, n, d4, d5, d6, d7⟩
    · exact ⟨1, by omega, H0.out.2.2.2.2.1, .inl d2⟩
    · have rt := (H0.out.2.2.1 d3).1
      exact ⟨n, by have := d4.two; omega, d5, .inr ⟨d2, d3, rt.peel H0.out.1 ht (rt.go H0.out.1 ht g2.toGoes1) d4 d6 d7, (rt.least H0.out.1 ht).1 d4⟩⟩
  have g2p : Gx t A A2 e e2 (PeelP g) := g2.eqv (fun e0 it => by
    have rt := (H0.out.2.2.1 e0).1
    unfold PeelD PeelP
    rw [rt.plane]
    exact ⟨fun ⟨n', a1, a2⟩ => ⟨n', (rt.least H0.out.1 ht).1 a1, a2⟩, fun ⟨n', a1, a2⟩ => ⟨n', (rt.least H0.out.1 ht).2 a1, a2⟩⟩) H0.out.2.1
  have he2 : e2 = 0 ∨ Er e2 := by rcases hn.2.2 with h | h; exact .inr h; exact .inl h.1
  have hlv := lpLevel_rel h2 s2 ht he2 x (n + 1) (fun e0 => by rcases hn.2.2 with h | h; (first | exact absurd e0 h.ne | exact absurd h e0.ne); exact h.2.2.1.lev)
  have H2 : Hid (Ch AL o w o2 w2 ∧ NxSt PR t q A2 ∧ Gx t A A2 e e2 (PeelP g) ∧ (e2 = 0 ∨ Er e2) ∧ 1 ≤ n ∧ n ≤ m ∧ (Er e2 ∨ (e2 = 0 ∧ e = 0 ∧ Rt A2 t n x g ∧ LeastG (n + 1) g))) := ⟨HK1.out.trans k2, s2, g2p, he2, hn⟩
  clear hpl h2 k2 s2 g2 d2 hn he2
  go_wp2_with fail
  refine hlv.mono ?_
  rintro r w3 ⟨l, rfl, ⟨o3, h3, k3⟩, l0, l9⟩
  obtain ⟨n0, hn0⟩ : ∃ n0 : Nat, l = ((n0 + 1 : Nat) : Int) ∧ 1 ≤ n0 ∧ n0 ≤ m ∧ (e2 = 0 → n0 = n) := by
    rcases H2.out.2.2.2.1 with h | h
    · exact ⟨n, l0 h, H2.out.2.2.2.2.1, H2.out.2.2.2.2.2.1, fun _ => rfl⟩
    · exact ⟨1, l9 h, by omega, H0.out.2.2.2.2.1, fun e0 => by first | exact absurd e0 h.ne | exact absurd h e0.ne⟩
  obtain ⟨WD, hWD⟩ : ∃ W : Nat, W = max (n0 + 3) (j + 3) := ⟨_, rfl⟩
  have hlb : 2 ≤ l ∧ l ≤ 36 := by have := H0.out.2.2.2.2.2.1; omega
  have wa : IntKind.i64.wrap (l + 2) = l + 2 := by rw [IntKind.wrap_i64]; omega
  have wb : IntKind.i64.wrap (J + 3) = J + 3 := by rw [IntKind.wrap_i64]; omega
  have wm : max (l + 2) (J + 3) = (WD : Int) := by have := H0.out.2.2.2.1; omega
  have ws : IntKind.i64.wrap ((WD : Int) - l) = ((WD - (n0 + 1) : Nat) : Int) := by rw [IntKind.wrap_i64]; have := H0.out.2.2.2.2.2; omega
  have H3 : Hid (LS w3 o3 lb b t rb rl e2 A2 ∧ Ch AL o w o3 w3) := ⟨h3, H2.out.1.trans k3⟩
  have HN : Hid (l = ((n0 + 1 : Nat) : Int) ∧ 1 ≤ n0 ∧ n0 ≤ m ∧ (e2 = 0 → n0 = n) ∧ WD = max (n0 + 3) (j + 3)) := ⟨hn0.1, hn0.2.1, hn0.2.2.1, hn0.2.2.2, hWD⟩
  obtain ⟨C, hC⟩ : ∃ C : Nat, C = WD - (n0 + 1) := ⟨_, rfl⟩
  rw [← hC] at ws
  have HC : Hid (C = WD - (n0 + 1)) := hC
  have hcb : C < 100 := by have := H0.out.2.2.2.2.2; omega
  have HG0 : Hid (LG PR rb rl S t q A A2 e2 e n0 0 g x) := ⟨H2.out.2.1, H2.out.2.2.1.eqv (fun _ it => ⟨fun h => .inl h, fun h => by rcases h with h | ⟨_, _, _, h, _⟩; exact h; omega⟩) H0.out.2.1, H2.out.2.2.2.1, fun e0 => by
    rcases H2.out.2.2.2.2.2.2 with h | h
    · first | exact absurd e0 h.ne | exact absurd h e0.ne
    · rw [HN.out.2.2.2.1 e0]; exact ⟨h.2.1, h.2.2.1, h.2.2.2⟩, fun e0 => by
    have e00 := (H2.out.2.2.1.all e0).1
    exact (H0.out.2.2.1 e00).2.more H0.out.1 ht H2.out.2.2.1 fun it ⟨_, _, h⟩ => ⟨_, _, h⟩⟩
  clear hlv h3 k3 l0 l9 hn0 hWD hC
  go_wp2_with fail
  go_loopg [1, 26] C (fun gg s1 s26 wr => ∃ i : Nat, i + gg = C ∧ s26 = .int .i64 i ∧ ∃ y, s1 = .int .i64 y ∧ ∃ e1 A1 o1, LS wr o1 lb b t rb rl e1 A1 ∧ Ch AL o w o1 wr ∧ LG PR rb rl S t q A A1 e1 e n0 i g y)
  case atStart => exact ⟨0, by omega, rfl, x, rfl, e2, A2, o3, H3.out.1, H3.out.2, HG0.out⟩
  case round =>
    clear H3 HG0
    obtain ⟨i, hig, rfl, y, rfl, e1, A1, o4, hL, hK, hG⟩ := hrel
    have HI : Hid (i + gk = C) := hig
    have hiC : i ≤ C := by omega
    clear hig
    have HG : Hid (LG PR rb rl S t q A A1 e1 e n0 i g y ∧ Ch AL o w o4 wr) := ⟨hG, hK⟩
    by_cases hlt : i < C
    · have hwr := lpWrap_rel hL hG.st ht hG.er y (n0 + i) (by have := HC.out; have := HN.out; have := H0.out; omega) (fun e0 => (hG.rt e0).2.1.lev)
      have hil : (i : Int) < (C : Int) := by omega
      clear hL hG hK
      go_wp2_with fail
      refine hwr.mono ?_
      rintro r w5 ⟨z, rfl, e5, A5, ⟨o5, h5, k5⟩, s5, g5, d5⟩
      have HL5 : Hid (LS w5 o5 lb b t rb rl e5 A5 ∧ Ch AL o w o5 w5 ∧ LG PR rb rl S t q A A5 e5 e n0 (i + 1) g z) := by
        have hwd : e1 = 0 → WrapD (n0 + i) (ctr (n0 + i) (picQ (QV (view A1 t)) (n0 + i + 1) y)) = WrapD (n0 + i) g := fun e0 => by rw [((HG.out.1.rt e0).2.1).plane]
        refine ⟨h5, HG.out.2.trans k5, s5, Gx.seq HG.out.1.st ht HG.out.1.er HG.out.1.gx g5 (fun it h => ?_) (fun e0 _ it h => ?_) (fun _ e0 _ it h => ?_), ?_, fun e0 => ?_, fun e0 => ?_⟩
        · rcases h with h | ⟨a1, k, a2, a3, a4⟩
          · exact .inl h
          · exact .inr ⟨a1, k, a2, by omega, a4⟩
        · rw [hwd e0] at h
          exact .inr ⟨(HG.out.1.rt e0).2.2, n0 + i, by omega, by omega, h⟩
        · rw [hwd e0]
          rcases h with h | ⟨a1, k, a2, a3, a4⟩
          · exact .inl (.inl h)
          · rcases Nat.lt_or_ge k (n0 + i) with h3 | h3
            · exact .inl (.inr ⟨a1, k, a2, h3, a4⟩)
            · have : k = n0 + i := by omega
              subst this
              exact .inr a4
        · rcases d5 with d5 | d5; exact .inr d5; exact .inl d5.1
        · rcases d5 with d5 | ⟨_, d6, d7⟩
          · first | exact absurd e0 d5.ne | exact absurd d5 e0.ne
          · obtain ⟨a1, a2, a3⟩ := HG.out.1.rt d6
            exact ⟨a1, (a2.go HG.out.1.st ht g5.toGoes1).wrap d7.1 d7.2, a3⟩
        · have e10 : e1 = 0 := (g5.all e0).1
          exact (HG.out.1.cl e10).more HG.out.1.st ht g5 fun it h => wrapD_sq it h
      clear h5 k5 s5 g5 d5 hwr
      go_wp2_with fail
      go_roundg (gk - 1)
      case measure => have := HI.out; omega
      case rel => exact ⟨i + 1, by have := HI.out; omega, by go_num, z, rfl, e5, A5, o5, HL5.out.1, HL5.out.2.1, HL5.out.2.2⟩
    · have hiq : i = C := by omega
      have hil : ¬ (i : Int) < (C : Int) := by omega
      have hlev : e1 = 0 → levV (view A1 t).V y = some ((WD - 2 + 2 : Nat) : Int) := fun e0 => by
        rw [(hG.rt e0).2.1.lev]
        have := HC.out
        have := HN.out
        congr 1
        omega
      have hnx := lpNext_rel (next_all (WD - 2)) hL hG.st ht h0 h1 (by have := HN.out; have := H0.out; omega) hG.er y j (by have := HN.out; omega) (fun e0 => ⟨hlev e0, hG.cl e0⟩)
      rw [show ((WD - 2 + 2 : Nat) : Int) = (WD : Int) by have := HN.out; omega, ← H0.out.2.2.2.1] at hnx
      have HQ : Hid (i = C) := hiq
      clear hL hG hK hiq hlev
      go_wp2_with fail
      refine hnx.mono ?_
      rintro r w5 ⟨z, rfl, e5, A5, ⟨o5, h5, k5⟩, s5, g5, d5⟩
      have HO : Hid (OutE PR rb rl t q A o w lb b e (LeapD (lifeR rb rl) (rnum rb rl) S g j) (LeapG rb rl S t m j g z) w5) := by
        have hww : wideOf n0 j = WD := HN.out.2.2.2.2.symm
        have hdm : e1 = 0 → picQ (QV (view A1 t)) (WD - 2 + 2) y = pic g (-(2 ^ (wideOf n0 j - 1))) (-(2 ^ (wideOf n0 j - 1))) (wideOf n0 j) := fun e0 => by
          have a2 := (HG.out.1.rt e0).2.1
          have e4 : n0 + i = WD - 1 := by have := HC.out; have := HN.out; have := HQ.out; omega
          rw [e4] at a2
          have := pic_shows a2.shows
          rw [hww, show WD - 2 + 2 = WD - 1 + 1 by have := HN.out; omega, this]
          congr 1
          have := HN.out
          omega
        refine ⟨e5, A5, ⟨o5, h5, HG.out.2.trans k5⟩, s5, Gx.seq HG.out.1.st ht HG.out.1.er HG.out.1.gx g5 (fun it h => ?_) (fun e0 _ it h => ?_) (fun _ e0 _ it h => ?_), ?_⟩
        · rcases h with h | ⟨a1, k, a2, a3, a4⟩
          · exact .inl h
          · exact .inr ⟨n0, a1, .inl ⟨k, a2, by rw [hww]; have := HC.out; have := HN.out; have := HQ.out; omega, a4⟩⟩
        · rw [hdm e0] at h
          rw [show WD - 2 = wideOf n0 j - 2 by rw [hww]] at h
          exact .inr ⟨n0, (HG.out.1.rt e0).2.2, .inr h⟩
        · rw [hdm e0, show WD - 2 = wideOf n0 j - 2 by rw [hww]]
          rcases h with h | ⟨n', a1, a2⟩
          · exact .inl (.inl h)
          · have hu := a1.unique (HG.out.1.rt e0).2.2
            have hu' : n' = n0 := by omega
            subst hu'
            rcases a2 with ⟨k, b1, b2, b3⟩ | a2
            · exact .inl (.inr ⟨a1, k, b1, by rw [hww] at b2; have := HC.out; have := HN.out; have := HQ.out; omega, b3⟩)
            · exact .inr a2
        rcases d5 with d5 | ⟨d5, d6, d7, d8, d9⟩
        · exact .inl d5
        · obtain ⟨a1, a2, a3⟩ := HG.out.1.rt d6
          have e4 : n0 + i = WD - 2 + 1 := by have := HC.out; have := HN.out; have := HQ.out; omega
          rw [e4] at a2
          have hfit : ∀ X Y, g X Y = true → -(2 ^ n0) ≤ X ∧ X < 2 ^ n0 ∧ -(2 ^ n0) ≤ Y ∧ Y < 2 ^ n0 := a3.fits
          have hfin : Rt A5 t (WD - 2) z (iter (lifeR rb rl) (2 ^ j) g) := by
            refine (a2.go HG.out.1.st ht g5.toGoes1).next hR d7 d8 hfit ?_
            have p1 := two_pow (WD - 3)
            have p2 : 2 ^ n0 ≤ 2 ^ (WD - 3) := Nat.pow_le_pow_right (by omega) (by have := HN.out; omega)
            have p3 : 2 ^ j ≤ 2 ^ (WD - 3) := Nat.pow_le_pow_right (by omega) (by have := HN.out; omega)
            rw [show WD - 3 + 1 = WD - 2 by have := HN.out; omega] at p1
            rw [← powI n0, ← powI (WD - 2)]
            omega
          exact .inr ⟨d5, a1, ⟨n0, HN.out.2.2.1, a3, by rw [show max (n0 + 1) (j + 1) = WD - 2 by have := HN.out; omega]; exact hfin⟩, d9⟩
      clear h5 k5 s5 g5 d5 hnx
      go_wp2_with fail
      go_ret
      exact ⟨_, rfl, HO.out⟩
end Go.Proofs.YtofbcngcblleaaaGreat.A
