/- Steps, of a good rule and of a number of steps that is one. -/
import Derived.Test.YtofbcngcblleaabGreatLpSteps
namespace Go.Proofs.YtofbcngcblleaabGreat.A
open Go.RowKit Go.Maps Go.Proofs.YtofbcngcblleaabGreat.L
variable {w w1 : World} {o : Nat → Nat} {lb b t : Nat} {rb rl e : Int} {A A' : Ar} {q : Nat → Int} {g : Gr} {PR : (Bool → Nat → Bool) → Int → Prop} {S : Item → Prop}
theorem bit_of (n i : Nat) : bits .and .i64 ((n : Int) / 2 ^ i) 1 = ((n / 2 ^ i % 2 : Nat) : Int) := by
  rw [bits_one]
  have : ((2 : Int) ^ i) = ((2 ^ i : Nat) : Int) := (powI i).symm
  rw [this]
  omega
set_option maxRecDepth 20000 in
set_option maxHeartbeats 4000000 in
theorem steps_rel (hA : ArL w o b A) (hst : NxSt PR t q A) (ht : t < 64) (h0 : PB PR rb rl) (h1 : rb ≤ 511) (hR : lifeR rb rl false 0 = false) (id : Int) (m : Nat) (hm1 : 1 ≤ m) (hm : m ≤ 32) (hrt : Rt A t m id g) (n : Nat) (hn : n < 2147483648)
    (hbig : ∀ s, s ≤ n → ∀ A' m' x', NxSt PR t q A' → Rt A' t m' x' (iter (lifeR rb rl) s g) → m' ≤ 34 → (cellsF A'.ths (m' + 1) x').length < 4611686018427387904) :
    Calls Tryz.prog 22 #[.pointer (some ⟨b, 0, none⟩), .int .i64 t, .agg #[.int .i64 rb, .int .i64 rl], .int .i64 id, .int .i64 n] w fun r w' => ∃ x e', r = .returned (.tuple #[.int .i64 x, .int .i64 e']) ∧ ∃ A' o', ArL w' o' b A' ∧ Ch (fun l => l = 1) o w o' w' ∧ NxSt PR t q A' ∧ StepsR PR rb rl t q A A' g n x e' := by
  have hb0 : Below w.heap.size w (w.alloc (.cells #[.int .i64 rb, .int .i64 rl] 34)) := (Below.refl _ _).alloc (Nat.le_refl _) _
  have hx0 : (w.alloc (.cells #[.int .i64 rb, .int .i64 rl] 34)).heap[w.heap.size]? = some (.cells #[.int .i64 rb, .int .i64 rl] 34 (0, 0)) := heap_alloc_new w _
  have hs0 : (w.alloc (.cells #[.int .i64 rb, .int .i64 rl] 34)).heap.size = w.heap.size + 1 := by simp
  generalize hw0 : w.alloc (.cells #[.int .i64 rb, .int .i64 rl] 34) = w0 at *
  have hfr : Calls Tryz.prog 39 #[.pointer (some ⟨b, 0, none⟩), .int .i64 t] w0 fun e w' => e = .returned (.int .i64 ((A.fresh t).length : Int)) ∧ w' = w0 := by
    obtain ⟨F, hF, _⟩ := hA
    have hflt := hF.flt
    exact freshP_any b t F A w0 (hF.other hb0.size fun k hk => hb0.block k (hflt k hk)) ht
  obtain ⟨L0, B0⟩ := LS.born (rb := rb) (rl := rl) (t := t) hA hb0
  rw [hs0] at L0
  have c0 : w0.cell? ⟨w.heap.size, 0, none⟩ = some (.int .i64 rb) := by rw [Lib.cell_of_heap hx0]; rfl
  have c1 : w0.cell? ⟨w.heap.size, 1, none⟩ = some (.int .i64 rl) := by rw [Lib.cell_of_heap hx0]; rfl
  have HL0 : Hid (LS (w0.alloc (.cells #[.pointer (some ⟨b, 0, none⟩), .int .i64 t, .int .i64 rb, .int .i64 rl, .int .i64 0] 88)) (lin o w.heap.size (w.heap.size + 1)) (w.heap.size + 1) b t rb rl 0 A ∧ Below w.heap.size w w0) := ⟨L0, hb0⟩
  have H0 : Hid (NxSt PR t q A ∧ Rt A t m id g ∧ 1 ≤ m ∧ m ≤ 32 ∧ n < 2147483648) := ⟨hst, hrt, hm1, hm, hn⟩
  obtain ⟨fl, hfl⟩ : ∃ k : Nat, k = (A.fresh t).length := ⟨_, rfl⟩
  rw [← hfl] at hfr
  have HFL : Hid (fl = (A.fresh t).length) := hfl
  have hnn : 0 ≤ (n : Int) ∧ (n : Int) < 2147483648 := by omega
  clear hA hst hrt hb0 L0 B0 hfl hx0 hm1 hm hn
  go_enter Tryz.func22, Tryz.ntmps22
  go_wp2_with fail
  refine hfr.mono ?_
  rintro r w1 ⟨rfl, rfl⟩
  clear hfr
  go_wp2_with fail
  have HG0 : Hid (SG PR rb rl t q A A 0 m n 0 g id) := ⟨H0.out.1, (Gx.nil t A).eqv (fun _ i => ⟨fun h => h.elim, fun ⟨_, h, _⟩ => by omega⟩) (.inl rfl), .inl rfl, fun _ => ⟨m, H0.out.2.2.1, by omega, by rw [Nat.pow_zero, Nat.mod_one]; exact H0.out.2.1⟩, fun _ => Cl.refl _ _ _⟩
  go_loopg [3, 22] 31 (fun gg s3 s22 wr => ∃ i : Nat, i + gg = 31 ∧ s22 = .int .i64 i ∧ ∃ y, s3 = .int .i64 y ∧ ∃ e1 A1 o1, LS wr o1 (w.heap.size + 1) b t rb rl e1 A1 ∧ Ch AL (lin o w.heap.size (w.heap.size + 1)) (w1.alloc (.cells #[.pointer (some ⟨b, 0, none⟩), .int .i64 t, .int .i64 rb, .int .i64 rl, .int .i64 0] 88)) o1 wr ∧ SG PR rb rl t q A A1 e1 m n i g y)
  case atStart => exact ⟨0, by omega, rfl, id, rfl, 0, A, _, HL0.out.1, Ch.refl _ _ _, HG0.out⟩
  case round =>
    clear HG0
    obtain ⟨i, hig, rfl, y, rfl, e1, A1, o1, hL, hK, hG⟩ := hrel
    have HI : Hid (i + gk = 31) := hig
    have hi31 : i ≤ 31 := by omega
    clear hig
    have HG : Hid (SG PR rb rl t q A A1 e1 m n i g y ∧ Ch AL (lin o w.heap.size (w.heap.size + 1)) (w1.alloc (.cells #[.pointer (some ⟨b, 0, none⟩), .int .i64 t, .int .i64 rb, .int .i64 rl, .int .i64 0] 88)) o1 wr) := ⟨hG, hK⟩
    have HM : Hid (∃ m', 1 ≤ m' ∧ m' ≤ 34 ∧ (e1 = 0 → Rt A1 t m' y (iter (lifeR rb rl) (n % 2 ^ i) g))) := by
      rcases hG.er with he | he
      · obtain ⟨m', a1, a2, a3⟩ := hG.rt he
        exact ⟨m', a1, by have := H0.out; omega, fun _ => a3⟩
      · exact ⟨1, by omega, by omega, fun e0 => absurd e0 he.ne⟩
    obtain ⟨m', hm1, hm36, hrt⟩ := HM.out
    have hmod : n % 2 ^ i ≤ n := Nat.mod_le _ _
    by_cases hlt : i < 31
    · have hil : (i : Int) < 31 := by omega
      have hbt := bit_of n i
      by_cases hb : n / 2 ^ i % 2 = 1
      · rw [hb] at hbt
        have hbt' : bits .and .i64 ((n : Int) / 2 ^ i) 1 = 1 := hbt
        have hlp := lpLeap_rel (S := Has (view A t)) hL hG.st ht h0 h1 hR hG.er y m' hm1 (by omega) (fun e0 => hbig _ hmod A1 m' y hG.st (hrt e0) (by omega)) (fun e0 => ⟨hrt e0, hG.cl e0⟩) i (by omega) (i : Int) rfl
        have HB : Hid (n / 2 ^ i % 2 = 1) := hb
        clear hL hK hG hrt hb hbt
        go_wp2_with fail
        refine hlp.mono ?_
        rintro r w5 ⟨z, rfl, e5, A5, ⟨o5, h5, k5⟩, s5, g5, d5⟩
        have HN : Hid (LS w5 o5 (w.heap.size + 1) b t rb rl e5 A5 ∧ Ch AL (lin o w.heap.size (w.heap.size + 1)) (w1.alloc (.cells #[.pointer (some ⟨b, 0, none⟩), .int .i64 t, .int .i64 rb, .int .i64 rl, .int .i64 0] 88)) o5 w5 ∧ SG PR rb rl t q A A5 e5 m n (i + 1) g z) := ⟨h5, HG.out.2.trans k5, HG.out.1.leap ht HB.out hR H0.out.2.2.1 H0.out.2.1.out s5 g5 d5⟩
        clear h5 k5 s5 g5 d5 hlp
        go_wp2_with fail
        go_roundg (gk - 1)
        case measure => have := HI.out; omega
        case rel => exact ⟨i + 1, by have := HI.out; omega, by go_num, z, rfl, e5, A5, o5, HN.out.1, HN.out.2.1, HN.out.2.2⟩
      · have hb0 : n / 2 ^ i % 2 = 0 := by omega
        rw [hb0] at hbt
        have hbt' : bits .and .i64 ((n : Int) / 2 ^ i) 1 = 0 := hbt
        have HN : Hid (LS wr o1 (w.heap.size + 1) b t rb rl e1 A1 ∧ SG PR rb rl t q A A1 e1 m n (i + 1) g y) := ⟨hL, hG.skip hb0⟩
        clear hL hK hG hrt hb hbt hb0
        go_wp2_with fail
        go_roundg (gk - 1)
        case measure => have := HI.out; omega
        case rel => exact ⟨i + 1, by have := HI.out; omega, by go_num, y, rfl, e1, A1, o1, HN.out.1, HG.out.2, HN.out.2⟩
    · have hil : ¬ (i : Int) < 31 := by omega
      have hi : i = 31 := by omega
      have hnm : n % 2 ^ i = n := by rw [hi]; exact Nat.mod_eq_of_lt H0.out.2.2.2.2
      rw [hnm] at hrt
      have hpl := lpPeel_rel hL hG.st ht hG.er y m' hm1 (by omega) (fun e0 => (hrt e0).lev) (fun e0 => hbig n (Nat.le_refl _) A1 m' y hG.st (hrt e0) (by omega))
      have HP : Hid ((e1 = 0 → Rt A1 t m' y (iter (lifeR rb rl) n g)) ∧ i = 31) := ⟨hrt, hi⟩
      clear hL hK hG hrt hi hnm
      go_wp2_with fail
      refine hpl.mono ?_
      rintro r w5 ⟨z, rfl, e5, A5, ⟨o5, h5, k5⟩, s5, g5, d5⟩
      obtain ⟨_, _, _, _, d4, z4⟩ := h5.cells
      have HLB : Hid (w.heap.size + 1 < w5.heap.size ∧ o5 (w.heap.size + 1) = 2) := ⟨h5.lt, h5.lab⟩
      have HO : Hid (ArL w5 (hout o o5 w.heap.size) b A5 ∧ Ch (fun l => l = 1) o w (hout o o5 w.heap.size) w5 ∧ NxSt PR t q A5 ∧ (e5 = 0 ∨ Er e5) ∧ Gx t A A5 0 e5 (StepsD (lifeR rb rl) (rnum rb rl) (Has (view A t)) g n) ∧ (e5 = 0 → ∃ N, LeastG (N + 1) (iter (lifeR rb rl) n g) ∧ Rt A5 t N z (iter (lifeR rb rl) n g))) := by
        have hG := HG.out.1
        obtain ⟨a1, a2⟩ := lp_out (HL0.out.2.alloc HL0.out.2.size _) (HG.out.2.trans k5) h5.ar
        have hpd : e1 = 0 → ∀ it, PeelD m' (picQ (QV (view A1 t)) (m' + 1) y) (absC A1.ths (m' + 1) y) it ↔ PeelP (iter (lifeR rb rl) n g) it := fun e0 it => by
          have rt := HP.out.1 e0
          unfold PeelD PeelP
          rw [rt.plane]
          exact ⟨fun ⟨n', a1, a2⟩ => ⟨n', (rt.least hG.st ht).1 a1, a2⟩, fun ⟨n', a1, a2⟩ => ⟨n', (rt.least hG.st ht).2 a1, a2⟩⟩
        have hgx := hG.gx
        rw [HP.out.2] at hgx
        refine ⟨a1, a2, s5, ?_, Gx.seq hG.st ht hG.er hgx g5 (fun it h => .inl h) (fun e0 _ it h => .inr ((hpd e0 it).1 h)) (fun _ e0 _ it h => h.imp (fun h => h) fun h => (hpd e0 it).2 h), fun e0 => ?_⟩
        · rcases d5 with d | d; exact .inr d; exact .inl d.1
        · rcases d5 with d | ⟨_, d1, N, d2, d3, d6, d7⟩
          · exact absurd e0 d.ne
          · have rt := HP.out.1 d1
            exact ⟨N, (rt.least hG.st ht).1 d2, rt.peel hG.st ht (rt.go hG.st ht g5.toGoes1) d2 d6 d7⟩
      clear h5 k5 s5 g5 d5 hpl HG HP
      rcases HO.out.2.2.2.1 with he | he
      · subst he
        go_wp2_with fail
        go_ret2
        obtain ⟨a1, a2, a3, _, a4, a5⟩ := HO.out
        exact ⟨_, _, rfl, A5, _, a1, a2, a3, .inr ⟨rfl, a4, a5 trivial⟩⟩
      · have hne := he.ne
        obtain ⟨F5, hF5, hF5o⟩ := HO.out.1
        obtain ⟨q1, q2, q3⟩ := back_st H0.out.1 ht HO.out.2.2.1 HO.out.2.2.2.2.1.toGoes1
        have hbk := backP_any b t (fl : Int) F5 A5 w5 hF5 HO.out.2.2.1.s ht
        rw [HFL.out, q3, ← HFL.out] at hbk
        have HQ : Hid (NxSt PR t q (A5.lose t ((A5.fresh t).drop fl) ((A5.fresh t).take fl)) ∧ (∀ u, view (A5.lose t ((A5.fresh t).drop fl) ((A5.fresh t).take fl)) u = view A u) ∧ (∀ k, F5 k → hout o o5 w.heap.size k = 1)) := by rw [HFL.out]; exact ⟨q1, q2, hF5o⟩
        have HE : Hid (Er e5) := he
        have hnb : (e5 == 0) = false := by simpa using hne
        clear he q1 q2 q3 hF5o hF5
        go_wp2_with fail
        refine hbk.mono ?_
        rintro r w6 ⟨rfl, hled⟩
        have HL6 : Hid (ArL w6 (ext (hout o o5 w.heap.size) w5.heap.size 1) b (A5.lose t ((A5.fresh t).drop fl) ((A5.fresh t).take fl)) ∧ Ch (fun l => l = 1) (hout o o5 w.heap.size) w5 (ext (hout o o5 w.heap.size) w5.heap.size 1) w6) := led_ch HQ.out.2.2 hled
        have d6 : w6.cell? ⟨w.heap.size + 1, 4, none⟩ = some (.int .i64 e5) := (World.cell?_of_block (a := ⟨w.heap.size + 1, 4, none⟩) (HL6.out.2.block _ HLB.out.1 (by show ¬ hout o o5 w.heap.size (w.heap.size + 1) = 1; unfold hout; rw [if_neg (by omega), HLB.out.2]; decide))).trans d4
        clear hled hbk
        go_wp2_with fail
        go_region
        all_goals
          go_wp2_with fail
          go_ret2
          obtain ⟨a1, a2, a3, _, a4, a5⟩ := HO.out
          exact ⟨_, _, rfl, _, _, HL6.out.1.ch ((Ch.refl (fun _ => False) _ _).drew) (fun h => h), (a2.trans HL6.out.2).drew, HQ.out.1, .inl ⟨HE.out, rfl, HQ.out.2.1, A5, a3, a4⟩⟩
end Go.Proofs.YtofbcngcblleaabGreat.A

namespace Go.Proofs.YtofbcngcblleaabGreat.A
open Go.RowKit Go.Maps Go.Proofs.YtofbcngcblleaabGreat.L
variable {w w1 : World} {o : Nat → Nat} {lb b t : Nat} {rb rl e : Int} {A A' : Ar} {q : Nat → Int} {g : Gr} {PR : (Bool → Nat → Bool) → Int → Prop}
theorem goodR_of (h : goodB rb rl = true) : 0 ≤ rb ∧ rb ≤ 511 ∧ lifeR rb rl false 0 = false := by
  unfold goodB withinB at h
  simp only [Bool.and_eq_true, decide_eq_true_eq, Bool.not_eq_true'] at h
  refine ⟨h.1.1.1, by omega, ?_⟩
  unfold lifeR livesB
  rw [if_neg (by decide)]
  simp only [Bool.false_eq_true, if_false]
  exact h.2
set_option maxRecDepth 20000 in
set_option maxHeartbeats 4000000 in
theorem Steps_rel (hA : ArL w o b A) (hst : NxSt PR t q A) (ht : t < 64) (hgood : goodB rb rl = true) (hP : PR (lifeR rb rl) (rnum rb rl)) (id : Int) (m : Nat) (hm1 : 1 ≤ m) (hm : m ≤ 32) (hrt : Rt A t m id g) (n : Nat) (hn : n ≤ 1073741824)
    (hbig : ∀ s, s ≤ n → ∀ A' m' x', NxSt PR t q A' → Rt A' t m' x' (iter (lifeR rb rl) s g) → m' ≤ 34 → (cellsF A'.ths (m' + 1) x').length < 4611686018427387904) :
    Calls Tryz.prog 7 #[.pointer (some ⟨b, 0, none⟩), .int .i64 t, .agg #[.int .i64 rb, .int .i64 rl], .int .i64 id, .int .i64 n] w fun r w' => ∃ x e', r = .returned (.tuple #[.int .i64 x, .int .i64 e']) ∧ ∃ A' o', ArL w' o' b A' ∧ Ch (fun l => l = 1) o w o' w' ∧ NxSt PR t q A' ∧ StepsR PR rb rl t q A A' g n x e' := by
  obtain ⟨g1, g2, g3⟩ := goodR_of hgood
  have hb0 : Below w.heap.size w (w.alloc (.cells #[.int .i64 rb, .int .i64 rl] 34)) := (Below.refl _ _).alloc (Nat.le_refl _) _
  have hx0 : (w.alloc (.cells #[.int .i64 rb, .int .i64 rl] 34)).heap[w.heap.size]? = some (.cells #[.int .i64 rb, .int .i64 rl] 34 (0, 0)) := heap_alloc_new w _
  have hs0 : w.heap.size < (w.alloc (.cells #[.int .i64 rb, .int .i64 rl] 34)).heap.size := by simp
  generalize hw0 : w.alloc (.cells #[.int .i64 rb, .int .i64 rl] 34) = w0 at *
  have hgd := fun W => good_any rb rl W
  rw [hgood] at hgd
  have hlev : ∀ W, Below w.heap.size w W → Calls Tryz.prog 21 #[.pointer (some ⟨b, 0, none⟩), .int .i64 t, .int .i64 id] W fun e w' => e = .returned (.tuple #[.int .i64 ((m + 1 : Nat) : Int), .int .i64 0]) ∧ Below W.heap.size W w' := fun W hW => by
    obtain ⟨F, hF, _⟩ := hA
    have hflt := hF.flt
    have := LevelP_any b t F id A W (hF.other hW.size fun k hk => hW.block k (hflt k hk)) hst.s ht (lev_fits hst.s hrt.lev)
    have hl : levelF A.ths t id = some ((m + 1 : Nat) : Int) := by rw [levelF_V]; exact hrt.lev
    rw [hl] at this
    exact this
  have hstp : ∀ W, Below w.heap.size w W → Calls Tryz.prog 22 #[.pointer (some ⟨b, 0, none⟩), .int .i64 t, .agg #[.int .i64 rb, .int .i64 rl], .int .i64 id, .int .i64 n] W fun r w' => ∃ x e', r = .returned (.tuple #[.int .i64 x, .int .i64 e']) ∧ ∃ A' o', ArL w' o' b A' ∧ Ch (fun l => l = 1) o w o' w' ∧ NxSt PR t q A' ∧ StepsR PR rb rl t q A A' g n x e' := fun W hW => by
    have c : Ch (fun l => l = 1) o w (ext o w.heap.size 0) W := Ch.ofBelow hW 0
    have cA : ArL W (ext o w.heap.size 0) b A := hA.ch (L := fun _ => False) (Ch.ofBelow hW 0) fun h => h
    refine (steps_rel cA hst ht ⟨g1, hP⟩ g2 g3 id m hm1 hm hrt n (by omega) hbig).mono ?_
    rintro r w' ⟨x, e', rfl, A', o', a1, a2, a3, a4⟩
    exact ⟨x, e', rfl, A', o', a1, c.trans a2, a3, a4⟩
  have HST : Hid (∀ W, Below w.heap.size w W → Calls Tryz.prog 22 #[.pointer (some ⟨b, 0, none⟩), .int .i64 t, .agg #[.int .i64 rb, .int .i64 rl], .int .i64 id, .int .i64 n] W fun r w' => ∃ x e', r = .returned (.tuple #[.int .i64 x, .int .i64 e']) ∧ ∃ A' o', ArL w' o' b A' ∧ Ch (fun l => l = 1) o w o' w' ∧ NxSt PR t q A' ∧ StepsR PR rb rl t q A A' g n x e') := hstp
  have c0 : w0.cell? ⟨w.heap.size, 0, none⟩ = some (.int .i64 rb) := by rw [Lib.cell_of_heap hx0]; rfl
  have c1 : w0.cell? ⟨w.heap.size, 1, none⟩ = some (.int .i64 rl) := by rw [Lib.cell_of_heap hx0]; rfl
  have hnn : 0 ≤ (n : Int) ∧ (n : Int) ≤ 1073741824 := by omega
  have hn0 : ¬ (n : Int) < 0 := by omega
  have hn1 : ¬ (n : Int) > 1073741824 := by omega
  have HKEEP : Hid (∀ W, Below w0.heap.size w0 W → W.cell? ⟨w.heap.size, 0, none⟩ = some (.int .i64 rb) ∧ W.cell? ⟨w.heap.size, 1, none⟩ = some (.int .i64 rl)) := fun W hW => by
    have := (hW.block w.heap.size hs0).trans hx0
    rw [Lib.cell_of_heap this, Lib.cell_of_heap this]
    exact ⟨rfl, rfl⟩
  have HB0 : Hid (Below w.heap.size w w0) := hb0
  have hlm : (2 : Int) ≤ ((m + 1 : Nat) : Int) := by omega
  obtain ⟨LV, hLV⟩ : ∃ L : Int, L = ((m + 1 : Nat) : Int) := ⟨_, rfl⟩
  rw [← hLV] at hlev hlm
  clear hA hst hrt hstp hbig hb0 hx0 hm1 hm hn g1 g2 g3 hgood hP hLV hs0
  go_enter Tryz.func7, Tryz.ntmps7
  go_wp2_with fail
  refine (hgd _).mono ?_
  rintro r w1 ⟨rfl, b1⟩
  obtain ⟨d0, d1⟩ := HKEEP.out _ b1
  have hl1 := hlev w1 (HB0.out.trans (b1.mono HB0.out.size))
  go_wp2_with fail
  refine hl1.mono ?_
  rintro r w2 ⟨rfl, b2⟩
  have b12 := b1.trans (b2.mono b1.size)
  obtain ⟨d20, d21⟩ := HKEEP.out _ b12
  have hs2 := HST.out w2 (HB0.out.trans (b12.mono HB0.out.size))
  go_wp2_with fail
  refine hs2.mono ?_
  rintro r w3 ⟨x, e', rfl, HO⟩
  have HOO : Hid (∃ A' o', ArL w3 o' b A' ∧ Ch (fun l => l = 1) o w o' w3 ∧ NxSt PR t q A' ∧ StepsR PR rb rl t q A A' g n x e') := HO
  clear HO hs2
  go_wp2_with fail
  go_ret2
  exact ⟨x, e', rfl, HOO.out⟩
end Go.Proofs.YtofbcngcblleaabGreat.A
