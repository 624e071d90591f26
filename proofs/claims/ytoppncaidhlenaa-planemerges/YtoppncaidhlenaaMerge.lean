/- What plane.merge answers, whatever is kept. -/
import Derived.Test.YtoppncaidhlenaaFirst
import Derived.Test.YtoppncaidhlenaaRefShift
namespace Go.Proofs.Ytoppncaidhlenaa
open Go.RowKit Go.Lib Go.Sort

theorem first_any (v u : Value) (la lb : List (Int × Int)) (w : World) (ha : RRow w v la) (hb : RRow w u lb) (hne : ¬ (la = [] ∧ lb = [])) (la1 : la.length ≤ 4096) (lb1 : lb.length ≤ 4096) :
    Calls Try.prog 51 #[v, u] w fun e w' => FirstOut la lb w e w' := by
  obtain ⟨a, c, rfl, _, _, _, ha⟩ := ha
  obtain ⟨a', c', rfl, _, _, _, hb⟩ := hb
  cases la with
  | nil =>
    cases lb with
    | nil => exact absurd ⟨rfl, rfl⟩ hne
    | cons q lb =>
      rcases hb with hb | ⟨b', off', rfl, hlt', hp'⟩
      · simp at hb
      · have h0 := hp' 0 (by simp)
        exact first_b b' off' _ c' q lb a c w hlt' (by simp) lb1 (by simpa using h0.1) (by simpa using h0.2)
  | cons p la =>
    rcases ha with ha | ⟨b, off, rfl, hlt, hp⟩
    · simp at ha
    have h0 := hp 0 (by simp)
    cases lb with
    | nil => exact first_a b off _ c p la a' c' w hlt (by simp) (by simpa using h0.1) (by simpa using h0.2)
    | cons q lb =>
      rcases hb with hb | ⟨b', off', rfl, hlt', hp'⟩
      · simp at hb
      · have h0' := hp' 0 (by simp)
        exact first_ab b off _ c b' off' _ c' p q la lb w hlt (by simp) la1 hlt' (by simp) lb1 (by simpa using h0.1) (by simpa using h0.2) (by simpa using h0'.1) (by simpa using h0'.2)

/-- a row without its first cell -/
theorem tail_row {w : World} {b off n c : Nat} {p : Int × Int} {l : List (Int × Int)} (h : RRow w (.slice (some ⟨b, off, none⟩) n c) (p :: l)) :
    RRow w (.slice (if c = 1 then some ⟨b, off, none⟩ else some ⟨b, off + 2, none⟩) (n - 1) (c - 1)) l := by
  obtain ⟨a, c', e, hc, hm, _, h⟩ := h
  injection e with e1 e2 e3
  subst e1 e2 e3
  simp only [List.length_cons] at hc
  refine ⟨_, c - 1, rfl, by omega, by unfold maxLen at *; omega, ?_, ?_⟩
  · intro e
    split at e <;> cases e
  · by_cases hl : l.length = 0
    · exact Or.inl hl
    · rcases h with h | ⟨b', off', e, hlt, hp⟩
      · simp at h
      · injection e with e
        injection e with e1 e2 _
        subst e1 e2
        refine Or.inr ⟨b, off + 2, by rw [if_neg (by omega)], hlt, fun j hj => ?_⟩
        have := hp (j + 1) (by simp; omega)
        rw [show off + 2 + j * 2 = off + (j + 1) * 2 by omega]
        simpa using this

theorem mg_length (keep : Bool → Bool → Bool) : ∀ (f : Nat) (la lb : List (Int × Int)), (mg keep f la lb).length ≤ f
  | 0, _, _ => by simp [mg]
  | f + 1, la, lb => by
    rw [mg]
    split
    · simp
    · have := mg_length keep f (cutF (firstF la lb).2.1 la) (cutF (firstF la lb).2.2 lb)
      rw [List.length_append]
      split <;> simp <;> omega

/-- the error's number and the list that merge answers -/
def mergeF (keep : Bool → Bool → Bool) (tc uc : Int) (ys ts : List (Int × Int)) : Int × List (Int × Int) :=
  if tc ≠ 0 then (tc, []) else if uc ≠ 0 then (uc, []) else if 4096 < (mg keep (ys.length + ts.length) ys ts).length then (5, []) else (0, mg keep (ys.length + ts.length) ys ts)
def MergeOut (keep : Bool → Bool → Bool) (za zb : List (Int × Int)) (w : World) (e : Ending) (w' : World) : Prop :=
  ∃ u ys ts, Tidied za ys ∧ Tidied zb ts ∧ e = .returned (.tuple #[u, .int .i64 (mergeF keep (tcode za) (tcode zb) ys ts).1]) ∧ Below w.heap.size w w' ∧ Row w' u (mergeF keep (tcode za) (tcode zb) ys ts).2

theorem ORow.rrow {w : World} {base : Nat} {v : Value} {zs : List (Int × Int)} (h : ORow w base v zs) : RRow w v zs := h.read.isRow

theorem mg_none (keep : Bool → Bool → Bool) (f : Nat) : mg keep f [] [] = [] := by
  cases f <;> simp [mg]
/-- there is such a list -/
theorem tidied_exists (zs : List (Int × Int)) : ∃ ys, Tidied zs ys := by
  by_cases hc : tcode zs = 0
  · have : ∀ l : List (Int × Int), ∃ m, Tidy m ∧ ∀ p, p ∈ m ↔ p ∈ l := by
      intro l
      induction l with
      | nil => exact ⟨[], List.Pairwise.nil, fun p => Iff.rfl⟩
      | cons c l ih =>
        obtain ⟨m, h1, h2⟩ := ih
        obtain ⟨t1, t2⟩ := mg_spec (fun _ _ => true) (1 + m.length) [c] m (List.pairwise_singleton _ _) h1 (by simp)
        exact ⟨_, t1, fun p => by rw [t2 p]; simp [h2 p]⟩
    obtain ⟨m, h1, h2⟩ := this zs
    exact ⟨m, h1, fun p => by rw [h2 p, hc]; simp⟩
  · exact ⟨[], List.Pairwise.nil, fun p => by simp [hc]⟩

theorem mg_step (keep : Bool → Bool → Bool) {f : Nat} {la lb : List (Int × Int)} {c : Int × Int} {i j : Bool} (hf : la.length + lb.length ≤ f) (hE : ¬ (la = [] ∧ lb = [])) (hF : firstF la lb = (c, i, j)) :
    mg keep f la lb = (if keep i j then [c] else []) ++ mg keep (f - 1) (cutF i la) (cutF j lb) := by
  cases f with
  | zero => exact absurd ⟨List.length_eq_zero_iff.1 (by omega), List.length_eq_zero_iff.1 (by omega)⟩ hE
  | succ f => rw [mg, if_neg hE, hF]; rfl

set_option maxHeartbeats 40000000 in
theorem merge_any (keep : Bool → Bool → Bool) (g : Nat) (eg : ∀ args w, (callFunc g args).run Try.prog w = .ok (.enter g args) w) (hk : ∀ a b W, Calls Try.prog g #[.bool a, .bool b] W fun e w' => e = .returned (.bool (keep a b)) ∧ w' = W)
    (v u : Value) (za zb : List (Int × Int)) (w : World) (ha : Row w v za) (hb : Row w u zb) :
    Calls Try.prog 36 #[v, u, .func (.func g) #[] #[]] w fun e w' => MergeOut keep za zb w e w' := by
  have hTa := tidy_told v za w ha
  have HB : Hid (Row w u zb) := hb
  have HKP : Hid (∀ a b W, Calls Try.prog g #[.bool a, .bool b] W fun e w' => e = .returned (.bool (keep a b)) ∧ w' = W) := hk
  clear ha hb hk
  by_cases htc : tcode za = 0
  · rw [htc] at hTa
    by_cases huc : tcode zb = 0
    · have HC : Hid (tcode za = 0 ∧ tcode zb = 0) := ⟨htc, huc⟩
      clear htc huc
      go_enter Try.func36, Try.ntmps36
      go_wp2_with fail
      refine hTa.mono ?_
      rintro e w1 ⟨va, ys, rfl, hb1, ht1, hr1⟩
      have hTb := tidy_told u zb w1 (HB.out.below hb1)
      rw [HC.out.2] at hTb
      go_wp2_with fail
      refine hTb.mono ?_
      rintro e w2 ⟨vb, ts, rfl, hb2, ht2, hr2⟩
      have hbw2 : Below w.heap.size w w2 := hb1.trans (hb2.mono hb1.size)
      have HT : Hid (Tidied za ys ∧ Tidied zb ts) := ⟨ht1, ht2⟩
      have hsa := tidied_short ht1 HC.out.1
      have hsb := tidied_short ht2 HC.out.2
      have HRR : Hid (RRow w2 va ys ∧ RRow w2 vb ts) := ⟨(hr1.below hb2).rrow, hr2.rrow⟩
      obtain ⟨R, hR⟩ : ∃ R, R = mg keep (ys.length + ts.length) ys ts := ⟨_, rfl⟩
      have HR : Hid (R = mg keep (ys.length + ts.length) ys ts) := hR
      have hRl : R.length ≤ 8192 := by rw [hR]; have := mg_length keep (ys.length + ts.length) ys ts; omega
      clear hTa hTb ht1 ht2 hr1 hr2 hR hb1 hb2
      go_wp2_with fail
      go_loopg [0, 1, 9] (ys.length + ts.length) (fun gk s0 s1 s9 wr => ∃ la lb rs, RRow w2 s0 la ∧ RRow w2 s1 lb ∧ Kept wr w2.heap.size s9 rs ∧ Tidy la ∧ Tidy lb ∧ la.length + lb.length ≤ gk ∧ la.length ≤ 4096 ∧ lb.length ≤ 4096 ∧ rs ++ mg keep gk la lb = R ∧ Below w2.heap.size w2 wr)
      case atStart => exact ⟨ys, ts, [], HRR.out.1, HRR.out.2, Or.inl ⟨rfl, rfl⟩, HT.out.1.1, HT.out.2.1, Nat.le_refl _, hsa, hsb, by rw [HR.out]; rfl, Below.refl _ _⟩
      case round =>
        obtain ⟨la, lb, rs, hA, hB, hK, hta, htb, hfu, hla, hlb, hmg, hbr⟩ := hrel
        have HS : Hid (RRow w2 u0 la ∧ RRow w2 u1 lb ∧ Kept wr w2.heap.size u9 rs ∧ Tidy la ∧ Tidy lb ∧ la.length + lb.length ≤ gk ∧ rs ++ mg keep gk la lb = R) := ⟨hA, hB, hK, hta, htb, hfu, hmg⟩
        have hrl : rs.length ≤ 8192 := by rw [← hmg, List.length_append] at hRl; omega
        obtain ⟨aa, ca, rfl, hca, hcma, _, hda⟩ := hA
        obtain ⟨ab, cb, rfl, hcb, hcmb, _, hdb⟩ := hB
        clear hK hta htb hfu hmg
        unfold maxLen at hcma hcmb
        by_cases hE : la = [] ∧ lb = []
        · obtain ⟨rfl, rfl⟩ := hE
          obtain ⟨_, _, hK, _, _, _, hmg⟩ := HS.out
          rw [mg_none, List.append_nil] at hmg
          obtain ⟨a9, c9, h9, _⟩ := hK.row.shape
          subst h9
          have HE : Hid (Kept wr w2.heap.size (.slice a9 rs.length c9) rs ∧ R = rs) := ⟨hK, hmg.symm⟩
          have hbw : Below w.heap.size w wr := hbw2.trans (hbr.mono hbw2.size)
          simp only [List.length_nil] at *
          clear hK hmg HS hda hdb
          by_cases hbig : 4096 < rs.length
          · have hd : (4096 : Int) < (rs.length : Int) := by omega
            go_wp2_with fail
            go_ret2
            have hF : mergeF keep (tcode za) (tcode zb) ys ts = (5, []) := by rw [mergeF, HC.out.1, HC.out.2, if_neg (by simp), if_neg (by simp), ← HR.out, HE.out.2, if_pos hbig]
            exact ⟨_, ys, ts, HT.out.1, HT.out.2, by rw [hF]; rfl, hbw, by rw [hF]; exact Or.inl ⟨rfl, rfl⟩⟩
          · have hd : ¬ (4096 : Int) < (rs.length : Int) := by omega
            go_wp2_with fail
            go_ret2
            have hF : mergeF keep (tcode za) (tcode zb) ys ts = (0, rs) := by rw [mergeF, HC.out.1, HC.out.2, if_neg (by simp), if_neg (by simp), ← HR.out, HE.out.2, if_neg hbig]
            exact ⟨_, ys, ts, HT.out.1, HT.out.2, by rw [hF]; rfl, hbw, by rw [hF]; exact HE.out.1.row⟩
        · have hfst := first_any _ _ la lb wr (RRow.below HS.out.1 hbr) (RRow.below HS.out.2.1 hbr) hE hla hlb
          obtain ⟨s1, s2, s3, _, _⟩ := firstF_spec la lb HS.out.2.2.2.1 HS.out.2.2.2.2.1 hE
          have HE : Hid (¬ (la = [] ∧ lb = [])) := hE
          unfold FirstOut at hfst
          generalize hF : firstF la lb = F at *
          have HF : Hid (firstF la lb = F) := hF
          obtain ⟨cc, i, j⟩ := F
          simp only at hfst s1 s2 s3
          obtain ⟨i0, hi, hz0, hz1, hz2⟩ := info_parts Try.info28
          clear hF hE
          have hna : 0 < la.length ∨ 0 < lb.length := by
            rcases s3 with h | h
            · left; rw [s1 h]; simp
            · right; rw [s2 h]; simp
          generalize hla' : la.length = na at *
          have HLA : Hid (la.length = na) := hla'
          generalize hlb' : lb.length = nb at *
          have HLB : Hid (lb.length = nb) := hlb'
          clear hla' hlb'
          cases i
          · cases j
            · exact absurd s3 (by simp)
            · have SLA : Hid ((cutF false la).length + 0 = la.length) := (by have := cutF_length s1; simpa using this : (cutF false la).length + 0 = la.length)
              have SLB : Hid ((cutF true lb).length + 1 = lb.length) := (by have := cutF_length s2; simpa using this : (cutF true lb).length + 1 = lb.length)
              rcases hdb with hdb | ⟨b', off', rfl, hlt', _⟩
              · exfalso
                have h1 := s2 rfl
                have h2 := HLB.out
                rw [h1] at h2
                simp at h2
                omega
              have hm1 : 1 ≤ nb := by have h1 := s2 rfl; have h2 := HLB.out; rw [h1] at h2; simp at h2; omega
              have hm2 : (1 : Int) ≤ (nb : Int) := by omega
              have hm3 : (nb : Int) ≤ (cb : Int) := by omega
              have hdB : (0 : Int) < (nb : Int) := by omega
              have hB' := tail_row (p := cc) (l := lb.tail) (by rw [← s2 rfl]; exact HS.out.2.1)
              rcases Nat.eq_zero_or_pos na with hz | hz
              · subst hz
                by_cases hcb1 : cb = 1
                · subst hcb1
                  have PB : Hid (RRow w2 (.slice (some ⟨b', off', none⟩) 0 0) (cutF true lb)) := (by have hz : nb - 1 = 0 := (by omega); rw [hz] at hB'; simpa [cutF] using hB' : RRow w2 (.slice (some ⟨b', off', none⟩) 0 0) (cutF true lb))
                  clear hB'
                  cases hkp : keep false true
                  · clear s1 s2 s3 hna
                    have hcall := HKP.out false true
                    rw [hkp] at hcall
                    go_wp2_with fail
                    refine hfst.mono ?_
                    rintro e w3 ⟨rfl, hb3⟩
                    have hb23 : Below w2.heap.size w2 w3 := hbr.trans (hb3.mono hbr.size)
                    have KW : Hid (∀ o, Kept (w3.alloc o) w2.heap.size u9 rs) := fun o => HS.out.2.2.1.block (fun g hg => by rw [Below.heap_alloc _ _ _ (by have := hb3.size; omega), hb3.block g hg])
                    have hsz3 := hb23.size
                    go_wp2_with fail
                    refine (hcall _).mono ?_
                    rintro e w4 ⟨rfl, hw⟩
                    subst hw
                    go_wp2_with fail
                    go_roundg (gk - 1)
                    case measure => have q6 := HS.out.2.2.2.2.2.1; omega
                    case rel =>
                      obtain ⟨_, _, _, q4, q5, q6, q7⟩ := HS.out
                      have hst : mg keep gk la lb = mg keep (gk - 1) (cutF false la) (cutF true lb) := by rw [mg_step keep (by rw [HLA.out, HLB.out]; exact q6) HE.out HF.out, hkp]; rfl
                      have k1 := SLA.out
                      have k2 := SLB.out
                      have k3 := HLA.out
                      have k4 := HLB.out
                      exact ⟨cutF false la, cutF true lb, rs, HS.out.1, PB.out, KW.out _, cutF_tidy q4, cutF_tidy q5, by omega, by omega, by omega, by rw [← hst]; exact q7, hb23.alloc hsz3 _⟩
                  · clear s1 s2 s3 hna
                    have hcall := HKP.out false true
                    rw [hkp] at hcall
                    go_wp2_with fail
                    refine hfst.mono ?_
                    rintro e w3 ⟨rfl, hb3⟩
                    have hb23 : Below w2.heap.size w2 w3 := hbr.trans (hb3.mono hbr.size)
                    have KW : Hid (∀ o, Kept (w3.alloc o) w2.heap.size u9 rs) := fun o => HS.out.2.2.1.block (fun g hg => by rw [Below.heap_alloc _ _ _ (by have := hb3.size; omega), hb3.block g hg])
                    have hsz3 := hb23.size
                    go_wp2_with fail
                    refine (hcall _).mono ?_
                    rintro e w4 ⟨rfl, hw⟩
                    subst hw
                    go_wp2_with (at_builtin; refine wpList_append_own _ rfl _ _ 22 rfl w2.heap.size 28 i0 (.agg #[.int .i64 0, .int .i64 0]) 2 16 Try.underlying22 hi hz0 hz1 hz2 rfl (by decide) u9 rs.length (cellsL rs) rfl (by exact (KW.out _).owns.alloc _) ⟨w3.heap.size + 1, 0, none⟩ 1 1 [.int .i64 cc.1, .int .i64 cc.2] rfl rfl (by exact two_second _ _ _ _ _) (by intro u hu; simp at hu; rcases hu with rfl | rfl <;> rfl) (by unfold maxLen; omega) (by omega) (by simp; omega) ?_; intro v5 w5 hown5 hgrow5 hnil5)
                    go_roundg (gk - 1)
                    case measure => have q6 := HS.out.2.2.2.2.2.1; omega
                    case rel =>
                      obtain ⟨_, _, _, q4, q5, q6, q7⟩ := HS.out
                      have hst : mg keep gk la lb = [cc] ++ mg keep (gk - 1) (cutF false la) (cutF true lb) := by rw [mg_step keep (by rw [HLA.out, HLB.out]; exact q6) HE.out HF.out, hkp]; rfl
                      have k1 := SLA.out
                      have k2 := SLB.out
                      have k3 := HLA.out
                      have k4 := HLB.out
                      exact ⟨cutF false la, cutF true lb, rs ++ [cc], HS.out.1, PB.out, Or.inr ⟨by simp, by rw [cellsL_append, List.length_append]; exact hown5⟩, cutF_tidy q4, cutF_tidy q5, by omega, by omega, by omega, by rw [List.append_assoc, ← hst]; exact q7, ((hb23.alloc hsz3 _).alloc (by simp; omega) _).grown hgrow5 (by simp; omega) (fun g hg => ((KW.out (.cells #[] 0)).owns.lt g hg).1)⟩
                · have PB : Hid (RRow w2 (.slice (some ⟨b', off' + 2, none⟩) (nb - 1) (cb - 1)) (cutF true lb)) := (by simpa [cutF, hcb1] using hB' : RRow w2 (.slice (some ⟨b', off' + 2, none⟩) (nb - 1) (cb - 1)) (cutF true lb))
                  clear hB'
                  cases hkp : keep false true
                  · clear s1 s2 s3 hna
                    have hcall := HKP.out false true
                    rw [hkp] at hcall
                    go_wp2_with fail
                    refine hfst.mono ?_
                    rintro e w3 ⟨rfl, hb3⟩
                    have hb23 : Below w2.heap.size w2 w3 := hbr.trans (hb3.mono hbr.size)
                    have KW : Hid (∀ o, Kept (w3.alloc o) w2.heap.size u9 rs) := fun o => HS.out.2.2.1.block (fun g hg => by rw [Below.heap_alloc _ _ _ (by have := hb3.size; omega), hb3.block g hg])
                    have hsz3 := hb23.size
                    go_wp2_with fail
                    refine (hcall _).mono ?_
                    rintro e w4 ⟨rfl, hw⟩
                    subst hw
                    go_wp2_with fail
                    go_roundg (gk - 1)
                    case measure => have q6 := HS.out.2.2.2.2.2.1; omega
                    case rel =>
                      obtain ⟨_, _, _, q4, q5, q6, q7⟩ := HS.out
                      have hst : mg keep gk la lb = mg keep (gk - 1) (cutF false la) (cutF true lb) := by rw [mg_step keep (by rw [HLA.out, HLB.out]; exact q6) HE.out HF.out, hkp]; rfl
                      have k1 := SLA.out
                      have k2 := SLB.out
                      have k3 := HLA.out
                      have k4 := HLB.out
                      exact ⟨cutF false la, cutF true lb, rs, HS.out.1, PB.out, KW.out _, cutF_tidy q4, cutF_tidy q5, by omega, by omega, by omega, by rw [← hst]; exact q7, hb23.alloc hsz3 _⟩
                  · clear s1 s2 s3 hna
                    have hcall := HKP.out false true
                    rw [hkp] at hcall
                    go_wp2_with fail
                    refine hfst.mono ?_
                    rintro e w3 ⟨rfl, hb3⟩
                    have hb23 : Below w2.heap.size w2 w3 := hbr.trans (hb3.mono hbr.size)
                    have KW : Hid (∀ o, Kept (w3.alloc o) w2.heap.size u9 rs) := fun o => HS.out.2.2.1.block (fun g hg => by rw [Below.heap_alloc _ _ _ (by have := hb3.size; omega), hb3.block g hg])
                    have hsz3 := hb23.size
                    go_wp2_with fail
                    refine (hcall _).mono ?_
                    rintro e w4 ⟨rfl, hw⟩
                    subst hw
                    go_wp2_with (at_builtin; refine wpList_append_own _ rfl _ _ 22 rfl w2.heap.size 28 i0 (.agg #[.int .i64 0, .int .i64 0]) 2 16 Try.underlying22 hi hz0 hz1 hz2 rfl (by decide) u9 rs.length (cellsL rs) rfl (by exact (KW.out _).owns.alloc _) ⟨w3.heap.size + 1, 0, none⟩ 1 1 [.int .i64 cc.1, .int .i64 cc.2] rfl rfl (by exact two_second _ _ _ _ _) (by intro u hu; simp at hu; rcases hu with rfl | rfl <;> rfl) (by unfold maxLen; omega) (by omega) (by simp; omega) ?_; intro v5 w5 hown5 hgrow5 hnil5)
                    go_roundg (gk - 1)
                    case measure => have q6 := HS.out.2.2.2.2.2.1; omega
                    case rel =>
                      obtain ⟨_, _, _, q4, q5, q6, q7⟩ := HS.out
                      have hst : mg keep gk la lb = [cc] ++ mg keep (gk - 1) (cutF false la) (cutF true lb) := by rw [mg_step keep (by rw [HLA.out, HLB.out]; exact q6) HE.out HF.out, hkp]; rfl
                      have k1 := SLA.out
                      have k2 := SLB.out
                      have k3 := HLA.out
                      have k4 := HLB.out
                      exact ⟨cutF false la, cutF true lb, rs ++ [cc], HS.out.1, PB.out, Or.inr ⟨by simp, by rw [cellsL_append, List.length_append]; exact hown5⟩, cutF_tidy q4, cutF_tidy q5, by omega, by omega, by omega, by rw [List.append_assoc, ← hst]; exact q7, ((hb23.alloc hsz3 _).alloc (by simp; omega) _).grown hgrow5 (by simp; omega) (fun g hg => ((KW.out (.cells #[] 0)).owns.lt g hg).1)⟩
              · have hdA : (0 : Int) < (na : Int) := by omega
                by_cases hcb1 : cb = 1
                · subst hcb1
                  have PB : Hid (RRow w2 (.slice (some ⟨b', off', none⟩) 0 0) (cutF true lb)) := (by have hz : nb - 1 = 0 := (by omega); rw [hz] at hB'; simpa [cutF] using hB' : RRow w2 (.slice (some ⟨b', off', none⟩) 0 0) (cutF true lb))
                  clear hB'
                  cases hkp : keep false true
                  · clear s1 s2 s3 hna
                    have hcall := HKP.out false true
                    rw [hkp] at hcall
                    go_wp2_with fail
                    refine hfst.mono ?_
                    rintro e w3 ⟨rfl, hb3⟩
                    have hb23 : Below w2.heap.size w2 w3 := hbr.trans (hb3.mono hbr.size)
                    have KW : Hid (∀ o, Kept (w3.alloc o) w2.heap.size u9 rs) := fun o => HS.out.2.2.1.block (fun g hg => by rw [Below.heap_alloc _ _ _ (by have := hb3.size; omega), hb3.block g hg])
                    have hsz3 := hb23.size
                    go_wp2_with fail
                    refine (hcall _).mono ?_
                    rintro e w4 ⟨rfl, hw⟩
                    subst hw
                    go_wp2_with fail
                    go_roundg (gk - 1)
                    case measure => have q6 := HS.out.2.2.2.2.2.1; omega
                    case rel =>
                      obtain ⟨_, _, _, q4, q5, q6, q7⟩ := HS.out
                      have hst : mg keep gk la lb = mg keep (gk - 1) (cutF false la) (cutF true lb) := by rw [mg_step keep (by rw [HLA.out, HLB.out]; exact q6) HE.out HF.out, hkp]; rfl
                      have k1 := SLA.out
                      have k2 := SLB.out
                      have k3 := HLA.out
                      have k4 := HLB.out
                      exact ⟨cutF false la, cutF true lb, rs, HS.out.1, PB.out, KW.out _, cutF_tidy q4, cutF_tidy q5, by omega, by omega, by omega, by rw [← hst]; exact q7, hb23.alloc hsz3 _⟩
                  · clear s1 s2 s3 hna
                    have hcall := HKP.out false true
                    rw [hkp] at hcall
                    go_wp2_with fail
                    refine hfst.mono ?_
                    rintro e w3 ⟨rfl, hb3⟩
                    have hb23 : Below w2.heap.size w2 w3 := hbr.trans (hb3.mono hbr.size)
                    have KW : Hid (∀ o, Kept (w3.alloc o) w2.heap.size u9 rs) := fun o => HS.out.2.2.1.block (fun g hg => by rw [Below.heap_alloc _ _ _ (by have := hb3.size; omega), hb3.block g hg])
                    have hsz3 := hb23.size
                    go_wp2_with fail
                    refine (hcall _).mono ?_
                    rintro e w4 ⟨rfl, hw⟩
                    subst hw
                    go_wp2_with (at_builtin; refine wpList_append_own _ rfl _ _ 22 rfl w2.heap.size 28 i0 (.agg #[.int .i64 0, .int .i64 0]) 2 16 Try.underlying22 hi hz0 hz1 hz2 rfl (by decide) u9 rs.length (cellsL rs) rfl (by exact (KW.out _).owns.alloc _) ⟨w3.heap.size + 1, 0, none⟩ 1 1 [.int .i64 cc.1, .int .i64 cc.2] rfl rfl (by exact two_second _ _ _ _ _) (by intro u hu; simp at hu; rcases hu with rfl | rfl <;> rfl) (by unfold maxLen; omega) (by omega) (by simp; omega) ?_; intro v5 w5 hown5 hgrow5 hnil5)
                    go_roundg (gk - 1)
                    case measure => have q6 := HS.out.2.2.2.2.2.1; omega
                    case rel =>
                      obtain ⟨_, _, _, q4, q5, q6, q7⟩ := HS.out
                      have hst : mg keep gk la lb = [cc] ++ mg keep (gk - 1) (cutF false la) (cutF true lb) := by rw [mg_step keep (by rw [HLA.out, HLB.out]; exact q6) HE.out HF.out, hkp]; rfl
                      have k1 := SLA.out
                      have k2 := SLB.out
                      have k3 := HLA.out
                      have k4 := HLB.out
                      exact ⟨cutF false la, cutF true lb, rs ++ [cc], HS.out.1, PB.out, Or.inr ⟨by simp, by rw [cellsL_append, List.length_append]; exact hown5⟩, cutF_tidy q4, cutF_tidy q5, by omega, by omega, by omega, by rw [List.append_assoc, ← hst]; exact q7, ((hb23.alloc hsz3 _).alloc (by simp; omega) _).grown hgrow5 (by simp; omega) (fun g hg => ((KW.out (.cells #[] 0)).owns.lt g hg).1)⟩
                · have PB : Hid (RRow w2 (.slice (some ⟨b', off' + 2, none⟩) (nb - 1) (cb - 1)) (cutF true lb)) := (by simpa [cutF, hcb1] using hB' : RRow w2 (.slice (some ⟨b', off' + 2, none⟩) (nb - 1) (cb - 1)) (cutF true lb))
                  clear hB'
                  cases hkp : keep false true
                  · clear s1 s2 s3 hna
                    have hcall := HKP.out false true
                    rw [hkp] at hcall
                    go_wp2_with fail
                    refine hfst.mono ?_
                    rintro e w3 ⟨rfl, hb3⟩
                    have hb23 : Below w2.heap.size w2 w3 := hbr.trans (hb3.mono hbr.size)
                    have KW : Hid (∀ o, Kept (w3.alloc o) w2.heap.size u9 rs) := fun o => HS.out.2.2.1.block (fun g hg => by rw [Below.heap_alloc _ _ _ (by have := hb3.size; omega), hb3.block g hg])
                    have hsz3 := hb23.size
                    go_wp2_with fail
                    refine (hcall _).mono ?_
                    rintro e w4 ⟨rfl, hw⟩
                    subst hw
                    go_wp2_with fail
                    go_roundg (gk - 1)
                    case measure => have q6 := HS.out.2.2.2.2.2.1; omega
                    case rel =>
                      obtain ⟨_, _, _, q4, q5, q6, q7⟩ := HS.out
                      have hst : mg keep gk la lb = mg keep (gk - 1) (cutF false la) (cutF true lb) := by rw [mg_step keep (by rw [HLA.out, HLB.out]; exact q6) HE.out HF.out, hkp]; rfl
                      have k1 := SLA.out
                      have k2 := SLB.out
                      have k3 := HLA.out
                      have k4 := HLB.out
                      exact ⟨cutF false la, cutF true lb, rs, HS.out.1, PB.out, KW.out _, cutF_tidy q4, cutF_tidy q5, by omega, by omega, by omega, by rw [← hst]; exact q7, hb23.alloc hsz3 _⟩
                  · clear s1 s2 s3 hna
                    have hcall := HKP.out false true
                    rw [hkp] at hcall
                    go_wp2_with fail
                    refine hfst.mono ?_
                    rintro e w3 ⟨rfl, hb3⟩
                    have hb23 : Below w2.heap.size w2 w3 := hbr.trans (hb3.mono hbr.size)
                    have KW : Hid (∀ o, Kept (w3.alloc o) w2.heap.size u9 rs) := fun o => HS.out.2.2.1.block (fun g hg => by rw [Below.heap_alloc _ _ _ (by have := hb3.size; omega), hb3.block g hg])
                    have hsz3 := hb23.size
                    go_wp2_with fail
                    refine (hcall _).mono ?_
                    rintro e w4 ⟨rfl, hw⟩
                    subst hw
                    go_wp2_with (at_builtin; refine wpList_append_own _ rfl _ _ 22 rfl w2.heap.size 28 i0 (.agg #[.int .i64 0, .int .i64 0]) 2 16 Try.underlying22 hi hz0 hz1 hz2 rfl (by decide) u9 rs.length (cellsL rs) rfl (by exact (KW.out _).owns.alloc _) ⟨w3.heap.size + 1, 0, none⟩ 1 1 [.int .i64 cc.1, .int .i64 cc.2] rfl rfl (by exact two_second _ _ _ _ _) (by intro u hu; simp at hu; rcases hu with rfl | rfl <;> rfl) (by unfold maxLen; omega) (by omega) (by simp; omega) ?_; intro v5 w5 hown5 hgrow5 hnil5)
                    go_roundg (gk - 1)
                    case measure => have q6 := HS.out.2.2.2.2.2.1; omega
                    case rel =>
                      obtain ⟨_, _, _, q4, q5, q6, q7⟩ := HS.out
                      have hst : mg keep gk la lb = [cc] ++ mg keep (gk - 1) (cutF false la) (cutF true lb) := by rw [mg_step keep (by rw [HLA.out, HLB.out]; exact q6) HE.out HF.out, hkp]; rfl
                      have k1 := SLA.out
                      have k2 := SLB.out
                      have k3 := HLA.out
                      have k4 := HLB.out
                      exact ⟨cutF false la, cutF true lb, rs ++ [cc], HS.out.1, PB.out, Or.inr ⟨by simp, by rw [cellsL_append, List.length_append]; exact hown5⟩, cutF_tidy q4, cutF_tidy q5, by omega, by omega, by omega, by rw [List.append_assoc, ← hst]; exact q7, ((hb23.alloc hsz3 _).alloc (by simp; omega) _).grown hgrow5 (by simp; omega) (fun g hg => ((KW.out (.cells #[] 0)).owns.lt g hg).1)⟩
          · cases j
            · have SLA : Hid ((cutF true la).length + 1 = la.length) := (by have := cutF_length s1; simpa using this : (cutF true la).length + 1 = la.length)
              have SLB : Hid ((cutF false lb).length + 0 = lb.length) := (by have := cutF_length s2; simpa using this : (cutF false lb).length + 0 = lb.length)
              rcases hda with hda | ⟨b, off, rfl, hlt, _⟩
              · exfalso
                have h1 := s1 rfl
                have h2 := HLA.out
                rw [h1] at h2
                simp at h2
                omega
              have hl1 : 1 ≤ na := by have h1 := s1 rfl; have h2 := HLA.out; rw [h1] at h2; simp at h2; omega
              have hl2 : (1 : Int) ≤ (na : Int) := by omega
              have hl3 : (na : Int) ≤ (ca : Int) := by omega
              have hd : (0 : Int) < (na : Int) := by omega
              have hA' := tail_row (p := cc) (l := la.tail) (by rw [← s1 rfl]; exact HS.out.1)
              by_cases hca1 : ca = 1
              · subst hca1
                have PA : Hid (RRow w2 (.slice (some ⟨b, off, none⟩) 0 0) (cutF true la)) := (by have hz : na - 1 = 0 := (by omega); rw [hz] at hA'; simpa [cutF] using hA' : RRow w2 (.slice (some ⟨b, off, none⟩) 0 0) (cutF true la))
                clear hA'
                cases hkp : keep true false
                · clear s1 s2 s3 hna
                  have hcall := HKP.out true false
                  rw [hkp] at hcall
                  go_wp2_with fail
                  refine hfst.mono ?_
                  rintro e w3 ⟨rfl, hb3⟩
                  have hb23 : Below w2.heap.size w2 w3 := hbr.trans (hb3.mono hbr.size)
                  have KW : Hid (∀ o, Kept (w3.alloc o) w2.heap.size u9 rs) := fun o => HS.out.2.2.1.block (fun g hg => by rw [Below.heap_alloc _ _ _ (by have := hb3.size; omega), hb3.block g hg])
                  have hsz3 := hb23.size
                  go_wp2_with fail
                  refine (hcall _).mono ?_
                  rintro e w4 ⟨rfl, hw⟩
                  subst hw
                  go_wp2_with fail
                  go_roundg (gk - 1)
                  case measure => have q6 := HS.out.2.2.2.2.2.1; omega
                  case rel =>
                    obtain ⟨_, _, _, q4, q5, q6, q7⟩ := HS.out
                    have hst : mg keep gk la lb = mg keep (gk - 1) (cutF true la) (cutF false lb) := by rw [mg_step keep (by rw [HLA.out, HLB.out]; exact q6) HE.out HF.out, hkp]; rfl
                    have k1 := SLA.out
                    have k2 := SLB.out
                    have k3 := HLA.out
                    have k4 := HLB.out
                    exact ⟨cutF true la, cutF false lb, rs, PA.out, HS.out.2.1, KW.out _, cutF_tidy q4, cutF_tidy q5, by omega, by omega, by omega, by rw [← hst]; exact q7, hb23.alloc hsz3 _⟩
                · clear s1 s2 s3 hna
                  have hcall := HKP.out true false
                  rw [hkp] at hcall
                  go_wp2_with fail
                  refine hfst.mono ?_
                  rintro e w3 ⟨rfl, hb3⟩
                  have hb23 : Below w2.heap.size w2 w3 := hbr.trans (hb3.mono hbr.size)
                  have KW : Hid (∀ o, Kept (w3.alloc o) w2.heap.size u9 rs) := fun o => HS.out.2.2.1.block (fun g hg => by rw [Below.heap_alloc _ _ _ (by have := hb3.size; omega), hb3.block g hg])
                  have hsz3 := hb23.size
                  go_wp2_with fail
                  refine (hcall _).mono ?_
                  rintro e w4 ⟨rfl, hw⟩
                  subst hw
                  go_wp2_with (at_builtin; refine wpList_append_own _ rfl _ _ 22 rfl w2.heap.size 28 i0 (.agg #[.int .i64 0, .int .i64 0]) 2 16 Try.underlying22 hi hz0 hz1 hz2 rfl (by decide) u9 rs.length (cellsL rs) rfl (by exact (KW.out _).owns.alloc _) ⟨w3.heap.size + 1, 0, none⟩ 1 1 [.int .i64 cc.1, .int .i64 cc.2] rfl rfl (by exact two_second _ _ _ _ _) (by intro u hu; simp at hu; rcases hu with rfl | rfl <;> rfl) (by unfold maxLen; omega) (by omega) (by simp; omega) ?_; intro v5 w5 hown5 hgrow5 hnil5)
                  go_roundg (gk - 1)
                  case measure => have q6 := HS.out.2.2.2.2.2.1; omega
                  case rel =>
                    obtain ⟨_, _, _, q4, q5, q6, q7⟩ := HS.out
                    have hst : mg keep gk la lb = [cc] ++ mg keep (gk - 1) (cutF true la) (cutF false lb) := by rw [mg_step keep (by rw [HLA.out, HLB.out]; exact q6) HE.out HF.out, hkp]; rfl
                    have k1 := SLA.out
                    have k2 := SLB.out
                    have k3 := HLA.out
                    have k4 := HLB.out
                    exact ⟨cutF true la, cutF false lb, rs ++ [cc], PA.out, HS.out.2.1, Or.inr ⟨by simp, by rw [cellsL_append, List.length_append]; exact hown5⟩, cutF_tidy q4, cutF_tidy q5, by omega, by omega, by omega, by rw [List.append_assoc, ← hst]; exact q7, ((hb23.alloc hsz3 _).alloc (by simp; omega) _).grown hgrow5 (by simp; omega) (fun g hg => ((KW.out (.cells #[] 0)).owns.lt g hg).1)⟩
              · have PA : Hid (RRow w2 (.slice (some ⟨b, off + 2, none⟩) (na - 1) (ca - 1)) (cutF true la)) := (by simpa [cutF, hca1] using hA' : RRow w2 (.slice (some ⟨b, off + 2, none⟩) (na - 1) (ca - 1)) (cutF true la))
                clear hA'
                cases hkp : keep true false
                · clear s1 s2 s3 hna
                  have hcall := HKP.out true false
                  rw [hkp] at hcall
                  go_wp2_with fail
                  refine hfst.mono ?_
                  rintro e w3 ⟨rfl, hb3⟩
                  have hb23 : Below w2.heap.size w2 w3 := hbr.trans (hb3.mono hbr.size)
                  have KW : Hid (∀ o, Kept (w3.alloc o) w2.heap.size u9 rs) := fun o => HS.out.2.2.1.block (fun g hg => by rw [Below.heap_alloc _ _ _ (by have := hb3.size; omega), hb3.block g hg])
                  have hsz3 := hb23.size
                  go_wp2_with fail
                  refine (hcall _).mono ?_
                  rintro e w4 ⟨rfl, hw⟩
                  subst hw
                  go_wp2_with fail
                  go_roundg (gk - 1)
                  case measure => have q6 := HS.out.2.2.2.2.2.1; omega
                  case rel =>
                    obtain ⟨_, _, _, q4, q5, q6, q7⟩ := HS.out
                    have hst : mg keep gk la lb = mg keep (gk - 1) (cutF true la) (cutF false lb) := by rw [mg_step keep (by rw [HLA.out, HLB.out]; exact q6) HE.out HF.out, hkp]; rfl
                    have k1 := SLA.out
                    have k2 := SLB.out
                    have k3 := HLA.out
                    have k4 := HLB.out
                    exact ⟨cutF true la, cutF false lb, rs, PA.out, HS.out.2.1, KW.out _, cutF_tidy q4, cutF_tidy q5, by omega, by omega, by omega, by rw [← hst]; exact q7, hb23.alloc hsz3 _⟩
                · clear s1 s2 s3 hna
                  have hcall := HKP.out true false
                  rw [hkp] at hcall
                  go_wp2_with fail
                  refine hfst.mono ?_
                  rintro e w3 ⟨rfl, hb3⟩
                  have hb23 : Below w2.heap.size w2 w3 := hbr.trans (hb3.mono hbr.size)
                  have KW : Hid (∀ o, Kept (w3.alloc o) w2.heap.size u9 rs) := fun o => HS.out.2.2.1.block (fun g hg => by rw [Below.heap_alloc _ _ _ (by have := hb3.size; omega), hb3.block g hg])
                  have hsz3 := hb23.size
                  go_wp2_with fail
                  refine (hcall _).mono ?_
                  rintro e w4 ⟨rfl, hw⟩
                  subst hw
                  go_wp2_with (at_builtin; refine wpList_append_own _ rfl _ _ 22 rfl w2.heap.size 28 i0 (.agg #[.int .i64 0, .int .i64 0]) 2 16 Try.underlying22 hi hz0 hz1 hz2 rfl (by decide) u9 rs.length (cellsL rs) rfl (by exact (KW.out _).owns.alloc _) ⟨w3.heap.size + 1, 0, none⟩ 1 1 [.int .i64 cc.1, .int .i64 cc.2] rfl rfl (by exact two_second _ _ _ _ _) (by intro u hu; simp at hu; rcases hu with rfl | rfl <;> rfl) (by unfold maxLen; omega) (by omega) (by simp; omega) ?_; intro v5 w5 hown5 hgrow5 hnil5)
                  go_roundg (gk - 1)
                  case measure => have q6 := HS.out.2.2.2.2.2.1; omega
                  case rel =>
                    obtain ⟨_, _, _, q4, q5, q6, q7⟩ := HS.out
                    have hst : mg keep gk la lb = [cc] ++ mg keep (gk - 1) (cutF true la) (cutF false lb) := by rw [mg_step keep (by rw [HLA.out, HLB.out]; exact q6) HE.out HF.out, hkp]; rfl
                    have k1 := SLA.out
                    have k2 := SLB.out
                    have k3 := HLA.out
                    have k4 := HLB.out
                    exact ⟨cutF true la, cutF false lb, rs ++ [cc], PA.out, HS.out.2.1, Or.inr ⟨by simp, by rw [cellsL_append, List.length_append]; exact hown5⟩, cutF_tidy q4, cutF_tidy q5, by omega, by omega, by omega, by rw [List.append_assoc, ← hst]; exact q7, ((hb23.alloc hsz3 _).alloc (by simp; omega) _).grown hgrow5 (by simp; omega) (fun g hg => ((KW.out (.cells #[] 0)).owns.lt g hg).1)⟩
            · have SLA : Hid ((cutF true la).length + 1 = la.length) := (by have := cutF_length s1; simpa using this : (cutF true la).length + 1 = la.length)
              have SLB : Hid ((cutF true lb).length + 1 = lb.length) := (by have := cutF_length s2; simpa using this : (cutF true lb).length + 1 = lb.length)
              rcases hda with hda | ⟨b, off, rfl, hlt, _⟩
              · exfalso
                have h1 := s1 rfl
                have h2 := HLA.out
                rw [h1] at h2
                simp at h2
                omega
              have hl1 : 1 ≤ na := by have h1 := s1 rfl; have h2 := HLA.out; rw [h1] at h2; simp at h2; omega
              have hl2 : (1 : Int) ≤ (na : Int) := by omega
              have hl3 : (na : Int) ≤ (ca : Int) := by omega
              have hd : (0 : Int) < (na : Int) := by omega
              have hA' := tail_row (p := cc) (l := la.tail) (by rw [← s1 rfl]; exact HS.out.1)
              rcases hdb with hdb | ⟨b', off', rfl, hlt', _⟩
              · exfalso
                have h1 := s2 rfl
                have h2 := HLB.out
                rw [h1] at h2
                simp at h2
                omega
              have hm1 : 1 ≤ nb := by have h1 := s2 rfl; have h2 := HLB.out; rw [h1] at h2; simp at h2; omega
              have hm2 : (1 : Int) ≤ (nb : Int) := by omega
              have hm3 : (nb : Int) ≤ (cb : Int) := by omega
              have hdB : (0 : Int) < (nb : Int) := by omega
              have hB' := tail_row (p := cc) (l := lb.tail) (by rw [← s2 rfl]; exact HS.out.2.1)
              by_cases hca1 : ca = 1
              · subst hca1
                have PA : Hid (RRow w2 (.slice (some ⟨b, off, none⟩) 0 0) (cutF true la)) := (by have hz : na - 1 = 0 := (by omega); rw [hz] at hA'; simpa [cutF] using hA' : RRow w2 (.slice (some ⟨b, off, none⟩) 0 0) (cutF true la))
                clear hA'
                by_cases hcb1 : cb = 1
                · subst hcb1
                  have PB : Hid (RRow w2 (.slice (some ⟨b', off', none⟩) 0 0) (cutF true lb)) := (by have hz : nb - 1 = 0 := (by omega); rw [hz] at hB'; simpa [cutF] using hB' : RRow w2 (.slice (some ⟨b', off', none⟩) 0 0) (cutF true lb))
                  clear hB'
                  cases hkp : keep true true
                  · clear s1 s2 s3 hna
                    have hcall := HKP.out true true
                    rw [hkp] at hcall
                    go_wp2_with fail
                    refine hfst.mono ?_
                    rintro e w3 ⟨rfl, hb3⟩
                    have hb23 : Below w2.heap.size w2 w3 := hbr.trans (hb3.mono hbr.size)
                    have KW : Hid (∀ o, Kept (w3.alloc o) w2.heap.size u9 rs) := fun o => HS.out.2.2.1.block (fun g hg => by rw [Below.heap_alloc _ _ _ (by have := hb3.size; omega), hb3.block g hg])
                    have hsz3 := hb23.size
                    go_wp2_with fail
                    refine (hcall _).mono ?_
                    rintro e w4 ⟨rfl, hw⟩
                    subst hw
                    go_wp2_with fail
                    go_roundg (gk - 1)
                    case measure => have q6 := HS.out.2.2.2.2.2.1; omega
                    case rel =>
                      obtain ⟨_, _, _, q4, q5, q6, q7⟩ := HS.out
                      have hst : mg keep gk la lb = mg keep (gk - 1) (cutF true la) (cutF true lb) := by rw [mg_step keep (by rw [HLA.out, HLB.out]; exact q6) HE.out HF.out, hkp]; rfl
                      have k1 := SLA.out
                      have k2 := SLB.out
                      have k3 := HLA.out
                      have k4 := HLB.out
                      exact ⟨cutF true la, cutF true lb, rs, PA.out, PB.out, KW.out _, cutF_tidy q4, cutF_tidy q5, by omega, by omega, by omega, by rw [← hst]; exact q7, hb23.alloc hsz3 _⟩
                  · clear s1 s2 s3 hna
                    have hcall := HKP.out true true
                    rw [hkp] at hcall
                    go_wp2_with fail
                    refine hfst.mono ?_
                    rintro e w3 ⟨rfl, hb3⟩
                    have hb23 : Below w2.heap.size w2 w3 := hbr.trans (hb3.mono hbr.size)
                    have KW : Hid (∀ o, Kept (w3.alloc o) w2.heap.size u9 rs) := fun o => HS.out.2.2.1.block (fun g hg => by rw [Below.heap_alloc _ _ _ (by have := hb3.size; omega), hb3.block g hg])
                    have hsz3 := hb23.size
                    go_wp2_with fail
                    refine (hcall _).mono ?_
                    rintro e w4 ⟨rfl, hw⟩
                    subst hw
                    go_wp2_with (at_builtin; refine wpList_append_own _ rfl _ _ 22 rfl w2.heap.size 28 i0 (.agg #[.int .i64 0, .int .i64 0]) 2 16 Try.underlying22 hi hz0 hz1 hz2 rfl (by decide) u9 rs.length (cellsL rs) rfl (by exact (KW.out _).owns.alloc _) ⟨w3.heap.size + 1, 0, none⟩ 1 1 [.int .i64 cc.1, .int .i64 cc.2] rfl rfl (by exact two_second _ _ _ _ _) (by intro u hu; simp at hu; rcases hu with rfl | rfl <;> rfl) (by unfold maxLen; omega) (by omega) (by simp; omega) ?_; intro v5 w5 hown5 hgrow5 hnil5)
                    go_roundg (gk - 1)
                    case measure => have q6 := HS.out.2.2.2.2.2.1; omega
                    case rel =>
                      obtain ⟨_, _, _, q4, q5, q6, q7⟩ := HS.out
                      have hst : mg keep gk la lb = [cc] ++ mg keep (gk - 1) (cutF true la) (cutF true lb) := by rw [mg_step keep (by rw [HLA.out, HLB.out]; exact q6) HE.out HF.out, hkp]; rfl
                      have k1 := SLA.out
                      have k2 := SLB.out
                      have k3 := HLA.out
                      have k4 := HLB.out
                      exact ⟨cutF true la, cutF true lb, rs ++ [cc], PA.out, PB.out, Or.inr ⟨by simp, by rw [cellsL_append, List.length_append]; exact hown5⟩, cutF_tidy q4, cutF_tidy q5, by omega, by omega, by omega, by rw [List.append_assoc, ← hst]; exact q7, ((hb23.alloc hsz3 _).alloc (by simp; omega) _).grown hgrow5 (by simp; omega) (fun g hg => ((KW.out (.cells #[] 0)).owns.lt g hg).1)⟩
                · have PB : Hid (RRow w2 (.slice (some ⟨b', off' + 2, none⟩) (nb - 1) (cb - 1)) (cutF true lb)) := (by simpa [cutF, hcb1] using hB' : RRow w2 (.slice (some ⟨b', off' + 2, none⟩) (nb - 1) (cb - 1)) (cutF true lb))
                  clear hB'
                  cases hkp : keep true true
                  · clear s1 s2 s3 hna
                    have hcall := HKP.out true true
                    rw [hkp] at hcall
                    go_wp2_with fail
                    refine hfst.mono ?_
                    rintro e w3 ⟨rfl, hb3⟩
                    have hb23 : Below w2.heap.size w2 w3 := hbr.trans (hb3.mono hbr.size)
                    have KW : Hid (∀ o, Kept (w3.alloc o) w2.heap.size u9 rs) := fun o => HS.out.2.2.1.block (fun g hg => by rw [Below.heap_alloc _ _ _ (by have := hb3.size; omega), hb3.block g hg])
                    have hsz3 := hb23.size
                    go_wp2_with fail
                    refine (hcall _).mono ?_
                    rintro e w4 ⟨rfl, hw⟩
                    subst hw
                    go_wp2_with fail
                    go_roundg (gk - 1)
                    case measure => have q6 := HS.out.2.2.2.2.2.1; omega
                    case rel =>
                      obtain ⟨_, _, _, q4, q5, q6, q7⟩ := HS.out
                      have hst : mg keep gk la lb = mg keep (gk - 1) (cutF true la) (cutF true lb) := by rw [mg_step keep (by rw [HLA.out, HLB.out]; exact q6) HE.out HF.out, hkp]; rfl
                      have k1 := SLA.out
                      have k2 := SLB.out
                      have k3 := HLA.out
                      have k4 := HLB.out
                      exact ⟨cutF true la, cutF true lb, rs, PA.out, PB.out, KW.out _, cutF_tidy q4, cutF_tidy q5, by omega, by omega, by omega, by rw [← hst]; exact q7, hb23.alloc hsz3 _⟩
                  · clear s1 s2 s3 hna
                    have hcall := HKP.out true true
                    rw [hkp] at hcall
                    go_wp2_with fail
                    refine hfst.mono ?_
                    rintro e w3 ⟨rfl, hb3⟩
                    have hb23 : Below w2.heap.size w2 w3 := hbr.trans (hb3.mono hbr.size)
                    have KW : Hid (∀ o, Kept (w3.alloc o) w2.heap.size u9 rs) := fun o => HS.out.2.2.1.block (fun g hg => by rw [Below.heap_alloc _ _ _ (by have := hb3.size; omega), hb3.block g hg])
                    have hsz3 := hb23.size
                    go_wp2_with fail
                    refine (hcall _).mono ?_
                    rintro e w4 ⟨rfl, hw⟩
                    subst hw
                    go_wp2_with (at_builtin; refine wpList_append_own _ rfl _ _ 22 rfl w2.heap.size 28 i0 (.agg #[.int .i64 0, .int .i64 0]) 2 16 Try.underlying22 hi hz0 hz1 hz2 rfl (by decide) u9 rs.length (cellsL rs) rfl (by exact (KW.out _).owns.alloc _) ⟨w3.heap.size + 1, 0, none⟩ 1 1 [.int .i64 cc.1, .int .i64 cc.2] rfl rfl (by exact two_second _ _ _ _ _) (by intro u hu; simp at hu; rcases hu with rfl | rfl <;> rfl) (by unfold maxLen; omega) (by omega) (by simp; omega) ?_; intro v5 w5 hown5 hgrow5 hnil5)
                    go_roundg (gk - 1)
                    case measure => have q6 := HS.out.2.2.2.2.2.1; omega
                    case rel =>
                      obtain ⟨_, _, _, q4, q5, q6, q7⟩ := HS.out
                      have hst : mg keep gk la lb = [cc] ++ mg keep (gk - 1) (cutF true la) (cutF true lb) := by rw [mg_step keep (by rw [HLA.out, HLB.out]; exact q6) HE.out HF.out, hkp]; rfl
                      have k1 := SLA.out
                      have k2 := SLB.out
                      have k3 := HLA.out
                      have k4 := HLB.out
                      exact ⟨cutF true la, cutF true lb, rs ++ [cc], PA.out, PB.out, Or.inr ⟨by simp, by rw [cellsL_append, List.length_append]; exact hown5⟩, cutF_tidy q4, cutF_tidy q5, by omega, by omega, by omega, by rw [List.append_assoc, ← hst]; exact q7, ((hb23.alloc hsz3 _).alloc (by simp; omega) _).grown hgrow5 (by simp; omega) (fun g hg => ((KW.out (.cells #[] 0)).owns.lt g hg).1)⟩
              · have PA : Hid (RRow w2 (.slice (some ⟨b, off + 2, none⟩) (na - 1) (ca - 1)) (cutF true la)) := (by simpa [cutF, hca1] using hA' : RRow w2 (.slice (some ⟨b, off + 2, none⟩) (na - 1) (ca - 1)) (cutF true la))
                clear hA'
                by_cases hcb1 : cb = 1
                · subst hcb1
                  have PB : Hid (RRow w2 (.slice (some ⟨b', off', none⟩) 0 0) (cutF true lb)) := (by have hz : nb - 1 = 0 := (by omega); rw [hz] at hB'; simpa [cutF] using hB' : RRow w2 (.slice (some ⟨b', off', none⟩) 0 0) (cutF true lb))
                  clear hB'
                  cases hkp : keep true true
                  · clear s1 s2 s3 hna
                    have hcall := HKP.out true true
                    rw [hkp] at hcall
                    go_wp2_with fail
                    refine hfst.mono ?_
                    rintro e w3 ⟨rfl, hb3⟩
                    have hb23 : Below w2.heap.size w2 w3 := hbr.trans (hb3.mono hbr.size)
                    have KW : Hid (∀ o, Kept (w3.alloc o) w2.heap.size u9 rs) := fun o => HS.out.2.2.1.block (fun g hg => by rw [Below.heap_alloc _ _ _ (by have := hb3.size; omega), hb3.block g hg])
                    have hsz3 := hb23.size
                    go_wp2_with fail
                    refine (hcall _).mono ?_
                    rintro e w4 ⟨rfl, hw⟩
                    subst hw
                    go_wp2_with fail
                    go_roundg (gk - 1)
                    case measure => have q6 := HS.out.2.2.2.2.2.1; omega
                    case rel =>
                      obtain ⟨_, _, _, q4, q5, q6, q7⟩ := HS.out
                      have hst : mg keep gk la lb = mg keep (gk - 1) (cutF true la) (cutF true lb) := by rw [mg_step keep (by rw [HLA.out, HLB.out]; exact q6) HE.out HF.out, hkp]; rfl
                      have k1 := SLA.out
                      have k2 := SLB.out
                      have k3 := HLA.out
                      have k4 := HLB.out
                      exact ⟨cutF true la, cutF true lb, rs, PA.out, PB.out, KW.out _, cutF_tidy q4, cutF_tidy q5, by omega, by omega, by omega, by rw [← hst]; exact q7, hb23.alloc hsz3 _⟩
                  · clear s1 s2 s3 hna
                    have hcall := HKP.out true true
                    rw [hkp] at hcall
                    go_wp2_with fail
                    refine hfst.mono ?_
                    rintro e w3 ⟨rfl, hb3⟩
                    have hb23 : Below w2.heap.size w2 w3 := hbr.trans (hb3.mono hbr.size)
                    have KW : Hid (∀ o, Kept (w3.alloc o) w2.heap.size u9 rs) := fun o => HS.out.2.2.1.block (fun g hg => by rw [Below.heap_alloc _ _ _ (by have := hb3.size; omega), hb3.block g hg])
                    have hsz3 := hb23.size
                    go_wp2_with fail
                    refine (hcall _).mono ?_
                    rintro e w4 ⟨rfl, hw⟩
                    subst hw
                    go_wp2_with (at_builtin; refine wpList_append_own _ rfl _ _ 22 rfl w2.heap.size 28 i0 (.agg #[.int .i64 0, .int .i64 0]) 2 16 Try.underlying22 hi hz0 hz1 hz2 rfl (by decide) u9 rs.length (cellsL rs) rfl (by exact (KW.out _).owns.alloc _) ⟨w3.heap.size + 1, 0, none⟩ 1 1 [.int .i64 cc.1, .int .i64 cc.2] rfl rfl (by exact two_second _ _ _ _ _) (by intro u hu; simp at hu; rcases hu with rfl | rfl <;> rfl) (by unfold maxLen; omega) (by omega) (by simp; omega) ?_; intro v5 w5 hown5 hgrow5 hnil5)
                    go_roundg (gk - 1)
                    case measure => have q6 := HS.out.2.2.2.2.2.1; omega
                    case rel =>
                      obtain ⟨_, _, _, q4, q5, q6, q7⟩ := HS.out
                      have hst : mg keep gk la lb = [cc] ++ mg keep (gk - 1) (cutF true la) (cutF true lb) := by rw [mg_step keep (by rw [HLA.out, HLB.out]; exact q6) HE.out HF.out, hkp]; rfl
                      have k1 := SLA.out
                      have k2 := SLB.out
                      have k3 := HLA.out
                      have k4 := HLB.out
                      exact ⟨cutF true la, cutF true lb, rs ++ [cc], PA.out, PB.out, Or.inr ⟨by simp, by rw [cellsL_append, List.length_append]; exact hown5⟩, cutF_tidy q4, cutF_tidy q5, by omega, by omega, by omega, by rw [List.append_assoc, ← hst]; exact q7, ((hb23.alloc hsz3 _).alloc (by simp; omega) _).grown hgrow5 (by simp; omega) (fun g hg => ((KW.out (.cells #[] 0)).owns.lt g hg).1)⟩
                · have PB : Hid (RRow w2 (.slice (some ⟨b', off' + 2, none⟩) (nb - 1) (cb - 1)) (cutF true lb)) := (by simpa [cutF, hcb1] using hB' : RRow w2 (.slice (some ⟨b', off' + 2, none⟩) (nb - 1) (cb - 1)) (cutF true lb))
                  clear hB'
                  cases hkp : keep true true
                  · clear s1 s2 s3 hna
                    have hcall := HKP.out true true
                    rw [hkp] at hcall
                    go_wp2_with fail
                    refine hfst.mono ?_
                    rintro e w3 ⟨rfl, hb3⟩
                    have hb23 : Below w2.heap.size w2 w3 := hbr.trans (hb3.mono hbr.size)
                    have KW : Hid (∀ o, Kept (w3.alloc o) w2.heap.size u9 rs) := fun o => HS.out.2.2.1.block (fun g hg => by rw [Below.heap_alloc _ _ _ (by have := hb3.size; omega), hb3.block g hg])
                    have hsz3 := hb23.size
                    go_wp2_with fail
                    refine (hcall _).mono ?_
                    rintro e w4 ⟨rfl, hw⟩
                    subst hw
                    go_wp2_with fail
                    go_roundg (gk - 1)
                    case measure => have q6 := HS.out.2.2.2.2.2.1; omega
                    case rel =>
                      obtain ⟨_, _, _, q4, q5, q6, q7⟩ := HS.out
                      have hst : mg keep gk la lb = mg keep (gk - 1) (cutF true la) (cutF true lb) := by rw [mg_step keep (by rw [HLA.out, HLB.out]; exact q6) HE.out HF.out, hkp]; rfl
                      have k1 := SLA.out
                      have k2 := SLB.out
                      have k3 := HLA.out
                      have k4 := HLB.out
                      exact ⟨cutF true la, cutF true lb, rs, PA.out, PB.out, KW.out _, cutF_tidy q4, cutF_tidy q5, by omega, by omega, by omega, by rw [← hst]; exact q7, hb23.alloc hsz3 _⟩
                  · clear s1 s2 s3 hna
                    have hcall := HKP.out true true
                    rw [hkp] at hcall
                    go_wp2_with fail
                    refine hfst.mono ?_
                    rintro e w3 ⟨rfl, hb3⟩
                    have hb23 : Below w2.heap.size w2 w3 := hbr.trans (hb3.mono hbr.size)
                    have KW : Hid (∀ o, Kept (w3.alloc o) w2.heap.size u9 rs) := fun o => HS.out.2.2.1.block (fun g hg => by rw [Below.heap_alloc _ _ _ (by have := hb3.size; omega), hb3.block g hg])
                    have hsz3 := hb23.size
                    go_wp2_with fail
                    refine (hcall _).mono ?_
                    rintro e w4 ⟨rfl, hw⟩
                    subst hw
                    go_wp2_with (at_builtin; refine wpList_append_own _ rfl _ _ 22 rfl w2.heap.size 28 i0 (.agg #[.int .i64 0, .int .i64 0]) 2 16 Try.underlying22 hi hz0 hz1 hz2 rfl (by decide) u9 rs.length (cellsL rs) rfl (by exact (KW.out _).owns.alloc _) ⟨w3.heap.size + 1, 0, none⟩ 1 1 [.int .i64 cc.1, .int .i64 cc.2] rfl rfl (by exact two_second _ _ _ _ _) (by intro u hu; simp at hu; rcases hu with rfl | rfl <;> rfl) (by unfold maxLen; omega) (by omega) (by simp; omega) ?_; intro v5 w5 hown5 hgrow5 hnil5)
                    go_roundg (gk - 1)
                    case measure => have q6 := HS.out.2.2.2.2.2.1; omega
                    case rel =>
                      obtain ⟨_, _, _, q4, q5, q6, q7⟩ := HS.out
                      have hst : mg keep gk la lb = [cc] ++ mg keep (gk - 1) (cutF true la) (cutF true lb) := by rw [mg_step keep (by rw [HLA.out, HLB.out]; exact q6) HE.out HF.out, hkp]; rfl
                      have k1 := SLA.out
                      have k2 := SLB.out
                      have k3 := HLA.out
                      have k4 := HLB.out
                      exact ⟨cutF true la, cutF true lb, rs ++ [cc], PA.out, PB.out, Or.inr ⟨by simp, by rw [cellsL_append, List.length_append]; exact hown5⟩, cutF_tidy q4, cutF_tidy q5, by omega, by omega, by omega, by rw [List.append_assoc, ← hst]; exact q7, ((hb23.alloc hsz3 _).alloc (by simp; omega) _).grown hgrow5 (by simp; omega) (fun g hg => ((KW.out (.cells #[] 0)).owns.lt g hg).1)⟩
    · have HC : Hid (tcode za = 0) := htc
      have HU : Hid (tcode zb ≠ 0) := huc
      have hne : (tcode zb != 0) = true := by simpa using huc
      clear htc huc
      go_enter Try.func36, Try.ntmps36
      go_wp2_with fail
      refine hTa.mono ?_
      rintro e w1 ⟨va, ys, rfl, hb1, ht1, hr1⟩
      have hTb := tidy_told u zb w1 (HB.out.below hb1)
      generalize hc : tcode zb = code at *
      have HE : Hid (tcode zb = code) := hc
      clear hc hTa
      go_wp2_with fail
      refine hTb.mono ?_
      rintro e w2 ⟨vb, ts, rfl, hb2, ht2, hr2⟩
      clear hTb
      go_wp2_with fail
      go_ret2
      have hF : mergeF keep (tcode za) (tcode zb) ys ts = (code, []) := by rw [mergeF, HC.out, HE.out, if_neg (by simp), if_pos HU.out]
      exact ⟨_, ys, ts, ht1, ht2, by rw [hF]; rfl, hb1.trans (hb2.mono hb1.size), by rw [hF]; exact Or.inl ⟨rfl, rfl⟩⟩
  · have HC : Hid (tcode za ≠ 0) := htc
    have hne : (tcode za != 0) = true := by simpa using htc
    generalize hc : tcode za = code at *
    have HE : Hid (tcode za = code) := hc
    clear hc htc
    go_enter Try.func36, Try.ntmps36
    go_wp2_with fail
    refine hTa.mono ?_
    rintro e w1 ⟨va, ys, rfl, hb1, ht1, hr1⟩
    clear hTa
    go_wp2_with fail
    go_ret2
    obtain ⟨ts, hts⟩ := tidied_exists zb
    have hF : mergeF keep (tcode za) (tcode zb) ys ts = (code, []) := by rw [mergeF, HE.out, if_pos HC.out]
    exact ⟨_, ys, ts, ht1, hts, by rw [hF]; rfl, hb1, by rw [hF]; exact Or.inl ⟨rfl, rfl⟩⟩
end Go.Proofs.Ytoppncaidhlenaa
