/- TurnsFair: what a Pop leaves. -/
import Derived.Test.YtcgmnpofpnpfcaaTuFInv
namespace Go.Proofs.Ytcgmnpofpnpfcaa
open Go.RowKit

/-- midway: the one that was served is t, and the first jj were told -/
structure Fm (T : Tu) (F : Nat → Option (List Nat)) (S G : Nat) (us : List Value) (sent got : List Nat) (ss : Nat → List Nat) (t jj j : Nat) : Prop where
  nx : T.next < T.n
  rl : T.rows.length = T.n
  fS : F S = some sent
  fG : F G = some got
  sl : sent.length = T.n
  gl : got.length = T.n
  ul : us.length = T.n
  sG : S ≠ G
  le : ∀ k, k < T.n → gd got k ≤ gd sent k
  bd : ∀ k, k < T.n → gd sent k ≤ j
  row : ∀ k, k < T.n → T.rows[k]? = some (txts k (gd got k) (gd sent k))
  asc : ∀ i, i < T.n → i ≠ t → gd got i < gd sent i → ∃ g, us[i]? = some (.slice (some ⟨g, 0, none⟩) T.n T.n) ∧ F g = some (ss i)
  usN : ∀ (i : Nat) u q, us[i]? = some u → u.ownBlock = some q → q ≠ S ∧ q ≠ G
  inj : ∀ (i l : Nat) u v q, us[i]? = some u → us[l]? = some v → u.ownBlock = some q → v.ownBlock = some q → i = l
  old : ∀ i, i < T.n → i ≠ t → gd got i < gd sent i → jj ≤ i → gd (ss i) t = 0 ∧ ∀ u, u < T.n → u ≠ i → u ≠ t → gd (ss i) u ≤ 1 ∧ (gd (ss i) u = 1 → dN T.n T.next i < dN T.n T.next u)
  new : ∀ i, i < T.n → i ≠ t → gd got i < gd sent i → i < jj → ∀ u, u < T.n → u ≠ i → gd (ss i) u ≤ 1 ∧ (gd (ss i) u = 1 → dN T.n T.next i < dN T.n T.next u)
  tn : t < T.n
  nt : T.next = (t + 1) % T.n
variable {T : Tu} {F : Nat → Option (List Nat)} {S G : Nat} {us : List Value} {sent got : List Nat} {ss : Nat → List Nat} {j t jj : Nat}
theorem Fv.popped (h : Fv T F S G us sent got ss j) {i : Nat} {s : ByteArray} {r : List ByteArray} (hi : i < T.n) (hl : ∀ l, l < i → T.rows[(T.next + l) % T.n]? = some []) (hr : T.rows[(T.next + i) % T.n]? = some (s :: r)) (ht : t = (T.next + i) % T.n) :
    gd got t < gd sent t ∧ s = txt t (gd got t) ∧ Fm ⟨T.n, (t + 1) % T.n, T.rows.set t r⟩ (upd F G (got.set t (gd got t + 1))) S G us sent (got.set t (gd got t + 1)) ss t 0 j := by
  have hpos : 0 < T.n := by have := h.nx; omega
  have htn : t < T.n := by rw [ht]; exact Nat.mod_lt _ hpos
  rw [← ht] at hr
  have hrow := h.row t htn
  rw [hr] at hrow
  have hlt : gd got t < gd sent t := by
    rcases Nat.lt_or_ge (gd got t) (gd sent t) with h1 | h1
    · exact h1
    · exfalso
      have : txts t (gd got t) (gd sent t) = [] := by unfold txts; rw [show gd sent t - gd got t = 0 by omega]; rfl
      rw [this] at hrow
      cases hrow
  rw [txts_pop _ _ _ hlt] at hrow
  simp only [Option.some.injEq, List.cons.injEq] at hrow
  have hdt : dN T.n T.next t = i := by rw [ht]; exact dN_at h.nx hi
  have hbeh : ∀ u, u < T.n → u ≠ t → gd got u < gd sent u → dN T.n T.next t < dN T.n T.next u := by
    intro u hu hne hw
    obtain ⟨k1, k2⟩ := at_dN h.nx hu
    rcases Nat.lt_trichotomy (dN T.n T.next u) i with h1 | h1 | h1
    · exfalso
      have := hl _ h1
      rw [k2, h.row u hu, txts_pop _ _ _ hw] at this
      cases this
    · exfalso
      rw [h1] at k2
      exact hne (by rw [ht, k2])
    · omega
  have hgs : ∀ u, gd (got.set t (gd got t + 1)) u = if u = t then gd got t + 1 else gd got u := fun u => gd_set _ _ _ _ (by rw [h.gl]; exact htn)
  refine ⟨hlt, hrow.1, ⟨Nat.mod_lt _ hpos, ?_, ?_, upd_same _ _ _, h.sl, ?_, h.ul, h.sG, ?_, h.bd, ?_, ?_, h.usN, h.inj, ?_, ?_, htn, rfl⟩⟩
  · show (T.rows.set t r).length = T.n; rw [List.length_set]; exact h.rl
  · rw [upd_other _ _ _ _ h.sG]; exact h.fS
  · rw [List.length_set]; exact h.gl
  · intro k hk
    have := h.le k hk
    rw [hgs]
    split
    · rename_i e; rw [e]; omega
    · exact this
  · intro k hk
    show (T.rows.set t r)[k]? = _
    rw [List.getElem?_set, hgs]
    by_cases e : t = k
    · subst e
      rw [if_pos rfl, if_pos (by rw [h.rl]; exact htn), if_pos rfl, hrow.2]
    · rw [if_neg e, if_neg (fun e2 => e e2.symm)]
      exact h.row k hk
  · intro k hk hne hw
    rw [hgs, if_neg hne] at hw
    obtain ⟨g, h1, h2⟩ := h.asc k hk hw
    exact ⟨g, h1, by rw [upd_other _ _ _ _ (h.usN k _ g h1 rfl).2]; exact h2⟩
  · intro k hk hne hw _
    rw [hgs, if_neg hne] at hw
    have hk' : k < T.n := hk
    have hb := hbeh k hk' hne hw
    refine ⟨?_, fun u hu hnu hnt => ?_⟩
    · obtain ⟨f1, f2⟩ := h.fair k hk' hw t htn (fun e => hne e.symm)
      rcases Nat.lt_or_ge (gd (ss k) t) 1 with h1 | h1
      · omega
      · have := f2 (by omega)
        omega
    · have hu' : u < T.n := hu
      obtain ⟨f1, f2⟩ := h.fair k hk' hw u hu' hnu
      refine ⟨f1, fun h1 => ?_⟩
      have h2 := f2 h1
      show dN T.n ((t + 1) % T.n) k < dN T.n ((t + 1) % T.n) u
      have e1 := dN_next h.nx htn hk' hb
      have e2 := dN_next h.nx htn hu' (by omega)
      omega
  · intro k hk hne hw hlt0
    omega
theorem Fm.skip (h : Fm T F S G us sent got ss t jj j) (hs : jj = t ∨ ¬ gd got jj < gd sent jj) : Fm T F S G us sent got ss t (jj + 1) j :=
  ⟨h.nx, h.rl, h.fS, h.fG, h.sl, h.gl, h.ul, h.sG, h.le, h.bd, h.row, h.asc, h.usN, h.inj, fun i hi hne hw hj => h.old i hi hne hw (by omega), fun i hi hne hw hj => by
    rcases Nat.lt_succ_iff_lt_or_eq.1 hj with h1 | h1
    · exact h.new i hi hne hw h1
    · rcases hs with h2 | h2
      · omega
      · exact absurd (h1 ▸ hw) h2, h.tn, h.nt⟩
theorem Fm.told (h : Fm T F S G us sent got ss t jj j) (hjn : jj < T.n) (hne : jj ≠ t) (hw : gd got jj < gd sent jj) {g : Nat} (hu : us[jj]? = some (.slice (some ⟨g, 0, none⟩) T.n T.n)) (hg : F g = some (ss jj)) (hlen : (ss jj).length = T.n) :
    Fm T (upd F g ((ss jj).set t 1)) S G us sent got (fun i => if i = jj then (ss jj).set t 1 else ss i) t (jj + 1) j := by
  have hgn := h.usN jj _ g hu rfl
  refine ⟨h.nx, h.rl, ?_, ?_, h.sl, h.gl, h.ul, h.sG, h.le, h.bd, h.row, ?_, h.usN, h.inj, ?_, ?_, h.tn, h.nt⟩
  · rw [upd_other _ _ _ _ hgn.1.symm]; exact h.fS
  · rw [upd_other _ _ _ _ hgn.2.symm]; exact h.fG
  · intro i hi hnt hwi
    by_cases e : i = jj
    · subst e
      exact ⟨g, hu, by rw [upd_same, if_pos rfl]⟩
    · obtain ⟨g2, h1, h2⟩ := h.asc i hi hnt hwi
      exact ⟨g2, h1, by rw [upd_other _ _ _ _ (fun e2 => e (h.inj i jj _ _ g h1 hu (by rw [e2]; rfl) rfl)), if_neg e]; exact h2⟩
  · intro i hi hnt hwi hji
    rw [if_neg (by omega)]
    exact h.old i hi hnt hwi (by omega)
  · intro i hi hnt hwi hji u hun hui
    by_cases e : i = jj
    · subst e
      rw [if_pos rfl, gd_set _ _ _ _ (by rw [hlen]; exact h.tn)]
      by_cases e2 : u = t
      · rw [if_pos e2, e2, h.nt]
        exact ⟨Nat.le_refl _, fun _ => dN_last h.tn hi hnt⟩
      · rw [if_neg e2]
        exact (h.old i hi hnt hwi (Nat.le_refl _)).2 u hun hui e2
    · rw [if_neg e]
      exact h.new i hi hnt hwi (by omega) u hun hui
/-- the one that was served waits anew -/
theorem Fm.done (h : Fm T F S G us sent got ss t T.n j) (N : Nat) (hN : F N = none) (husF : ∀ (i : Nat) u q, us[i]? = some u → u.ownBlock = some q → ∃ xs, F q = some xs) :
    Fv T (upd F N (List.replicate T.n 0)) S G (us.set t (.slice (some ⟨N, 0, none⟩) T.n T.n)) sent got (fun i => if i = t then List.replicate T.n 0 else ss i) j := by
  have hSN : S ≠ N := fun e => by rw [← e, h.fS] at hN; cases hN
  have hGN : G ≠ N := fun e => by rw [← e, h.fG] at hN; cases hN
  have hus : ∀ (i : Nat) u, (us.set t (.slice (some ⟨N, 0, none⟩) T.n T.n))[i]? = some u → (i = t ∧ u = .slice (some ⟨N, 0, none⟩) T.n T.n) ∨ (i ≠ t ∧ us[i]? = some u) := fun i u hu => by
    rw [List.getElem?_set] at hu
    by_cases e : t = i
    · rw [if_pos e] at hu
      left
      split at hu
      · exact ⟨e.symm, (Option.some.inj hu).symm⟩
      · cases hu
    · rw [if_neg e] at hu
      exact .inr ⟨fun e2 => e e2.symm, hu⟩
  have hNq : ∀ (i : Nat) u, us[i]? = some u → u.ownBlock ≠ some N := fun i u hu e => by
    obtain ⟨xs, hx⟩ := husF i u N hu e
    rw [hN] at hx
    cases hx
  refine ⟨h.nx, h.rl, ?_, ?_, h.sl, h.gl, ?_, h.sG, h.le, h.bd, h.row, ?_, ?_, ?_, ?_⟩
  · rw [upd_other _ _ _ _ hSN]; exact h.fS
  · rw [upd_other _ _ _ _ hGN]; exact h.fG
  · rw [List.length_set]; exact h.ul
  · intro i hi hlt
    by_cases e : i = t
    · subst e
      exact ⟨N, by rw [List.getElem?_set, if_pos rfl, if_pos (by rw [h.ul]; exact hi)], by rw [upd_same, if_pos rfl]⟩
    · obtain ⟨g, h1, h2⟩ := h.asc i hi e hlt
      refine ⟨g, ?_, ?_⟩
      · rw [List.getElem?_set, if_neg (fun e2 => e e2.symm)]; exact h1
      · rw [upd_other _ _ _ _ (fun e2 => hNq i _ h1 (by rw [← e2]; rfl)), if_neg e]; exact h2
  · intro i u q hu hq
    rcases hus i u hu with ⟨_, rfl⟩ | ⟨_, h1⟩
    · have := own_eq hq
      omega
    · exact h.usN i u q h1 hq
  · intro i l u v q hu hv hqu hqv
    rcases hus i u hu with ⟨e1, rfl⟩ | ⟨e1, h1⟩
    · rcases hus l v hv with ⟨e2, _⟩ | ⟨e2, h2⟩
      · omega
      · exact absurd (by rw [own_eq hqu]; exact hqv) (hNq l v h2)
    · rcases hus l v hv with ⟨e2, rfl⟩ | ⟨e2, h2⟩
      · exact absurd (by rw [own_eq hqv]; exact hqu) (hNq i u h1)
      · exact h.inj i l u v q h1 h2 hqu hqv
  · intro i hi hlt u hu hne
    by_cases e : i = t
    · rw [if_pos e, gd_zero]
      exact ⟨by omega, fun h => by omega⟩
    · rw [if_neg e]
      exact h.new i hi e hlt hi u hu hne
end Go.Proofs.Ytcgmnpofpnpfcaa
