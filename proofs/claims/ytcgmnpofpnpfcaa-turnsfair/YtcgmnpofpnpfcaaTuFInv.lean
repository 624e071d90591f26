/- TurnsFair: what holds from deed to deed. -/
import Derived.Test.YtcgmnpofpnpfcaaTuSpot
namespace Go.Proofs.Ytcgmnpofpnpfcaa
open Go.RowKit

/-- the text of a tenant's i-th thing -/
def txt (k i : Nat) : ByteArray := ⟨#[109, UInt8.ofNat (48 + k), UInt8.ofNat (65 + i % 26)]⟩
def txts (k a c : Nat) : List ByteArray := (List.range (c - a)).map fun i => txt k (a + i)
theorem txts_len (k a c : Nat) : (txts k a c).length = c - a := by simp [txts]
theorem txts_push (k a c : Nat) (h : a ≤ c) : txts k a (c + 1) = txts k a c ++ [txt k c] := by
  unfold txts
  rw [show c + 1 - a = (c - a) + 1 by omega, List.range_succ, List.map_append]
  simp only [List.map_cons, List.map_nil]
  rw [show a + (c - a) = c by omega]
theorem txts_pop (k a c : Nat) (h : a < c) : txts k a c = txt k a :: txts k (a + 1) c := by
  unfold txts
  rw [show c - a = (c - (a + 1)) + 1 by omega, List.range_succ_eq_map, List.map_cons, List.map_map]
  congr 1
  apply List.map_congr_left
  intro i _
  show txt k (a + (i + 1)) = txt k (a + 1 + i)
  rw [show a + (i + 1) = a + 1 + i by omega]
/-- how far one is behind another in the ring -/
def dN (n x t : Nat) : Nat := if x ≤ t then t - x else t + n - x
theorem ring_at {n x i : Nat} (hx : x < n) (hi : i < n) : (x + i) % n = if x + i < n then x + i else x + i - n := by
  split
  · exact Nat.mod_eq_of_lt (by omega)
  · rw [Nat.mod_eq_sub_mod (by omega), Nat.mod_eq_of_lt (by omega)]
theorem dN_at {n x i : Nat} (hx : x < n) (hi : i < n) : dN n x ((x + i) % n) = i := by
  rw [ring_at hx hi]
  unfold dN
  split <;> split <;> omega
theorem at_dN {n x t : Nat} (hx : x < n) (ht : t < n) : dN n x t < n ∧ (x + dN n x t) % n = t := by
  have h : dN n x t < n := by unfold dN; split <;> omega
  refine ⟨h, ?_⟩
  rw [ring_at hx h]
  unfold dN
  split <;> split <;> omega
theorem dN_next {n x t u : Nat} (hx : x < n) (ht : t < n) (hu : u < n) (hlt : dN n x t < dN n x u) : dN n ((t + 1) % n) u + dN n x t + 1 = dN n x u := by
  have e : (t + 1) % n = if t + 1 < n then t + 1 else 0 := by
    split
    · exact Nat.mod_eq_of_lt (by omega)
    · rw [show t + 1 = n by omega, Nat.mod_self]
  rw [e]
  unfold dN at *
  split <;> split at hlt <;> split at hlt <;> split <;> omega
theorem dN_last {n t u : Nat} (ht : t < n) (hu : u < n) (hne : u ≠ t) : dN n ((t + 1) % n) u < dN n ((t + 1) % n) t := by
  have e : (t + 1) % n = if t + 1 < n then t + 1 else 0 := by
    split
    · exact Nat.mod_eq_of_lt (by omega)
    · rw [show t + 1 = n by omega, Nat.mod_self]
  rw [e]
  unfold dN
  split <;> split <;> split <;> omega
def gd (l : List Nat) (k : Nat) : Nat := l.getD k 0
theorem gd_set (l : List Nat) (k x i : Nat) (hk : k < l.length) : gd (l.set k x) i = if i = k then x else gd l i := by
  unfold gd
  rw [List.getD_eq_getElem?_getD, List.getElem?_set]
  by_cases h : k = i
  · subst h; rw [if_pos rfl, if_pos rfl, if_pos hk]; rfl
  · rw [if_neg h, if_neg (fun e => h e.symm), List.getD_eq_getElem?_getD]
theorem gd_zero (n i : Nat) : gd (List.replicate n 0) i = 0 := by
  unfold gd
  rw [List.getD_eq_getElem?_getD, List.getElem?_replicate]
  split <;> rfl
structure Fv (T : Tu) (F : Nat → Option (List Nat)) (S G : Nat) (us : List Value) (sent got : List Nat) (ss : Nat → List Nat) (j : Nat) : Prop where
  nx : T.next < T.n
  rl : T.rows.length = T.n
  fS : F S = some sent
  fG : F G = some got
  sl : sent.length = T.n
  gl : got.length = T.n
  ul : us.length = T.n
  sG : S ≠ G
  le : ∀ k, k < T.n → gd got k ≤ gd sent k
  bd : ∀ k, k < T.n → gd sent k ≤ j
  row : ∀ k, k < T.n → T.rows[k]? = some (txts k (gd got k) (gd sent k))
  asc : ∀ i, i < T.n → gd got i < gd sent i → ∃ g, us[i]? = some (.slice (some ⟨g, 0, none⟩) T.n T.n) ∧ F g = some (ss i)
  usN : ∀ (i : Nat) u q, us[i]? = some u → u.ownBlock = some q → q ≠ S ∧ q ≠ G
  inj : ∀ (i l : Nat) u v q, us[i]? = some u → us[l]? = some v → u.ownBlock = some q → v.ownBlock = some q → i = l
  fair : ∀ i, i < T.n → gd got i < gd sent i → ∀ u, u < T.n → u ≠ i → gd (ss i) u ≤ 1 ∧ (gd (ss i) u = 1 → dN T.n T.next i < dN T.n T.next u)
variable {T : Tu} {F : Nat → Option (List Nat)} {S G : Nat} {us : List Value} {sent got : List Nat} {ss : Nat → List Nat} {j : Nat}
theorem Fv.more (h : Fv T F S G us sent got ss j) : Fv T F S G us sent got ss (j + 1) := ⟨h.nx, h.rl, h.fS, h.fG, h.sl, h.gl, h.ul, h.sG, h.le, fun k hk => Nat.le_succ_of_le (h.bd k hk), h.row, h.asc, h.usN, h.inj, h.fair⟩
/-- something was pushed behind others -/
theorem Fv.push (h : Fv T F S G us sent got ss j) (k : Nat) (hk : k < T.n) (hw : gd got k < gd sent k) : Fv ⟨T.n, T.next, T.rows.set k (txts k (gd got k) (gd sent k) ++ [txt k (gd sent k)])⟩ (upd F S (sent.set k (gd sent k + 1))) S G us (sent.set k (gd sent k + 1)) got ss (j + 1) where
  nx := h.nx
  rl := by show (T.rows.set _ _).length = _; rw [List.length_set]; exact h.rl
  fS := upd_same _ _ _
  fG := by rw [upd_other _ _ _ _ h.sG.symm]; exact h.fG
  sl := by rw [List.length_set]; exact h.sl
  gl := h.gl
  ul := h.ul
  sG := h.sG
  le := fun i hi => by
    have := h.le i hi
    rw [gd_set _ _ _ _ (by rw [h.sl]; exact hk)]
    split
    · rename_i e; rw [e] at this ⊢; omega
    · exact this
  bd := fun i hi => by
    have := h.bd i hi
    have := h.bd k hk
    rw [gd_set _ _ _ _ (by rw [h.sl]; exact hk)]
    split <;> omega
  row := fun i hi => by
    show (T.rows.set k _)[i]? = _
    rw [List.getElem?_set, gd_set _ _ _ _ (by rw [h.sl]; exact hk)]
    by_cases e : k = i
    · subst e
      rw [if_pos rfl, if_pos (by rw [h.rl]; exact hi), if_pos rfl, txts_push _ _ _ (h.le k hk)]
    · rw [if_neg e, if_neg (fun e2 => e e2.symm)]
      exact h.row i hi
  asc := fun i hi hlt => by
    have hlt' : gd got i < gd sent i := by
      rw [gd_set _ _ _ _ (by rw [h.sl]; exact hk)] at hlt
      split at hlt
      · rename_i e; rw [e]; exact hw
      · exact hlt
    obtain ⟨g, h1, h2⟩ := h.asc i hi hlt'
    exact ⟨g, h1, by rw [upd_other _ _ _ _ (h.usN i _ g h1 rfl).1]; exact h2⟩
  usN := h.usN
  inj := h.inj
  fair := fun i hi hlt => by
    have hlt' : gd got i < gd sent i := by
      rw [gd_set _ _ _ _ (by rw [h.sl]; exact hk)] at hlt
      split at hlt
      · rename_i e; rw [e]; exact hw
      · exact hlt
    exact h.fair i hi hlt'
/-- something was pushed where nothing waited -/
theorem Fv.first (h : Fv T F S G us sent got ss j) (k N : Nat) (hk : k < T.n) (hw : gd got k = gd sent k) (hN : F N = none) (husF : ∀ (i : Nat) u q, us[i]? = some u → u.ownBlock = some q → ∃ xs, F q = some xs) :
    Fv ⟨T.n, T.next, T.rows.set k (txts k (gd got k) (gd sent k) ++ [txt k (gd sent k)])⟩ (upd (upd F N (List.replicate T.n 0)) S (sent.set k (gd sent k + 1))) S G (us.set k (.slice (some ⟨N, 0, none⟩) T.n T.n)) (sent.set k (gd sent k + 1)) got (fun i => if i = k then List.replicate T.n 0 else ss i) (j + 1) := by
  have hSN : S ≠ N := fun e => by rw [← e, h.fS] at hN; cases hN
  have hGN : G ≠ N := fun e => by rw [← e, h.fG] at hN; cases hN
  have hus : ∀ (i : Nat) u, (us.set k (.slice (some ⟨N, 0, none⟩) T.n T.n))[i]? = some u → (i = k ∧ u = .slice (some ⟨N, 0, none⟩) T.n T.n) ∨ (i ≠ k ∧ us[i]? = some u) := fun i u hu => by
    rw [List.getElem?_set] at hu
    by_cases e : k = i
    · rw [if_pos e] at hu
      left
      split at hu
      · exact ⟨e.symm, (Option.some.inj hu).symm⟩
      · cases hu
    · rw [if_neg e] at hu
      exact .inr ⟨fun e2 => e e2.symm, hu⟩
  have hNq : ∀ (i : Nat) u, us[i]? = some u → u.ownBlock ≠ some N := fun i u hu e => by
    obtain ⟨xs, hx⟩ := husF i u N hu e
    rw [hN] at hx
    cases hx
  refine ⟨h.nx, ?_, upd_same _ _ _, ?_, ?_, h.gl, ?_, h.sG, ?_, ?_, ?_, ?_, ?_, ?_, ?_⟩
  · show (T.rows.set _ _).length = _; rw [List.length_set]; exact h.rl
  · rw [upd_other _ _ _ _ h.sG.symm, upd_other _ _ _ _ hGN]; exact h.fG
  · rw [List.length_set]; exact h.sl
  · rw [List.length_set]; exact h.ul
  · intro i hi
    have := h.le i hi
    rw [gd_set _ _ _ _ (by rw [h.sl]; exact hk)]
    split
    · rename_i e; rw [e] at this ⊢; omega
    · exact this
  · intro i hi
    have := h.bd i hi
    have := h.bd k hk
    rw [gd_set _ _ _ _ (by rw [h.sl]; exact hk)]
    split <;> omega
  · intro i hi
    show (T.rows.set k _)[i]? = _
    rw [List.getElem?_set, gd_set _ _ _ _ (by rw [h.sl]; exact hk)]
    by_cases e : k = i
    · subst e
      rw [if_pos rfl, if_pos (by rw [h.rl]; exact hi), if_pos rfl, txts_push _ _ _ (h.le k hk)]
    · rw [if_neg e, if_neg (fun e2 => e e2.symm)]
      exact h.row i hi
  · intro i hi hlt
    by_cases e : i = k
    · subst e
      refine ⟨N, ?_, ?_⟩
      · rw [List.getElem?_set, if_pos rfl, if_pos (by rw [h.ul]; exact hi)]
      · rw [upd_other _ _ _ _ hSN.symm, upd_same, if_pos rfl]
    · rw [gd_set _ _ _ _ (by rw [h.sl]; exact hk), if_neg e] at hlt
      obtain ⟨g, h1, h2⟩ := h.asc i hi hlt
      refine ⟨g, ?_, ?_⟩
      · rw [List.getElem?_set, if_neg (fun e2 => e e2.symm)]; exact h1
      · rw [upd_other _ _ _ _ (h.usN i _ g h1 rfl).1, upd_other _ _ _ _ (fun e2 => hNq i _ h1 (by rw [← e2]; rfl)), if_neg e]; exact h2
  · intro i u q hu hq
    rcases hus i u hu with ⟨_, rfl⟩ | ⟨_, h1⟩
    · have := own_eq hq
      omega
    · exact h.usN i u q h1 hq
  · intro i l u v q hu hv hqu hqv
    rcases hus i u hu with ⟨e1, rfl⟩ | ⟨e1, h1⟩
    · rcases hus l v hv with ⟨e2, _⟩ | ⟨e2, h2⟩
      · omega
      · exact absurd (by rw [own_eq hqu]; exact hqv) (hNq l v h2)
    · rcases hus l v hv with ⟨e2, rfl⟩ | ⟨e2, h2⟩
      · exact absurd (by rw [own_eq hqv]; exact hqu) (hNq i u h1)
      · exact h.inj i l u v q h1 h2 hqu hqv
  · intro i hi hlt u hu hne
    by_cases e : i = k
    · rw [if_pos e, gd_zero]
      exact ⟨by omega, fun h => by omega⟩
    · rw [if_neg e]
      rw [gd_set _ _ _ _ (by rw [h.sl]; exact hk), if_neg e] at hlt
      exact h.fair i hi hlt u hu hne
end Go.Proofs.Ytcgmnpofpnpfcaa
