/- Lines: where the next one begins; remarks passed over. -/
import Derived.Test.YtpldnhlancjlnaaDoorRleHead
namespace Go.Proofs.YtpldnhlancjlnaaDoor

/-- how many bytes stand ahead of the first byte 10 -/
def nl : List UInt8 → Nat
  | [] => 0
  | c :: r => if c = 10 then 0 else nl r + 1
theorem nl_le : ∀ s : List UInt8, nl s ≤ s.length
  | [] => Nat.le_refl _
  | c :: r => by have := nl_le r; rw [nl]; split <;> simp <;> omega
theorem nl_cut : ∀ s : List UInt8, Lib.cut s [10] = if nl s < s.length then (s.take (nl s), s.drop (nl s + 1), true) else (s, [], false) := by
  intro s
  rcases nl_or s with h | ⟨a, b, rfl, h⟩
  · have e : nl s = s.length := by
      induction s with
      | nil => rfl
      | cons c r ih =>
        rw [nl, if_neg (h c (by simp)), ih fun x hx => h x (List.mem_cons_of_mem _ hx)]
        rfl
    rw [cut_no s h, if_neg (by omega)]
  · have e : nl (a ++ 10 :: b) = a.length := by
      induction a with
      | nil => simp [nl]
      | cons c r ih =>
        rw [List.cons_append, nl, if_neg (h c (by simp)), ih fun x hx => h x (List.mem_cons_of_mem _ hx)]
        rfl
    rw [cut_nl a b h, e, if_pos (by simp)]
    simp
theorem nl_end {s : List UInt8} {i : Nat} (h : nl s = i) (hi : i < s.length) : s[i]! = 10 := by
  subst h
  induction s with
  | nil => simp at hi
  | cons c r ih =>
    rw [nl] at hi ⊢
    split at hi
    · rename_i hc; rw [if_pos hc]; simpa using hc
    · rename_i hc
      rw [if_neg hc]
      simpa using ih (by simp at hi; omega)
/-- one remark is passed over -/
theorem skip_one (T : List UInt8) (k f : Nat) (hk : k < T.length) (h : T[k]! = 35) (hf : (T.drop k).length ≤ f) :
    ∃ g, skipF f (T.drop k) = skipF g (T.drop (if k + nl (T.drop k) < T.length then k + nl (T.drop k) + 1 else T.length)) ∧ (T.drop (if k + nl (T.drop k) < T.length then k + nl (T.drop k) + 1 else T.length)).length ≤ g := by
  have hd : T.drop k = 35 :: T.drop (k + 1) := by
    rw [List.drop_eq_getElem_cons hk]
    rw [getElem!_pos T k hk] at h
    rw [h]
  have hl : (T.drop k).length = T.length - k := List.length_drop
  cases f with
  | zero => omega
  | succ f =>
    refine ⟨f, ?_, ?_⟩
    · rw [skipF, if_pos (by rw [hd]; simp [Lib.hasPrefix]), nl_cut]
      by_cases hn : nl (T.drop k) < (T.drop k).length
      · rw [if_pos hn, if_pos (by omega)]
        simp only
        rw [List.drop_drop, Nat.add_assoc]
      · have := nl_le (T.drop k)
        rw [if_neg hn, if_neg (by omega)]
        simp
    · rw [List.length_drop]
      split <;> omega
theorem skip_end (T : List UInt8) (k f : Nat) (h : k < T.length → T[k]! ≠ 35) : skipF f (T.drop k) = T.drop k := by
  apply skip_no
  by_cases hk : k < T.length
  · have h1 := h hk
    rw [getElem!_pos T k hk] at h1
    rw [List.drop_eq_getElem_cons hk]
    simp only [Lib.hasPrefix, List.isPrefixOf, Bool.and_true, beq_eq_false_iff_ne]
    exact fun e => h1 e.symm
  · rw [List.drop_of_length_le (by omega)]
    rfl
end Go.Proofs.YtpldnhlancjlnaaDoor
