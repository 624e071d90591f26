/- The two are one: a ring of rows, and a queue of lines. -/
import Derived.Test.YtpldaghhledjlaaGreatDoorTuRPop
import Derived.Test.YtpldaghhledjlaaGreatDoorTuPop
import Derived.Test.YtpldaghhledjlaaGreatDoorTuPush2
namespace Go.Proofs.YtpldaghhledjlaaGreatDoor
open Go.RowKit

/-- the texts of a tenant's lines -/
def ofT (t : Nat) (ls : List (Nat × ByteArray)) : List ByteArray := (ls.filter fun l => decide (l.1 = t)).map (·.2)
theorem ofT_append (t : Nat) (a b : List (Nat × ByteArray)) : ofT t (a ++ b) = ofT t a ++ ofT t b := by unfold ofT; rw [List.filter_append, List.map_append]
theorem ofT_cons_same (t : Nat) (s : ByteArray) (r : List (Nat × ByteArray)) : ofT t ((t, s) :: r) = s :: ofT t r := by unfold ofT; simp
theorem ofT_cons_other (t u : Nat) (s : ByteArray) (r : List (Nat × ByteArray)) (h : u ≠ t) : ofT t ((u, s) :: r) = ofT t r := by unfold ofT; simp [h]
theorem ofT_none (t : Nat) (ls : List (Nat × ByteArray)) (h : ∀ l ∈ ls, l.1 ≠ t) : ofT t ls = [] := by
  unfold ofT
  rw [List.filter_eq_nil_iff.2 (fun l hl => by simpa using h l hl)]
  rfl
theorem ofT_len (t : Nat) (ls : List (Nat × ByteArray)) : (ofT t ls).length = cntL (t : Int) ls := by
  unfold ofT cntL
  rw [List.length_map]
  congr 1
  apply List.filter_congr
  intro l _
  simp only [decide_eq_decide]
  omega
theorem ofT_mem (t : Nat) (ls : List (Nat × ByteArray)) (h : ofT t ls ≠ []) : ∃ (i : Nat) (s : ByteArray), ls[i]? = some (t, s) := by
  by_cases h2 : ∃ l ∈ ls, l.1 = t
  · obtain ⟨l, hl, e⟩ := h2
    obtain ⟨i, hi⟩ := List.mem_iff_getElem?.1 hl
    exact ⟨i, l.2, by rw [hi, ← e]⟩
  · exact absurd (ofT_none t ls fun l hl e => h2 ⟨l, hl, e⟩) h
theorem at_eq {n x i : Nat} (hx : x < n) (hi : i < n) : (x + i) % n = if x + i < n then x + i else x + i - n := by
  split
  · exact Nat.mod_eq_of_lt (by omega)
  · rw [Nat.mod_eq_sub_mod (by omega), Nat.mod_eq_of_lt (by omega)]
theorem d_eq {n x t : Nat} (hx : x < n) (ht : t < n) : (t + n - x) % n = if x ≤ t then t - x else t + n - x := by
  split
  · rw [show t + n - x = n + (t - x) by omega, Nat.add_mod_left, Nat.mod_eq_of_lt (by omega)]
  · exact Nat.mod_eq_of_lt (by omega)
structure Rel (T : Tu) (Q : Qu) : Prop where
  n : T.n = Q.n
  next : T.next = Q.next
  pos : 1 ≤ T.n
  nx : T.next < T.n
  ten : ∀ l ∈ Q.wait, l.1 < Q.n
  len : T.rows.length = T.n
  rows : ∀ t, t < T.n → T.rows[t]? = some (ofT t Q.wait)
theorem Rel.waits {T : Tu} {Q : Qu} (h : Rel T Q) (t : Int) : T.waits t = cntL t Q.wait := by
  unfold Tu.waits
  split
  · rename_i ht
    obtain ⟨k, rfl⟩ : ∃ k : Nat, t = k := ⟨t.toNat, by omega⟩
    rw [Int.toNat_natCast, List.getD_eq_getElem?_getD, h.rows k (by omega)]
    exact ofT_len k _
  · rename_i ht
    unfold cntL
    rw [List.filter_eq_nil_iff.2 (fun l hl => by have := h.ten l hl; have := h.n; simp; omega)]
    rfl
theorem Rel.push {T : Tu} {Q : Qu} (h : Rel T Q) (t : Int) (s : ByteArray) : (T.push t s).1 = (Q.push t s).1 ∧ Rel (T.push t s).2 (Q.push t s).2 ∧ (Q.push t s).2.wait.length ≤ Q.wait.length + 1 := by
  unfold Tu.push Qu.push
  rw [← h.n]
  by_cases h1 : 0 ≤ t ∧ t < T.n
  · rw [if_pos h1, if_pos h1]
    obtain ⟨k, rfl⟩ : ∃ k : Nat, t = k := ⟨t.toNat, by omega⟩
    have e : T.rows.getD (k : Int).toNat [] = ofT k Q.wait := by rw [Int.toNat_natCast, List.getD_eq_getElem?_getD, h.rows k (by omega)]; rfl
    rw [e, ofT_len]
    by_cases h8 : 8 ≤ cntL (k : Int) Q.wait
    · rw [if_pos h8, if_pos h8]
      exact ⟨rfl, h, Nat.le_succ _⟩
    · rw [if_neg h8, if_neg h8, Int.toNat_natCast]
      refine ⟨rfl, ⟨rfl, h.next, h.pos, h.nx, ?_, ?_, ?_⟩, by simp⟩
      · intro l hl
        rcases List.mem_append.1 hl with h2 | h2
        · have := h.ten l h2; have := h.n; show l.1 < T.n; omega
        · simp at h2; subst h2; show k < T.n; omega
      · show (T.rows.set k _).length = T.n
        rw [List.length_set]; exact h.len
      · intro u hu
        show (T.rows.set k _)[u]? = some (ofT u (Q.wait ++ [(k, s)]))
        rw [ofT_append, List.getElem?_set]
        by_cases hku : k = u
        · subst hku
          rw [if_pos rfl, if_pos (by rw [h.len]; exact hu), ofT_cons_same]
          rfl
        · rw [if_neg hku, ofT_cons_other u k s [] hku, h.rows u hu]
          simp [ofT]
  · rw [if_neg h1, if_neg h1]
    exact ⟨rfl, h, Nat.le_succ _⟩
theorem Rel.empty {T : Tu} {Q : Qu} (h : Rel T Q) (hq : Q.wait = []) (i : Nat) : T.rows[(T.next + i) % T.n]? = some [] := by
  rw [h.rows _ (Nat.mod_lt _ h.pos), hq]
  rfl
theorem Rel.full {T : Tu} {Q : Qu} (h : Rel T Q) {k : Nat} {x : Nat × ByteArray} (hx : Q.wait[k]? = some x) : x.1 < T.n ∧ Q.d x.1 < T.n ∧ (T.next + Q.d x.1) % T.n = x.1 ∧ ofT x.1 Q.wait ≠ [] := by
  have hm := List.mem_of_getElem? hx
  have h1 : x.1 < T.n := by rw [h.n]; exact h.ten x hm
  have hd : Q.d x.1 < T.n := by rw [h.n]; exact Nat.mod_lt _ (by rw [← h.n]; exact h.pos)
  refine ⟨h1, hd, ?_, fun e => ?_⟩
  · have e1 : Q.d x.1 = if T.next ≤ x.1 then x.1 - T.next else x.1 + T.n - T.next := by
      unfold Qu.d
      rw [← h.n, ← h.next]
      exact d_eq h.nx h1
    have hnx := h.nx
    rw [at_eq h.nx hd, e1]
    split <;> split <;> omega
  · unfold ofT at e
    rw [List.map_eq_nil_iff, List.filter_eq_nil_iff] at e
    exact e x hm (by simp)
theorem Rel.best {T : Tu} {Q : Qu} (h : Rel T Q) {k i : Nat} {x : Nat × ByteArray} {s : ByteArray} {r : List ByteArray} (hb : Q.Best Q.wait.length k x) (hi : i < T.n) (hl : ∀ j, j < i → T.rows[(T.next + j) % T.n]? = some []) (hr : T.rows[(T.next + i) % T.n]? = some (s :: r)) :
    (T.next + i) % T.n = x.1 ∧ s = x.2 ∧ Rel ⟨T.n, ((T.next + i) % T.n + 1) % T.n, T.rows.set ((T.next + i) % T.n) r⟩ ⟨Q.n, (x.1 + 1) % Q.n, Q.wait.take k ++ Q.wait.drop (k + 1)⟩ := by
  obtain ⟨hx, hk, hall⟩ := hb
  obtain ⟨h1, h2, h3, h4⟩ := h.full hx
  have hdi : ¬ Q.d x.1 < i := fun hlt => by
    have := hl _ hlt
    rw [h3, h.rows _ h1] at this
    exact h4 (by simpa using this)
  obtain ⟨t, ht⟩ : ∃ t, t = (T.next + i) % T.n := ⟨_, rfl⟩
  rw [← ht] at hr ⊢
  have htn : t < T.n := by rw [ht]; exact Nat.mod_lt _ h.pos
  have hrt : ofT t Q.wait = s :: r := by have := h.rows t htn; rw [hr] at this; simpa using this.symm
  obtain ⟨m, u, hm⟩ := ofT_mem t Q.wait (by rw [hrt]; simp)
  have hle := (hall m _ (List.getElem?_eq_some_iff.1 hm).1 hm).1
  have hdt : Q.d t = i := by
    unfold Qu.d
    rw [← h.n, ← h.next, d_eq h.nx htn]
    have hnx := h.nx
    have e2 := at_eq h.nx hi
    rw [← ht] at e2
    split at e2 <;> split <;> omega
  have hie : i = Q.d x.1 := by simp only at hle; omega
  have htx : t = x.1 := by rw [ht, hie]; exact h3
  refine ⟨htx, ?_⟩
  rw [htx] at hrt
  obtain ⟨y, z⟩ := x
  simp only at hrt htx
  have hsplit : Q.wait = Q.wait.take k ++ (y, z) :: Q.wait.drop (k + 1) := by
    have hkl := (List.getElem?_eq_some_iff.1 hx).1
    have e := List.getElem_cons_drop hkl
    rw [(List.getElem?_eq_some_iff.1 hx).2] at e
    rw [e, List.take_append_drop]
  have hnone : ofT y (Q.wait.take k) = [] := ofT_none y _ fun l hl e => by
    obtain ⟨q, hq⟩ := List.mem_iff_getElem?.1 hl
    rw [List.getElem?_take] at hq
    split at hq
    · rename_i hqk
      have := (hall q l (by omega) hq).2 hqk
      rw [e] at this
      exact absurd this (Nat.lt_irrefl _)
    · cases hq
  have hof : ofT y Q.wait = z :: ofT y (Q.wait.drop (k + 1)) := by
    have := congrArg (ofT y) hsplit
    rw [ofT_append, hnone, ofT_cons_same] at this
    exact this
  rw [hof] at hrt
  simp only [List.cons.injEq] at hrt
  refine ⟨hrt.1.symm, ⟨h.n, ?_, h.pos, Nat.mod_lt _ h.pos, ?_, ?_, ?_⟩⟩
  · show (t + 1) % T.n = (y + 1) % Q.n
    rw [htx, h.n]
  · intro l hl
    rcases List.mem_append.1 hl with h5 | h5
    · exact h.ten l (List.mem_of_mem_take h5)
    · exact h.ten l (List.mem_of_mem_drop h5)
  · show (T.rows.set t r).length = T.n
    rw [List.length_set]; exact h.len
  · intro v hv
    show (T.rows.set t r)[v]? = some (ofT v (Q.wait.take k ++ Q.wait.drop (k + 1)))
    rw [List.getElem?_set, ofT_append]
    by_cases htv : t = v
    · rw [if_pos htv, if_pos (by rw [h.len]; exact htn), ← htv, htx, hnone, List.nil_append, hrt.2]
    · rw [if_neg htv, h.rows v hv]
      have := congrArg (ofT v) hsplit
      rw [ofT_append, ofT_cons_other v y z _ (by omega)] at this
      rw [this]
end Go.Proofs.YtpldaghhledjlaaGreatDoor
