/- PlaneOrder: the walk of the law itself. -/
import Derived.Test.YtpldnhlancjlnaaDoorAlive
import Derived.Test.YtpldnhlancjlnaaDoorRefShift
namespace Go.Proofs.YtpldnhlancjlnaaDoor
open Go.RowKit Go.Lib Go.Sort

attribute [local go_sem ↓] Go.wp_at_zero Go.wp_at_succ

theorem tidied_nil (ys : List (Int × Int)) (h : Tidied [] ys) : ys = [] := by
  cases ys with
  | nil => rfl
  | cons p r => exact absurd ((h.2 p).1 (by simp)).1 (by simp)

/-- a list, turned round at a place: the same cells -/
theorem turned_mem (zs : List (Int × Int)) (k : Nat) (p : Int × Int) : p ∈ zs.drop k ++ zs.take k ↔ p ∈ zs := by
  rw [List.mem_append, Or.comm, ← List.mem_append, List.take_append_drop]
theorem tcode_zero {zs : List (Int × Int)} : tcode zs = 0 ↔ zs.length ≤ 4096 ∧ zs.any farP = false := by
  unfold tcode
  by_cases h1 : 4096 < zs.length
  · rw [if_pos h1]; constructor
    · intro h; omega
    · intro h; omega
  · rw [if_neg h1]
    by_cases h2 : zs.any farP = true
    · rw [if_pos h2, h2]; constructor
      · intro h; omega
      · intro h; exact absurd h.2 (by simp)
    · rw [if_neg h2]
      exact ⟨fun _ => ⟨by omega, by simpa using h2⟩, fun _ => rfl⟩
theorem turned_code (zs : List (Int × Int)) (k : Nat) (h : tcode zs = 0) : tcode (zs.drop k ++ zs.take k) = 0 := by
  rw [tcode_zero] at *
  refine ⟨by simp; omega, ?_⟩
  rw [List.any_eq_false] at *
  intro p hp
  exact h.2 p ((turned_mem zs k p).1 hp)
theorem tidied_turned {zs ys ts : List (Int × Int)} {k : Nat} (hz : tcode zs = 0) (h : Tidied zs ys) (g : Tidied (zs.drop k ++ zs.take k) ts) : ts = ys :=
  tidy_unique _ _ g.1 h.1 fun p => by rw [g.2 p, h.2 p, turned_mem, turned_code zs k hz, hz]
theorem tidied_again {zs ys us : List (Int × Int)} (hz : tcode zs = 0) (h : Tidied zs ys) (g : Tidied ys us) : us = ys ∧ tcode ys = 0 := by
  have hc : tcode ys = 0 := tcode_zero.2 ⟨tidied_short h hz, tidied_near h⟩
  exact ⟨tidy_unique _ _ g.1 h.1 fun p => by rw [g.2 p, hc]; simp, hc⟩

theorem step_append_own {P : Program} (w : World) {ops : Array Oper} {o : Oper} {a : Act} {K : Act → World → Prop} {Q : Exit → Act → World → Prop} {E : Prop} (hgd : o.guard = none) (s x : Operand) (t : TypeId)
    (ho : o.op = .call { callee := .builtin .append, args := #[s, x], argTypes := #[t, t] })
    (base : Nat) (e : TypeId) (i : TypeInfo) (z : Value) (size bytes : Nat) (ht : P.underlying t = some (.slice e)) (hi : P.info? e = some i) (hz : i.zero = some z)
    (hsize : i.size = size) (hby : i.bytes = bytes) (hzs : z.cells.size = size) (hsz : 0 < size)
    (v : Value) (n : Nat) (xs : List Value) (hs : a.eval s = v) (hown : w.ownsRow base e size v n xs)
    (ad : Addr) (m c : Nat) (news : List Value) (hx : a.eval x = .slice (some ad) m c) (hl : news.length = m * size) (hnews : ∀ j u, news[j]? = some u → w.cell? (ad.add j) = some u) (h1 : ∀ u, u ∈ news → u.oneCell' = true)
    (h63 : n + m ≤ maxLen) (hbytes : (n + m) * bytes ≤ 140737488355328) (hbase : base ≤ w.heap.size)
    (h : ∀ v' w', w'.ownsRow base e size v' (n + m) (xs ++ news) → w.grownBy w' v.ownBlock → (v' = .slice none 0 0 ↔ v = .slice none 0 0 ∧ m = 0) → K (a.put o.dst v') w') :
    if Region.wanted o (yielded ops a.tmps) = true then Oper.wp P o a w K Q else E := by
  have hw : Region.wanted o (yielded ops a.tmps) = true := by simp [Region.wanted, hgd]
  rw [if_pos hw]
  exact wp_append_own w s x t ho base e i z size bytes ht hi hz hsize hby hzs hsz v n xs hs hown ad m c news hx hl hnews h1 h63 hbytes hbase h

theorem cells_at {w : World} {b off : Nat} {zs : List (Int × Int)} (h : HoldsR w b off zs) (j : Nat) (u : Value) (hu : (cellsL zs)[j]? = some u) : w.cell? ((⟨b, off, none⟩ : Addr).add j) = some u := by
  have hj : j < zs.length * 2 := by rw [← cellsL_length]; exact (List.getElem?_eq_some_iff.1 hu).1
  obtain ⟨e0, e1⟩ := cellsL_get zs (j / 2) (by omega)
  obtain ⟨c0, c1⟩ := h (j / 2) (by omega)
  rw [addP]
  by_cases hm2 : j % 2 = 0
  · rw [show j / 2 * 2 = j by omega] at e0
    rw [e0] at hu
    rw [← hu, ← c0]
    congr 2
    omega
  · rw [show j / 2 * 2 + 1 = j by omega] at e1
    rw [e1] at hu
    rw [← hu, ← c1]
    congr 2
    omega
theorem HoldsR.take {w : World} {b off : Nat} {zs : List (Int × Int)} (h : HoldsR w b off zs) (k : Nat) : HoldsR w b off (zs.take k) := fun j hj => by
  have hj' : j < k ∧ j < zs.length := by simp at hj; omega
  have := h j hj'.2
  rw [getElem!_pos zs j hj'.2] at this
  rw [getElem!_pos (zs.take k) j hj, List.getElem_take]
  exact this
theorem HoldsR.drop {w : World} {b off : Nat} {zs : List (Int × Int)} (h : HoldsR w b off zs) (k : Nat) : HoldsR w b (off + k * 2) (zs.drop k) := fun j hj => by
  have hj' : k + j < zs.length := by simp at hj; omega
  have := h (k + j) hj'
  rw [getElem!_pos zs (k + j) hj'] at this
  rw [getElem!_pos (zs.drop k) j hj, List.getElem_drop, show off + k * 2 + j * 2 = off + (k + j) * 2 by omega]
  exact this

theorem kept_owns {w : World} {base : Nat} {v : Value} {zs : List (Int × Int)} {n k : Nat} (hl : zs.length = n) (h : Kept w base v (zs.drop k)) : w.ownsRow base 56 2 v (n - k) (cellsL (zs.drop k)) := by
  have h0 : w.ownsRow base 56 2 v (zs.drop k).length (cellsL (zs.drop k)) := by
    rcases h with ⟨e, rfl⟩ | ⟨_, h⟩
    · rw [e]; exact World.ownsRow_nil _ _ _ _
    · exact h
  rwa [List.length_drop, hl] at h0
theorem take_len {zs : List (Int × Int)} {n k : Nat} (hl : zs.length = n) (hk : k ≤ n) : (cellsL (zs.take k)).length = k * 2 := by
  rw [cellsL_length, List.length_take, hl, Nat.min_eq_left hk]
theorem turned_row {w : World} {base : Nat} {v : Value} {zs : List (Int × Int)} {n k : Nat} (hl : zs.length = n) (hk : k ≤ n) (hz : zs ≠ []) (h : w.ownsRow base 56 2 v (n - k + k) (cellsL (zs.drop k) ++ cellsL (zs.take k))) : Row w v (zs.drop k ++ zs.take k) := by
  have hne : zs.drop k ++ zs.take k ≠ [] := by
    intro e
    cases zs with
    | nil => exact hz rfl
    | cons p r => have := (turned_mem (p :: r) k p).2 (by simp); rw [e] at this; simp at this
  have hlen : (zs.drop k ++ zs.take k).length = n - k + k := by rw [List.length_append, List.length_drop, List.length_take, hl, Nat.min_eq_left hk]
  have : Kept w base v (zs.drop k ++ zs.take k) := Or.inr ⟨hne, by rw [hlen, cellsL_append]; exact h⟩
  exact this.row

end Go.Proofs.YtpldnhlancjlnaaDoor
