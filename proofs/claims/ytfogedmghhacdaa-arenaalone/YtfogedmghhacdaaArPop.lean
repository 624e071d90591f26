/- heap.Pop of the free numbers: what a heap is; Swap. -/
import Derived.Test.YtfogedmghhacdaaArPush
namespace Go.Proofs.Ytfogedmghhacdaa.A
open Go.RowKit Go.Maps

def swapL (L : List Int) (i j : Nat) : List Int := (L.set i L[j]!).set j L[i]!
theorem swap_len (L : List Int) (i j : Nat) : (swapL L i j).length = L.length := by simp [swapL]
theorem swap_get (L : List Int) (i j k : Nat) (hk : k < L.length) : (swapL L i j)[k]! = if k = j then L[i]! else if k = i then L[j]! else L[k]! := by
  have e0 : (swapL L i j)[k]! = ((L.set i L[j]!).set j L[i]!)[k]! := rfl
  rw [e0, getElem!_pos _ k (by rw [List.length_set, List.length_set]; exact hk), List.getElem_set, List.getElem_set]
  by_cases e : j = k
  · rw [if_pos e, if_pos e.symm]
  · rw [if_neg e, if_neg (show ¬ k = j from fun h => e h.symm)]
    by_cases e2 : i = k
    · rw [if_pos e2, if_pos e2.symm]
    · rw [if_neg e2, if_neg (show ¬ k = i from fun h => e2 h.symm), getElem!_pos L k hk]
theorem swap_mem (L : List Int) (i j : Nat) (hi : i < L.length) (hj : j < L.length) : (swapL L i j).Perm L := by
  unfold swapL
  rw [getElem!_pos L i hi, getElem!_pos L j hj]
  exact List.set_set_perm hi hj

/-- a heap: none is below its parent; but for one place -/
def HeapEx (L : List Int) (n i : Nat) : Prop := (∀ k, 0 < k → k < n → (k - 1) / 2 ≠ i → L[(k - 1) / 2]! ≤ L[k]!) ∧ (∀ k, 0 < k → k < n → (k - 1) / 2 = i → 0 < i → L[(i - 1) / 2]! ≤ L[k]!)
def Heap (L : List Int) (n : Nat) : Prop := ∀ k, 0 < k → k < n → L[(k - 1) / 2]! ≤ L[k]!
theorem heap_min {L : List Int} {n : Nat} (h : Heap L n) : ∀ k, k < n → L[0]! ≤ L[k]! := by
  intro k
  induction k using Nat.strongRecOn with
  | ind k ih =>
    intro hk
    rcases Nat.eq_zero_or_pos k with e | e
    · rw [e]; exact Int.le_refl _
    · exact Int.le_trans (ih ((k - 1) / 2) (by omega) (by omega)) (h k e hk)
theorem heap_down {L : List Int} {n i j : Nat} (h : HeapEx L n i) (hn : n ≤ L.length) (hj : j < n) (hj0 : 0 < j) (hp : (j - 1) / 2 = i) (hle : L[j]! < L[i]!) (hs : ∀ k, 0 < k → k < n → (k - 1) / 2 = i → L[j]! ≤ L[k]!) : HeapEx (swapL L i j) n j := by
  have hi : i < j := by omega
  have g := fun k (hk : k < L.length) => swap_get L i j k hk
  refine ⟨fun k hk0 hk hne => ?_, fun k hk0 hk he _ => ?_⟩
  · rw [g k (by omega), g ((k - 1) / 2) (by omega)]
    by_cases e1 : k = j
    · subst e1
      rw [if_pos rfl, hp, if_neg (by omega), if_pos rfl]
      omega
    · rw [if_neg e1, if_neg hne]
      by_cases e2 : (k - 1) / 2 = i
      · rw [if_pos e2, if_neg (by omega)]
        exact hs k hk0 hk e2
      · rw [if_neg e2]
        by_cases e3 : k = i
        · subst e3
          rw [if_pos rfl]
          exact h.2 j hj0 hj hp hk0
        · rw [if_neg e3]
          exact h.1 k hk0 hk e2
  · rw [g k (by omega), g ((j - 1) / 2) (by omega), hp, if_neg (show ¬ i = j by omega), if_pos rfl, if_neg (show ¬ k = j by omega), if_neg (show ¬ k = i by omega)]
    have := h.1 k hk0 hk (by omega)
    rw [he] at this
    exact this

section
variable {w : World} {b n : Nat} {F : Nat → Prop} {A : Ar} {r : Raw} {D : DataW Unit}
/-- a free number turned -/
theorem ArRaw.setFreeAt (h : ArRaw w b F n A r D) {g c : Nat} (hv : r.vfr = .slice (some ⟨g, 0, none⟩) A.free.length c) (i : Nat) (z : Int) :
    ArRaw (w.setCell ⟨g, i, none⟩ (.int .i64 z)) b F n { A with free := A.free.set i z } r D := by
  have hg : r.vfr.ownBlock = some g := by rw [hv]; rfl
  have hgb : b ≠ g := fun e => h.fb' (by rw [hg, e])
  have hgm : r.mp ≠ g := fun e => h.fm' (by rw [hg, e])
  refine ⟨h.raw.go (heap_set hgb), h.room, row_other h.ths fun k hk => heap_set fun e => h.vf (by rw [hk, e]) hg, map_other h.map (heap_set hgm), h.num, ?_, h.lim, h.cnt,
    fun t ht => row_other (h.fresh t ht) fun k hk => heap_set fun e => h.apf t ht k hk (by rw [hg, e]), h.apf, h.apt, h.fb, h.fm, h.fv, h.ff, h.ft, fun k hk => by rw [size_set]; exact h.flt k hk⟩
  have hf := h.free
  unfold IntRow at hf ⊢
  rw [hv] at hf ⊢
  have := (World.ownsRow.stored hf i (.int .i64 z)).1
  rw [List.length_set, List.map_set]
  exact this
end

set_option maxRecDepth 20000 in
set_option maxHeartbeats 2000000 in
theorem lswap_any (b n g c i j : Nat) (F : Nat → Prop) (A : Ar) (r : Raw) (D : DataW Unit) (w : World) (h : ArRaw w b F n A r D) (hv : r.vfr = .slice (some ⟨g, 0, none⟩) A.free.length c) (hi : i < A.free.length) (hj : j < A.free.length) :
    Calls Try.prog 82 #[.slice (some ⟨g, 0, none⟩) A.free.length c, .int .i64 i, .int .i64 j] w fun e w' => e = .returned (.tuple #[]) ∧ ArRaw w' b F n { A with free := swapL A.free i j } r D ∧ Apart F w w' := by
  have hrow := h.free
  rw [hv] at hrow
  have ci := hrow.get i hi
  have cj := hrow.get j hj
  have zi := World.ownsRow.frozenAt hrow i
  have zj := World.ownsRow.frozenAt hrow j
  have h0 : (0 : Int) ≤ (i : Int) := by omega
  have h1 : (i : Int) < (A.free.length : Int) := by omega
  have h2 : (0 : Int) ≤ (j : Int) := by omega
  have h3 : (j : Int) < (A.free.length : Int) := by omega
  have H1 := h.setFreeAt hv i A.free[j]!
  have H2 := H1.setFreeAt (by show r.vfr = .slice (some ⟨g, 0, none⟩) (A.free.set i A.free[j]!).length c; rw [List.length_set]; exact hv) j A.free[i]!
  have hFg : F g := h.ff g (by rw [hv]; rfl)
  have HP : Hid (Apart F w ((w.setCell ⟨g, i, none⟩ (.int .i64 A.free[j]!)).setCell ⟨g, j, none⟩ (.int .i64 A.free[i]!))) := (Apart.set w _ hFg).trans (Apart.set _ _ hFg) fun k hk => Or.inl hk
  have HH : Hid (ArRaw ((w.setCell ⟨g, i, none⟩ (.int .i64 A.free[j]!)).setCell ⟨g, j, none⟩ (.int .i64 A.free[i]!)) b F n { A with free := swapL A.free i j } r D) := H2
  have hrow1 := H1.free
  rw [show r.vfr = .slice (some ⟨g, 0, none⟩) A.free.length c from hv] at hrow1
  have c3 := hrow1.get j (by show j < (A.free.set i A.free[j]!).length; rw [List.length_set]; exact hj)
  have z3 := World.ownsRow.frozenAt (n := A.free.length) (by have := hrow1; unfold IntRow at this; rw [show (A.free.set i A.free[j]!).length = A.free.length from List.length_set] at this; exact this) j
  generalize (A.free.set i A.free[j]!)[j]! = zz at c3
  clear H1 H2 h hrow hi hj hrow1
  generalize A.free[i]! = x at *
  generalize A.free[j]! = y at *
  generalize A.free.length = ln at *
  go_enter Try.func82, Try.ntmps82
  go_wp2_with fail
  go_region
  all_goals
    go_wp2_with fail
    go_end0
    exact ⟨rfl, HH.out.drew, HP.out.drew⟩
end Go.Proofs.Ytfogedmghhacdaa.A
