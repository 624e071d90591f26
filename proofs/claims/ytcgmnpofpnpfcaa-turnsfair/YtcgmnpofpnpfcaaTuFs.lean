/- Turns beside rows of numbers, in one memory. -/
import Derived.Test.YtcgmnpofpnpfcaaTuPop
import Derived.Test.YtcgmnpofpnpfcaaTuPush2
namespace Go.Proofs.Ytcgmnpofpnpfcaa
open Go.RowKit

theorem Try.infoInt : (Try.prog.info? 3).map (fun i => (i.zero, i.size, i.bytes)) = some (some (.int .i64 0), 1, 8) := by kernel_rfl
theorem Try.infoInts : (Try.prog.info? 40).map (fun i => (i.zero, i.size, i.bytes)) = some (some (.slice none 0 0), 1, 24) := by kernel_rfl
theorem make_ints (n : Nat) (hn : n ≤ 64) (W : World) : (Instr.makeSlice 40 (.int .i64 (n : Int)) (.int .i64 (n : Int))).run Try.prog W = .ok (.slice (some ⟨W.heap.size, 0, none⟩) n n) (W.alloc (.cells (madeCells #[.int .i64 0] n) 3)) := by
  obtain ⟨i0, hi, hz0, hz1, hz2⟩ := info_parts Try.infoInt
  have hr := run_make (P := Try.prog) W 40 3 i0 (.int .i64 0) Try.underlying40 hi hz0 .i64 .i64 n n (by omega) (Int.le_refl _) (by rw [hz2]; omega) (by omega)
  rw [hz1] at hr
  simp only [Int.toNat_natCast, Nat.mul_one] at hr
  exact hr
theorem make_intss (n : Nat) (hn : n ≤ 64) (W : World) : (Instr.makeSlice 41 (.int .i64 (n : Int)) (.int .i64 (n : Int))).run Try.prog W = .ok (.slice (some ⟨W.heap.size, 0, none⟩) n n) (W.alloc (.cells (madeCells #[.slice none 0 0] n) 40)) := by
  obtain ⟨i0, hi, hz0, hz1, hz2⟩ := info_parts Try.infoInts
  have hr := run_make (P := Try.prog) W 41 40 i0 (.slice none 0 0) Try.underlying41 hi hz0 .i64 .i64 n n (by omega) (Int.le_refl _) (by rw [hz2]; omega) (by omega)
  rw [hz1] at hr
  simp only [Int.toNat_natCast, Nat.mul_one] at hr
  exact hr
/-- numbers in a row -/
def numV (x : Nat) : Value := .int .i64 (x : Int)
def IRow (W : World) (B g n : Nat) (xs : List Nat) : Prop := W.ownsRow B 3 1 (.slice (some ⟨g, 0, none⟩) n n) n (xs.map numV)
theorem IRow.len {W : World} {B g n : Nat} {xs : List Nat} (h : IRow W B g n xs) : xs.length = n := by have := h.1; simpa using this
theorem IRow.cell {W : World} {B g n : Nat} {xs : List Nat} (h : IRow W B g n xs) (k : Nat) (hk : k < n) : W.cell? ⟨g, k, none⟩ = some (.int .i64 (xs.getD k 0 : Nat)) ∧ W.frozen? ⟨g, k, none⟩ = false := by
  refine ⟨?_, h.frozenAt k⟩
  have hl := h.len
  rw [h.cellAt k (by omega), List.getElem?_map, List.getD_eq_getElem?_getD, List.getElem?_eq_getElem (by omega)]
  rfl
theorem irow_new (W : World) (B n : Nat) (hn : n ≤ 64) (hB : B ≤ W.heap.size) : IRow (W.alloc (.cells (madeCells #[.int .i64 0] n) 3)) B W.heap.size n (List.replicate n 0) := by
  have h := World.ownsRow_lit (base := B) (e := 3) (size := 1) W (madeCells #[.int .i64 0] n) n hB (by unfold maxLen; omega) (by rw [size_madeCells, Nat.mul_one])
  rw [toList_madeCells_one] at h
  unfold IRow
  rw [List.map_replicate]
  exact h
def upd (F : Nat → Option (List Nat)) (g : Nat) (xs : List Nat) : Nat → Option (List Nat) := fun k => if k = g then some xs else F k
theorem upd_same (F : Nat → Option (List Nat)) (g : Nat) (xs : List Nat) : upd F g xs g = some xs := if_pos rfl
theorem upd_other (F : Nat → Option (List Nat)) (g k : Nat) (xs : List Nat) (h : k ≠ g) : upd F g xs k = F k := if_neg h
theorem own_eq {g n c k : Nat} (e : (Value.slice (some ⟨g, 0, none⟩) n c).ownBlock = some k) : g = k := by simpa [Value.ownBlock] using e
structure FS (w W : World) (b R C : Nat) (vs us : List Value) (T : Tu) (F : Nat → Option (List Nat)) : Prop where
  tu : TuAt W w.heap.size b R vs T
  rg : W.ownsRow w.heap.size 40 1 (.slice (some ⟨C, 0, none⟩) T.n T.n) T.n us
  rows : ∀ g xs, F g = some xs → IRow W w.heap.size g T.n xs ∧ ¬ TuOwn b R vs g ∧ g ≠ C
  usF : ∀ (i : Nat) u q, us[i]? = some u → u.ownBlock = some q → ∃ xs, F q = some xs
  dC : ¬ TuOwn b R vs C
  bel : Below w.heap.size w W
variable {w W W' : World} {b R C : Nat} {vs vs' us : List Value} {T T' : Tu} {F : Nat → Option (List Nat)}
theorem FS.fresh (h : FS w W b R C vs us T F) : F W.heap.size = none := by
  cases hf : F W.heap.size with
  | none => rfl
  | some xs =>
    have := ((h.rows _ xs hf).1.lt W.heap.size rfl).2
    omega
theorem FS.afterT (h : FS w W b R C vs us T F) (ht : TuAt W' w.heap.size b R vs' T') (hn : T'.n = T.n) (ho : OnlyF (TuOwn b R vs) W W') (hw : ∀ q, TuOwn b R vs' q → TuOwn b R vs q ∨ W.heap.size ≤ q) : FS w W' b R C vs' us T' F := by
  have hC := (h.rg.lt C rfl).2
  refine ⟨ht, ?_, fun g xs hg => ?_, h.usF, fun hk => ?_, h.bel.trans (ho.below h.bel.size fun k hk => (h.tu.lt k hk).1)⟩
  · rw [hn]
    exact ownsRow_keepB h.rg fun k e => ho.block k (h.rg.lt k e).2 (own_eq e ▸ h.dC)
  · obtain ⟨h1, h2, h3⟩ := h.rows g xs hg
    have hgl := (h1.lt g rfl).2
    refine ⟨?_, fun hk => ?_, h3⟩
    · rw [hn]
      exact ownsRow_keepB h1 fun k e => ho.block k (h1.lt k e).2 (own_eq e ▸ h2)
    · rcases hw g hk with h4 | h4
      · exact h2 h4
      · omega
  · rcases hw C hk with h4 | h4
    · exact h.dC h4
    · omega
theorem FS.below (h : FS w W b R C vs us T F) (hb : Below W.heap.size W W') : FS w W' b R C vs us T F :=
  ⟨h.tu.below hb, ownsRow_keepB h.rg fun k e => hb.block k (h.rg.lt k e).2, fun g xs hg => ⟨ownsRow_keepB (h.rows g xs hg).1 fun k e => hb.block k ((h.rows g xs hg).1.lt k e).2, (h.rows g xs hg).2⟩, h.usF, h.dC, h.bel.trans (hb.mono h.bel.size)⟩
theorem FS.set (h : FS w W b R C vs us T F) (g k x : Nat) (xs : List Nat) (hg : F g = some xs) : FS w (W.setCell ⟨g, k, none⟩ (.int .i64 (x : Int))) b R C vs us T (upd F g (xs.set k x)) := by
  obtain ⟨h1, h2, h3⟩ := h.rows g xs hg
  have hf : ∀ q, q ≠ g → (W.setCell ⟨g, k, none⟩ (.int .i64 (x : Int))).heap[q]? = W.heap[q]? := fun q hq => Below.heap_setCell _ _ _ _ hq
  refine ⟨h.tu.keep fun q hq => hf q (fun e => h2 (e ▸ hq)), ownsRow_keepB h.rg fun q e => hf q (fun e2 => h3 (by have := own_eq e; omega)), fun q ys hq => ?_, fun i u q hu e => ?_, h.dC, h.bel.setCell (p := ⟨g, k, none⟩) (h1.lt g rfl).1 _⟩
  · by_cases e : q = g
    · subst e
      rw [upd_same] at hq
      cases hq
      refine ⟨?_, h2, h3⟩
      have := (h1.stored k (numV x)).1
      unfold IRow
      rw [List.map_set]
      exact this
    · rw [upd_other _ _ _ _ e] at hq
      obtain ⟨r1, r2, r3⟩ := h.rows q ys hq
      exact ⟨ownsRow_keepB r1 fun z hz => hf z (by have := own_eq hz; omega), r2, r3⟩
  · obtain ⟨ys, hy⟩ := h.usF i u q hu e
    by_cases e2 : q = g
    · exact ⟨_, by rw [e2]; exact upd_same _ _ _⟩
    · exact ⟨ys, by rw [upd_other _ _ _ _ e2]; exact hy⟩
theorem FS.made (h : FS w W b R C vs us T F) (i : Nat) (hn : T.n ≤ 64) : FS w ((W.alloc (.cells (madeCells #[.int .i64 0] T.n) 3)).setCell ⟨C, i, none⟩ (.slice (some ⟨W.heap.size, 0, none⟩) T.n T.n)) b R C vs (us.set i (.slice (some ⟨W.heap.size, 0, none⟩) T.n T.n)) T (upd F W.heap.size (List.replicate T.n 0)) := by
  have hb : Below W.heap.size W (W.alloc (.cells (madeCells #[.int .i64 0] T.n) 3)) := (Below.refl _ _).alloc (Nat.le_refl _) _
  have h0 := h.below hb
  have hi := irow_new W w.heap.size T.n hn h.bel.size
  have hC := (h.rg.lt C rfl).2
  generalize W.alloc (.cells (madeCells #[.int .i64 0] T.n) 3) = W1 at *
  have hf : ∀ q, q ≠ C → (W1.setCell ⟨C, i, none⟩ (.slice (some ⟨W.heap.size, 0, none⟩) T.n T.n)).heap[q]? = W1.heap[q]? := fun q hq => Below.heap_setCell _ _ _ _ hq
  refine ⟨h0.tu.keep fun q hq => hf q (fun e => h.dC (e ▸ hq)), (h0.rg.stored i _).1, fun q ys hq => ?_, fun j u q hu e => ?_, h.dC, h0.bel.setCell (p := ⟨C, i, none⟩) (h.rg.lt C rfl).1 _⟩
  · by_cases e : q = W.heap.size
    · subst e
      rw [upd_same] at hq
      cases hq
      refine ⟨ownsRow_keepB hi fun z hz => hf z (by have := own_eq hz; omega), fun hk => ?_, by omega⟩
      have := (h.tu.lt _ hk).2
      omega
    · rw [upd_other _ _ _ _ e] at hq
      obtain ⟨r1, r2, r3⟩ := h0.rows q ys hq
      exact ⟨ownsRow_keepB r1 fun z hz => hf z (by have := own_eq hz; omega), r2, r3⟩
  · rw [List.getElem?_set] at hu
    split at hu
    · have hq : W.heap.size = q := by
        split at hu
        · cases hu; simpa [Value.ownBlock] using e
        · cases hu
      exact ⟨_, by rw [← hq]; exact upd_same _ _ _⟩
    · obtain ⟨ys, hy⟩ := h.usF j u q hu e
      by_cases e2 : q = W.heap.size
      · exact ⟨_, by rw [e2]; exact upd_same _ _ _⟩
      · exact ⟨ys, by rw [upd_other _ _ _ _ e2]; exact hy⟩
end Go.Proofs.Ytcgmnpofpnpfcaa
