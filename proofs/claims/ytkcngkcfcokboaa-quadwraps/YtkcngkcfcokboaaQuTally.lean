/- walker.tally of an empty square: nothing lives in it. -/
import Derived.Test.YtkcngkcfcokboaaQuStrange
namespace Go.Proofs.Ytkcngkcfcokboaa.A
open Go.RowKit Go.Maps Go.ChangeMaps Go.WideElems

abbrev zeroT : Value := .agg #[.int .i64 0, .int .i64 0, .int .i64 0, .int .i64 0, .int .i64 0]
abbrev oneT : Value := .agg #[.int .i64 1, .int .i64 0, .int .i64 0, .int .i64 0, .int .i64 0]
theorem zero_ne_one : oneT ≠ zeroT := by intro h; simp [oneT, zeroT] at h
abbrev zd : DataW Unit := .lit (.bool false)
open Classical in
/-- how what is known of a square reads: nothing, or one cell -/
noncomputable def talR (v : Value) : Option (DataW Unit × List MemPlace) := if v = zeroT then some (zd, []) else if v = oneT then some (.lit (.bool true), []) else none
theorem talR_zero : talR zeroT = some (zd, []) := by unfold talR; rw [if_pos rfl]
theorem talR_one : talR oneT = some (.lit (.bool true), []) := by unfold talR; rw [if_neg zero_ne_one, if_pos rfl]
theorem talR_inv {v : Value} {ps : List MemPlace} (h : talR v = some (zd, ps)) : v = zeroT := by
  unfold talR at h
  split at h
  · assumption
  · split at h
    · simp [zd] at h
    · cases h
theorem zero135 (w : World) : (zeroValue 138).run Try.prog w = .ok zeroT w := by kernel_rfl

/-- what a walker knows: of none but the live cell that anything lives in it -/
structure Known (D : DataW Unit) : Prop where
  zs : ∀ i, Fits i → i ≠ 1 → D.atKey (.int .i64 i) zd = zd
  zero : Maps.has D (.int .i64 0) = true
theorem tal_look {w : World} {m n : Nat} {D : DataW Unit} {i : Int} (h : w.ownsMap Try.prog 3 talR m n D) (hk : Known D) (hi : Fits i) (h1 : i ≠ 1) :
    (Instr.lookup 132 (.map (some m)) (.int .i64 i) true).run Try.prog w = .ok (.tuple #[zeroT, .bool (Maps.has D (.int .i64 i))]) w := by
  obtain ⟨v, ps, hrun, hv⟩ := h.look_ok (int_keyed Try.underlying3) Try.underlying132 (zero135 w) talR_zero (keyOf_int_mk Try.underlying3 (wf_of_fits hi))
  rw [hk.zs i hi h1] at hv
  rw [hrun, talR_inv hv]
theorem tal_put {w : World} {m n : Nat} {D : DataW Unit} {i : Int} (h : w.ownsMap Try.prog 3 talR m n D) (hk : Known D) (hi : Fits i) (hn : n < 1000) :
    ∃ w' D', (Instr.mapUpdate 132 (.map (some m)) (.int .i64 i) zeroT).run Try.prog w = .ok () w' ∧ w'.ownsMap Try.prog 3 talR m (n + 1) D' ∧ Known D' ∧ Maps.has D' (.int .i64 i) = true ∧ w.mapTurned w' m := by
  obtain ⟨w', h1, h2, h3⟩ := h.store (int_keyed Try.underlying3) Try.underlying132 (show n < maxLen by unfold maxLen; omega) (keyOf_int_mk Try.underlying3 (wf_of_fits hi)) talR_zero
  have hs : Maps.has (D.put (.int .i64 i) zd) (.int .i64 i) = true := has_put_same h.isMap (by unfold WideAt.IsKeyLit; trivial) _
  refine ⟨w', _, h1, h2, ⟨fun j hj hj1 => ?_, ?_⟩, hs, h3⟩
  · by_cases e : (Lit.int .i64 j) = .int .i64 i
    · rw [e]; exact atKey_put_same h.isMap (by unfold WideAt.IsKeyLit; trivial) _ _
    · rw [atKey_put_other e]; exact hk.zs j hj hj1
  · by_cases e : (Lit.int .i64 0) = .int .i64 i
    · rw [e]; exact hs
    · rw [has_put_other e]; exact hk.zero

theorem own_other {w w' : World} {m n : Nat} {D : DataW Unit} (h : w.ownsMap Try.prog 3 talR m n D) (hb : w'.heap[m]? = w.heap[m]?) : w'.ownsMap Try.prog 3 talR m n D := by
  obtain ⟨es, clock, h1, h2⟩ := h
  exact ⟨es, clock, hb.trans h1, h2⟩
theorem cell_lt {w : World} {k o : Nat} {v : Value} (h : w.cell? ⟨k, o, none⟩ = some v) : k < w.heap.size := by
  rcases Nat.lt_or_ge k w.heap.size with hl | hl
  · exact hl
  · exfalso
    simp [World.cell?, Array.getElem?_eq_none hl] at h
set_option maxRecDepth 20000 in
set_option maxHeartbeats 4000000 in
/-- a square that is known -/
theorem tally_known (wb m n : Nat) (id level : Int) (D : DataW Unit) (w : World) (h : w.ownsMap Try.prog 3 talR m n D) (hk : Known D) (hi : Fits id) (h1 : id ≠ 1) (hc : w.cell? ⟨wb, 4, none⟩ = some (.map (some m))) (hh : Maps.has D (.int .i64 id) = true) :
    Calls Try.prog 87 #[.pointer (some ⟨wb, 0, none⟩), .int .i64 id, .int .i64 level] w fun x w' => x = .returned zeroT ∧ Below w.heap.size w w' := by
  have hm0 : w.heap[m]? ≠ none := by obtain ⟨es, c, he, _⟩ := h; rw [he]; simp
  have hml : m < w.heap.size := by rw [Ne, Array.getElem?_eq_none_iff] at hm0; omega
  have hwl : wb < w.heap.size := cell_lt hc
  have hlook := tal_look (own_other (w' := w.alloc (.cells #[.int .i64 0, .int .i64 0, .int .i64 0, .int .i64 0, .int .i64 0] 138)) h (push_old hml)) hk hi h1
  have hc' : (w.alloc (.cells #[.int .i64 0, .int .i64 0, .int .i64 0, .int .i64 0, .int .i64 0] 138)).cell? ⟨wb, 4, none⟩ = some (.map (some m)) := (World.cell?_of_block (push_old hwl)).trans hc
  rw [hh] at hlook
  go_enter Try.func87, Try.ntmps87
  go_wp2_with fail
  refine bodyPost_ret (v := zeroT) ?_ rfl ⟨rfl, ((Below.refl _ _).alloc (Nat.le_refl _) _).alloc (by simp) _⟩
  simp [results, Try.results87, go_sem]

end Go.Proofs.Ytkcngkcfcokboaa.A
