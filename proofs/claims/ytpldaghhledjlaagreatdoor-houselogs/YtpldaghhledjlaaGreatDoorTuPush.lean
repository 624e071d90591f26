/- Push. -/
import Derived.Test.YtpldaghhledjlaaGreatDoorTuRead
namespace Go.Proofs.YtpldaghhledjlaaGreatDoor
open Go.RowKit

theorem clone_any (s : ByteArray) (w : World) (hs : s.size ≤ 281474976710656) : Calls Tryz.prog 49 #[.string s] w fun e w' => e = .returned (.string s) ∧ Below w.heap.size w w' := by
  have cc := fun W => Tryz.stringslite_Clone s W hs
  go_enter Tryz.func49, Tryz.ntmps49
  go_wp2_with fail
  refine (cc _).mono ?_
  rintro e w1 ⟨rfl, hb⟩
  go_wp2_with fail
  go_ret
  exact ⟨rfl, hb⟩

theorem cell_one_new (w : World) (v : Value) (t : TypeId) : ∀ j u, [v][j]? = some u → (w.alloc (.cells #[v] t)).cell? ((⟨w.heap.size, 0, none⟩ : Addr).add j) = some u := by
  intro j u hu
  match j, hu with
  | 0, hu => simp at hu; subst hu; simp [Addr.add]

theorem below_drew {w w1 : World} (h : Below w.drew.heap.size w.drew w1) : Below w.heap.size w w1 := ⟨h.os, h.tape, h.output, h.size, h.block⟩
theorem grown_from {w w1 w5 : World} {row : Option Nat} (hb : Below w.heap.size w w1) (o : Obj) (hg : (w1.alloc o).grownBy w5 row) : w.grownBy w5 row :=
  have h2 := hb.alloc hb.size o
  ⟨hg.os.trans h2.os, hg.tape.trans h2.tape, hg.output.trans h2.output, Nat.le_trans h2.size hg.size, fun k hk hne => (hg.block k (Nat.lt_of_lt_of_le hk h2.size) hne).trans (h2.block k hk)⟩
set_option maxRecDepth 20000 in
set_option maxHeartbeats 1000000 in
theorem push_ok (B b R : Nat) (vs : List Value) (T : Tu) (k : Nat) (v : Value) (r : List ByteArray) (s : ByteArray) (w : World) (h : TuAt w B b R vs T) (hk : k < T.n) (hv : vs[k]? = some v) (hr : T.rows[k]? = some r) (hl : r.length < 8) (hs : s.size ≤ 281474976710656) (hB : B ≤ w.heap.size) :
    Calls Tryz.prog 34 #[.pointer (some ⟨b, 0, none⟩), .int .i64 k, .string s] w fun e w' => e = .returned (.int .i64 0) ∧ ∃ vs', TuAt w' B b R vs' ⟨T.n, T.next, T.rows.set k (r ++ [s])⟩ ∧ OnlyF (TuOwn b R vs) w w' ∧ ∀ q, TuOwn b R vs' q → TuOwn b R vs q ∨ w.heap.size ≤ q := by
  obtain ⟨i0, hi, hz0, hz1, hz2⟩ := info_parts Tryz.infoStr
  obtain ⟨c0, -, -⟩ := h.cells
  have hh := has_any b R T.n k w c0 h.le
  rw [decide_eq_true (by omega)] at hh
  obtain ⟨v', r', hv', hr', hc, hf, hrow⟩ := h.cell k hk
  rw [hv] at hv'
  cases hv'
  rw [hr] at hr'
  cases hr'
  obtain ⟨a, c, rfl, hl1, hl2⟩ := hrow.slice
  have hi1 : (0 : Int) ≤ k := by omega
  have hi2 : (k : Int) < (T.n : Int) := by omega
  have HT : Hid (TuAt w B b R vs T) := h
  have HV : Hid (vs[k]? = some (.slice a r.length c)) := hv
  have HROW : Hid (SRow w B (.slice a r.length c) r) := hrow
  have hcl := fun W => clone_any s W hs
  have hbl : b < w.heap.size := (h.lt b (.inl rfl)).2
  have hRl : R < w.heap.size := (h.lt R (.inr (.inl rfl))).2
  have hbR := h.bR
  have h8 : ¬ (8 : Int) ≤ (r.length : Int) := by omega
  clear h hv hr hrow
  go_enter Tryz.func34, Tryz.ntmps34
  go_wp2_with fail
  refine hh.mono ?_
  rintro e w' ⟨rfl, rfl⟩
  go_wp2_with fail
  have KC : Hid (∀ W, Below w'.heap.size w' W → W.cell? ⟨b, 0, none⟩ = some (.slice (some ⟨R, 0, none⟩) T.n T.n) ∧ W.cell? ⟨R, k, none⟩ = some (.slice a r.length c) ∧ W.frozen? ⟨R, k, none⟩ = false) := fun W hW => ⟨(hW.cell (p := ⟨b, 0, none⟩) hbl).trans c0, (hW.cell (p := ⟨R, k, none⟩) hRl).trans hc, (World.frozen?_of_block (a := ⟨R, k, none⟩) (hW.block R hRl)).trans hf⟩
  have OWN : Hid (∀ W, Below w'.heap.size w' W → W.ownsRow B 9 1 (.slice a r.length c) r.length (r.map Value.string)) := fun W hW => ownsRow_keepB HROW.out fun q hq => hW.block q (HROW.out.lt q hq).2
  have HEND : Hid (∀ w1 w5 o, Below w'.heap.size w' w1 → (w1.alloc o).grownBy w5 (Value.slice a r.length c).ownBlock → w5.cell? ⟨R, k, none⟩ = some (.slice a r.length c) ∧ w5.frozen? ⟨R, k, none⟩ = false ∧ w5.cell? ⟨b, 0, none⟩ = some (.slice (some ⟨R, 0, none⟩) T.n T.n)) := fun w1 w5 o hb hg => by
    have e2 : w5.heap[b]? = w'.heap[b]? := (grown_from hb o hg).block b hbl (fun e => (HT.out.far k _ b HV.out e.symm).2 rfl)
    have e : w5.heap[R]? = w'.heap[R]? := (grown_from hb o hg).block R hRl (fun e => (HT.out.far k _ R HV.out e.symm).1 rfl)
    exact ⟨(World.cell?_of_block (a := ⟨R, k, none⟩) e).trans hc, (World.frozen?_of_block (a := ⟨R, k, none⟩) e).trans hf, (World.cell?_of_block (a := ⟨b, 0, none⟩) e2).trans c0⟩
  go_region_law (first | (refine step_append_lies _ (by rfl) _ _ 34 (by rfl) B 9 i0 (.string ByteArray.empty) 1 16 Tryz.underlying34 hi hz0 hz1 hz2 rfl (by decide) (.slice a r.length c) r.length (r.map Value.string) (by rfl) (World.ownsRow.alloc (OWN.out w1 hb1) _) ⟨w1.heap.size, 0, none⟩ 1 1 [.string s] (by rfl) rfl (cell_one_new _ _ _) (by intro u hu; simp at hu; subst hu; rfl) (by omega) (by unfold maxLen; omega) (by omega) (by have := hb1.size; simp; omega) (w1.heap.size + 1) (by simp) ?_; intro g5 cap5 w5 hown5 hgrow5 hat5 hlt5; have q45 := HEND.out w1 w5 _ hb1 hgrow5; have q4 := q45.1; have q5 := q45.2.1; have q6 := q45.2.2) | (go_simp; go_wp2_with (go_at_call 49; refine (hcl _).mono ?_; rintro e w1 ⟨rfl, hb1'⟩; have hb1 := below_drew hb1'; obtain ⟨k0, k1, k2⟩ := KC.out w1 hb1; obtain ⟨k3, k4, k5⟩ := KC.out (w1.alloc (.cells #[.string s] 9)) (hb1.alloc hb1.size _))))
  all_goals
    go_wp2_with fail
    go_ret
    have hrow5 : SRow w5 B (.slice (some ⟨g5, 0, none⟩) (r.length + 1) cap5) (r ++ [s]) := by
      unfold SRow
      rw [List.length_append, List.map_append]
      exact hown5
    obtain ⟨t1, t2, t3⟩ := HT.out.setRow k _ _ _ HV.out (grown_from hb1 _ hgrow5) hrow5 (by rw [List.length_append]; simp; omega) (fun q hq => by
      have hq' : g5 = q := by simpa [Value.ownBlock] using hq
      subst hq'
      rcases hat5 with h1 | h1
      · exact .inl h1
      · right; have := hb1.size; omega)
    exact ⟨rfl, _, t1, t2, t3⟩
end Go.Proofs.YtpldaghhledjlaaGreatDoor
