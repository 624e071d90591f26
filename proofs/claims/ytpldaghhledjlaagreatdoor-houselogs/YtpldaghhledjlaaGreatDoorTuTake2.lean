/- take, walked. -/
import Derived.Test.YtpldaghhledjlaaGreatDoorTuTake
namespace Go.Proofs.YtpldaghhledjlaaGreatDoor
open Go.RowKit

theorem grown_drew {w w1 : World} {row : Option Nat} (h : w.drew.grownBy w1 row) : w.grownBy w1 row := ⟨h.os, h.tape, h.output, h.size, h.block⟩
set_option maxRecDepth 20000 in
set_option maxHeartbeats 1000000 in
theorem take_any (B b R : Nat) (vs : List Value) (T : Tu) (k : Nat) (s : ByteArray) (r : List ByteArray) (w : World) (h : TuAt w B b R vs T) (hk : k < T.n) (hr : T.rows[k]? = some (s :: r)) :
    Calls Tryz.prog 37 #[.pointer (some ⟨b, 0, none⟩), .int .i64 k] w fun e w' => e = .returned (.string s) ∧ ∃ vs', TuAt w' B b R vs' ⟨T.n, T.next, T.rows.set k r⟩ ∧ OnlyF (TuOwn b R vs) w w' ∧ ∀ q, TuOwn b R vs' q → TuOwn b R vs q ∨ w.heap.size ≤ q := by
  obtain ⟨c0, -, -⟩ := h.cells
  obtain ⟨v, r', hv, hr', hc, hf, hrow⟩ := h.cell k hk
  rw [hr] at hr'
  cases hr'
  obtain ⟨g, c, rfl, hBg, hgl⟩ := hrow.form (by simp)
  have cg : w.cell? ⟨g, 0, none⟩ = some (.string s) := by
    have := hrow.cellAt 0 (by simp)
    rw [this]; rfl
  have hlen : (s :: r).length = r.length + 1 := rfl
  rw [hlen] at hrow hc hv
  have hlen8 := h.small _ (List.mem_of_getElem? hr)
  simp only [List.length_cons] at hlen8
  have hi1 : (0 : Int) ≤ k := by omega
  have hi2 : (k : Int) < (T.n : Int) := by omega
  have HT : Hid (TuAt w B b R vs T) := h
  have HV : Hid (vs[k]? = some (.slice (some ⟨g, 0, none⟩) (r.length + 1) c)) := hv
  have hrowD : SRow w.drew B (.slice (some ⟨g, 0, none⟩) (r.length + 1) c) (s :: r) := hrow
  have hd := del_any B g c s r w.drew hrowD
  have hbl : b < w.heap.size := (h.lt b (.inl rfl)).2
  have hRl : R < w.heap.size := (h.lt R (.inr (.inl rfl))).2
  have hgb := h.far k _ g hv rfl
  have HEND : Hid (∀ w1, w.drew.grownBy w1 (some g) → w1.cell? ⟨R, k, none⟩ = some (.slice (some ⟨g, 0, none⟩) (r.length + 1) c) ∧ w1.frozen? ⟨R, k, none⟩ = false ∧ w1.cell? ⟨b, 0, none⟩ = some (.slice (some ⟨R, 0, none⟩) T.n T.n)) := fun w1 hg => by
    have e : w1.heap[R]? = w.heap[R]? := hg.block R hRl (fun e => hgb.1 (by simpa using e.symm))
    have e2 : w1.heap[b]? = w.heap[b]? := hg.block b hbl (fun e => hgb.2 (by simpa using e.symm))
    exact ⟨(World.cell?_of_block (a := ⟨R, k, none⟩) e).trans hc, (World.frozen?_of_block (a := ⟨R, k, none⟩) e).trans hf, (World.cell?_of_block (a := ⟨b, 0, none⟩) e2).trans c0⟩
  have HL : Hid (r.length ≤ 8) := by show r.length ≤ 8; omega
  have hw1 : r.length + 1 ≤ 8 := hlen8
  clear h hv hr hrow hrowD hlen hlen8 hgb
  generalize hm : r.length = m at *
  have HM : Hid (r.length = m) := hm
  clear hm
  go_enter Tryz.func37, Tryz.ntmps37
  go_wp2_with fail
  go_region_law (go_simp; go_wp2_with (go_at_call 51; refine hd.mono ?_; rintro e w1 ⟨rfl, hrow1, hg1⟩; obtain ⟨q1, q2, q3⟩ := HEND.out w1 hg1))
  all_goals
    go_wp2_with fail
    go_ret
    rw [← HM.out] at hrow1
    obtain ⟨t1, t2, t3⟩ := HT.out.setRow k _ _ _ HV.out (grown_drew hg1) hrow1 (by have := HL.out; have := HM.out; omega) (fun q hq => .inl hq)
    rw [← HM.out]
    exact ⟨rfl, _, t1, t2, t3⟩
end Go.Proofs.YtpldaghhledjlaaGreatDoor
