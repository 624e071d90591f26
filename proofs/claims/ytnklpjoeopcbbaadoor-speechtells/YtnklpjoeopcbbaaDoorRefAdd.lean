/- The document's pieces: the closure that adds one. -/
import Derived.Test.YtnklpjoeopcbbaaDoorBigText
import Derived.Lib.ItoaLen
import Derived.Deep.RegionHeld3
import Derived.Deep.RegionLaw
import Derived.Deep.RegionWith
namespace Go.Proofs.YtnklpjoeopcbbaaDoor
open Go.RowKit

def strV (p : List UInt8) : Value := .string ⟨p.toArray⟩
/-- the pieces so far, in the variable that the closure captures -/
def RunsAt (B rb : Nat) (ps : List (List UInt8)) (w : World) : Prop :=
  B ≤ rb ∧ ∃ v, w.heap[rb]? = some (.cells #[v] 56 (0, 0)) ∧ w.ownsRow B 9 1 v ps.length (ps.map strV) ∧ v.ownBlock ≠ some rb

theorem RunsAt.go {B rb : Nat} {ps : List (List UInt8)} {w w' : World} (h : RunsAt B rb ps w) (hb : Below w.heap.size w w') : RunsAt B rb ps w' := by
  obtain ⟨hge, v, hbk, hown, hne⟩ := h
  exact ⟨hge, v, (hb.block rb (Array.getElem?_eq_some_iff.1 hbk).1).trans hbk, hown.kept (row := none) ⟨hb.os, hb.tape, hb.output, hb.size, fun k hk _ => hb.block k hk⟩ (Classical.em _), hne⟩

theorem add_none (rb : Nat) (n : Int) (c : ByteArray) (w : World) (hn : n ≤ 0) :
    Calls Tryd.prog 31 #[.int .i64 n, .string c, .pointer (some ⟨rb, 0, none⟩)] w fun e w' => e = .returned (.tuple #[]) ∧ w' = w := by
  have h1 : ¬ 1 < n := by omega
  have h0 : ¬ 0 < n := by omega
  go_enter Tryd.func31, Tryd.ntmps31
  go_wp2_with fail
  go_end0
  exact ⟨rfl, rfl⟩

theorem Tryd.infoStr : (Tryd.prog.info? 9).map (fun i => (i.zero, i.size, i.bytes)) = some (some (.string ⟨#[]⟩), 1, 16) := by kernel_rfl

set_option maxHeartbeats 1000000 in
set_option maxRecDepth 100000 in
theorem add_one (B rb : Nat) (c : ByteArray) (ps : List (List UInt8)) (w : World) (h : RunsAt B rb ps w) (hB : B ≤ w.heap.size) (hl : ps.length ≤ 100000) :
    Calls Tryd.prog 31 #[.int .i64 1, .string c, .pointer (some ⟨rb, 0, none⟩)] w fun e w' => e = .returned (.tuple #[]) ∧ RunsAt B rb (ps ++ [c.data.toList]) w' ∧ Below B w w' := by
  obtain ⟨i0, hi, hz0, hz1, hz2⟩ : ∃ i, Tryd.prog.info? 9 = some i ∧ i.zero = some (.string ⟨#[]⟩) ∧ i.size = 1 ∧ i.bytes = 16 := by
    have := Tryd.infoStr
    cases hh : Tryd.prog.info? 9 with
    | none => rw [hh] at this; cases this
    | some i =>
      rw [hh] at this
      simp only [Option.map_some, Option.some.injEq, Prod.mk.injEq] at this
      exact ⟨i, rfl, this.1, this.2.1, this.2.2⟩
  obtain ⟨hge, v, hb, hown, hne⟩ := h
  have c0 : w.cell? ⟨rb, 0, none⟩ = some v := by rw [Lib.cell_of_heap hb]; rfl
  have f0 := Lib.frozen_of_heap hb 0
  have hlt := (Array.getElem?_eq_some_iff.1 hb).1
  go_enter Tryd.func31, Tryd.ntmps31
  go_wp2_with (at_builtin; refine wpList_append_own _ rfl _ _ 56 rfl B 9 i0 (.string ⟨#[]⟩) 1 16 Tryd.underlying56 hi hz0 hz1 hz2 rfl (by decide) _ _ _ rfl (hown.alloc _) ⟨w.heap.size, 0, none⟩ 1 1 [.string c] rfl rfl ?c1 ?c2 ?c3 ?c4 ?c5 ?_)
  case c1 =>
    intro j u hj
    match j, hj with
    | 0, hj => simp at hj; subst hj; simp [Addr.add]
  case c2 => intro u hu; simp at hu; subst hu; rfl
  case c3 => unfold maxLen; omega
  case c4 => omega
  case c5 => simp; omega
  intro v' w2 hown' hgrow _
  have hb2 : w2.heap[rb]? = some (.cells #[v] 56 (0, 0)) := by
    rw [hgrow.block rb (by simp; omega) (fun e => hne e.symm), Go.Deep.blk_alloc_lt _ _ _ hlt]
    exact hb
  have d0 : w2.cell? ⟨rb, 0, none⟩ = some v := by rw [Lib.cell_of_heap hb2]; rfl
  have g0 := Lib.frozen_of_heap hb2 0
  have hne2 : v'.ownBlock ≠ some rb := by
    intro e
    rcases hown'.2 with ⟨rfl, _⟩ | ⟨g, cap, cur, rfl, _, hgg, _⟩
    · simp [Value.ownBlock] at e
    · simp only [Value.ownBlock, Option.some.injEq] at e
      subst e
      rw [hb2] at hgg
      simp at hgg
  have HB2 : Hid (w2.heap[rb]? = some (.cells #[v] 56 (0, 0))) := hb2
  have HOW : Hid (w2.ownsRow B 9 1 v' (ps.length + 1) (ps.map strV ++ [.string c])) := hown'
  have HBE : Hid (Below B w w2) := ((Below.refl _ _).alloc hB _).grown hgrow (by simp; omega) (fun k hk => (hown.lt k hk).1)
  obtain ⟨g, cap, rfl⟩ : ∃ g cap, v' = .slice (some ⟨g, 0, none⟩) (ps.length + 1) cap := by
    rcases hown'.2 with ⟨_, e⟩ | ⟨g, cap, cur, e, _⟩
    · omega
    · exact ⟨g, cap, e⟩
  clear hown' hb2 hgrow hb hown
  go_wp2_with fail
  go_end0
  refine ⟨rfl, ⟨hge, _, Go.Joins.block_setCell HB2.out _, ?_, hne2⟩, HBE.out.setCell (p := ⟨rb, 0, none⟩) hge _⟩
  have := HOW.out.kept (row := some rb) (w' := w2.setCell ⟨rb, 0, none⟩ (.slice (some ⟨g, 0, none⟩) (ps.length + 1) cap)) ⟨rfl, rfl, rfl, by simp [World.setCell], fun k _ hk => Below.heap_setCell _ _ _ _ (fun e => hk (by simp [e]))⟩ (Or.inr hne2)
  simpa [strV] using this

set_option maxHeartbeats 1000000 in
set_option maxRecDepth 100000 in
theorem add_many (B rb n : Nat) (c : ByteArray) (ps : List (List UInt8)) (w : World) (h : RunsAt B rb ps w) (hB : B ≤ w.heap.size) (hl : ps.length ≤ 100000) (hn : 1 < n) (hn2 : n < 9223372036854775808) (hc : c.size ≤ 100) :
    Calls Tryd.prog 31 #[.int .i64 n, .string c, .pointer (some ⟨rb, 0, none⟩)] w fun e w' => e = .returned (.tuple #[]) ∧ RunsAt B rb (ps ++ [Lib.itoa n ++ c.data.toList]) w' ∧ Below B w w' := by
  obtain ⟨i0, hi, hz0, hz1, hz2⟩ : ∃ i, Tryd.prog.info? 9 = some i ∧ i.zero = some (.string ⟨#[]⟩) ∧ i.size = 1 ∧ i.bytes = 16 := by
    have := Tryd.infoStr
    cases hh : Tryd.prog.info? 9 with
    | none => rw [hh] at this; cases this
    | some i =>
      rw [hh] at this
      simp only [Option.map_some, Option.some.injEq, Prod.mk.injEq] at this
      exact ⟨i, rfl, this.1, this.2.1, this.2.2⟩
  have hdec := decimal_any n w hn2
  have hn1 : (1 : Int) < (n : Int) := by omega
  have hn0 : (0 : Int) < (n : Int) := by omega
  have HC : Hid ((⟨(Lib.itoa n).toArray⟩ ++ c : ByteArray).data.toList = Lib.itoa n ++ c.data.toList) := by show _ = _; simp [ByteArray.data_append]
  have hSs : (⟨(Lib.itoa n).toArray⟩ : ByteArray).size ≤ 21 := by
    show (Lib.itoa n).toArray.size ≤ 21
    rw [List.size_toArray]
    exact Lib.itoa_length_le n (by omega) (by omega)
  generalize hS : (⟨(Lib.itoa n).toArray⟩ : ByteArray) = S at *
  clear hS
  go_enter Tryd.func31, Tryd.ntmps31
  go_wp2_with fail
  refine hdec.mono ?_
  rintro e w1 ⟨rfl, hb1⟩
  have h1 : RunsAt B rb ps w1 := h.go hb1
  have hB1 : B ≤ w1.heap.size := Nat.le_trans hB hb1.size
  have hbe1 : Below B w w1 := hb1.mono hB
  clear hdec h hB
  obtain ⟨hge, v, hb, hown, hne⟩ := h1
  have c0 : w1.cell? ⟨rb, 0, none⟩ = some v := by rw [Lib.cell_of_heap hb]; rfl
  have f0 := Lib.frozen_of_heap hb 0
  have hlt := (Array.getElem?_eq_some_iff.1 hb).1
  go_wp2_with (at_builtin; refine wpList_append_own _ rfl _ _ 56 rfl B 9 i0 (.string ⟨#[]⟩) 1 16 Tryd.underlying56 hi hz0 hz1 hz2 rfl (by decide) _ _ _ rfl (hown.alloc _) ⟨w1.heap.size, 0, none⟩ 1 1 [.string (S ++ c)] rfl rfl ?c1 ?c2 ?c3 ?c4 ?c5 ?_)
  case c1 =>
    intro j u hj
    match j, hj with
    | 0, hj => simp at hj; subst hj; simp [Addr.add]
  case c2 => intro u hu; simp at hu; subst hu; rfl
  case c3 => unfold maxLen; omega
  case c4 => omega
  case c5 => simp; omega
  intro v' w2 hown' hgrow _
  have hb2 : w2.heap[rb]? = some (.cells #[v] 56 (0, 0)) := by
    rw [hgrow.block rb (by simp; omega) (fun e => hne e.symm), Go.Deep.blk_alloc_lt _ _ _ hlt]
    exact hb
  have d0 : w2.cell? ⟨rb, 0, none⟩ = some v := by rw [Lib.cell_of_heap hb2]; rfl
  have g0 := Lib.frozen_of_heap hb2 0
  have hne2 : v'.ownBlock ≠ some rb := by
    intro e
    rcases hown'.2 with ⟨rfl, _⟩ | ⟨g, cap, cur, rfl, _, hgg, _⟩
    · simp [Value.ownBlock] at e
    · simp only [Value.ownBlock, Option.some.injEq] at e
      subst e
      rw [hb2] at hgg
      simp at hgg
  have HB2 : Hid (w2.heap[rb]? = some (.cells #[v] 56 (0, 0))) := hb2
  have HOW : Hid (w2.ownsRow B 9 1 v' (ps.length + 1) (ps.map strV ++ [.string (S ++ c)])) := hown'
  have HBE : Hid (Below B w w2) := (hbe1.alloc hB1 _).grown hgrow (by simp; omega) (fun k hk => (hown.lt k hk).1)
  obtain ⟨g, cap, rfl⟩ : ∃ g cap, v' = .slice (some ⟨g, 0, none⟩) (ps.length + 1) cap := by
    rcases hown'.2 with ⟨_, e⟩ | ⟨g, cap, cur, e, _⟩
    · omega
    · exact ⟨g, cap, e⟩
  clear hown' hb2 hgrow hb hown
  go_wp2_with fail
  go_end0
  refine ⟨rfl, ⟨hge, _, Go.Joins.block_setCell HB2.out _, ?_, hne2⟩, HBE.out.setCell (p := ⟨rb, 0, none⟩) hge _⟩
  have := HOW.out.kept (row := some rb) (w' := w2.setCell ⟨rb, 0, none⟩ (.slice (some ⟨g, 0, none⟩) (ps.length + 1) cap)) ⟨rfl, rfl, rfl, by simp [World.setCell], fun k _ hk => Below.heap_setCell _ _ _ _ (fun e => hk (by simp [e]))⟩ (Or.inr hne2)
  have e : strV (Lib.itoa n ++ c.data.toList) = .string (S ++ c) := by
    rw [← HC.out]
    show Value.string ⟨(S ++ c).data.toList.toArray⟩ = _
    rw [Array.toArray_toList]
  rw [List.map_append, List.map_cons, List.map_nil, e, List.length_append]
  exact this

/-- what the closure adds -/
def addT (n : Int) (c : UInt8) : List (List UInt8) := if 0 < n then [pieceT (n, c)] else []
theorem add_any (B rb : Nat) (n : Int) (c : UInt8) (ps : List (List UInt8)) (w : World) (h : RunsAt B rb ps w) (hB : B ≤ w.heap.size) (hl : ps.length ≤ 100000) (hn2 : n < 9223372036854775808) :
    Calls Tryd.prog 31 #[.int .i64 n, .string ⟨#[c]⟩, .pointer (some ⟨rb, 0, none⟩)] w fun e w' => e = .returned (.tuple #[]) ∧ RunsAt B rb (ps ++ addT n c) w' ∧ Below B w w' := by
  by_cases h0 : n ≤ 0
  · refine (add_none rb n ⟨#[c]⟩ w h0).mono fun e w' ⟨h1, h2⟩ => ⟨h1, ?_, by rw [h2]; exact Below.refl _ _⟩
    rw [h2, addT, if_neg (by omega), List.append_nil]
    exact h
  · by_cases h1 : n = 1
    · subst h1
      exact add_one B rb ⟨#[c]⟩ ps w h hB hl
    · obtain ⟨m, rfl⟩ : ∃ m : Nat, n = m := ⟨n.toNat, by omega⟩
      refine (add_many B rb m ⟨#[c]⟩ ps w h hB hl (by omega) (by omega) (by show (1 : Nat) ≤ 100; omega)).mono fun e w' ⟨e1, e2, e3⟩ => ⟨e1, ?_, e3⟩
      rw [addT, if_pos (by omega), pieceT, if_pos (by show (1 : Int) < m; omega)]
      exact e2
end Go.Proofs.YtnklpjoeopcbbaaDoor
