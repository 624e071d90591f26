/- slices.Compact of a list of cells: what is kept lies at the row's head. -/
import Derived.Test.YthobobgiendcfaaPure
import Derived.Lib.SlicesCompact
import Derived.Lib.SliceRun
import Derived.Deep.LoopGhost
import Derived.Deep.Draws
namespace Go.Proofs.Ythobobgiendcfaa
open Go.RowKit Go.Lib Go.Sort

theorem eqP_run (x y : Int × Int) (w : World) : (binOp .eql 87 (.agg #[.int .i64 x.1, .int .i64 x.2]) (.agg #[.int .i64 y.1, .int .i64 y.2])).run Try.prog w = .ok (.bool (decide (x = y))) w := by
  have hS : Try.prog.underlying 87 = some (.struct (Try.prog.fieldsOf 87)) := by kernel_rfl
  have hp : Try.prog.stoodInHeld 87 = false := by kernel_rfl
  rw [run_eql_struct, show (10000 : Nat) = 9999 + 1 from rfl, run_equalIn_agg w 9999 87 _ _ hS hp]
  simp only [Program.fieldsOf, Try.underlying87]
  go_simp
  by_cases h1 : x.fst = y.fst <;> by_cases h2 : x.snd = y.snd <;> simp [h1, h2, Prod.ext_iff]
theorem neP_run (x y : Int × Int) (w : World) : (binOp .neq 87 (.agg #[.int .i64 x.1, .int .i64 x.2]) (.agg #[.int .i64 y.1, .int .i64 y.2])).run Try.prog w = .ok (.bool (!decide (x = y))) w := by
  have hS : Try.prog.underlying 87 = some (.struct (Try.prog.fieldsOf 87)) := by kernel_rfl
  have hp : Try.prog.stoodInHeld 87 = false := by kernel_rfl
  rw [run_neq_struct, show (10000 : Nat) = 9999 + 1 from rfl, run_equalIn_agg w 9999 87 _ _ hS hp]
  simp only [Program.fieldsOf, Try.underlying87]
  go_simp
  by_cases h1 : x.fst = y.fst <;> by_cases h2 : x.snd = y.snd <;> simp [h1, h2, Prod.ext_iff]

/-- an array of pairs lies in a block from a place on, free to be written -/
def HoldsA (w : World) (b off : Nat) (d : Array (Int × Int)) : Prop :=
  ∀ j, j < d.size → w.cell? ⟨b, off + j * 2, none⟩ = some (.int .i64 (d[j]!).1) ∧ w.cell? ⟨b, off + j * 2 + 1, none⟩ = some (.int .i64 (d[j]!).2) ∧ w.frozen? ⟨b, off + j * 2, none⟩ = false ∧ w.frozen? ⟨b, off + j * 2 + 1, none⟩ = false

theorem HoldsA.drew {w : World} {b off : Nat} {d : Array (Int × Int)} (h : HoldsA w b off d) : HoldsA w.drew b off d := h
theorem HoldsA.set {w : World} {b off : Nat} {d : Array (Int × Int)} (h : HoldsA w b off d) (i : Nat) (hi : i < d.size) (p : Int × Int) :
    HoldsA ((w.setCell ⟨b, off + i * 2, none⟩ (.int .i64 p.1)).setCell ⟨b, off + i * 2 + 1, none⟩ (.int .i64 p.2)) b off (d.setIfInBounds i p) := by
  intro j hj
  have hj' : j < d.size := by simpa using hj
  obtain ⟨c0, c1, f0, f1⟩ := h j hj'
  rw [World.frozen?_setCell, World.frozen?_setCell, World.frozen?_setCell, World.frozen?_setCell]
  by_cases e : j = i
  · subst e
    rw [getElem!_set_same d j p hj']
    refine ⟨?_, ?_, f0, f1⟩
    · rw [World.cell?_setCell_other _ _ _ _ (by simp), World.cell?_setCell_same _ _ _ c0]
    · rw [World.cell?_setCell_same (u := .int .i64 (d[j]!).2) _ _ _ (by rw [World.cell?_setCell_other _ _ _ _ (by simp)]; exact c1)]
  · rw [getElem!_set_other d i j p e]
    refine ⟨?_, ?_, f0, f1⟩
    · rw [World.cell?_setCell_other _ _ _ _ (by intro h; have := congrArg Addr.off h; simp only at this; omega), World.cell?_setCell_other _ _ _ _ (by intro h; have := congrArg Addr.off h; simp only at this; omega)]; exact c0
    · rw [World.cell?_setCell_other _ _ _ _ (by intro h; have := congrArg Addr.off h; simp only at this; omega), World.cell?_setCell_other _ _ _ _ (by intro h; have := congrArg Addr.off h; simp only at this; omega)]; exact c1

/-- all but one block is as it was -/
structure Only (b : Nat) (w w' : World) : Prop where
  os : w'.os = w.os
  tape : w'.tape = w.tape
  output : w'.output = w.output
  size : w'.heap.size = w.heap.size
  block : ∀ k, k ≠ b → w'.heap[k]? = w.heap[k]?
theorem Only.refl (b : Nat) (w : World) : Only b w w := ⟨rfl, rfl, rfl, rfl, fun _ _ => rfl⟩
theorem Only.drew {b : Nat} {w w' : World} (h : Only b w w') : Only b w w'.drew := ⟨h.os, h.tape, h.output, h.size, h.block⟩
theorem Only.setCell {b : Nat} {w w' : World} (h : Only b w w') (o : Nat) (v : Value) : Only b w (w'.setCell ⟨b, o, none⟩ v) :=
  ⟨h.os, h.tape, h.output, by simpa [World.setCell] using h.size, fun k hk => by rw [Below.heap_setCell _ _ _ _ hk]; exact h.block k hk⟩
theorem Only.setCells {b : Nat} {w w' : World} (h : Only b w w') (o : Nat) (vs : List Value) : Only b w (w'.setCells b o vs) := by
  induction vs generalizing o w' with
  | nil => exact h
  | cons v r ih => exact ih (h.setCell o v) (o + 1)
theorem Only.below {b B : Nat} {w w' : World} (h : Only b w w') (hB : B ≤ b) : Below B w w' := ⟨h.os, h.tape, h.output, by rw [h.size]; exact Nat.le_refl _, fun k hk => h.block k (by omega)⟩
end Go.Proofs.Ythobobgiendcfaa

namespace Go.Proofs.Ythobobgiendcfaa
open Go.RowKit Go.Lib Go.Sort

/-- 'clear' of a slice of cells -/
theorem clear_run (w : World) (ty : TypeId) (b o n c : Nat) (hn : 0 < n) (hc : ∀ j, j < n * 2 → (w.cell? ⟨b, o + j, none⟩).isSome = true) (hf : ∀ j, j < n * 2 → w.frozen? ⟨b, o + j, none⟩ = false) :
    (Builtin.clear_ #[69] ty #[.slice (some ⟨b, o, none⟩) n c]).run Try.prog w = .ok (.tuple #[]) (w.setCells b o (Builtin.zeroCells #[.int .i64 0, .int .i64 0] n).toList) := by
  have hl : (Builtin.zeroCells #[.int .i64 0, .int .i64 0] n).toList.length = n * 2 := by
    rw [Array.length_toList, size_zeroCells]; rfl
  have h1 : ∀ v ∈ (Builtin.zeroCells #[.int .i64 0, .int .i64 0] n).toList, v.oneCell' = true := by
    intro v hv
    simp only [Builtin.zeroCells, Array.toList_map, List.mem_map] at hv
    obtain ⟨i, _, rfl⟩ := hv
    have : i % 2 < 2 := Nat.mod_lt _ (by omega)
    rcases (by omega : i % 2 = 0 ∨ i % 2 = 1) with h | h <;> simp [h] <;> rfl
  have hst := run_storeCells_cells (P := Try.prog) b o (Builtin.zeroCells #[.int .i64 0, .int .i64 0] n).toList 0 w (by rw [hl]; simpa using hc) (by rw [hl]; simpa using hf) h1
  simp only [Nat.add_zero] at hst
  obtain ⟨m, rfl⟩ : ∃ m, n = m + 1 := ⟨n - 1, by omega⟩
  simp [Builtin.clear_, run_underlying Try.underlying69, Value.cells, hst]

theorem holds_some {w : World} {b off : Nat} {d : Array (Int × Int)} (h : HoldsA w b off d) (k n : Nat) (hk : k + n ≤ d.size) : ∀ j, j < n * 2 → (w.cell? ⟨b, off + k * 2 + j, none⟩).isSome = true := by
  intro j hj
  obtain ⟨c0, c1, _, _⟩ := h (k + j / 2) (by omega)
  by_cases hm : j % 2 = 0
  · rw [show off + k * 2 + j = off + (k + j / 2) * 2 by omega, c0]; rfl
  · rw [show off + k * 2 + j = off + (k + j / 2) * 2 + 1 by omega, c1]; rfl
theorem holds_free {w : World} {b off : Nat} {d : Array (Int × Int)} (h : HoldsA w b off d) (k n : Nat) (hk : k + n ≤ d.size) : ∀ j, j < n * 2 → w.frozen? ⟨b, off + k * 2 + j, none⟩ = false := by
  intro j hj
  obtain ⟨_, _, c0, c1⟩ := h (k + j / 2) (by omega)
  by_cases hm : j % 2 = 0
  · rw [show off + k * 2 + j = off + (k + j / 2) * 2 by omega, c0]
  · rw [show off + k * 2 + j = off + (k + j / 2) * 2 + 1 by omega, c1]

set_option maxHeartbeats 2000000 in
set_option maxRecDepth 100000 in
theorem compact_any (blk off cap : Nat) (d : Array (Int × Int)) (w : World) (hH : HoldsA w blk off d) (hsz : d.size ≤ 4096) (hcap : d.size ≤ cap) (hcm : cap ≤ maxLen) :
    Calls Try.prog 113 #[.slice (some ⟨blk, off, none⟩) d.size cap] w fun e w' => e = .returned (.slice (some ⟨blk, off, none⟩) (compactUpTo d d.size).length cap) ∧ Only blk w w' ∧ HoldsA w' blk off (compactUpTo d d.size).toArray := by
  unfold maxLen at hcm
  have same : (∀ j, j < d.size → keeps d j = true) → (compactUpTo d d.size).length = d.size ∧ (compactUpTo d d.size).toArray = d := by
    intro hall
    have e : compactUpTo d d.size = d.toList := by rw [compactUpTo_all d _ hall, range_map_get]
    rw [e]
    exact ⟨by simp, by simp⟩
  have HS : Hid ((∀ j, j < d.size → keeps d j = true) → (compactUpTo d d.size).length = d.size ∧ (compactUpTo d d.size).toArray = d) := same
  clear same
  by_cases h2 : d.size < 2
  · have HH : Hid (HoldsA w blk off d) := hH
    clear hH
    go_enter Try.func113, Try.ntmps113
    go_wp2
    go_ret
    obtain ⟨e1, e2⟩ := HS.out (fun j hj => keeps_lt_one d j (by omega))
    exact ⟨by rw [e1]; rfl, Only.refl _ _, by rw [e2]; exact HH.out⟩
  · have HH : Hid (HoldsA w blk off d) := hH
    clear hH
    go_enter Try.func113, Try.ntmps113
    go_wp2
    go_loopg [3] d.size (fun g s3 wr => ∃ k q : Nat, 1 ≤ k ∧ k ≤ d.size ∧ d.size - k ≤ g ∧ s3 = .int .i64 k ∧ wr = w.drewN q ∧ ∀ j, j < k → keeps d j = true)
    case atStart => exact ⟨1, 0, Nat.le_refl _, by omega, by omega, rfl, rfl, keeps_lt_one d⟩
    case round =>
      obtain ⟨k, q, hk1, hk, hg, rfl, rfl, hall⟩ := hrel
      by_cases hlt : k < d.size
      · obtain ⟨c1, c1', _, _⟩ := HH.out k hlt
        obtain ⟨c0, c0', _, _⟩ := HH.out (k - 1) (by omega)
        have A : Hid (∀ j, j < k → keeps d j = true) := hall
        clear hall
        generalize hx : d[k]! = x at c1 c1'
        generalize hy : d[k - 1]! = y at c0 c0'
        have B : Hid (d[k]! = x ∧ d[k - 1]! = y) := ⟨hx, hy⟩
        clear hx hy
        have hi1 : (1 : Int) ≤ (k : Int) := by omega
        have hi2 : (k : Int) < (d.size : Int) := by omega
        by_cases hdup : x = y
        · subst hdup
          have heq : ∀ w, (binOp .eql 87 (.agg #[.int .i64 x.1, .int .i64 x.2]) (.agg #[.int .i64 x.1, .int .i64 x.2])).run Try.prog w = .ok (.bool true) w := fun w => by rw [eqP_run]; simp
          go_wp2
          go_region
          go_wp2
          clear c0 c0' c1 c1' heq hi1 hi2
          go_loopg [3, 5] d.size (fun g s3 s5 wr => ∃ (kk k2 : Nat) (dk : Array (Int × Int)), s3 = .int .i64 kk ∧ s5 = .int .i64 k2 ∧ 1 ≤ k2 ∧ k + k2 ≤ d.size ∧ d.size - (k + k2) ≤ g ∧ Only blk w wr ∧ HoldsA wr blk off dk ∧ CompInv d (k + k2) kk dk)
          case atStart => exact ⟨k, 1, d, rfl, rfl, Nat.le_refl _, by omega, by omega, ⟨rfl, rfl, rfl, rfl, fun _ _ => rfl⟩, HH.out, CompInv.start A.out (keeps_neg (by omega) (by rw [B.out.1, B.out.2]))⟩
          case round =>
            obtain ⟨kk, k2, dk, rfl, rfl, h1, hle, hg2, hO, hHk, hI⟩ := hrel
            have hkk := hI.lt
            have hds := hI.size
            have I2 : Hid (CompInv d (k + k2) kk dk) := hI
            have H2 : Hid (HoldsA wr blk off dk) := hHk
            have D2 : Hid (dk.size = d.size) := hds
            by_cases hlt2 : k + k2 < d.size
            · obtain ⟨cm, cm', _, _⟩ := hHk (k + k2) (by omega)
              obtain ⟨cp, cp', _, _⟩ := hHk (k + k2 - 1) (by omega)
              obtain ⟨ck, ck', fk, fk'⟩ := hHk kk (by omega)
              rw [hI.high (k + k2) (by omega)] at cm cm'
              rw [hI.high (k + k2 - 1) (by omega)] at cp cp'
              rw [show off + (k + k2) * 2 = off + k * 2 + k2 * 2 by omega] at cm cm'
              rw [show off + (k + k2 - 1) * 2 = off + k * 2 + (k2 - 1) * 2 by omega] at cp cp'
              clear hHk hI hds
              generalize hu : d[k + k2]! = u at cm cm'
              generalize hv : d[k + k2 - 1]! = v at cp cp'
              generalize dk[kk]! = old at ck ck'
              have C : Hid (d[k + k2]! = u ∧ d[k + k2 - 1]! = v) := ⟨hu, hv⟩
              clear hu hv
              have hi1 : (1 : Int) ≤ (k2 : Int) := by omega
              have hi2 : (k2 : Int) < ((d.size - k : Nat) : Int) := by omega
              by_cases huv : u = v
              · subst huv
                have hne : ∀ w, (binOp .neq 87 (.agg #[.int .i64 u.1, .int .i64 u.2]) (.agg #[.int .i64 u.1, .int .i64 u.2])).run Try.prog w = .ok (.bool false) w := fun w => by rw [neP_run]; simp
                go_wp2
                go_region
                go_wp2
                go_roundg (d.size - (k + (k2 + 1)))
                case measure => omega
                case rel => exact ⟨kk, k2 + 1, dk, rfl, by go_num, by omega, by omega, Nat.le_refl _, hO.drew, H2.out, I2.out.skip (keeps_neg (by omega) (by rw [C.out.1, C.out.2]))⟩
              · have hne : ∀ w, (binOp .neq 87 (.agg #[.int .i64 u.1, .int .i64 u.2]) (.agg #[.int .i64 v.1, .int .i64 v.2])).run Try.prog w = .ok (.bool true) w := fun w => by rw [neP_run]; simp [huv]
                have HU : Hid (¬ u = v) := huv
                clear huv
                go_wp2
                go_region
                go_wp2
                go_roundg (d.size - (k + (k2 + 1)))
                case measure => omega
                case rel =>
                  refine ⟨kk + 1, k2 + 1, dk.setIfInBounds kk u, by go_num, by go_num, by omega, by omega, Nat.le_refl _, ((hO.setCell _ _).setCell _ _).drew, H2.out.set kk (by have := D2.out; omega) u, ?_⟩
                  have := I2.out.keep hlt2 (keeps_pos (by rw [C.out.1, C.out.2]; exact HU.out))
                  rwa [C.out.1] at this
            · have hend : k + k2 = d.size := by omega
              have hcl := fun ty => clear_run wr ty blk (off + kk * 2) (d.size - kk) (cap - kk) (by omega) (holds_some hHk kk (d.size - kk) (by omega)) (holds_free hHk kk (d.size - kk) (by omega))
              have HE : Hid (k + k2 = d.size) := hend
              clear hHk hI hds
              go_wp2
              go_ret
              have hI := I2.out
              rw [HE.out] at hI
              refine ⟨by rw [hI.len]; rfl, hO.setCells _ _, fun j hj => ?_⟩
              have hj' : j < kk := by simpa [hI.len] using hj
              have hd := D2.out
              obtain ⟨a0, a1, b0, b1⟩ := H2.out j (by omega)
              have hz : (Builtin.zeroCells #[.int .i64 0, .int .i64 0] (d.size - kk)).toList.length = (d.size - kk) * 2 := by rw [Array.length_toList, size_zeroCells]; rfl
              have hget : ((compactUpTo d d.size).toArray)[j]! = dk[j]! := by
                have := hI.low j hj'
                rw [getElem!_def, List.getElem?_toArray, this]
              rw [hget, World.frozen?_setCells, World.frozen?_setCells, World.cell?_setCells_out _ _ _ _ _ (fun _ _ => by left; show off + j * 2 < off + kk * 2; omega), World.cell?_setCells_out _ _ _ _ _ (fun _ _ => by left; show off + j * 2 + 1 < off + kk * 2; omega)]
              exact ⟨a0, a1, b0, b1⟩
        · have heq : ∀ w, (binOp .eql 87 (.agg #[.int .i64 x.1, .int .i64 x.2]) (.agg #[.int .i64 y.1, .int .i64 y.2])).run Try.prog w = .ok (.bool false) w := fun w => by rw [eqP_run]; simp [hdup]
          have HD : Hid (¬ x = y) := hdup
          clear hdup
          go_wp2
          go_region
          go_wp2
          go_roundg (d.size - (k + 1))
          case measure => omega
          case rel =>
            refine ⟨k + 1, q + 1, by omega, by omega, Nat.le_refl _, by go_num, rfl, fun j hj => ?_⟩
            by_cases e : j = k
            · subst e
              exact keeps_pos (by rw [B.out.1, B.out.2]; exact HD.out)
            · exact A.out j (by omega)
      · have hke : k = d.size := by omega
        subst hke
        have A : Hid (∀ j, j < d.size → keeps d j = true) := hall
        clear hall
        go_wp2
        go_ret
        obtain ⟨e1, e2⟩ := HS.out A.out
        exact ⟨by rw [e1]; rfl, ⟨rfl, rfl, rfl, rfl, fun _ _ => rfl⟩, by rw [e2]; exact HH.out⟩
end Go.Proofs.Ythobobgiendcfaa
