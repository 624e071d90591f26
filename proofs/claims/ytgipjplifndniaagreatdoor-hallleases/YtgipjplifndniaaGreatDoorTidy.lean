/- What plane.Tidy answers: too many, too far, or the cells in order, each once, in memory of its own. -/
import Derived.Test.YtgipjplifndniaaGreatDoorPure
import Derived.Deep.LoopGhost
import Derived.Deep.Draws
import Derived.Shelf.SlSortCmp.NoneTotal
namespace Go.Proofs.YtgipjplifndniaaGreatDoor
open Go.RowKit Go.Lib Go.Sort

theorem clear_run (w : World) (ty : TypeId) (b o n c : Nat) (hn : 0 < n) (hc : ∀ j, j < n * 2 → (w.cell? ⟨b, o + j, none⟩).isSome = true) (hf : ∀ j, j < n * 2 → w.frozen? ⟨b, o + j, none⟩ = false) :
    (Builtin.clear_ #[22] ty #[.slice (some ⟨b, o, none⟩) n c]).run Tryz.prog w = .ok (.tuple #[]) (w.setCells b o (Builtin.zeroCells #[.int .i64 0, .int .i64 0] n).toList) := by
  have hl : (Builtin.zeroCells #[.int .i64 0, .int .i64 0] n).toList.length = n * 2 := by
    rw [Array.length_toList, size_zeroCells]; rfl
  have h1 : ∀ v ∈ (Builtin.zeroCells #[.int .i64 0, .int .i64 0] n).toList, v.oneCell' = true := by
    intro v hv
    simp only [Builtin.zeroCells, Array.toList_map, List.mem_map] at hv
    obtain ⟨i, _, rfl⟩ := hv
    have : i % 2 < 2 := Nat.mod_lt _ (by omega)
    rcases (by omega : i % 2 = 0 ∨ i % 2 = 1) with h | h <;> simp [h] <;> rfl
  have hst := run_storeCells_cells (P := Tryz.prog) b o (Builtin.zeroCells #[.int .i64 0, .int .i64 0] n).toList 0 w (by rw [hl]; simpa using hc) (by rw [hl]; simpa using hf) h1
  simp only [Nat.add_zero] at hst
  obtain ⟨m, rfl⟩ : ∃ m, n = m + 1 := ⟨n - 1, by omega⟩
  simp [Builtin.clear_, run_underlying Tryz.underlying22, Value.cells, hst]

theorem holds_some {w : World} {b off : Nat} {d : Array (Int × Int)} (h : HoldsA w b off d) (k n : Nat) (hk : k + n ≤ d.size) : ∀ j, j < n * 2 → (w.cell? ⟨b, off + k * 2 + j, none⟩).isSome = true := by
  intro j hj
  obtain ⟨c0, c1, _, _⟩ := h (k + j / 2) (by omega)
  by_cases hm : j % 2 = 0
  · rw [show off + k * 2 + j = off + (k + j / 2) * 2 by omega, c0]; rfl
  · rw [show off + k * 2 + j = off + (k + j / 2) * 2 + 1 by omega, c1]; rfl
theorem holds_free {w : World} {b off : Nat} {d : Array (Int × Int)} (h : HoldsA w b off d) (k n : Nat) (hk : k + n ≤ d.size) : ∀ j, j < n * 2 → w.frozen? ⟨b, off + k * 2 + j, none⟩ = false := by
  intro j hj
  obtain ⟨_, _, c0, c1⟩ := h (k + j / 2) (by omega)
  by_cases hm : j % 2 = 0
  · rw [show off + k * 2 + j = off + (k + j / 2) * 2 by omega, c0]
  · rw [show off + k * 2 + j = off + (k + j / 2) * 2 + 1 by omega, c1]

set_option maxHeartbeats 2000000 in
set_option maxRecDepth 100000 in
theorem compact_any (blk off cap : Nat) (d : Array (Int × Int)) (w : World) (hH : HoldsA w blk off d) (hsz : d.size ≤ 4096) (hcap : d.size ≤ cap) (hcm : cap ≤ maxLen) :
    Calls Tryz.prog 22 #[.slice (some ⟨blk, off, none⟩) d.size cap] w fun e w' => e = .returned (.slice (some ⟨blk, off, none⟩) (compactUpTo d d.size).length cap) ∧ Only blk w w' ∧ HoldsA w' blk off (compactUpTo d d.size).toArray := by
  unfold maxLen at hcm
  have same : (∀ j, j < d.size → keeps d j = true) → (compactUpTo d d.size).length = d.size ∧ (compactUpTo d d.size).toArray = d := by
    intro hall
    have e : compactUpTo d d.size = d.toList := by rw [compactUpTo_all d _ hall, range_map_get]
    rw [e]
    exact ⟨by simp, by simp⟩
  have HS : Hid ((∀ j, j < d.size → keeps d j = true) → (compactUpTo d d.size).length = d.size ∧ (compactUpTo d d.size).toArray = d) := same
  clear same
  by_cases h2 : d.size < 2
  · have HH : Hid (HoldsA w blk off d) := hH
    clear hH
    go_enter Tryz.func22, Tryz.ntmps22
    go_wp2
    go_ret
    obtain ⟨e1, e2⟩ := HS.out (fun j hj => keeps_lt_one d j (by omega))
    exact ⟨by rw [e1]; rfl, Only.refl _ _, by rw [e2]; exact HH.out⟩
  · have HH : Hid (HoldsA w blk off d) := hH
    clear hH
    go_enter Tryz.func22, Tryz.ntmps22
    go_wp2
    go_loopg [3] d.size (fun g s3 wr => ∃ k q : Nat, 1 ≤ k ∧ k ≤ d.size ∧ d.size - k ≤ g ∧ s3 = .int .i64 k ∧ wr = w.drewN q ∧ ∀ j, j < k → keeps d j = true)
    case atStart => exact ⟨1, 0, Nat.le_refl _, by omega, by omega, rfl, rfl, keeps_lt_one d⟩
    case round =>
      obtain ⟨k, q, hk1, hk, hg, rfl, rfl, hall⟩ := hrel
      by_cases hlt : k < d.size
      · obtain ⟨c1, c1', _, _⟩ := HH.out k hlt
        obtain ⟨c0, c0', _, _⟩ := HH.out (k - 1) (by omega)
        have A : Hid (∀ j, j < k → keeps d j = true) := hall
        clear hall
        generalize hx : d[k]! = x at c1 c1'
        generalize hy : d[k - 1]! = y at c0 c0'
        have B : Hid (d[k]! = x ∧ d[k - 1]! = y) := ⟨hx, hy⟩
        clear hx hy
        have hi1 : (1 : Int) ≤ (k : Int) := by omega
        have hi2 : (k : Int) < (d.size : Int) := by omega
        by_cases hdup : x = y
        · subst hdup
          have heq : ∀ w, (binOp .eql 50 (.agg #[.int .i64 x.1, .int .i64 x.2]) (.agg #[.int .i64 x.1, .int .i64 x.2])).run Tryz.prog w = .ok (.bool true) w := fun w => by rw [eqP_run]; simp
          go_wp2
          go_region
          go_wp2
          clear c0 c0' c1 c1' heq hi1 hi2
          go_loopg [3, 5] d.size (fun g s3 s5 wr => ∃ (kk k2 : Nat) (dk : Array (Int × Int)), s3 = .int .i64 kk ∧ s5 = .int .i64 k2 ∧ 1 ≤ k2 ∧ k + k2 ≤ d.size ∧ d.size - (k + k2) ≤ g ∧ Only blk w wr ∧ HoldsA wr blk off dk ∧ CompInv d (k + k2) kk dk)
          case atStart => exact ⟨k, 1, d, rfl, rfl, Nat.le_refl _, by omega, by omega, ⟨rfl, rfl, rfl, rfl, fun _ _ => rfl⟩, HH.out, CompInv.start A.out (keeps_neg (by omega) (by rw [B.out.1, B.out.2]))⟩
          case round =>
            obtain ⟨kk, k2, dk, rfl, rfl, h1, hle, hg2, hO, hHk, hI⟩ := hrel
            have hkk := hI.lt
            have hds := hI.size
            have I2 : Hid (CompInv d (k + k2) kk dk) := hI
            have H2 : Hid (HoldsA wr blk off dk) := hHk
            have D2 : Hid (dk.size = d.size) := hds
            by_cases hlt2 : k + k2 < d.size
            · obtain ⟨cm, cm', _, _⟩ := hHk (k + k2) (by omega)
              obtain ⟨cp, cp', _, _⟩ := hHk (k + k2 - 1) (by omega)
              obtain ⟨ck, ck', fk, fk'⟩ := hHk kk (by omega)
              rw [hI.high (k + k2) (by omega)] at cm cm'
              rw [hI.high (k + k2 - 1) (by omega)] at cp cp'
              rw [show off + (k + k2) * 2 = off + k * 2 + k2 * 2 by omega] at cm cm'
              rw [show off + (k + k2 - 1) * 2 = off + k * 2 + (k2 - 1) * 2 by omega] at cp cp'
              clear hHk hI hds
              generalize hu : d[k + k2]! = u at cm cm'
              generalize hv : d[k + k2 - 1]! = v at cp cp'
              generalize dk[kk]! = old at ck ck'
              have C : Hid (d[k + k2]! = u ∧ d[k + k2 - 1]! = v) := ⟨hu, hv⟩
              clear hu hv
              have hi1 : (1 : Int) ≤ (k2 : Int) := by omega
              have hi2 : (k2 : Int) < ((d.size - k : Nat) : Int) := by omega
              by_cases huv : u = v
              · subst huv
                have hne : ∀ w, (binOp .neq 50 (.agg #[.int .i64 u.1, .int .i64 u.2]) (.agg #[.int .i64 u.1, .int .i64 u.2])).run Tryz.prog w = .ok (.bool false) w := fun w => by rw [neP_run]; simp
                go_wp2
                go_region
                go_wp2
                go_roundg (d.size - (k + (k2 + 1)))
                case measure => omega
                case rel => exact ⟨kk, k2 + 1, dk, rfl, by go_num, by omega, by omega, Nat.le_refl _, hO.drew, H2.out, I2.out.skip (keeps_neg (by omega) (by rw [C.out.1, C.out.2]))⟩
              · have hne : ∀ w, (binOp .neq 50 (.agg #[.int .i64 u.1, .int .i64 u.2]) (.agg #[.int .i64 v.1, .int .i64 v.2])).run Tryz.prog w = .ok (.bool true) w := fun w => by rw [neP_run]; simp [huv]
                have HU : Hid (¬ u = v) := huv
                clear huv
                go_wp2
                go_region
                go_wp2
                go_roundg (d.size - (k + (k2 + 1)))
                case measure => omega
                case rel =>
                  refine ⟨kk + 1, k2 + 1, dk.setIfInBounds kk u, by go_num, by go_num, by omega, by omega, Nat.le_refl _, ((hO.setCell _ _).setCell _ _).drew, H2.out.set kk (by have := D2.out; omega) u, ?_⟩
                  have := I2.out.keep hlt2 (keeps_pos (by rw [C.out.1, C.out.2]; exact HU.out))
                  rwa [C.out.1] at this
            · have hend : k + k2 = d.size := by omega
              have hcl := fun ty => clear_run wr ty blk (off + kk * 2) (d.size - kk) (cap - kk) (by omega) (holds_some hHk kk (d.size - kk) (by omega)) (holds_free hHk kk (d.size - kk) (by omega))
              have HE : Hid (k + k2 = d.size) := hend
              clear hHk hI hds
              go_wp2
              go_ret
              have hI := I2.out
              rw [HE.out] at hI
              refine ⟨by rw [hI.len]; rfl, hO.setCells _ _, fun j hj => ?_⟩
              have hj' : j < kk := by simpa [hI.len] using hj
              have hd := D2.out
              obtain ⟨a0, a1, b0, b1⟩ := H2.out j (by omega)
              have hz : (Builtin.zeroCells #[.int .i64 0, .int .i64 0] (d.size - kk)).toList.length = (d.size - kk) * 2 := by rw [Array.length_toList, size_zeroCells]; rfl
              have hget : ((compactUpTo d d.size).toArray)[j]! = dk[j]! := by
                have := hI.low j hj'
                rw [getElem!_def, List.getElem?_toArray, this]
              rw [hget, World.frozen?_setCells, World.frozen?_setCells, World.cell?_setCells_out _ _ _ _ _ (fun _ _ => by left; show off + j * 2 < off + kk * 2; omega), World.cell?_setCells_out _ _ _ _ _ (fun _ _ => by left; show off + j * 2 + 1 < off + kk * 2; omega)]
              exact ⟨a0, a1, b0, b1⟩
        · have heq : ∀ w, (binOp .eql 50 (.agg #[.int .i64 x.1, .int .i64 x.2]) (.agg #[.int .i64 y.1, .int .i64 y.2])).run Tryz.prog w = .ok (.bool false) w := fun w => by rw [eqP_run]; simp [hdup]
          have HD : Hid (¬ x = y) := hdup
          clear hdup
          go_wp2
          go_region
          go_wp2
          go_roundg (d.size - (k + 1))
          case measure => omega
          case rel =>
            refine ⟨k + 1, q + 1, by omega, by omega, Nat.le_refl _, by go_num, rfl, fun j hj => ?_⟩
            by_cases e : j = k
            · subst e
              exact keeps_pos (by rw [B.out.1, B.out.2]; exact HD.out)
            · exact A.out j (by omega)
      · have hke : k = d.size := by omega
        subst hke
        have A : Hid (∀ j, j < d.size → keeps d j = true) := hall
        clear hall
        go_wp2
        go_ret
        obtain ⟨e1, e2⟩ := HS.out A.out
        exact ⟨by rw [e1]; rfl, ⟨rfl, rfl, rfl, rfl, fun _ _ => rfl⟩, by rw [e2]; exact HH.out⟩
end Go.Proofs.YtgipjplifndniaaGreatDoor

namespace Go.Proofs.YtgipjplifndniaaGreatDoor
open Go.RowKit Go.Lib Go.Sort

def HoldsR (w : World) (b off : Nat) (zs : List (Int × Int)) : Prop :=
  ∀ j, j < zs.length → w.cell? ⟨b, off + j * 2, none⟩ = some (.int .i64 (zs[j]!).1) ∧ w.cell? ⟨b, off + j * 2 + 1, none⟩ = some (.int .i64 (zs[j]!).2)

def Row (w : World) (v : Value) (zs : List (Int × Int)) : Prop :=
  (zs = [] ∧ v = .slice none 0 0) ∨ (zs ≠ [] ∧ ∃ b off c, v = .slice (some ⟨b, off, none⟩) zs.length c ∧ b < w.heap.size ∧ zs.length ≤ c ∧ c ≤ maxLen ∧ HoldsR w b off zs)
def ORow (w : World) (base : Nat) (v : Value) (zs : List (Int × Int)) : Prop :=
  (zs = [] ∧ v = .slice none 0 0) ∨ (zs ≠ [] ∧ ∃ b off c, v = .slice (some ⟨b, off, none⟩) zs.length c ∧ base ≤ b ∧ b < w.heap.size ∧ zs.length ≤ c ∧ c ≤ maxLen ∧ HoldsA w b off zs.toArray)

theorem toArray_get (zs : List (Int × Int)) (j : Nat) : zs.toArray[j]! = zs[j]! := by simp
theorem toList_get (d : Array (Int × Int)) (j : Nat) : d.toList[j]! = d[j]! := by
  have := toArray_get d.toList j
  rw [Array.toArray_toList] at this
  exact this.symm
theorem HoldsA.read {w : World} {b off : Nat} {zs : List (Int × Int)} (h : HoldsA w b off zs.toArray) : HoldsR w b off zs := fun j hj => by
  obtain ⟨c0, c1, _, _⟩ := h j (by simpa using hj)
  rw [toArray_get] at c0 c1
  exact ⟨c0, c1⟩
theorem ORow.read {w : World} {base : Nat} {v : Value} {zs : List (Int × Int)} (h : ORow w base v zs) : Row w v zs := by
  rcases h with h | ⟨hz, b, off, c, hv, _, hb, hl, hm, hh⟩
  · exact Or.inl h
  · exact Or.inr ⟨hz, b, off, c, hv, hb, hl, hm, hh.read⟩
theorem Row.below {w w' : World} {v : Value} {zs : List (Int × Int)} (h : Row w v zs) (hb : Below w.heap.size w w') : Row w' v zs := by
  rcases h with h | ⟨hz, b, off, c, hv, hlt, hl, hm, hh⟩
  · exact Or.inl h
  · refine Or.inr ⟨hz, b, off, c, hv, Nat.lt_of_lt_of_le hlt hb.size, hl, hm, fun j hj => ?_⟩
    rw [hb.cell (p := ⟨b, off + j * 2, none⟩) hlt, hb.cell (p := ⟨b, off + j * 2 + 1, none⟩) hlt]
    exact hh j hj
theorem ORow.below {w w' : World} {base : Nat} {v : Value} {zs : List (Int × Int)} (h : ORow w base v zs) (hb : Below w.heap.size w w') : ORow w' base v zs := by
  rcases h with h | ⟨hz, b, off, c, hv, hba, hlt, hl, hm, hh⟩
  · exact Or.inl h
  · refine Or.inr ⟨hz, b, off, c, hv, hba, Nat.lt_of_lt_of_le hlt hb.size, hl, hm, fun j hj => ?_⟩
    rw [hb.cell (p := ⟨b, off + j * 2, none⟩) hlt, hb.cell (p := ⟨b, off + j * 2 + 1, none⟩) hlt, hb.frozen (p := ⟨b, off + j * 2, none⟩) hlt, hb.frozen (p := ⟨b, off + j * 2 + 1, none⟩) hlt]
    exact hh j hj
theorem ORow.mono {w : World} {base base' : Nat} {v : Value} {zs : List (Int × Int)} (h : ORow w base v zs) (hb : base' ≤ base) : ORow w base' v zs := by
  rcases h with h | ⟨hz, b, off, c, hv, hba, r⟩
  · exact Or.inl h
  · exact Or.inr ⟨hz, b, off, c, hv, by omega, r⟩
theorem Row.isRow {w : World} {v : Value} {zs : List (Int × Int)} (h : Row w v zs) : IsRow w v zs.length (fun j => (zs[j]!).1) (fun j => (zs[j]!).2) := by
  rcases h with ⟨rfl, rfl⟩ | ⟨hz, b, off, c, rfl, hlt, hl, hm, hh⟩
  · exact IsRow.nil _ _ _
  · exact ⟨_, c, rfl, hl, hm, (fun e => by cases e), Or.inr ⟨b, off, rfl, hlt, hh⟩⟩

def zip2 (n : Nat) (X Y : Nat → Int) : List (Int × Int) := (List.range n).map fun j => (X j, Y j)
theorem zip2_length (n : Nat) (X Y : Nat → Int) : (zip2 n X Y).length = n := by simp [zip2]
theorem zip2_get (n : Nat) (X Y : Nat → Int) (j : Nat) (h : j < n) : (zip2 n X Y)[j]! = (X j, Y j) := by
  rw [getElem!_pos _ _ (by rw [zip2_length]; exact h)]; simp [zip2]

theorem holds_of_owns {w : World} {base : Nat} {g n cap : Nat} {zs : List (Int × Int)} (hn : zs.length = n) (h : w.ownsRow base 50 2 (.slice (some ⟨g, 0, none⟩) n cap) n (pairCells (fun j => (zs[j]!).1) (fun j => (zs[j]!).2) n)) : HoldsA w g 0 zs.toArray := by
  intro j hj
  have hj' : j < n := by rw [← hn]; simpa using hj
  have hp := pairs_of (h.cells rfl) j hj'
  rw [toArray_get]
  refine ⟨hp.1, hp.2, ?_, ?_⟩
  all_goals
    rcases h.2 with ⟨e, _⟩ | ⟨g', cap', cur, e, _, hh, _⟩
    · cases e
    · injection e with e1 _ _
      injection e1 with e1
      injection e1 with e1 _ _
      subst e1
      simp [World.frozen?, hh]

theorem encPt_one (x : Int × Int) (v : Value) (hv : v ∈ encPt x) : v.oneCell' = true := by
  simp [encPt] at hv
  rcases hv with rfl | rfl <;> rfl

theorem holdsK_of {w : World} {b off : Nat} {d : Array (Int × Int)} (h : HoldsA w b off d) : HoldsK encPt 2 w b off d := by
  intro t ht
  rw [size_flatK] at ht
  rw [get_flatK _ _ _ _ ht]
  obtain ⟨c0, c1, f0, f1⟩ := h (t / 2) (by omega)
  by_cases hm : t % 2 = 0
  · rw [show off + t = off + t / 2 * 2 by omega, c0, f0, hm]; exact ⟨rfl, rfl⟩
  · rw [show off + t = off + t / 2 * 2 + 1 by omega, c1, f1, show t % 2 = 1 by omega]; exact ⟨rfl, rfl⟩
theorem holdsA_of {w : World} {b off : Nat} {d : Array (Int × Int)} (h : HoldsK encPt 2 w b off d) : HoldsA w b off d := by
  intro j hj
  have h0 := h (j * 2) (by rw [size_flatK]; omega)
  have h1 := h (j * 2 + 1) (by rw [size_flatK]; omega)
  rw [get_flatK _ _ _ _ (by omega), show j * 2 / 2 = j by omega, show j * 2 % 2 = 0 by omega] at h0
  rw [get_flatK _ _ _ _ (by omega), show (j * 2 + 1) / 2 = j by omega, show (j * 2 + 1) % 2 = 1 by omega] at h1
  exact ⟨h0.1, h1.1, h0.2, h1.2⟩

set_option maxHeartbeats 400000 in
theorem contains_nil (fv : Value) (w : World) : Calls Tryz.prog 17 #[.slice none 0 0, fv] w fun e w' => e = .returned (.bool false) ∧ w' = w := by
  go_enter Tryz.func17, Tryz.ntmps17
  go_wp2
  refine wp_loop_rounds 1 ?_
  rw [rounds_succ]
  go_wp2
  go_ret
  exact ⟨rfl, rfl⟩

theorem contains_any (v : Value) (zs : List (Int × Int)) (w : World) (h : Row w v zs) : Calls Tryz.prog 17 #[v, .func (.func 18) #[] #[]] w fun e w' => e = .returned (.bool (zs.any farP)) ∧ Below w.heap.size w w' := by
  rcases h with ⟨rfl, rfl⟩ | ⟨hz, b, off, c, rfl, hlt, hl, hm, hh⟩
  · exact (contains_nil _ w).mono fun e w' ⟨he, hw⟩ => ⟨he, by rw [hw]; exact Below.refl _ _⟩
  · have eg : ∀ args w, (callFunc 18 args).run Tryz.prog w = .ok (.enter 18 args) w := enters_of Tryz.func18 (by kernel_rfl) rfl
    unfold maxLen at hm
    have hcon := AnyQ.slices_ContainsFunc Tryz.containsCells 2 Tryz.isAgg50 Tryz.sizeOf50 encPt (fun _ => rfl) farP 18 #[] eg b off zs.length c zs w (outside_pred w) (Nat.le_refl _) (by omega) hlt (fun j hj i u hi => by
      obtain ⟨c0, c1⟩ := hh j hj
      generalize zs[j]! = y at hi c0 c1
      match i, hi with
      | 0, hi => simp [encPt] at hi; rw [← hi]; exact c0
      | 1, hi => simp [encPt] at hi; rw [← hi]; exact c1
      | i + 2, hi => simp [encPt] at hi)
    change Calls Tryz.prog 17 _ _ _ at hcon
    rwa [List.take_length] at hcon

theorem clone_any (v : Value) (zs : List (Int × Int)) (w : World) (h : Row w v zs) (hn : zs.length ≤ 4096) : Calls Tryz.prog 19 #[v] w fun e w' => ∃ u, e = .returned u ∧ Below w.heap.size w w' ∧ ORow w' w.heap.size u zs := by
  rcases h with ⟨rfl, rfl⟩ | ⟨hz, b, off, c, rfl, hlt, hl, hm, hh⟩
  · have hcon := AnyE.slices_Clone_nil Tryz.cloneCells 0 0 w
    change Calls Tryz.prog 19 _ _ _ at hcon
    exact hcon.mono fun e w' ⟨he, hw⟩ => ⟨_, he, by rw [hw]; exact Below.refl _ _, Or.inl ⟨rfl, rfl⟩⟩
  · obtain ⟨i0, hi, hz0, hz1, hz2⟩ := info_parts Tryz.info50
    have hcon := AnyE.slices_Clone Tryz.cloneCells i0 (.agg #[.int .i64 0, .int .i64 0]) 2 16 hi hz0 hz1 hz2 rfl (by decide) Tryz.sizeOf50 b off zs.length c (pairCells (fun j => (zs[j]!).1) (fun j => (zs[j]!).2) zs.length) w (pairCells_length _ _ _) (by unfold maxLen; omega) (by omega)
      (fun j u hu => by have := pairCells_at (w := w) (b := b) (off := off) (n := zs.length) (X := fun j => (zs[j]!).1) (Y := fun j => (zs[j]!).2) hh j u hu; rwa [addP] at this) (pairCells_one _ _ _)
    change Calls Tryz.prog 19 _ _ _ at hcon
    refine hcon.mono fun e w' ⟨u, he, hown, hne, hb⟩ => ⟨u, he, hb, ?_⟩
    rcases id hown with ⟨_, ⟨hv, _⟩ | ⟨g, cap, cur, hv, hg, hblk, hcap, hmax, _, _⟩⟩
    · exact absurd hv hne
    · subst hv
      exact Or.inr ⟨hz, g, 0, cap, rfl, hg, (hown.lt g rfl).2, hcap, hmax, holds_of_owns rfl hown⟩

theorem sortWorld_below (w : World) (b off n : Nat) (d : Array (Int × Int)) (os : Array Obj) (hb : b < w.heap.size) : Below b w (sortWorldK encPt 2 w b off n d os) ∧ w.heap.size ≤ (sortWorldK encPt 2 w b off n d os).heap.size := by
  have hsz : w.heap.size ≤ (sortWorldK encPt 2 w b off n d os).heap.size := by
    simp [sortWorldK, putRowK, grow, Sort.ahead, putRow, mapBlock]
  refine ⟨⟨rfl, rfl, rfl, hsz, fun k hk => ?_⟩, hsz⟩
  simp only [sortWorldK, putRowK, grow, Sort.ahead, putRow, mapBlock]
  rw [Array.getElem?_append_left (by simp; omega), Array.getElem?_modify, if_neg (by omega)]

def Rising (zs : List (Int × Int)) : Prop := ∀ i j, i < j → j < zs.length → ¬ ahead zs[j]! zs[i]!

theorem sort_any (v : Value) (base : Nat) (zs : List (Int × Int)) (w : World) (h : ORow w base v zs) (hn : zs.length ≤ 4096) :
    Calls Tryz.prog 20 #[v, .func (.func 21) #[] #[]] w fun e w' => e = .returned (.tuple #[]) ∧ ∃ ys, ys.Perm zs ∧ Rising ys ∧ ORow w' base v ys ∧ Below base w w' := by
  rcases h with ⟨rfl, rfl⟩ | ⟨hz, b, off, c, rfl, hba, hlt, hl, hm, hh⟩
  · have hcon := AnyF.slices_SortFunc_none Tryz.sortCells none 0 (.func (.func 21) #[] #[]) w
    change Calls Tryz.prog 20 _ _ _ at hcon
    exact hcon.mono fun e w' ⟨he, hw⟩ => ⟨he, [], List.Perm.nil, (fun i j _ hj => by simp at hj), Or.inl ⟨rfl, rfl⟩, by rw [hw]; exact Below.refl _ _⟩
  · have eg : ∀ args w, (callFunc 21 args).run Tryz.prog w = .ok (.enter 21 args) w := enters_of Tryz.func21 (by kernel_rfl) rfl
    have hcon := AnyQ.slices_SortFunc Tryz.sortCells 2 Tryz.isAgg50 Tryz.sizeOf50 encPt (fun _ => rfl) encPt_one cmpP swoP 21 #[] b off c zs.toArray w eg (order_lays b off _ w) (holdsK_of hh) hlt (by simp; omega)
    change Calls Tryz.prog 20 _ _ _ at hcon
    rw [List.size_toArray] at hcon
    refine hcon.mono fun e w' ⟨he, d', n, os, hp, hs, hw⟩ => ⟨he, d'.toList, ?_, ?_, ?_, ?_⟩
    · have h1 := hp.2.2
      have hs1 : d'.size = zs.length := by simpa using hp.1
      rw [← hs1, Array.extract_size] at h1
      rw [hs1] at h1
      simpa using h1
    · intro i j hij hj
      have hs1 : d'.size = zs.length := by simpa using hp.1
      have := hs i j (Nat.zero_le _) hij (by simpa [hs1] using hj)
      rw [cmpP_nlt] at this
      rw [toList_get, toList_get]
      exact this
    · have hs1 : d'.size = zs.length := by simpa using hp.1
      have hs2 : d'.toList.length = zs.length := by simpa using hs1
      have hsw := sortWorld_below w b off n d' os hlt
      refine Or.inr ⟨fun e => hz ?_, b, off, c, ?_, hba, ?_, ?_, hm, ?_⟩
      · have : d'.toList.length = 0 := by rw [e]; rfl
        exact List.length_eq_zero_iff.1 (by rw [← hs1]; simpa using this)
      · rw [hs2]
      · rw [hw]; omega
      · rw [hs2]; exact hl
      · rw [hw, Array.toArray_toList]
        refine holdsA_of (holdsK_grow encPt 2 _ os b off d' (by simpa [putRowK, putRow, mapBlock, Sort.ahead] using hlt) ?_)
        exact holdsK_putRowK encPt 2 _ b off zs.toArray d' (holdsK_ahead encPt 2 w n b off _ (holdsK_of hh)) (by rw [hs1]; simp)
    · rw [hw]
      exact (sortWorld_below w b off n d' os hlt).1.mono hba

set_option maxHeartbeats 400000 in
theorem compact_nil (w : World) : Calls Tryz.prog 22 #[.slice none 0 0] w fun e w' => e = .returned (.slice none 0 0) ∧ w' = w := by
  go_enter Tryz.func22, Tryz.ntmps22
  go_wp2
  go_ret
  exact ⟨rfl, rfl⟩

theorem compact_row (v : Value) (base : Nat) (zs : List (Int × Int)) (w : World) (h : ORow w base v zs) (hn : zs.length ≤ 4096) (hr : Rising zs) :
    Calls Tryz.prog 22 #[v] w fun e w' => ∃ u ys, e = .returned u ∧ Tidy ys ∧ (∀ p, p ∈ ys ↔ p ∈ zs) ∧ ORow w' base u ys ∧ Below base w w' := by
  rcases h with ⟨rfl, rfl⟩ | ⟨hz, b, off, c, rfl, hba, hlt, hl, hm, hh⟩
  · exact (compact_nil w).mono fun e w' ⟨he, hw⟩ => ⟨_, [], he, List.Pairwise.nil, fun p => Iff.rfl, Or.inl ⟨rfl, rfl⟩, by rw [hw]; exact Below.refl _ _⟩
  · have hcon := compact_any b off c zs.toArray w hh (by simpa using hn) (by simpa using hl) hm
    rw [List.size_toArray] at hcon
    obtain ⟨ht, hmem⟩ := compact_tidy zs.toArray zs.length (fun i j hij hj => by rw [toArray_get, toArray_get]; exact hr i j hij hj) zs.length (Nat.le_refl _)
    have hmem' : ∀ p, p ∈ compactUpTo zs.toArray zs.length ↔ p ∈ zs := by
      intro p
      rw [hmem p]
      constructor
      · rintro ⟨j, hj, rfl⟩
        rw [toArray_get, getElem!_pos zs j hj]
        exact List.getElem_mem hj
      · intro hp
        obtain ⟨j, hj, e⟩ := List.getElem_of_mem hp
        exact ⟨j, hj, by rw [toArray_get, getElem!_pos zs j hj]; exact e⟩
    refine hcon.mono fun e w' ⟨he, hO, hH⟩ => ⟨_, _, he, ht, hmem', ?_, hO.below hba⟩
    refine Or.inr ⟨fun e => hz ?_, b, off, c, rfl, hba, by rw [hO.size]; exact hlt, ?_, hm, hH⟩
    · cases zs with
      | nil => rfl
      | cons p r => have := (hmem' p).2 (by simp); rw [e] at this; simp at this
    · have : (compactUpTo zs.toArray zs.length).length ≤ zs.length := by
        unfold compactUpTo
        rw [List.length_map]
        exact Nat.le_trans (List.length_filter_le _ _) (by simp)
      omega

def TidyOut (zs : List (Int × Int)) (w : World) (base : Nat) (u : Value) (code : Int) : Prop :=
  (4096 < zs.length ∧ code = 5 ∧ u = .slice none 0 0) ∨ (zs.length ≤ 4096 ∧ zs.any farP = true ∧ code = 3 ∧ u = .slice none 0 0) ∨
  (zs.length ≤ 4096 ∧ zs.any farP = false ∧ code = 0 ∧ ∃ ys, Tidy ys ∧ (∀ p, p ∈ ys ↔ p ∈ zs) ∧ ORow w base u ys)

theorem Row.shape {w : World} {v : Value} {zs : List (Int × Int)} (h : Row w v zs) : ∃ a c, v = .slice a zs.length c ∧ zs.length ≤ maxLen := by
  rcases h with ⟨rfl, rfl⟩ | ⟨_, b, off, c, rfl, _, hl, hm, _⟩
  · exact ⟨none, 0, rfl, Nat.zero_le _⟩
  · exact ⟨_, c, rfl, Nat.le_trans hl hm⟩
theorem ORow.shape {w : World} {base : Nat} {v : Value} {zs : List (Int × Int)} (h : ORow w base v zs) : ∃ a c, v = .slice a zs.length c := by
  obtain ⟨a, c, e, _⟩ := h.read.shape
  exact ⟨a, c, e⟩

set_option maxHeartbeats 400000 in
theorem tidy_any (v : Value) (zs : List (Int × Int)) (w : World) (h : Row w v zs) :
    Calls Tryz.prog 9 #[v] w fun e w' => ∃ u code, e = .returned (.tuple #[u, .int .i64 code]) ∧ Below w.heap.size w w' ∧ TidyOut zs w' w.heap.size u code := by
  obtain ⟨a, c, hv, hmx⟩ := h.shape
  unfold maxLen at hmx
  by_cases hbig : 4096 < zs.length
  · have hd : (4096 : Int) < (zs.length : Int) := by omega
    rw [hv]
    clear h
    go_enter Tryz.func9, Tryz.ntmps9
    go_wp2
    go_ret2
    exact ⟨_, _, rfl, Below.refl _ _, Or.inl ⟨hbig, rfl, rfl⟩⟩
  · have hd : ¬ (4096 : Int) < (zs.length : Int) := by omega
    have hle : zs.length ≤ 4096 := by omega
    have HR : Hid (Row w v zs) := h
    have h1 := contains_any v zs w h
    have H1 := h1
    clear h h1
    rw [hv] at H1 ⊢
    cases hf : zs.any farP
    · rw [hf] at H1
      have HF : Hid (zs.any farP = false) := hf
      have HV : Hid (v = .slice a zs.length c) := hv
      clear hf hv
      have HC := H1
      clear H1
      go_enter Tryz.func9, Tryz.ntmps9
      go_wp2_with fail
      refine HC.mono ?_
      rintro e w1 ⟨rfl, hb1⟩
      go_wp2_with fail
      refine (clone_any _ zs w1 ?_ hle).mono ?_
      · have := HR.out.below hb1
        rwa [HV.out] at this
      rintro e w2 ⟨u, rfl, hb2, hu⟩
      have hb12 : Below w.heap.size w w2 := hb1.trans (hb2.mono hb1.size)
      go_wp2_with fail
      refine (sort_any u w1.heap.size zs w2 hu hle).mono ?_
      rintro e w3 ⟨rfl, ys, hperm, hris, hrow, hb3⟩
      have hb123 : Below w.heap.size w w3 := hb12.trans (hb3.mono hb1.size)
      have hle' : ys.length ≤ 4096 := by rw [hperm.length_eq]; exact hle
      go_wp2_with fail
      refine (compact_row u w1.heap.size ys w3 hrow hle' hris).mono ?_
      rintro e w4 ⟨t, ts, rfl, htidy, hmem, hrow4, hb4⟩
      have hb1234 : Below w.heap.size w w4 := hb123.trans (hb4.mono hb1.size)
      go_wp2_with fail
      go_ret2
      exact ⟨_, _, rfl, hb1234, Or.inr (Or.inr ⟨hle, HF.out, rfl, ts, htidy, fun p => (hmem p).trans hperm.mem_iff, hrow4.mono hb1.size⟩)⟩
    · rw [hf] at H1
      have HF : Hid (zs.any farP = true) := hf
      clear hf
      have HC := H1
      clear H1
      go_enter Tryz.func9, Tryz.ntmps9
      go_wp2_with fail
      refine HC.mono ?_
      rintro e w1 ⟨rfl, hb1⟩
      go_wp2
      go_ret2
      exact ⟨_, _, rfl, hb1, Or.inr (Or.inl ⟨hle, HF.out, rfl, rfl⟩)⟩
end Go.Proofs.YtgipjplifndniaaGreatDoor
