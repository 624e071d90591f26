/- Whole numbers: the low words of a number; bits of just one. -/
import Derived.Test.YtekjcmejnhhpaaaDoorBigLeft
import Derived.Laws.CopyRow
import Derived.Laws.CopyOwn
import Derived.Laws.IdiomCopy
namespace Go.Proofs.YtekjcmejnhhpaaaDoor
open Go.RowKit

theorem Tryd.sizeWord : (Tryd.prog.info? 62).map (·.size) = some 1 := by kernel_rfl
/-- words copied into a row of the call's own -/
theorem copy_words (w : World) (ty : TypeId) (g K N k c b o : Nat) (f : Nat → Value) (hrow : w.rowIs g 62 K f) (hk : k ≤ K) (hsrc : Wds w b o N k) :
    ∃ w', (Builtin.copy_ #[42, 42] ty #[.slice (some ⟨g, 0, none⟩) K K, .slice (some ⟨b, o, none⟩) k c]).run Tryd.prog w = .ok (goInt k) w' ∧ w'.rowIs g 62 K (fun i => if i < k then .int .u32 (wd N i : Nat) else f i) ∧ ∀ B w0, Below B w0 w → B ≤ g → Below B w0 w' := by
  obtain ⟨cur, hg, hsz, hcur⟩ := hrow
  have hlen : ((List.range k).map fun i => Value.int .u32 (wd N i : Nat)).length = k := by simp
  have h := run_copy_row (P := Tryd.prog) w 42 42 ty 62 g 0 K K ⟨b, o, none⟩ k c cur 62 ((List.range k).map fun i => Value.int .u32 (wd N i : Nat)) Tryd.underlying42 Tryd.sizeWord hg (by rw [hlen]; exact (Nat.min_eq_left hk).symm) (fun j v hv => by
    have hj : j < k := by have := (List.getElem?_eq_some_iff.1 hv).1; simpa using this
    have h2 : v = .int .u32 (wd N j : Nat) := by simpa [hj] using hv.symm
    have h1 := hsrc j hj
    rw [h2, ← h1]
    unfold Addr.add
    split
    · rename_i h; rw [h]; rfl
    · rfl) (by rw [hlen, hsz]; omega) (fun v hv => by
    obtain ⟨i, _, rfl⟩ := List.mem_map.1 hv
    rfl)
  rw [hlen] at h
  refine ⟨_, h, ?_, ?_⟩
  · refine ⟨_, setRow_heap _ _ _ _ _ _ hg, ?_, fun i hi => ?_⟩
    · simp; omega
    · show _ = some (if i < k then Value.int .u32 (wd N i : Nat) else f i)
      by_cases h1 : i < k
      · rw [if_pos h1]
        simp [List.getElem?_append, h1]
      · rw [if_neg h1, ← hcur i hi]
        simp [List.getElem?_append, h1]
        congr 1
        omega
  · exact fun B w0 hb hB => below_setRow hb hB _
set_option maxHeartbeats 1000000 in
/-- the low words of a number that is not below 0 -/
theorem low_any (b n K : Nat) (w : World) (h : IsInt b n w) (hK2 : K ≤ 1000) (hpos : ∀ k, n < 4294967296 ^ k → (k ≠ 0 → 4294967296 ^ (k - 1) ≤ n) → k ≤ K) :
    Calls Tryd.prog 40 #[.pointer (some ⟨b, 0, none⟩), .int .i64 K] w fun e w' => ∃ g, e = .returned (.slice (some ⟨g, 0, none⟩) K K) ∧ w.heap.size ≤ g ∧ w'.rowIs g 62 K (fun i => .int .u32 (wd n i : Nat)) ∧ Below w.heap.size w w' := by
  have hmk := run_make_row' (P := Tryd.prog) 42 62 (.int .u32 0) 4 Tryd.underlying42 (by kernel_rfl) rfl .i64 .i64 K (by omega) (by omega) w
  obtain ⟨v, hb, a, k, c, rfl, hk, hc, hk2, hnk, hp, h⟩ := h
  have hkK := hpos k hnk hp
  have hlt : b < w.heap.size := (Array.getElem?_eq_some_iff.1 hb).1
  have hR := World.rowIs_made w (.int .u32 0) K 62
  have hB := (Below.refl w.heap.size w).alloc (Nat.le_refl _) (.cells (madeCells #[.int .u32 0] K) 62)
  have hb1 := (hB.block b hlt).trans hb
  generalize hwM : w.alloc (.cells (madeCells #[.int .u32 0] K) 62) = wM at *
  have c0 : wM.cell? ⟨b, 0, none⟩ = some (.bool false) := by rw [Lib.cell_of_heap hb1]; rfl
  have c1 : wM.cell? ⟨b, 1, none⟩ = some (.slice a k c) := by rw [Lib.cell_of_heap hb1]; rfl
  have hcopy : ∀ ty, ∃ w', (Builtin.copy_ #[42, 42] ty #[.slice (some ⟨w.heap.size, 0, none⟩) K K, .slice a k c]).run Tryd.prog wM = .ok (goInt k) w' ∧ w'.rowIs w.heap.size 62 K (fun i => if i < k then .int .u32 (wd n i : Nat) else .int .u32 0) ∧ ∀ B w0, Below B w0 wM → B ≤ w.heap.size → Below B w0 w' := fun ty => by
    rcases h with h | ⟨bb, o, rfl, _, hlt2, hw⟩
    · subst h
      have h3 := run_copy_none (P := Tryd.prog) wM 42 42 ty 62 (some ⟨w.heap.size, 0, none⟩) a K K 0 c Tryd.underlying42 Tryd.sizeWord (by simp)
      exact ⟨wM, h3, hR.congr fun i hi => by rw [if_neg (by omega)], fun B w0 hb _ => hb⟩
    · exact copy_words wM ty w.heap.size K n k c bb o (fun _ => .int .u32 0) hR hkK fun j hj => (hB.cell (p := ⟨bb, o + j, none⟩) hlt2).trans (hw j hj)
  obtain ⟨w2, hc2, hr2, hb2⟩ := hcopy 3
  have HB2 : Hid (Below w.heap.size w w2) := hb2 _ _ hB (Nat.le_refl _)
  have hlt2 : b < wM.heap.size := Nat.lt_of_lt_of_le hlt hB.size
  have hb12 : w2.heap[b]? = some (.cells #[.bool false, .slice a k c] 44 (0, 0)) := ((hb2 _ _ hB (Nat.le_refl _)).block b hlt).trans hb
  have d0 : w2.cell? ⟨b, 0, none⟩ = some (.bool false) := by rw [Lib.cell_of_heap hb12]; rfl
  have HR2 : Hid (w2.rowIs w.heap.size 62 K (fun i => .int .u32 (wd n i : Nat))) := hr2.congr fun i hi => by
    by_cases h1 : i < k
    · rw [if_pos h1]
    · rw [if_neg h1, wd_none hnk (by omega)]
      rfl
  clear hcopy hr2 hb2 hb hb1 hb12 hR hB h hp hnk hpos
  go_enter Tryd.func40, Tryd.ntmps40
  go_wp2_with fail
  go_ret
  exact ⟨_, rfl, Nat.le_refl _, HR2.out, HB2.out⟩
end Go.Proofs.YtekjcmejnhhpaaaDoor
