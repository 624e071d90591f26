/- What quad's functions refuse: a root that is not the tenant's own, or of a wrong level. -/
import Derived.Test.YthobobgiendcfaaQuQuart
namespace Go.Proofs.Ythobobgiendcfaa.A
open Go.RowKit Go.Maps Go.ChangeMaps Go.WideElems

/-- a reading that looks at nothing -/
def anyR (_ : Value) : Option (DataW Unit × List MemPlace) := some (.lit (.bool true), [])
theorem ins_any (w : World) (b n : Nat) (D : DataW Unit) (i : Int) (v : Value) (h : w.ownsMap Try.prog 3 anyR b n D) (hi : Fits i) (hn : n < 1000) : ∃ w', (Instr.mapUpdate 132 (.map (some b)) (.int .i64 i) v).run Try.prog w = .ok () w' ∧ (∃ D', w'.ownsMap Try.prog 3 anyR b (n + 1) D') ∧ w.mapTurned w' b := by
  obtain ⟨w', h1, h2, h3⟩ := h.store (int_keyed Try.underlying3) Try.underlying132 (show n < maxLen by unfold maxLen; omega) (keyOf_int_mk Try.underlying3 (wf_of_fits hi)) (val := v) (d := .lit (.bool true)) (ps := []) rfl
  exact ⟨w', h1, ⟨_, h2⟩, h3⟩
theorem turned_block {w w' : World} {b k : Nat} (h : w.mapTurned w' b) (hk : k ≠ b) : w'.heap[k]? = w.heap[k]? := by
  obtain ⟨es, c, es', c', hb, rfl⟩ := h
  exact heap_setBlock_other hb _ hk
theorem turned_below {w w' : World} {B b : Nat} (h : w.mapTurned w' b) (hB : B ≤ b) : Below B w w' := by
  have hg := grown_of_turned h
  exact ⟨hg.os, hg.tape, hg.output, hg.size, fun k hk => turned_block h (by omega)⟩

theorem set5 {w : World} {g : Nat} {T : TypeId} {fr : Nat × Nat} {a0 a1 a2 a3 a4 : Value} (h : w.heap[g]? = some (.cells #[a0, a1, a2, a3, a4] T fr)) (b0 b1 b2 b3 b4 : Value) :
    (((((w.setCell ⟨g, 0, none⟩ b0).setCell ⟨g, 1, none⟩ b1).setCell ⟨g, 2, none⟩ b2).setCell ⟨g, 3, none⟩ b3).setCell ⟨g, 4, none⟩ b4).heap[g]? = some (.cells #[b0, b1, b2, b3, b4] T fr) := by
  have h0 : (w.setCell ⟨g, 0, none⟩ b0).heap[g]? = some (.cells #[b0, a1, a2, a3, a4] T fr) := Go.Joins.block_setCell h b0
  have h1 : ((w.setCell ⟨g, 0, none⟩ b0).setCell ⟨g, 1, none⟩ b1).heap[g]? = some (.cells #[b0, b1, a2, a3, a4] T fr) := Go.Joins.block_setCell h0 b1
  have h2 : (((w.setCell ⟨g, 0, none⟩ b0).setCell ⟨g, 1, none⟩ b1).setCell ⟨g, 2, none⟩ b2).heap[g]? = some (.cells #[b0, b1, b2, a3, a4] T fr) := Go.Joins.block_setCell h1 b2
  have h3 : ((((w.setCell ⟨g, 0, none⟩ b0).setCell ⟨g, 1, none⟩ b1).setCell ⟨g, 2, none⟩ b2).setCell ⟨g, 3, none⟩ b3).heap[g]? = some (.cells #[b0, b1, b2, b3, a4] T fr) := Go.Joins.block_setCell h2 b3
  exact Go.Joins.block_setCell h3 b4

set_option maxRecDepth 20000 in
set_option maxHeartbeats 4000000 in
theorem newWalker_any (b t : Nat) (w : World) : Calls Try.prog 85 #[.pointer (some ⟨b, 0, none⟩), .int .i64 t] w fun x w' => ∃ g m : Nat, x = .returned (.agg #[.pointer (some ⟨b, 0, none⟩), .int .i64 t, .int .i64 0, .slice (some ⟨g, 0, none⟩) 1 1, .map (some m)]) ∧ Below w.heap.size w w' := by
  have hmm := @run_makeMap Try.prog
  have hh := fun W => newHand_any b t W
  have hb0 : Below w.heap.size w (w.alloc (.cells #[.pointer none, .int .i64 0, .int .i64 0, .slice none 0 0, .map none] 134)) := (Below.refl _ _).alloc (Nat.le_refl _) _
  have hX : (w.alloc (.cells #[.pointer none, .int .i64 0, .int .i64 0, .slice none 0 0, .map none] 134)).heap[w.heap.size]? = some (.cells #[.pointer none, .int .i64 0, .int .i64 0, .slice none 0 0, .map none] 134 (0, 0)) := heap_alloc_new w _
  have hs0 : (w.alloc (.cells #[.pointer none, .int .i64 0, .int .i64 0, .slice none 0 0, .map none] 134)).heap.size = w.heap.size + 1 := by simp
  go_enter Try.func85, Try.ntmps85
  go_wp2_with fail
  refine (hh _).mono ?_
  rintro e w1 ⟨rfl, hE, hb1⟩
  have hX1 := (hb1.block w.heap.size (by omega)).trans hX
  have hlt1 : w.heap.size < w1.heap.size := (Array.getElem?_eq_some_iff.1 hX1).1
  have h0 := World.ownsMap_made (H := Unit) w1 Try.prog 3 anyR
  obtain ⟨wA, runA, ⟨DA, ownA⟩, tA⟩ := ins_any _ _ _ _ 0 (.agg #[.int .i64 0, .int .i64 0, .int .i64 0, .int .i64 0, .int .i64 0]) h0 ⟨by omega, by omega⟩ (by omega)
  obtain ⟨wB, runB, _, tB⟩ := ins_any _ _ _ _ 1 (.agg #[.int .i64 1, .int .i64 0, .int .i64 0, .int .i64 0, .int .i64 0]) ownA ⟨by omega, by omega⟩ (by omega)
  have bB : Below w.heap.size w wB := by
    have b1 : Below w.heap.size w w1 := hb0.trans (hb1.mono (by omega))
    have b2 : Below w.heap.size w1 (w1.alloc (.map #[] 0)) := (Below.refl _ _).alloc (by omega) _
    exact ((b1.trans b2).trans (turned_below tA (by omega))).trans (turned_below tB (by omega))
  have hXB : wB.heap[w.heap.size]? = some (.cells #[.pointer none, .int .i64 0, .int .i64 0, .slice none 0 0, .map none] 134 (0, 0)) := by
    rw [turned_block tB (by omega), turned_block tA (by omega), push_old hlt1]
    exact hX1
  have k0 : wB.cell? ⟨w.heap.size, 0, none⟩ = some (.pointer none) := Lib.cell_of_heap hXB 0
  have k1 : wB.cell? ⟨w.heap.size, 1, none⟩ = some (.int .i64 0) := Lib.cell_of_heap hXB 1
  have k2 : wB.cell? ⟨w.heap.size, 2, none⟩ = some (.int .i64 0) := Lib.cell_of_heap hXB 2
  have k3 : wB.cell? ⟨w.heap.size, 3, none⟩ = some (.slice none 0 0) := Lib.cell_of_heap hXB 3
  have k4 : wB.cell? ⟨w.heap.size, 4, none⟩ = some (.map none) := Lib.cell_of_heap hXB 4
  have z0 := Lib.frozen_of_heap hXB 0
  have z1 := Lib.frozen_of_heap hXB 1
  have z2 := Lib.frozen_of_heap hXB 2
  have z3 := Lib.frozen_of_heap hXB 3
  have z4 := Lib.frozen_of_heap hXB 4
  clear ownA h0 hX hE hs0
  go_wp2_with fail
  have hR := set5 hXB (.pointer (some ⟨b, 0, none⟩)) (.int .i64 t) (.int .i64 0) (.slice (some ⟨w.heap.size + 1 + 1, 0, none⟩) 1 1) (.map (some w1.heap.size))
  refine bodyPost_ret (v := .agg #[.pointer (some ⟨b, 0, none⟩), .int .i64 t, .int .i64 0, .slice (some ⟨w.heap.size + 1 + 1, 0, none⟩) 1 1, .map (some w1.heap.size)]) ?_ rfl ⟨_, _, rfl, ?_⟩
  · simp [results, Try.results85, go_sem, Lib.cell_of_heap hR]
  · exact ((((bB.setCell (p := ⟨w.heap.size, 0, none⟩) (Nat.le_refl _) _).setCell (p := ⟨w.heap.size, 1, none⟩) (Nat.le_refl _) _).setCell (p := ⟨w.heap.size, 2, none⟩) (Nat.le_refl _) _).setCell (p := ⟨w.heap.size, 3, none⟩) (Nat.le_refl _) _).setCell (p := ⟨w.heap.size, 4, none⟩) (Nat.le_refl _) _

set_option maxRecDepth 20000 in
set_option maxHeartbeats 4000000 in
theorem wrap_refused (b n t : Nat) (root err : Int) (F : Nat → Prop) (A : Ar) (w : World) (hA : ArAt w b F n A) (ht : t < 64) (hm : ∀ x ∈ A.ths, x.mask < 18446744073709551616) (hr : Fits root) (he : levelE 0 (levelF A.ths t root) 1 43 = err) (he0 : err ≠ 0) :
    Calls Try.prog 47 #[.pointer (some ⟨b, 0, none⟩), .int .i64 t, .int .i64 root] w fun x w' => x = .returned (.tuple #[.int .i64 0, .int .i64 err]) ∧ Below w.heap.size w w' := by
  have he' : (err != 0) = true := by simpa using he0
  have hflt := hA.flt
  have hlv := fun W hb v (hh : HandAt W hb b t 0 v) (hW : ArAt W b F n A) (hn : ¬ F hb) => handLevel_any hb b n t 0 root 1 43 v F A W hh hW hn ht hm hr
  simp only [he] at hlv
  clear he hm
  generalize (levelF A.ths t root).getD 0 = lv at *
  go_enter Try.func47, Try.ntmps47
  go_wp2_with fail
  refine (newHand_any b t _).mono ?_
  rintro x w1 ⟨rfl, hE1, hb1⟩
  have hX : (w1.alloc (.cells #[.pointer (some ⟨b, 0, none⟩), .int .i64 t, .int .i64 0, .slice (some ⟨w.heap.size + 1, 0, none⟩) 1 1] 131)).heap[w1.heap.size]? = some (.cells #[.pointer (some ⟨b, 0, none⟩), .int .i64 t, .int .i64 0, .slice (some ⟨w.heap.size + 1, 0, none⟩) 1 1] 131 (0, 0)) := heap_alloc_new w1 _
  have hs1 := hb1.size
  have b2 : Below w.heap.size w (w1.alloc (.cells #[.pointer (some ⟨b, 0, none⟩), .int .i64 t, .int .i64 0, .slice (some ⟨w.heap.size + 1, 0, none⟩) 1 1] 131)) := hb1.alloc hs1 _
  have hh := HandAt.of (l := []) hX
  go_wp2_with fail
  refine (hlv _ _ _ hh (hA.below b2) (fun e => by have := hflt _ e; omega)).mono ?_
  rintro x w3 ⟨rfl, h3, g3⟩
  have c2 := h3.c2
  have b3 : Below w.heap.size w w3 := b2.trans ⟨g3.os, g3.tape, g3.output, g3.size, fun k hk => g3.block k (by have := b2.size; omega) (by simp; omega)⟩
  go_wp2_with fail
  go_quiet (fail)
  go_wp2_with fail
  go_ret2
  exact ⟨rfl, ⟨b3.os, b3.tape, b3.output, b3.size, b3.block⟩⟩

set_option maxRecDepth 20000 in
set_option maxHeartbeats 4000000 in
theorem cells_refused (b n t : Nat) (root err : Int) (F : Nat → Prop) (A : Ar) (w : World) (hA : ArAt w b F n A) (ht : t < 64) (hm : ∀ x ∈ A.ths, x.mask < 18446744073709551616) (hr : Fits root) (he : levelE 0 (levelF A.ths t root) 1 44 = err) (he0 : err ≠ 0) :
    Calls Try.prog 41 #[.pointer (some ⟨b, 0, none⟩), .int .i64 t, .int .i64 root] w fun x w' => x = .returned (.tuple #[.slice none 0 0, .int .i64 err]) ∧ Below w.heap.size w w' := by
  have he' : (err != 0) = true := by simpa using he0
  have hflt := hA.flt
  have hlv := fun W hb v (hh : HandAt W hb b t 0 v) (hW : ArAt W b F n A) (hn : ¬ F hb) => handLevel_any hb b n t 0 root 1 44 v F A W hh hW hn ht hm hr
  simp only [he] at hlv
  clear he hm
  generalize (levelF A.ths t root).getD 0 = lv at *
  go_enter Try.func41, Try.ntmps41
  go_wp2_with fail
  refine (newWalker_any b t _).mono ?_
  rintro x w1 ⟨g, m, rfl, hb1⟩
  have hX : (w1.alloc (.cells #[.pointer (some ⟨b, 0, none⟩), .int .i64 t, .int .i64 0, .slice (some ⟨g, 0, none⟩) 1 1, .map (some m)] 134)).heap[w1.heap.size]? = some (.cells #[.pointer (some ⟨b, 0, none⟩), .int .i64 t, .int .i64 0, .slice (some ⟨g, 0, none⟩) 1 1, .map (some m)] 134 (0, 0)) := heap_alloc_new w1 _
  have hs1 := hb1.size
  have b1 : Below w.heap.size w w1 := hb1
  have hsw := b1.size
  have b2 : Below w.heap.size w (w1.alloc (.cells #[.pointer (some ⟨b, 0, none⟩), .int .i64 t, .int .i64 0, .slice (some ⟨g, 0, none⟩) 1 1, .map (some m)] 134)) := b1.alloc hsw _
  have hh := HandAt.of (l := [.map (some m)]) hX
  go_wp2_with fail
  refine (hlv _ _ _ hh (hA.below b2) (fun e => by have := hflt _ e; omega)).mono ?_
  rintro x w3 ⟨rfl, h3, g3⟩
  have c2 := h3.c2
  have b3 : Below w.heap.size w w3 := b2.trans ⟨g3.os, g3.tape, g3.output, g3.size, fun k hk => g3.block k (by have := b2.size; omega) (by simp; omega)⟩
  go_wp2_with fail
  go_quiet (fail)
  go_wp2_with fail
  go_ret2
  exact ⟨rfl, ⟨b3.os, b3.tape, b3.output, b3.size, b3.block⟩⟩

set_option maxRecDepth 20000 in
set_option maxHeartbeats 4000000 in
theorem count_refused (b n t : Nat) (root err : Int) (F : Nat → Prop) (A : Ar) (w : World) (hA : ArAt w b F n A) (ht : t < 64) (hm : ∀ x ∈ A.ths, x.mask < 18446744073709551616) (hr : Fits root) (he : levelE 0 (levelF A.ths t root) 0 44 = err) (he0 : err ≠ 0) :
    Calls Try.prog 44 #[.pointer (some ⟨b, 0, none⟩), .int .i64 t, .int .i64 root] w fun x w' => x = .returned (.tuple #[.int .i64 0, .int .i64 err]) ∧ Below w.heap.size w w' := by
  have he' : (err != 0) = true := by simpa using he0
  have hflt := hA.flt
  have hlv := fun W hb v (hh : HandAt W hb b t 0 v) (hW : ArAt W b F n A) (hn : ¬ F hb) => handLevel_any hb b n t 0 root 0 44 v F A W hh hW hn ht hm hr
  simp only [he] at hlv
  clear he hm
  generalize (levelF A.ths t root).getD 0 = lv at *
  go_enter Try.func44, Try.ntmps44
  go_wp2_with fail
  refine (newWalker_any b t _).mono ?_
  rintro x w1 ⟨g, m, rfl, hb1⟩
  have hX : (w1.alloc (.cells #[.pointer (some ⟨b, 0, none⟩), .int .i64 t, .int .i64 0, .slice (some ⟨g, 0, none⟩) 1 1, .map (some m)] 134)).heap[w1.heap.size]? = some (.cells #[.pointer (some ⟨b, 0, none⟩), .int .i64 t, .int .i64 0, .slice (some ⟨g, 0, none⟩) 1 1, .map (some m)] 134 (0, 0)) := heap_alloc_new w1 _
  have hs1 := hb1.size
  have b1 : Below w.heap.size w w1 := hb1
  have hsw := b1.size
  have b2 : Below w.heap.size w (w1.alloc (.cells #[.pointer (some ⟨b, 0, none⟩), .int .i64 t, .int .i64 0, .slice (some ⟨g, 0, none⟩) 1 1, .map (some m)] 134)) := b1.alloc hsw _
  have hh := HandAt.of (l := [.map (some m)]) hX
  go_wp2_with fail
  refine (hlv _ _ _ hh (hA.below b2) (fun e => by have := hflt _ e; omega)).mono ?_
  rintro x w3 ⟨rfl, h3, g3⟩
  have c2 := h3.c2
  have b3 : Below w.heap.size w w3 := b2.trans ⟨g3.os, g3.tape, g3.output, g3.size, fun k hk => g3.block k (by have := b2.size; omega) (by simp; omega)⟩
  go_wp2_with fail
  go_quiet (fail)
  go_wp2_with fail
  go_ret2
  exact ⟨rfl, ⟨b3.os, b3.tape, b3.output, b3.size, b3.block⟩⟩

set_option maxRecDepth 20000 in
set_option maxHeartbeats 4000000 in
theorem peel_refused (b n t : Nat) (root err : Int) (F : Nat → Prop) (A : Ar) (w : World) (hA : ArAt w b F n A) (ht : t < 64) (hm : ∀ x ∈ A.ths, x.mask < 18446744073709551616) (hr : Fits root) (he : levelE 0 (levelF A.ths t root) 2 44 = err) (he0 : err ≠ 0) :
    Calls Try.prog 48 #[.pointer (some ⟨b, 0, none⟩), .int .i64 t, .int .i64 root] w fun x w' => x = .returned (.tuple #[.int .i64 0, .int .i64 err]) ∧ Below w.heap.size w w' := by
  have he' : (err != 0) = true := by simpa using he0
  have hflt := hA.flt
  have hlv := fun W hb v (hh : HandAt W hb b t 0 v) (hW : ArAt W b F n A) (hn : ¬ F hb) => handLevel_any hb b n t 0 root 2 44 v F A W hh hW hn ht hm hr
  simp only [he] at hlv
  clear he hm
  generalize (levelF A.ths t root).getD 0 = lv at *
  go_enter Try.func48, Try.ntmps48
  go_wp2_with fail
  refine (newWalker_any b t _).mono ?_
  rintro x w1 ⟨g, m, rfl, hb1⟩
  have hX : (w1.alloc (.cells #[.pointer (some ⟨b, 0, none⟩), .int .i64 t, .int .i64 0, .slice (some ⟨g, 0, none⟩) 1 1, .map (some m)] 134)).heap[w1.heap.size]? = some (.cells #[.pointer (some ⟨b, 0, none⟩), .int .i64 t, .int .i64 0, .slice (some ⟨g, 0, none⟩) 1 1, .map (some m)] 134 (0, 0)) := heap_alloc_new w1 _
  have hs1 := hb1.size
  have b1 : Below w.heap.size w w1 := hb1
  have hsw := b1.size
  have b2 : Below w.heap.size w (w1.alloc (.cells #[.pointer (some ⟨b, 0, none⟩), .int .i64 t, .int .i64 0, .slice (some ⟨g, 0, none⟩) 1 1, .map (some m)] 134)) := b1.alloc hsw _
  have hh := HandAt.of (l := [.map (some m)]) hX
  go_wp2_with fail
  refine (hlv _ _ _ hh (hA.below b2) (fun e => by have := hflt _ e; omega)).mono ?_
  rintro x w3 ⟨rfl, h3, g3⟩
  have c2 := h3.c2
  have b3 : Below w.heap.size w w3 := b2.trans ⟨g3.os, g3.tape, g3.output, g3.size, fun k hk => g3.block k (by have := b2.size; omega) (by simp; omega)⟩
  go_wp2_with fail
  go_quiet (fail)
  go_wp2_with fail
  go_ret2
  exact ⟨rfl, ⟨b3.os, b3.tape, b3.output, b3.size, b3.block⟩⟩

set_option maxRecDepth 20000 in
set_option maxHeartbeats 4000000 in
theorem box_refused (b n t : Nat) (root err : Int) (F : Nat → Prop) (A : Ar) (w : World) (hA : ArAt w b F n A) (ht : t < 64) (hm : ∀ x ∈ A.ths, x.mask < 18446744073709551616) (hr : Fits root) (he : levelE 0 (levelF A.ths t root) 1 44 = err) (he0 : err ≠ 0) :
    Calls Try.prog 45 #[.pointer (some ⟨b, 0, none⟩), .int .i64 t, .int .i64 root] w fun x w' => x = .returned (.tuple #[.agg #[.int .i64 0, .int .i64 0, .int .i64 0, .int .i64 0], .bool false, .int .i64 err]) ∧ Below w.heap.size w w' := by
  have he' : (err != 0) = true := by simpa using he0
  have hflt := hA.flt
  have hlv := fun W hb v (hh : HandAt W hb b t 0 v) (hW : ArAt W b F n A) (hn : ¬ F hb) => handLevel_any hb b n t 0 root 1 44 v F A W hh hW hn ht hm hr
  simp only [he] at hlv
  clear he hm
  generalize (levelF A.ths t root).getD 0 = lv at *
  go_enter Try.func45, Try.ntmps45
  go_wp2_with fail
  have hb0 : Below w.heap.size w (w.alloc (.cells #[.int .i64 0, .int .i64 0, .int .i64 0, .int .i64 0] 81)) := (Below.refl _ _).alloc (Nat.le_refl _) _
  have hX0 : (w.alloc (.cells #[.int .i64 0, .int .i64 0, .int .i64 0, .int .i64 0] 81)).heap[w.heap.size]? = some (.cells #[.int .i64 0, .int .i64 0, .int .i64 0, .int .i64 0] 81 (0, 0)) := heap_alloc_new w _
  refine (newWalker_any b t _).mono ?_
  rintro x w1 ⟨g, m, rfl, hb1⟩
  have hX : (w1.alloc (.cells #[.pointer (some ⟨b, 0, none⟩), .int .i64 t, .int .i64 0, .slice (some ⟨g, 0, none⟩) 1 1, .map (some m)] 134)).heap[w1.heap.size]? = some (.cells #[.pointer (some ⟨b, 0, none⟩), .int .i64 t, .int .i64 0, .slice (some ⟨g, 0, none⟩) 1 1, .map (some m)] 134 (0, 0)) := heap_alloc_new w1 _
  have hs1 := hb1.size
  have b1 : Below w.heap.size w w1 := hb0.trans (hb1.mono hb0.size)
  have hsw := b1.size
  have b2 : Below w.heap.size w (w1.alloc (.cells #[.pointer (some ⟨b, 0, none⟩), .int .i64 t, .int .i64 0, .slice (some ⟨g, 0, none⟩) 1 1, .map (some m)] 134)) := b1.alloc hsw _
  have hh := HandAt.of (l := [.map (some m)]) hX
  go_wp2_with fail
  refine (hlv _ _ _ hh (hA.below b2) (fun e => by have := hflt _ e; omega)).mono ?_
  rintro x w3 ⟨rfl, h3, g3⟩
  have c2 := h3.c2
  have b3 : Below w.heap.size w w3 := b2.trans ⟨g3.os, g3.tape, g3.output, g3.size, fun k hk => g3.block k (by have := b2.size; omega) (by simp; omega)⟩
  go_wp2_with fail
  have hX1 := (hb1.block w.heap.size (Array.getElem?_eq_some_iff.1 hX0).1).trans hX0
  have hl1 : w.heap.size < w1.heap.size := (Array.getElem?_eq_some_iff.1 hX1).1
  have hX3 : w3.heap[w.heap.size]? = some (.cells #[.int .i64 0, .int .i64 0, .int .i64 0, .int .i64 0] 81 (0, 0)) := (g3.block w.heap.size (by simp; omega) (by simp; omega)).trans ((push_old hl1).trans hX1)
  have k0 : w3.cell? ⟨w.heap.size, 0, none⟩ = some (.int .i64 0) := Lib.cell_of_heap hX3 0
  have k1 : w3.cell? ⟨w.heap.size, 1, none⟩ = some (.int .i64 0) := Lib.cell_of_heap hX3 1
  have k2 : w3.cell? ⟨w.heap.size, 2, none⟩ = some (.int .i64 0) := Lib.cell_of_heap hX3 2
  have k3 : w3.cell? ⟨w.heap.size, 3, none⟩ = some (.int .i64 0) := Lib.cell_of_heap hX3 3
  have z0 := Lib.frozen_of_heap hX3 0
  have z1 := Lib.frozen_of_heap hX3 1
  have z2 := Lib.frozen_of_heap hX3 2
  have z3 := Lib.frozen_of_heap hX3 3
  go_region
  all_goals
    go_wp2_with fail
    have hR : ((((w3.setCell ⟨w.heap.size, 0, none⟩ (.int .i64 0)).setCell ⟨w.heap.size, 1, none⟩ (.int .i64 0)).setCell ⟨w.heap.size, 2, none⟩ (.int .i64 0)).setCell ⟨w.heap.size, 3, none⟩ (.int .i64 0)).heap[w.heap.size]? = some (.cells #[.int .i64 0, .int .i64 0, .int .i64 0, .int .i64 0] 81 (0, 0)) := Go.Joins.block_setCell (Go.Joins.block_setCell (Go.Joins.block_setCell (Go.Joins.block_setCell hX3 _) _) _) _
    refine bodyPost_ret (v := .tuple #[.agg #[.int .i64 0, .int .i64 0, .int .i64 0, .int .i64 0], .bool false, .int .i64 err]) ?_ rfl ⟨rfl, ?_⟩
    · simp [results, Try.results45, go_sem, Lib.cell_of_heap hR]
    · exact ((((b3.setCell (p := ⟨w.heap.size, 0, none⟩) (Nat.le_refl _) _).setCell (p := ⟨w.heap.size, 1, none⟩) (Nat.le_refl _) _).setCell (p := ⟨w.heap.size, 2, none⟩) (Nat.le_refl _) _).setCell (p := ⟨w.heap.size, 3, none⟩) (Nat.le_refl _) _).drew

set_option maxRecDepth 20000 in
set_option maxHeartbeats 4000000 in
theorem put_refused (b n t : Nat) (root err : Int) (cx cy : Int) (al : Bool) (F : Nat → Prop) (A : Ar) (w : World) (hA : ArAt w b F n A) (ht : t < 64) (hm : ∀ x ∈ A.ths, x.mask < 18446744073709551616) (hr : Fits root) (he : levelE 0 (levelF A.ths t root) 1 44 = err) (he0 : err ≠ 0) :
    Calls Try.prog 49 #[.pointer (some ⟨b, 0, none⟩), .int .i64 t, .int .i64 root, .agg #[.int .i64 cx, .int .i64 cy], .bool al] w fun x w' => x = .returned (.tuple #[.int .i64 0, .int .i64 err]) ∧ Below w.heap.size w w' := by
  have he' : (err != 0) = true := by simpa using he0
  have hflt := hA.flt
  have hlv := fun W hb v (hh : HandAt W hb b t 0 v) (hW : ArAt W b F n A) (hn : ¬ F hb) => handLevel_any hb b n t 0 root 1 44 v F A W hh hW hn ht hm hr
  simp only [he] at hlv
  clear he hm
  generalize (levelF A.ths t root).getD 0 = lv at *
  go_enter Try.func49, Try.ntmps49
  go_wp2_with fail
  have hb0 : Below w.heap.size w ((w.alloc (.cells #[.int .i64 cx, .int .i64 cy] 87)).alloc (.cells #[.bool al] 4)) := ((Below.refl _ _).alloc (Nat.le_refl _) _).alloc (by simp) _
  have hs0 : ((w.alloc (.cells #[.int .i64 cx, .int .i64 cy] 87)).alloc (.cells #[.bool al] 4)).heap.size = w.heap.size + 2 := by simp
  refine (newHand_any b t _).mono ?_
  rintro x w1 ⟨rfl, hE1, hb1⟩
  rw [hs0] at hE1 hb1 ⊢
  have hX : (w1.alloc (.cells #[.pointer (some ⟨b, 0, none⟩), .int .i64 t, .int .i64 0, .slice (some ⟨w.heap.size + 2 + 1, 0, none⟩) 1 1] 131)).heap[w1.heap.size]? = some (.cells #[.pointer (some ⟨b, 0, none⟩), .int .i64 t, .int .i64 0, .slice (some ⟨w.heap.size + 2 + 1, 0, none⟩) 1 1] 131 (0, 0)) := heap_alloc_new w1 _
  have hs1 := hb1.size
  have b1 : Below w.heap.size w w1 := hb0.trans (hb1.mono (by omega))
  have hsw := b1.size
  have b2 : Below w.heap.size w (w1.alloc (.cells #[.pointer (some ⟨b, 0, none⟩), .int .i64 t, .int .i64 0, .slice (some ⟨w.heap.size + 2 + 1, 0, none⟩) 1 1] 131)) := b1.alloc hsw _
  have hh := HandAt.of (l := []) hX
  clear hs0
  go_wp2_with fail
  refine (hlv _ _ _ hh (hA.below b2) (fun e => by have := hflt _ e; omega)).mono ?_
  rintro x w3 ⟨rfl, h3, g3⟩
  have c2 := h3.c2
  have b3 : Below w.heap.size w w3 := b2.trans ⟨g3.os, g3.tape, g3.output, g3.size, fun k hk => g3.block k (by have := b2.size; omega) (by simp; omega)⟩
  go_wp2_with fail
  go_quiet (fail)
  go_wp2_with fail
  go_ret2
  exact ⟨rfl, ⟨b3.os, b3.tape, b3.output, b3.size, b3.block⟩⟩
end Go.Proofs.Ythobobgiendcfaa.A
