/- Mint that is refused: the program's and the document's. -/
import Derived.Test.YtekjcmejnhhpaaaDoorKyMint
namespace Go.Proofs.YtekjcmejnhhpaaaDoor
open Go.RowKit

set_option maxRecDepth 20000 in
set_option maxHeartbeats 2000000 in
theorem mint_bad (serial : Int) (v : Value) (ks : List Ky) (name : ByteArray) (rights draw : Int) (w : World) (h : HK w v ks) (hc : rights < 1 ∨ 3 < rights ∨ serial < 0 ∨ 2147483647 < serial) :
    Calls Tryd.prog 4 #[.agg #[.int .i64 serial, v], .string name, .int .i64 rights, .int .i64 draw] w fun e w' => e = .returned (.tuple #[.agg #[.int .i64 0, .slice none 0 0], .string ⟨#[]⟩, .int .i64 3]) ∧ Below w.heap.size w w' := by
  obtain ⟨p, cap, rfl, -, -, -, -⟩ := h
  generalize ks.length = n at *
  have t0 := T2.born w serial (.slice p n cap) 24
  have hb0 : Below w.heap.size w (w.alloc (.cells #[.int .i64 serial, .slice p n cap] 24)) := (Below.refl _ _).alloc (Nat.le_refl _) _
  generalize hwA : w.alloc (.cells #[.int .i64 serial, .slice p n cap] 24) = wA at *
  have hsA : wA.heap.size = w.heap.size + 1 := by rw [← hwA]; simp
  have hb1 : Below wA.heap.size wA (wA.alloc (.cells #[.int .i64 0, .slice none 0 0] 24)) := (Below.refl _ _).alloc (Nat.le_refl _) _
  have r0 := T2.born wA 0 (.slice none 0 0) 24
  have t1 := t0.below hb1
  have hb := hb0.trans (hb1.mono hb0.size)
  rw [hsA] at r0
  generalize hwB : wA.alloc (.cells #[.int .i64 0, .slice none 0 0] 24) = w0 at *
  have HB : Hid (Below w.heap.size w w0) := hb
  have HR : Hid (T2 (w.heap.size + 1) 0 (.slice none 0 0) w0) := r0
  have HE : Hid (Below w.heap.size w ((w0.setCell ⟨w.heap.size + 1, 0, none⟩ (.int .i64 0)).setCell ⟨w.heap.size + 1, 1, none⟩ (.slice none 0 0)) ∧ T2 (w.heap.size + 1) 0 (.slice none 0 0) ((w0.setCell ⟨w.heap.size + 1, 0, none⟩ (.int .i64 0)).setCell ⟨w.heap.size + 1, 1, none⟩ (.slice none 0 0))) := ⟨(hb.setCell (p := ⟨w.heap.size + 1, 0, none⟩) (Nat.le_succ _) _).setCell (p := ⟨w.heap.size + 1, 1, none⟩) (Nat.le_succ _) _, r0.both⟩
  obtain ⟨a1, a2, -, -, -⟩ := t1
  obtain ⟨r1, r2, r3, r4, -⟩ := r0
  clear t0 hb0 hb1 hb
  have hcase : rights < 1 ∨ (¬ rights < 1 ∧ 3 < rights) ∨ (¬ rights < 1 ∧ ¬ 3 < rights ∧ serial < 0) ∨ (¬ rights < 1 ∧ ¬ 3 < rights ∧ ¬ serial < 0 ∧ 2147483647 < serial) := by omega
  clear hc
  rcases hcase with q1 | ⟨q1, q2⟩ | ⟨q1, q2, q3⟩ | ⟨q1, q2, q3, q4⟩
  all_goals
    go_enter Tryd.func4, Tryd.ntmps4
    go_wp2_with fail
    obtain ⟨f2, f3⟩ := HE.out
    refine bodyPost_ret (v := .tuple #[.agg #[.int .i64 0, .slice none 0 0], .string ⟨#[]⟩, .int .i64 3]) (by simp [results, Tryd.results4, go_sem, f3.1, f3.2.1]) rfl ⟨rfl, f2⟩
set_option maxRecDepth 20000 in
set_option maxHeartbeats 2000000 in
theorem mint_full (serial : Int) (v : Value) (ks : List Ky) (name : ByteArray) (rights draw : Int) (w : World) (h : HK w v ks) (h0 : 0 ≤ serial) (h1 : serial ≤ 2147483647) (hr0 : 1 ≤ rights) (hr1 : rights ≤ 3) (hl : 32 ≤ ks.length) :
    Calls Tryd.prog 4 #[.agg #[.int .i64 serial, v], .string name, .int .i64 rights, .int .i64 draw] w fun e w' => e = .returned (.tuple #[.agg #[.int .i64 0, .slice none 0 0], .string ⟨#[]⟩, .int .i64 5]) ∧ Below w.heap.size w w' := by
  obtain ⟨p, cap, rfl, -, -, -, -⟩ := h
  generalize ks.length = n at *
  have t0 := T2.born w serial (.slice p n cap) 24
  have hb0 : Below w.heap.size w (w.alloc (.cells #[.int .i64 serial, .slice p n cap] 24)) := (Below.refl _ _).alloc (Nat.le_refl _) _
  generalize hwA : w.alloc (.cells #[.int .i64 serial, .slice p n cap] 24) = wA at *
  have hsA : wA.heap.size = w.heap.size + 1 := by rw [← hwA]; simp
  have hb1 : Below wA.heap.size wA (wA.alloc (.cells #[.int .i64 0, .slice none 0 0] 24)) := (Below.refl _ _).alloc (Nat.le_refl _) _
  have r0 := T2.born wA 0 (.slice none 0 0) 24
  have t1 := t0.below hb1
  have hb := hb0.trans (hb1.mono hb0.size)
  rw [hsA] at r0
  generalize hwB : wA.alloc (.cells #[.int .i64 0, .slice none 0 0] 24) = w0 at *
  have HE : Hid (Below w.heap.size w ((w0.setCell ⟨w.heap.size + 1, 0, none⟩ (.int .i64 0)).setCell ⟨w.heap.size + 1, 1, none⟩ (.slice none 0 0)) ∧ T2 (w.heap.size + 1) 0 (.slice none 0 0) ((w0.setCell ⟨w.heap.size + 1, 0, none⟩ (.int .i64 0)).setCell ⟨w.heap.size + 1, 1, none⟩ (.slice none 0 0))) := ⟨(hb.setCell (p := ⟨w.heap.size + 1, 0, none⟩) (Nat.le_succ _) _).setCell (p := ⟨w.heap.size + 1, 1, none⟩) (Nat.le_succ _) _, r0.both⟩
  obtain ⟨a1, a2, -, -, -⟩ := t1
  obtain ⟨r1, r2, r3, r4, -⟩ := r0
  have q1 : ¬ rights < 1 := by omega
  have q2 : ¬ 3 < rights := by omega
  have q3 : ¬ serial < 0 := by omega
  have q4 : ¬ 2147483647 < serial := by omega
  have q5 : (32 : Int) ≤ (n : Int) := by omega
  clear t0 hb0 hb1 hb h0 h1 hr0 hr1 hl
  go_enter Tryd.func4, Tryd.ntmps4
  go_wp2_with fail
  obtain ⟨f2, f3⟩ := HE.out
  refine bodyPost_ret (v := .tuple #[.agg #[.int .i64 0, .slice none 0 0], .string ⟨#[]⟩, .int .i64 5]) (by simp [results, Tryd.results4, go_sem, f3.1, f3.2.1]) rfl ⟨rfl, f2⟩
set_option maxRecDepth 20000 in
set_option maxHeartbeats 2000000 in
theorem refMint_bad (serial : Int) (v : Value) (ks : List Ky) (name : ByteArray) (rights draw : Int) (w : World) (h : HK w v ks) (hc : rights < 1 ∨ 3 < rights ∨ serial < 0 ∨ 2147483647 < serial) :
    Calls Tryd.prog 6 #[.agg #[.int .i64 serial, v], .string name, .int .i64 rights, .int .i64 draw] w fun e w' => e = .returned (.tuple #[.agg #[.int .i64 0, .slice none 0 0], .string ⟨#[]⟩, .int .i64 3]) ∧ Below w.heap.size w w' := by
  obtain ⟨p, cap, rfl, -, -, -, -⟩ := h
  generalize ks.length = n at *
  have t0 := T2.born w serial (.slice p n cap) 24
  have hb0 : Below w.heap.size w (w.alloc (.cells #[.int .i64 serial, .slice p n cap] 24)) := (Below.refl _ _).alloc (Nat.le_refl _) _
  generalize hwA : w.alloc (.cells #[.int .i64 serial, .slice p n cap] 24) = wA at *
  have hsA : wA.heap.size = w.heap.size + 1 := by rw [← hwA]; simp
  have hb1 : Below wA.heap.size wA (wA.alloc (.cells #[.int .i64 0, .slice none 0 0] 24)) := (Below.refl _ _).alloc (Nat.le_refl _) _
  have r0 := T2.born wA 0 (.slice none 0 0) 24
  have t1 := t0.below hb1
  have hb := hb0.trans (hb1.mono hb0.size)
  rw [hsA] at r0
  generalize hwB : wA.alloc (.cells #[.int .i64 0, .slice none 0 0] 24) = w0 at *
  have HB : Hid (Below w.heap.size w w0) := hb
  have HR : Hid (T2 (w.heap.size + 1) 0 (.slice none 0 0) w0) := r0
  have HE : Hid (Below w.heap.size w ((w0.setCell ⟨w.heap.size + 1, 0, none⟩ (.int .i64 0)).setCell ⟨w.heap.size + 1, 1, none⟩ (.slice none 0 0)) ∧ T2 (w.heap.size + 1) 0 (.slice none 0 0) ((w0.setCell ⟨w.heap.size + 1, 0, none⟩ (.int .i64 0)).setCell ⟨w.heap.size + 1, 1, none⟩ (.slice none 0 0))) := ⟨(hb.setCell (p := ⟨w.heap.size + 1, 0, none⟩) (Nat.le_succ _) _).setCell (p := ⟨w.heap.size + 1, 1, none⟩) (Nat.le_succ _) _, r0.both⟩
  obtain ⟨a1, a2, -, -, -⟩ := t1
  obtain ⟨r1, r2, r3, r4, -⟩ := r0
  clear t0 hb0 hb1 hb
  have hcase : rights < 1 ∨ (¬ rights < 1 ∧ 3 < rights) ∨ (¬ rights < 1 ∧ ¬ 3 < rights ∧ serial < 0) ∨ (¬ rights < 1 ∧ ¬ 3 < rights ∧ ¬ serial < 0 ∧ 2147483647 < serial) := by omega
  clear hc
  rcases hcase with q1 | ⟨q1, q2⟩ | ⟨q1, q2, q3⟩ | ⟨q1, q2, q3, q4⟩
  all_goals
    go_enter Tryd.func6, Tryd.ntmps6
    go_wp2_with fail
    obtain ⟨f2, f3⟩ := HE.out
    refine bodyPost_ret (v := .tuple #[.agg #[.int .i64 0, .slice none 0 0], .string ⟨#[]⟩, .int .i64 3]) (by simp [results, Tryd.results6, go_sem, f3.1, f3.2.1]) rfl ⟨rfl, f2⟩
set_option maxRecDepth 20000 in
set_option maxHeartbeats 2000000 in
theorem refMint_full (serial : Int) (v : Value) (ks : List Ky) (name : ByteArray) (rights draw : Int) (w : World) (h : HK w v ks) (h0 : 0 ≤ serial) (h1 : serial ≤ 2147483647) (hr0 : 1 ≤ rights) (hr1 : rights ≤ 3) (hl : 32 ≤ ks.length) :
    Calls Tryd.prog 6 #[.agg #[.int .i64 serial, v], .string name, .int .i64 rights, .int .i64 draw] w fun e w' => e = .returned (.tuple #[.agg #[.int .i64 0, .slice none 0 0], .string ⟨#[]⟩, .int .i64 5]) ∧ Below w.heap.size w w' := by
  obtain ⟨p, cap, rfl, -, -, -, -⟩ := h
  generalize ks.length = n at *
  have t0 := T2.born w serial (.slice p n cap) 24
  have hb0 : Below w.heap.size w (w.alloc (.cells #[.int .i64 serial, .slice p n cap] 24)) := (Below.refl _ _).alloc (Nat.le_refl _) _
  generalize hwA : w.alloc (.cells #[.int .i64 serial, .slice p n cap] 24) = wA at *
  have hsA : wA.heap.size = w.heap.size + 1 := by rw [← hwA]; simp
  have hb1 : Below wA.heap.size wA (wA.alloc (.cells #[.int .i64 0, .slice none 0 0] 24)) := (Below.refl _ _).alloc (Nat.le_refl _) _
  have r0 := T2.born wA 0 (.slice none 0 0) 24
  have t1 := t0.below hb1
  have hb := hb0.trans (hb1.mono hb0.size)
  rw [hsA] at r0
  generalize hwB : wA.alloc (.cells #[.int .i64 0, .slice none 0 0] 24) = w0 at *
  have HE : Hid (Below w.heap.size w ((w0.setCell ⟨w.heap.size + 1, 0, none⟩ (.int .i64 0)).setCell ⟨w.heap.size + 1, 1, none⟩ (.slice none 0 0)) ∧ T2 (w.heap.size + 1) 0 (.slice none 0 0) ((w0.setCell ⟨w.heap.size + 1, 0, none⟩ (.int .i64 0)).setCell ⟨w.heap.size + 1, 1, none⟩ (.slice none 0 0))) := ⟨(hb.setCell (p := ⟨w.heap.size + 1, 0, none⟩) (Nat.le_succ _) _).setCell (p := ⟨w.heap.size + 1, 1, none⟩) (Nat.le_succ _) _, r0.both⟩
  obtain ⟨a1, a2, -, -, -⟩ := t1
  obtain ⟨r1, r2, r3, r4, -⟩ := r0
  have q1 : ¬ rights < 1 := by omega
  have q2 : ¬ 3 < rights := by omega
  have q3 : ¬ serial < 0 := by omega
  have q4 : ¬ 2147483647 < serial := by omega
  have q5 : (32 : Int) ≤ (n : Int) := by omega
  clear t0 hb0 hb1 hb h0 h1 hr0 hr1 hl
  go_enter Tryd.func6, Tryd.ntmps6
  go_wp2_with fail
  obtain ⟨f2, f3⟩ := HE.out
  refine bodyPost_ret (v := .tuple #[.agg #[.int .i64 0, .slice none 0 0], .string ⟨#[]⟩, .int .i64 5]) (by simp [results, Tryd.results6, go_sem, f3.1, f3.2.1]) rfl ⟨rfl, f2⟩
end Go.Proofs.YtekjcmejnhhpaaaDoor
