/- What a request's verb asks. -/
import Derived.Test.YtgipjplifndniaaGreatDoorHaAt
namespace Go.Proofs.YtgipjplifndniaaGreatDoor.U
open Go.RowKit Go.Maps Go.Proofs.YtgipjplifndniaaGreatDoor.L Go.Proofs.YtgipjplifndniaaGreatDoor.A Go.Proofs.YtgipjplifndniaaGreatDoor.K

variable {w w1 w2 : World} {o o1 o2 : Nat → Nat} {hb b : Nat}
set_option maxRecDepth 20000 in
set_option maxHeartbeats 4000000 in
theorem answer_new {Z : Array Value → Int → Ar → (Nat → Nat) → World → Prop} (hZ : Stable Z) (name other : ByteArray) (born live n : Int) (v : Value)
    (HC : ∀ W oo, Ch (fun l => l = 7) o w oo W → Calls Tryz.prog 27 #[.pointer (some ⟨hb, 0, none⟩), .string name, .agg #[.int .i64 born, .int .i64 live], .func (.func 28) #[.pointer (some ⟨hb, 0, none⟩)] #[]] W fun r w' => Leaves b oo W Z r w') :
    Calls Tryz.prog 15 #[.pointer (some ⟨hb, 0, none⟩), reqV 1 name other born live n v] w fun r w' => Leaves b o w Z r w' := by
  have b1 : Below w.heap.size w (w.alloc (.cells #[.int .i64 1, .string name, .string other, .int .i64 born, .int .i64 live, .int .i64 n, v] 38)) := (Below.refl _ _).alloc (Nat.le_refl _) _
  have b2 : Below w.heap.size w ((w.alloc (.cells #[.int .i64 1, .string name, .string other, .int .i64 born, .int .i64 live, .int .i64 n, v] 38)).alloc (.cells #[.int .i64 0, .int .i64 0, .int .i64 0, .int .i64 0, .int .i64 0, .int .i64 0, .int .i64 0, .int .i64 0, .string ⟨#[]⟩, .slice none 0 0] 35)) := b1.alloc (by simp) _
  have r1 : RqB (w.alloc (.cells #[.int .i64 1, .string name, .string other, .int .i64 born, .int .i64 live, .int .i64 n, v] 38)) w.heap.size #[.int .i64 1, .string name, .string other, .int .i64 born, .int .i64 live, .int .i64 n, v] := Go.Deep.blk_alloc_new _ _
  have r2 : RqB ((w.alloc (.cells #[.int .i64 1, .string name, .string other, .int .i64 born, .int .i64 live, .int .i64 n, v] 38)).alloc (.cells #[.int .i64 0, .int .i64 0, .int .i64 0, .int .i64 0, .int .i64 0, .int .i64 0, .int .i64 0, .int .i64 0, .string ⟨#[]⟩, .slice none 0 0] 35)) w.heap.size #[.int .i64 1, .string name, .string other, .int .i64 born, .int .i64 live, .int .i64 n, v] := (Below.heap_alloc _ _ _ (by simp)).trans r1
  have hs1 : (w.alloc (.cells #[.int .i64 1, .string name, .string other, .int .i64 born, .int .i64 live, .int .i64 n, v] 38)).heap.size = w.heap.size + 1 := by simp
  have a2 := noAn_born (w.alloc (.cells #[.int .i64 1, .string name, .string other, .int .i64 born, .int .i64 live, .int .i64 n, v] 38))
  rw [hs1] at a2
  unfold noAn at a2
  have HX : Hid (w.heap.size + 1 < ((w.alloc (.cells #[.int .i64 1, .string name, .string other, .int .i64 born, .int .i64 live, .int .i64 n, v] 38)).alloc (.cells #[.int .i64 0, .int .i64 0, .int .i64 0, .int .i64 0, .int .i64 0, .int .i64 0, .int .i64 0, .int .i64 0, .string ⟨#[]⟩, .slice none 0 0] 35)).heap.size ∧ AnB ((w.alloc (.cells #[.int .i64 1, .string name, .string other, .int .i64 born, .int .i64 live, .int .i64 n, v] 38)).alloc (.cells #[.int .i64 0, .int .i64 0, .int .i64 0, .int .i64 0, .int .i64 0, .int .i64 0, .int .i64 0, .int .i64 0, .string ⟨#[]⟩, .slice none 0 0] 35)) (w.heap.size + 1) #[.int .i64 0, .int .i64 0, .int .i64 0, .int .i64 0, .int .i64 0, .int .i64 0, .int .i64 0, .int .i64 0, .string ⟨#[]⟩, .slice none 0 0] ∧ Below w.heap.size w ((w.alloc (.cells #[.int .i64 1, .string name, .string other, .int .i64 born, .int .i64 live, .int .i64 n, v] 38)).alloc (.cells #[.int .i64 0, .int .i64 0, .int .i64 0, .int .i64 0, .int .i64 0, .int .i64 0, .int .i64 0, .int .i64 0, .string ⟨#[]⟩, .slice none 0 0] 35))) := ⟨by show w.heap.size + 1 < _; simp, a2, b2⟩
  have HCC := HC _ _ (ch_seven b2)
  have HZS : Hid (Stable Z) := hZ
  unfold reqV
  clear hs1 r1 b1 HC hZ a2 b2
  go_enter Tryz.func15, Tryz.ntmps15
  go_wp2_with fail
  generalize ((w.alloc (.cells #[.int .i64 1, .string name, .string other, .int .i64 born, .int .i64 live, .int .i64 n, v] 38)).alloc (.cells #[.int .i64 0, .int .i64 0, .int .i64 0, .int .i64 0, .int .i64 0, .int .i64 0, .int .i64 0, .int .i64 0, .string ⟨#[]⟩, .slice none 0 0] 35)) = wA at *
  obtain ⟨k0, k1, k2, k3, k4, k5, k6⟩ := r2.cells
  clear r2
  go_wp2_with (go_at_call 27; refine HCC.mono ?_; rintro r w4 ⟨⟨i0, i1, i2, i3, i4, i5, i6, i7, key, sp, sn, sc, e, A3, o3, rfl, hA3, hC3, hZ3⟩⟩; have HF : Hid (ArL w4 o3 b A3 ∧ Ch (fun l => l = 1 ∨ l = 5) o w o3 w4 ∧ Z #[.int .i64 i0, .int .i64 i1, .int .i64 i2, .int .i64 i3, .int .i64 i4, .int .i64 i5, .int .i64 i6, .int .i64 i7, .string key, .slice sp sn sc] e A3 o3 w4 ∧ AnB w4 (w.heap.size + 1) #[.int .i64 0, .int .i64 0, .int .i64 0, .int .i64 0, .int .i64 0, .int .i64 0, .int .i64 0, .int .i64 0, .string ⟨#[]⟩, .slice none 0 0] ∧ o3 (w.heap.size + 1) = 7) := ⟨hA3, (Ch.ofBelow HX.out.2.2 7).trans hC3, hZ3, (hC3.block _ HX.out.1 (by rw [ext_new (Nat.le_succ _)]; decide)).trans HX.out.2.1, (hC3.lab _ HX.out.1).trans (ext_new (Nat.le_succ _))⟩; obtain ⟨c0, c1, c2, c3, c4, c5, c6, c7, c8, c9, f0, f1, f2, f3, f4, f5, f6, f7, f8, f9⟩ := HF.out.2.2.2.1.cells; clear hA3 hC3 hZ3)
  obtain ⟨d0, d1, d2, d3, d4, d5, d6, d7, d8, d9, -⟩ := (HF.out.2.2.2.1.put (a0 := .int .i64 i0) (a1 := .int .i64 i1) (a2 := .int .i64 i2) (a3 := .int .i64 i3) (a4 := .int .i64 i4) (a5 := .int .i64 i5) (a6 := .int .i64 i6) (a7 := .int .i64 i7) (a8 := .string key) (a9 := .slice sp sn sc)).cells
  unfold putAn at d0  d1  d2  d3  d4  d5  d6  d7  d8  d9
  have c2 := Ch.an7 HF.out.2.2.2.2 (w := w4) (a0 := .int .i64 i0) (a1 := .int .i64 i1) (a2 := .int .i64 i2) (a3 := .int .i64 i3) (a4 := .int .i64 i4) (a5 := .int .i64 i5) (a6 := .int .i64 i6) (a7 := .int .i64 i7) (a8 := .string key) (a9 := .slice sp sn sc)
  refine bodyPost_ret (v := .tuple #[.agg #[.int .i64 i0, .int .i64 i1, .int .i64 i2, .int .i64 i3, .int .i64 i4, .int .i64 i5, .int .i64 i6, .int .i64 i7, .string key, .slice sp sn sc], .int .i64 e]) ?_ rfl ⟨⟨i0, i1, i2, i3, i4, i5, i6, i7, key, sp, sn, sc, e, A3, _, rfl, HF.out.1.ch c2 (by decide), Ch.an HF.out.2.1 (Nat.le_succ _), HZS.out _ _ _ _ _ _ _ HF.out.2.2.1 c2⟩⟩
  simp [results, Tryz.results15, go_sem, d0, d1, d2, d3, d4, d5, d6, d7, d8, d9]
set_option maxRecDepth 20000 in
set_option maxHeartbeats 4000000 in
theorem answer_set {Z : Array Value → Int → Ar → (Nat → Nat) → World → Prop} (hZ : Stable Z) (name other : ByteArray) (born live n : Int) (v : Value)
    (HC : ∀ W oo, Ch (fun l => l = 7) o w oo W → Calls Tryz.prog 29 #[.pointer (some ⟨hb, 0, none⟩), reqV 2 name other born live n v, .int .i64 2, .func (.func 32) #[.pointer (some ⟨hb, 0, none⟩)] #[]] W fun r w' => Leaves b oo W Z r w') :
    Calls Tryz.prog 15 #[.pointer (some ⟨hb, 0, none⟩), reqV 2 name other born live n v] w fun r w' => Leaves b o w Z r w' := by
  have b1 : Below w.heap.size w (w.alloc (.cells #[.int .i64 2, .string name, .string other, .int .i64 born, .int .i64 live, .int .i64 n, v] 38)) := (Below.refl _ _).alloc (Nat.le_refl _) _
  have b2 : Below w.heap.size w ((w.alloc (.cells #[.int .i64 2, .string name, .string other, .int .i64 born, .int .i64 live, .int .i64 n, v] 38)).alloc (.cells #[.int .i64 0, .int .i64 0, .int .i64 0, .int .i64 0, .int .i64 0, .int .i64 0, .int .i64 0, .int .i64 0, .string ⟨#[]⟩, .slice none 0 0] 35)) := b1.alloc (by simp) _
  have r1 : RqB (w.alloc (.cells #[.int .i64 2, .string name, .string other, .int .i64 born, .int .i64 live, .int .i64 n, v] 38)) w.heap.size #[.int .i64 2, .string name, .string other, .int .i64 born, .int .i64 live, .int .i64 n, v] := Go.Deep.blk_alloc_new _ _
  have r2 : RqB ((w.alloc (.cells #[.int .i64 2, .string name, .string other, .int .i64 born, .int .i64 live, .int .i64 n, v] 38)).alloc (.cells #[.int .i64 0, .int .i64 0, .int .i64 0, .int .i64 0, .int .i64 0, .int .i64 0, .int .i64 0, .int .i64 0, .string ⟨#[]⟩, .slice none 0 0] 35)) w.heap.size #[.int .i64 2, .string name, .string other, .int .i64 born, .int .i64 live, .int .i64 n, v] := (Below.heap_alloc _ _ _ (by simp)).trans r1
  have hs1 : (w.alloc (.cells #[.int .i64 2, .string name, .string other, .int .i64 born, .int .i64 live, .int .i64 n, v] 38)).heap.size = w.heap.size + 1 := by simp
  have a2 := noAn_born (w.alloc (.cells #[.int .i64 2, .string name, .string other, .int .i64 born, .int .i64 live, .int .i64 n, v] 38))
  rw [hs1] at a2
  unfold noAn at a2
  have HX : Hid (w.heap.size + 1 < ((w.alloc (.cells #[.int .i64 2, .string name, .string other, .int .i64 born, .int .i64 live, .int .i64 n, v] 38)).alloc (.cells #[.int .i64 0, .int .i64 0, .int .i64 0, .int .i64 0, .int .i64 0, .int .i64 0, .int .i64 0, .int .i64 0, .string ⟨#[]⟩, .slice none 0 0] 35)).heap.size ∧ AnB ((w.alloc (.cells #[.int .i64 2, .string name, .string other, .int .i64 born, .int .i64 live, .int .i64 n, v] 38)).alloc (.cells #[.int .i64 0, .int .i64 0, .int .i64 0, .int .i64 0, .int .i64 0, .int .i64 0, .int .i64 0, .int .i64 0, .string ⟨#[]⟩, .slice none 0 0] 35)) (w.heap.size + 1) #[.int .i64 0, .int .i64 0, .int .i64 0, .int .i64 0, .int .i64 0, .int .i64 0, .int .i64 0, .int .i64 0, .string ⟨#[]⟩, .slice none 0 0] ∧ Below w.heap.size w ((w.alloc (.cells #[.int .i64 2, .string name, .string other, .int .i64 born, .int .i64 live, .int .i64 n, v] 38)).alloc (.cells #[.int .i64 0, .int .i64 0, .int .i64 0, .int .i64 0, .int .i64 0, .int .i64 0, .int .i64 0, .int .i64 0, .string ⟨#[]⟩, .slice none 0 0] 35))) := ⟨by show w.heap.size + 1 < _; simp, a2, b2⟩
  have HCC := HC _ _ (ch_seven b2)
  have HZS : Hid (Stable Z) := hZ
  unfold reqV at HCC ⊢
  clear hs1 r1 b1 HC hZ a2 b2
  go_enter Tryz.func15, Tryz.ntmps15
  go_wp2_with fail
  generalize ((w.alloc (.cells #[.int .i64 2, .string name, .string other, .int .i64 born, .int .i64 live, .int .i64 n, v] 38)).alloc (.cells #[.int .i64 0, .int .i64 0, .int .i64 0, .int .i64 0, .int .i64 0, .int .i64 0, .int .i64 0, .int .i64 0, .string ⟨#[]⟩, .slice none 0 0] 35)) = wA at *
  obtain ⟨k0, k1, k2, k3, k4, k5, k6⟩ := r2.cells
  clear r2
  go_wp2_with (go_at_call 29; refine HCC.mono ?_; rintro r w4 ⟨⟨i0, i1, i2, i3, i4, i5, i6, i7, key, sp, sn, sc, e, A3, o3, rfl, hA3, hC3, hZ3⟩⟩; have HF : Hid (ArL w4 o3 b A3 ∧ Ch (fun l => l = 1 ∨ l = 5) o w o3 w4 ∧ Z #[.int .i64 i0, .int .i64 i1, .int .i64 i2, .int .i64 i3, .int .i64 i4, .int .i64 i5, .int .i64 i6, .int .i64 i7, .string key, .slice sp sn sc] e A3 o3 w4 ∧ AnB w4 (w.heap.size + 1) #[.int .i64 0, .int .i64 0, .int .i64 0, .int .i64 0, .int .i64 0, .int .i64 0, .int .i64 0, .int .i64 0, .string ⟨#[]⟩, .slice none 0 0] ∧ o3 (w.heap.size + 1) = 7) := ⟨hA3, (Ch.ofBelow HX.out.2.2 7).trans hC3, hZ3, (hC3.block _ HX.out.1 (by rw [ext_new (Nat.le_succ _)]; decide)).trans HX.out.2.1, (hC3.lab _ HX.out.1).trans (ext_new (Nat.le_succ _))⟩; obtain ⟨c0, c1, c2, c3, c4, c5, c6, c7, c8, c9, f0, f1, f2, f3, f4, f5, f6, f7, f8, f9⟩ := HF.out.2.2.2.1.cells; clear hA3 hC3 hZ3)
  obtain ⟨d0, d1, d2, d3, d4, d5, d6, d7, d8, d9, -⟩ := (HF.out.2.2.2.1.put (a0 := .int .i64 i0) (a1 := .int .i64 i1) (a2 := .int .i64 i2) (a3 := .int .i64 i3) (a4 := .int .i64 i4) (a5 := .int .i64 i5) (a6 := .int .i64 i6) (a7 := .int .i64 i7) (a8 := .string key) (a9 := .slice sp sn sc)).cells
  unfold putAn at d0  d1  d2  d3  d4  d5  d6  d7  d8  d9
  have c2 := Ch.an7 HF.out.2.2.2.2 (w := w4) (a0 := .int .i64 i0) (a1 := .int .i64 i1) (a2 := .int .i64 i2) (a3 := .int .i64 i3) (a4 := .int .i64 i4) (a5 := .int .i64 i5) (a6 := .int .i64 i6) (a7 := .int .i64 i7) (a8 := .string key) (a9 := .slice sp sn sc)
  refine bodyPost_ret (v := .tuple #[.agg #[.int .i64 i0, .int .i64 i1, .int .i64 i2, .int .i64 i3, .int .i64 i4, .int .i64 i5, .int .i64 i6, .int .i64 i7, .string key, .slice sp sn sc], .int .i64 e]) ?_ rfl ⟨⟨i0, i1, i2, i3, i4, i5, i6, i7, key, sp, sn, sc, e, A3, _, rfl, HF.out.1.ch c2 (by decide), Ch.an HF.out.2.1 (Nat.le_succ _), HZS.out _ _ _ _ _ _ _ HF.out.2.2.1 c2⟩⟩
  simp [results, Tryz.results15, go_sem, d0, d1, d2, d3, d4, d5, d6, d7, d8, d9]
set_option maxRecDepth 20000 in
set_option maxHeartbeats 4000000 in
theorem answer_get {Z : Array Value → Int → Ar → (Nat → Nat) → World → Prop} (hZ : Stable Z) (name other : ByteArray) (born live n : Int) (v : Value)
    (HC : ∀ W oo, Ch (fun l => l = 7) o w oo W → Calls Tryz.prog 29 #[.pointer (some ⟨hb, 0, none⟩), reqV 3 name other born live n v, .int .i64 1, .func (.func 34) #[.pointer (some ⟨hb, 0, none⟩)] #[]] W fun r w' => Leaves b oo W Z r w') :
    Calls Tryz.prog 15 #[.pointer (some ⟨hb, 0, none⟩), reqV 3 name other born live n v] w fun r w' => Leaves b o w Z r w' := by
  have b1 : Below w.heap.size w (w.alloc (.cells #[.int .i64 3, .string name, .string other, .int .i64 born, .int .i64 live, .int .i64 n, v] 38)) := (Below.refl _ _).alloc (Nat.le_refl _) _
  have b2 : Below w.heap.size w ((w.alloc (.cells #[.int .i64 3, .string name, .string other, .int .i64 born, .int .i64 live, .int .i64 n, v] 38)).alloc (.cells #[.int .i64 0, .int .i64 0, .int .i64 0, .int .i64 0, .int .i64 0, .int .i64 0, .int .i64 0, .int .i64 0, .string ⟨#[]⟩, .slice none 0 0] 35)) := b1.alloc (by simp) _
  have r1 : RqB (w.alloc (.cells #[.int .i64 3, .string name, .string other, .int .i64 born, .int .i64 live, .int .i64 n, v] 38)) w.heap.size #[.int .i64 3, .string name, .string other, .int .i64 born, .int .i64 live, .int .i64 n, v] := Go.Deep.blk_alloc_new _ _
  have r2 : RqB ((w.alloc (.cells #[.int .i64 3, .string name, .string other, .int .i64 born, .int .i64 live, .int .i64 n, v] 38)).alloc (.cells #[.int .i64 0, .int .i64 0, .int .i64 0, .int .i64 0, .int .i64 0, .int .i64 0, .int .i64 0, .int .i64 0, .string ⟨#[]⟩, .slice none 0 0] 35)) w.heap.size #[.int .i64 3, .string name, .string other, .int .i64 born, .int .i64 live, .int .i64 n, v] := (Below.heap_alloc _ _ _ (by simp)).trans r1
  have hs1 : (w.alloc (.cells #[.int .i64 3, .string name, .string other, .int .i64 born, .int .i64 live, .int .i64 n, v] 38)).heap.size = w.heap.size + 1 := by simp
  have a2 := noAn_born (w.alloc (.cells #[.int .i64 3, .string name, .string other, .int .i64 born, .int .i64 live, .int .i64 n, v] 38))
  rw [hs1] at a2
  unfold noAn at a2
  have HX : Hid (w.heap.size + 1 < ((w.alloc (.cells #[.int .i64 3, .string name, .string other, .int .i64 born, .int .i64 live, .int .i64 n, v] 38)).alloc (.cells #[.int .i64 0, .int .i64 0, .int .i64 0, .int .i64 0, .int .i64 0, .int .i64 0, .int .i64 0, .int .i64 0, .string ⟨#[]⟩, .slice none 0 0] 35)).heap.size ∧ AnB ((w.alloc (.cells #[.int .i64 3, .string name, .string other, .int .i64 born, .int .i64 live, .int .i64 n, v] 38)).alloc (.cells #[.int .i64 0, .int .i64 0, .int .i64 0, .int .i64 0, .int .i64 0, .int .i64 0, .int .i64 0, .int .i64 0, .string ⟨#[]⟩, .slice none 0 0] 35)) (w.heap.size + 1) #[.int .i64 0, .int .i64 0, .int .i64 0, .int .i64 0, .int .i64 0, .int .i64 0, .int .i64 0, .int .i64 0, .string ⟨#[]⟩, .slice none 0 0] ∧ Below w.heap.size w ((w.alloc (.cells #[.int .i64 3, .string name, .string other, .int .i64 born, .int .i64 live, .int .i64 n, v] 38)).alloc (.cells #[.int .i64 0, .int .i64 0, .int .i64 0, .int .i64 0, .int .i64 0, .int .i64 0, .int .i64 0, .int .i64 0, .string ⟨#[]⟩, .slice none 0 0] 35))) := ⟨by show w.heap.size + 1 < _; simp, a2, b2⟩
  have HCC := HC _ _ (ch_seven b2)
  have HZS : Hid (Stable Z) := hZ
  unfold reqV at HCC ⊢
  clear hs1 r1 b1 HC hZ a2 b2
  go_enter Tryz.func15, Tryz.ntmps15
  go_wp2_with fail
  generalize ((w.alloc (.cells #[.int .i64 3, .string name, .string other, .int .i64 born, .int .i64 live, .int .i64 n, v] 38)).alloc (.cells #[.int .i64 0, .int .i64 0, .int .i64 0, .int .i64 0, .int .i64 0, .int .i64 0, .int .i64 0, .int .i64 0, .string ⟨#[]⟩, .slice none 0 0] 35)) = wA at *
  obtain ⟨k0, k1, k2, k3, k4, k5, k6⟩ := r2.cells
  clear r2
  go_wp2_with (go_at_call 29; refine HCC.mono ?_; rintro r w4 ⟨⟨i0, i1, i2, i3, i4, i5, i6, i7, key, sp, sn, sc, e, A3, o3, rfl, hA3, hC3, hZ3⟩⟩; have HF : Hid (ArL w4 o3 b A3 ∧ Ch (fun l => l = 1 ∨ l = 5) o w o3 w4 ∧ Z #[.int .i64 i0, .int .i64 i1, .int .i64 i2, .int .i64 i3, .int .i64 i4, .int .i64 i5, .int .i64 i6, .int .i64 i7, .string key, .slice sp sn sc] e A3 o3 w4 ∧ AnB w4 (w.heap.size + 1) #[.int .i64 0, .int .i64 0, .int .i64 0, .int .i64 0, .int .i64 0, .int .i64 0, .int .i64 0, .int .i64 0, .string ⟨#[]⟩, .slice none 0 0] ∧ o3 (w.heap.size + 1) = 7) := ⟨hA3, (Ch.ofBelow HX.out.2.2 7).trans hC3, hZ3, (hC3.block _ HX.out.1 (by rw [ext_new (Nat.le_succ _)]; decide)).trans HX.out.2.1, (hC3.lab _ HX.out.1).trans (ext_new (Nat.le_succ _))⟩; obtain ⟨c0, c1, c2, c3, c4, c5, c6, c7, c8, c9, f0, f1, f2, f3, f4, f5, f6, f7, f8, f9⟩ := HF.out.2.2.2.1.cells; clear hA3 hC3 hZ3)
  obtain ⟨d0, d1, d2, d3, d4, d5, d6, d7, d8, d9, -⟩ := (HF.out.2.2.2.1.put (a0 := .int .i64 i0) (a1 := .int .i64 i1) (a2 := .int .i64 i2) (a3 := .int .i64 i3) (a4 := .int .i64 i4) (a5 := .int .i64 i5) (a6 := .int .i64 i6) (a7 := .int .i64 i7) (a8 := .string key) (a9 := .slice sp sn sc)).cells
  unfold putAn at d0  d1  d2  d3  d4  d5  d6  d7  d8  d9
  have c2 := Ch.an7 HF.out.2.2.2.2 (w := w4) (a0 := .int .i64 i0) (a1 := .int .i64 i1) (a2 := .int .i64 i2) (a3 := .int .i64 i3) (a4 := .int .i64 i4) (a5 := .int .i64 i5) (a6 := .int .i64 i6) (a7 := .int .i64 i7) (a8 := .string key) (a9 := .slice sp sn sc)
  refine bodyPost_ret (v := .tuple #[.agg #[.int .i64 i0, .int .i64 i1, .int .i64 i2, .int .i64 i3, .int .i64 i4, .int .i64 i5, .int .i64 i6, .int .i64 i7, .string key, .slice sp sn sc], .int .i64 e]) ?_ rfl ⟨⟨i0, i1, i2, i3, i4, i5, i6, i7, key, sp, sn, sc, e, A3, _, rfl, HF.out.1.ch c2 (by decide), Ch.an HF.out.2.1 (Nat.le_succ _), HZS.out _ _ _ _ _ _ _ HF.out.2.2.1 c2⟩⟩
  simp [results, Tryz.results15, go_sem, d0, d1, d2, d3, d4, d5, d6, d7, d8, d9]
set_option maxRecDepth 20000 in
set_option maxHeartbeats 4000000 in
theorem answer_drop {Z : Array Value → Int → Ar → (Nat → Nat) → World → Prop} (hZ : Stable Z) (name other : ByteArray) (born live n : Int) (v : Value)
    (HC : ∀ W oo, Ch (fun l => l = 7) o w oo W → Calls Tryz.prog 31 #[.pointer (some ⟨hb, 0, none⟩), .string name] W fun r w' => Leaves b oo W Z r w') :
    Calls Tryz.prog 15 #[.pointer (some ⟨hb, 0, none⟩), reqV 7 name other born live n v] w fun r w' => Leaves b o w Z r w' := by
  have b1 : Below w.heap.size w (w.alloc (.cells #[.int .i64 7, .string name, .string other, .int .i64 born, .int .i64 live, .int .i64 n, v] 38)) := (Below.refl _ _).alloc (Nat.le_refl _) _
  have b2 : Below w.heap.size w ((w.alloc (.cells #[.int .i64 7, .string name, .string other, .int .i64 born, .int .i64 live, .int .i64 n, v] 38)).alloc (.cells #[.int .i64 0, .int .i64 0, .int .i64 0, .int .i64 0, .int .i64 0, .int .i64 0, .int .i64 0, .int .i64 0, .string ⟨#[]⟩, .slice none 0 0] 35)) := b1.alloc (by simp) _
  have r1 : RqB (w.alloc (.cells #[.int .i64 7, .string name, .string other, .int .i64 born, .int .i64 live, .int .i64 n, v] 38)) w.heap.size #[.int .i64 7, .string name, .string other, .int .i64 born, .int .i64 live, .int .i64 n, v] := Go.Deep.blk_alloc_new _ _
  have r2 : RqB ((w.alloc (.cells #[.int .i64 7, .string name, .string other, .int .i64 born, .int .i64 live, .int .i64 n, v] 38)).alloc (.cells #[.int .i64 0, .int .i64 0, .int .i64 0, .int .i64 0, .int .i64 0, .int .i64 0, .int .i64 0, .int .i64 0, .string ⟨#[]⟩, .slice none 0 0] 35)) w.heap.size #[.int .i64 7, .string name, .string other, .int .i64 born, .int .i64 live, .int .i64 n, v] := (Below.heap_alloc _ _ _ (by simp)).trans r1
  have hs1 : (w.alloc (.cells #[.int .i64 7, .string name, .string other, .int .i64 born, .int .i64 live, .int .i64 n, v] 38)).heap.size = w.heap.size + 1 := by simp
  have a2 := noAn_born (w.alloc (.cells #[.int .i64 7, .string name, .string other, .int .i64 born, .int .i64 live, .int .i64 n, v] 38))
  rw [hs1] at a2
  unfold noAn at a2
  have HX : Hid (w.heap.size + 1 < ((w.alloc (.cells #[.int .i64 7, .string name, .string other, .int .i64 born, .int .i64 live, .int .i64 n, v] 38)).alloc (.cells #[.int .i64 0, .int .i64 0, .int .i64 0, .int .i64 0, .int .i64 0, .int .i64 0, .int .i64 0, .int .i64 0, .string ⟨#[]⟩, .slice none 0 0] 35)).heap.size ∧ AnB ((w.alloc (.cells #[.int .i64 7, .string name, .string other, .int .i64 born, .int .i64 live, .int .i64 n, v] 38)).alloc (.cells #[.int .i64 0, .int .i64 0, .int .i64 0, .int .i64 0, .int .i64 0, .int .i64 0, .int .i64 0, .int .i64 0, .string ⟨#[]⟩, .slice none 0 0] 35)) (w.heap.size + 1) #[.int .i64 0, .int .i64 0, .int .i64 0, .int .i64 0, .int .i64 0, .int .i64 0, .int .i64 0, .int .i64 0, .string ⟨#[]⟩, .slice none 0 0] ∧ Below w.heap.size w ((w.alloc (.cells #[.int .i64 7, .string name, .string other, .int .i64 born, .int .i64 live, .int .i64 n, v] 38)).alloc (.cells #[.int .i64 0, .int .i64 0, .int .i64 0, .int .i64 0, .int .i64 0, .int .i64 0, .int .i64 0, .int .i64 0, .string ⟨#[]⟩, .slice none 0 0] 35))) := ⟨by show w.heap.size + 1 < _; simp, a2, b2⟩
  have HCC := HC _ _ (ch_seven b2)
  have HZS : Hid (Stable Z) := hZ
  unfold reqV
  clear hs1 r1 b1 HC hZ a2 b2
  go_enter Tryz.func15, Tryz.ntmps15
  go_wp2_with fail
  generalize ((w.alloc (.cells #[.int .i64 7, .string name, .string other, .int .i64 born, .int .i64 live, .int .i64 n, v] 38)).alloc (.cells #[.int .i64 0, .int .i64 0, .int .i64 0, .int .i64 0, .int .i64 0, .int .i64 0, .int .i64 0, .int .i64 0, .string ⟨#[]⟩, .slice none 0 0] 35)) = wA at *
  obtain ⟨k0, k1, k2, k3, k4, k5, k6⟩ := r2.cells
  clear r2
  go_wp2_with (go_at_call 31; refine HCC.mono ?_; rintro r w4 ⟨⟨i0, i1, i2, i3, i4, i5, i6, i7, key, sp, sn, sc, e, A3, o3, rfl, hA3, hC3, hZ3⟩⟩; have HF : Hid (ArL w4 o3 b A3 ∧ Ch (fun l => l = 1 ∨ l = 5) o w o3 w4 ∧ Z #[.int .i64 i0, .int .i64 i1, .int .i64 i2, .int .i64 i3, .int .i64 i4, .int .i64 i5, .int .i64 i6, .int .i64 i7, .string key, .slice sp sn sc] e A3 o3 w4 ∧ AnB w4 (w.heap.size + 1) #[.int .i64 0, .int .i64 0, .int .i64 0, .int .i64 0, .int .i64 0, .int .i64 0, .int .i64 0, .int .i64 0, .string ⟨#[]⟩, .slice none 0 0] ∧ o3 (w.heap.size + 1) = 7) := ⟨hA3, (Ch.ofBelow HX.out.2.2 7).trans hC3, hZ3, (hC3.block _ HX.out.1 (by rw [ext_new (Nat.le_succ _)]; decide)).trans HX.out.2.1, (hC3.lab _ HX.out.1).trans (ext_new (Nat.le_succ _))⟩; obtain ⟨c0, c1, c2, c3, c4, c5, c6, c7, c8, c9, f0, f1, f2, f3, f4, f5, f6, f7, f8, f9⟩ := HF.out.2.2.2.1.cells; clear hA3 hC3 hZ3)
  obtain ⟨d0, d1, d2, d3, d4, d5, d6, d7, d8, d9, -⟩ := (HF.out.2.2.2.1.put (a0 := .int .i64 i0) (a1 := .int .i64 i1) (a2 := .int .i64 i2) (a3 := .int .i64 i3) (a4 := .int .i64 i4) (a5 := .int .i64 i5) (a6 := .int .i64 i6) (a7 := .int .i64 i7) (a8 := .string key) (a9 := .slice sp sn sc)).cells
  unfold putAn at d0  d1  d2  d3  d4  d5  d6  d7  d8  d9
  have c2 := Ch.an7 HF.out.2.2.2.2 (w := w4) (a0 := .int .i64 i0) (a1 := .int .i64 i1) (a2 := .int .i64 i2) (a3 := .int .i64 i3) (a4 := .int .i64 i4) (a5 := .int .i64 i5) (a6 := .int .i64 i6) (a7 := .int .i64 i7) (a8 := .string key) (a9 := .slice sp sn sc)
  refine bodyPost_ret (v := .tuple #[.agg #[.int .i64 i0, .int .i64 i1, .int .i64 i2, .int .i64 i3, .int .i64 i4, .int .i64 i5, .int .i64 i6, .int .i64 i7, .string key, .slice sp sn sc], .int .i64 e]) ?_ rfl ⟨⟨i0, i1, i2, i3, i4, i5, i6, i7, key, sp, sn, sc, e, A3, _, rfl, HF.out.1.ch c2 (by decide), Ch.an HF.out.2.1 (Nat.le_succ _), HZS.out _ _ _ _ _ _ _ HF.out.2.2.1 c2⟩⟩
  simp [results, Tryz.results15, go_sem, d0, d1, d2, d3, d4, d5, d6, d7, d8, d9]
set_option maxRecDepth 20000 in
set_option maxHeartbeats 4000000 in
theorem answer_lease {Z : Array Value → Int → Ar → (Nat → Nat) → World → Prop} (hZ : Stable Z) (name other : ByteArray) (born live n : Int) (v : Value)
    (HC : ∀ W oo, Ch (fun l => l = 7) o w oo W → Calls Tryz.prog 37 #[.pointer (some ⟨hb, 0, none⟩), .string name, .int .i64 n] W fun r w' => Leaves b oo W Z r w') :
    Calls Tryz.prog 15 #[.pointer (some ⟨hb, 0, none⟩), reqV 9 name other born live n v] w fun r w' => Leaves b o w Z r w' := by
  have b1 : Below w.heap.size w (w.alloc (.cells #[.int .i64 9, .string name, .string other, .int .i64 born, .int .i64 live, .int .i64 n, v] 38)) := (Below.refl _ _).alloc (Nat.le_refl _) _
  have b2 : Below w.heap.size w ((w.alloc (.cells #[.int .i64 9, .string name, .string other, .int .i64 born, .int .i64 live, .int .i64 n, v] 38)).alloc (.cells #[.int .i64 0, .int .i64 0, .int .i64 0, .int .i64 0, .int .i64 0, .int .i64 0, .int .i64 0, .int .i64 0, .string ⟨#[]⟩, .slice none 0 0] 35)) := b1.alloc (by simp) _
  have r1 : RqB (w.alloc (.cells #[.int .i64 9, .string name, .string other, .int .i64 born, .int .i64 live, .int .i64 n, v] 38)) w.heap.size #[.int .i64 9, .string name, .string other, .int .i64 born, .int .i64 live, .int .i64 n, v] := Go.Deep.blk_alloc_new _ _
  have r2 : RqB ((w.alloc (.cells #[.int .i64 9, .string name, .string other, .int .i64 born, .int .i64 live, .int .i64 n, v] 38)).alloc (.cells #[.int .i64 0, .int .i64 0, .int .i64 0, .int .i64 0, .int .i64 0, .int .i64 0, .int .i64 0, .int .i64 0, .string ⟨#[]⟩, .slice none 0 0] 35)) w.heap.size #[.int .i64 9, .string name, .string other, .int .i64 born, .int .i64 live, .int .i64 n, v] := (Below.heap_alloc _ _ _ (by simp)).trans r1
  have hs1 : (w.alloc (.cells #[.int .i64 9, .string name, .string other, .int .i64 born, .int .i64 live, .int .i64 n, v] 38)).heap.size = w.heap.size + 1 := by simp
  have a2 := noAn_born (w.alloc (.cells #[.int .i64 9, .string name, .string other, .int .i64 born, .int .i64 live, .int .i64 n, v] 38))
  rw [hs1] at a2
  unfold noAn at a2
  have HX : Hid (w.heap.size + 1 < ((w.alloc (.cells #[.int .i64 9, .string name, .string other, .int .i64 born, .int .i64 live, .int .i64 n, v] 38)).alloc (.cells #[.int .i64 0, .int .i64 0, .int .i64 0, .int .i64 0, .int .i64 0, .int .i64 0, .int .i64 0, .int .i64 0, .string ⟨#[]⟩, .slice none 0 0] 35)).heap.size ∧ AnB ((w.alloc (.cells #[.int .i64 9, .string name, .string other, .int .i64 born, .int .i64 live, .int .i64 n, v] 38)).alloc (.cells #[.int .i64 0, .int .i64 0, .int .i64 0, .int .i64 0, .int .i64 0, .int .i64 0, .int .i64 0, .int .i64 0, .string ⟨#[]⟩, .slice none 0 0] 35)) (w.heap.size + 1) #[.int .i64 0, .int .i64 0, .int .i64 0, .int .i64 0, .int .i64 0, .int .i64 0, .int .i64 0, .int .i64 0, .string ⟨#[]⟩, .slice none 0 0] ∧ Below w.heap.size w ((w.alloc (.cells #[.int .i64 9, .string name, .string other, .int .i64 born, .int .i64 live, .int .i64 n, v] 38)).alloc (.cells #[.int .i64 0, .int .i64 0, .int .i64 0, .int .i64 0, .int .i64 0, .int .i64 0, .int .i64 0, .int .i64 0, .string ⟨#[]⟩, .slice none 0 0] 35))) := ⟨by show w.heap.size + 1 < _; simp, a2, b2⟩
  have HCC := HC _ _ (ch_seven b2)
  have HZS : Hid (Stable Z) := hZ
  unfold reqV
  clear hs1 r1 b1 HC hZ a2 b2
  go_enter Tryz.func15, Tryz.ntmps15
  go_wp2_with fail
  generalize ((w.alloc (.cells #[.int .i64 9, .string name, .string other, .int .i64 born, .int .i64 live, .int .i64 n, v] 38)).alloc (.cells #[.int .i64 0, .int .i64 0, .int .i64 0, .int .i64 0, .int .i64 0, .int .i64 0, .int .i64 0, .int .i64 0, .string ⟨#[]⟩, .slice none 0 0] 35)) = wA at *
  obtain ⟨k0, k1, k2, k3, k4, k5, k6⟩ := r2.cells
  clear r2
  go_wp2_with (go_at_call 37; refine HCC.mono ?_; rintro r w4 ⟨⟨i0, i1, i2, i3, i4, i5, i6, i7, key, sp, sn, sc, e, A3, o3, rfl, hA3, hC3, hZ3⟩⟩; have HF : Hid (ArL w4 o3 b A3 ∧ Ch (fun l => l = 1 ∨ l = 5) o w o3 w4 ∧ Z #[.int .i64 i0, .int .i64 i1, .int .i64 i2, .int .i64 i3, .int .i64 i4, .int .i64 i5, .int .i64 i6, .int .i64 i7, .string key, .slice sp sn sc] e A3 o3 w4 ∧ AnB w4 (w.heap.size + 1) #[.int .i64 0, .int .i64 0, .int .i64 0, .int .i64 0, .int .i64 0, .int .i64 0, .int .i64 0, .int .i64 0, .string ⟨#[]⟩, .slice none 0 0] ∧ o3 (w.heap.size + 1) = 7) := ⟨hA3, (Ch.ofBelow HX.out.2.2 7).trans hC3, hZ3, (hC3.block _ HX.out.1 (by rw [ext_new (Nat.le_succ _)]; decide)).trans HX.out.2.1, (hC3.lab _ HX.out.1).trans (ext_new (Nat.le_succ _))⟩; obtain ⟨c0, c1, c2, c3, c4, c5, c6, c7, c8, c9, f0, f1, f2, f3, f4, f5, f6, f7, f8, f9⟩ := HF.out.2.2.2.1.cells; clear hA3 hC3 hZ3)
  obtain ⟨d0, d1, d2, d3, d4, d5, d6, d7, d8, d9, -⟩ := (HF.out.2.2.2.1.put (a0 := .int .i64 i0) (a1 := .int .i64 i1) (a2 := .int .i64 i2) (a3 := .int .i64 i3) (a4 := .int .i64 i4) (a5 := .int .i64 i5) (a6 := .int .i64 i6) (a7 := .int .i64 i7) (a8 := .string key) (a9 := .slice sp sn sc)).cells
  unfold putAn at d0  d1  d2  d3  d4  d5  d6  d7  d8  d9
  have c2 := Ch.an7 HF.out.2.2.2.2 (w := w4) (a0 := .int .i64 i0) (a1 := .int .i64 i1) (a2 := .int .i64 i2) (a3 := .int .i64 i3) (a4 := .int .i64 i4) (a5 := .int .i64 i5) (a6 := .int .i64 i6) (a7 := .int .i64 i7) (a8 := .string key) (a9 := .slice sp sn sc)
  refine bodyPost_ret (v := .tuple #[.agg #[.int .i64 i0, .int .i64 i1, .int .i64 i2, .int .i64 i3, .int .i64 i4, .int .i64 i5, .int .i64 i6, .int .i64 i7, .string key, .slice sp sn sc], .int .i64 e]) ?_ rfl ⟨⟨i0, i1, i2, i3, i4, i5, i6, i7, key, sp, sn, sc, e, A3, _, rfl, HF.out.1.ch c2 (by decide), Ch.an HF.out.2.1 (Nat.le_succ _), HZS.out _ _ _ _ _ _ _ HF.out.2.2.1 c2⟩⟩
  simp [results, Tryz.results15, go_sem, d0, d1, d2, d3, d4, d5, d6, d7, d8, d9]
end Go.Proofs.YtgipjplifndniaaGreatDoor.U
