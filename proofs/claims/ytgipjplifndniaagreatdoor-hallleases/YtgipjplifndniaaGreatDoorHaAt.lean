/- A deed with the universe that a key opens. -/
import Derived.Test.YtgipjplifndniaaGreatDoorHaGet
import Derived.Test.YtgipjplifndniaaGreatDoorLpAddC
import Derived.Deep.RegionHeld3
import Derived.Test.YtgipjplifndniaaGreatDoorKyDel1
namespace Go.Proofs.YtgipjplifndniaaGreatDoor.U
open Go.RowKit Go.Maps Go.Proofs.YtgipjplifndniaaGreatDoor.L Go.Proofs.YtgipjplifndniaaGreatDoor.A Go.Proofs.YtgipjplifndniaaGreatDoor.K

variable {w w1 w2 : World} {o o1 o2 : Nat → Nat} {hb b t : Nat} {draw : Int} {S : Hl} {ids : List Nat} {wv kv : Value} {A A' : Ar} {PR : (Bool → Nat → Bool) → Int → Prop} {q : Nat → Int}
structure Leaves (b : Nat) (o : Nat → Nat) (w : World) (Z : Array Value → Int → Ar → (Nat → Nat) → World → Prop) (r : Ending) (w' : World) : Prop where
  is : ∃ (i0 i1 i2 i3 i4 i5 i6 i7 : Int) (key : ByteArray) (sp : Option Addr) (sn sc : Nat) (e : Int) (A' : Ar) (o' : Nat → Nat), r = .returned (.tuple #[.agg #[.int .i64 i0, .int .i64 i1, .int .i64 i2, .int .i64 i3, .int .i64 i4, .int .i64 i5, .int .i64 i6, .int .i64 i7, .string key, .slice sp sn sc], .int .i64 e]) ∧ ArL w' o' b A' ∧ Ch (fun l => l = 1 ∨ l = 5) o w o' w' ∧ Z #[.int .i64 i0, .int .i64 i1, .int .i64 i2, .int .i64 i3, .int .i64 i4, .int .i64 i5, .int .i64 i6, .int .i64 i7, .string key, .slice sp sn sc] e A' o' w'
def Stable (Z : Array Value → Int → Ar → (Nat → Nat) → World → Prop) : Prop := ∀ vs e A o w o' w', Z vs e A o w → Ch (fun l => l = 7) o w o' w' → Z vs e A o' w'
theorem ch_seven (h : Below w.heap.size w w1) : Ch (fun l => l = 7) o w (ext o w.heap.size 7) w1 := Ch.ofBelow h 7
set_option maxRecDepth 20000 in
set_option maxHeartbeats 4000000 in
theorem do_any {Z : Array Value → Int → Ar → (Nat → Nat) → World → Prop} (h : HlAt w o 5 hb b t draw S ids wv kv) (hA : ArL w o b A) (hst : NxSt PR t q A) (ht : t < 64) (verb : Int) (name other : ByteArray) (born live n : Int) (v : Value)
    (HANS : ∀ W oo, w.heap.size ≤ W.heap.size → Ch (fun l => l = 1) o w oo W → ArL W oo b (mk A t) → HlAt W oo 5 hb b t draw S ids wv kv → Calls Tryz.prog 15 #[.pointer (some ⟨hb, 0, none⟩), reqV verb name other born live n v] W fun r w' => Leaves b oo W Z r w')
    (hZ : Stable Z) (hZr : ∀ vs e A' o' w', Z vs e A' o' w' → e ≠ 0 → NxSt PR t q A' ∧ Goes1 t (mk A t) A' ∧ HlAt w' o' 5 hb b t draw S ids wv kv) :
    Calls Tryz.prog 7 #[.pointer (some ⟨hb, 0, none⟩), reqV verb name other born live n v] w fun r w' => ∃ (vs : Array Value) (e : Int) (A' : Ar) (o' : Nat → Nat), Ch (fun l => l = 1 ∨ l = 5) o w o' w' ∧ ((e = 0 ∧ r = .returned (.agg vs) ∧ ArL w' o' b A' ∧ Z vs 0 A' o' w') ∨ (e ≠ 0 ∧ r = .returned (codeV e) ∧ (∃ o1 w1, Z vs e A' o1 w1) ∧ ArL w' o' b (un A' t) ∧ NxSt PR t q (un A' t) ∧ (∀ u, view (un A' t) u = view (mk A t) u) ∧ HlAt w' o' 5 hb b t draw S ids wv kv)) := by
  have b1 : Below w.heap.size w (w.alloc (.cells #[.int .i64 verb, .string name, .string other, .int .i64 born, .int .i64 live, .int .i64 n, v] 38)) := (Below.refl _ _).alloc (Nat.le_refl _) _
  have b2 : Below w.heap.size w ((w.alloc (.cells #[.int .i64 verb, .string name, .string other, .int .i64 born, .int .i64 live, .int .i64 n, v] 38)).alloc (.cells #[.int .i64 0, .int .i64 0, .int .i64 0, .int .i64 0, .int .i64 0, .int .i64 0, .int .i64 0, .int .i64 0, .string ⟨#[]⟩, .slice none 0 0] 35)) := b1.alloc (by simp) _
  have r1 : RqB (w.alloc (.cells #[.int .i64 verb, .string name, .string other, .int .i64 born, .int .i64 live, .int .i64 n, v] 38)) w.heap.size #[.int .i64 verb, .string name, .string other, .int .i64 born, .int .i64 live, .int .i64 n, v] := Go.Deep.blk_alloc_new _ _
  have r2 : RqB ((w.alloc (.cells #[.int .i64 verb, .string name, .string other, .int .i64 born, .int .i64 live, .int .i64 n, v] 38)).alloc (.cells #[.int .i64 0, .int .i64 0, .int .i64 0, .int .i64 0, .int .i64 0, .int .i64 0, .int .i64 0, .int .i64 0, .string ⟨#[]⟩, .slice none 0 0] 35)) w.heap.size #[.int .i64 verb, .string name, .string other, .int .i64 born, .int .i64 live, .int .i64 n, v] := (Below.heap_alloc _ _ _ (by simp)).trans r1
  have hs1 : (w.alloc (.cells #[.int .i64 verb, .string name, .string other, .int .i64 born, .int .i64 live, .int .i64 n, v] 38)).heap.size = w.heap.size + 1 := by simp
  have a2 := noAn_born (w.alloc (.cells #[.int .i64 verb, .string name, .string other, .int .i64 born, .int .i64 live, .int .i64 n, v] 38))
  rw [hs1] at a2
  unfold noAn at a2
  have HSZ : Hid (w.heap.size + 1 < ((w.alloc (.cells #[.int .i64 verb, .string name, .string other, .int .i64 born, .int .i64 live, .int .i64 n, v] 38)).alloc (.cells #[.int .i64 0, .int .i64 0, .int .i64 0, .int .i64 0, .int .i64 0, .int .i64 0, .int .i64 0, .int .i64 0, .string ⟨#[]⟩, .slice none 0 0] 35)).heap.size ∧ hb < w.heap.size) := ⟨by show w.heap.size + 1 < _; simp, h.lt⟩
  have H2 := h.ch (ch_seven b2) (by decide)
  have A2 := hA.ch (ch_seven b2) (by decide)
  have HST : Hid (NxSt PR t q A) := hst
  have HAN : Hid (∀ W oo, w.heap.size ≤ W.heap.size → Ch (fun l => l = 1) o w oo W → ArL W oo b (mk A t) → HlAt W oo 5 hb b t draw S ids wv kv → Calls Tryz.prog 15 #[.pointer (some ⟨hb, 0, none⟩), .agg #[.int .i64 verb, .string name, .string other, .int .i64 born, .int .i64 live, .int .i64 n, v]] W fun r w' => Leaves b oo W Z r w') := HANS
  have HZS : Hid (Stable Z ∧ ∀ vs e A' o' w', Z vs e A' o' w' → e ≠ 0 → NxSt PR t q A' ∧ Goes1 t (mk A t) A' ∧ HlAt w' o' 5 hb b t draw S ids wv kv) := ⟨hZ, hZr⟩
  unfold reqV
  clear h hA hst b1 r1 hs1 HANS hZ hZr
  obtain ⟨c0, c1, -⟩ := H2.cells
  go_enter Tryz.func7, Tryz.ntmps7
  go_upto_region 3 with fail
  generalize ((w.alloc (.cells #[.int .i64 verb, .string name, .string other, .int .i64 born, .int .i64 live, .int .i64 n, v] 38)).alloc (.cells #[.int .i64 0, .int .i64 0, .int .i64 0, .int .i64 0, .int .i64 0, .int .i64 0, .int .i64 0, .int .i64 0, .string ⟨#[]⟩, .slice none 0 0] 35)) = wA at *
  have hmk := mark_call (A2.ch (L := fun _ => False) (Ch.drew (Ch.refl _ _ _)) fun h => h) ht
  have HF : Hid (HlAt wA (ext o w.heap.size 7) 5 hb b t draw S ids wv kv ∧ RqB wA w.heap.size #[.int .i64 verb, .string name, .string other, .int .i64 born, .int .i64 live, .int .i64 n, v] ∧ AnB wA (w.heap.size + 1) #[.int .i64 0, .int .i64 0, .int .i64 0, .int .i64 0, .int .i64 0, .int .i64 0, .int .i64 0, .int .i64 0, .string ⟨#[]⟩, .slice none 0 0] ∧ Below w.heap.size w wA) := ⟨H2, r2, a2, b2⟩
  have HC : Hid (∀ W oo, Ch (fun l => l = 1) (ext o w.heap.size 7) wA oo W → HlAt W oo 5 hb b t draw S ids wv kv ∧ RqB W w.heap.size #[.int .i64 verb, .string name, .string other, .int .i64 born, .int .i64 live, .int .i64 n, v] ∧ AnB W (w.heap.size + 1) #[.int .i64 0, .int .i64 0, .int .i64 0, .int .i64 0, .int .i64 0, .int .i64 0, .int .i64 0, .int .i64 0, .string ⟨#[]⟩, .slice none 0 0] ∧ Ch (fun l => l = 1) o w oo W ∧ oo (w.heap.size + 1) = 7 ∧ w.heap.size + 1 < W.heap.size) := fun W oo c => by
    obtain ⟨p1, p2, p3, p4⟩ := HF.out
    have hz := HSZ.out
    exact ⟨p1.ch c (by decide), (c.block _ (by omega) (by rw [ext_new (Nat.le_refl _)]; decide)).trans p2, (c.block _ (by omega) (by rw [ext_new (Nat.le_succ _)]; decide)).trans p3, (Ch.ofBelow p4 7).trans c, (c.lab _ (by omega)).trans (ext_new (Nat.le_succ _)), Nat.lt_of_lt_of_le hz.1 c.size⟩
  clear H2 A2 r2 a2 b2
  go_region_held3 (fun W => W.cell? ⟨hb, 0, none⟩ = some (.pointer (some ⟨b, 0, none⟩)) ∧ W.cell? ⟨hb, 1, none⟩ = some (.int .i64 t)) (first | exact ⟨c0, c1⟩ | exact ⟨(HC.out _ _ C2).1.cells.1, (HC.out _ _ C2).1.cells.2.1⟩)
    (first | (go_at_call 14; refine hmk.mono ?_; rintro r w2 ⟨rfl, o2, hA2, hC2⟩; have C2 : Ch (fun l => l = 1) (ext o w.heap.size 7) wA o2 w2 := ⟨hC2.os, hC2.tape, hC2.output, hC2.size, hC2.lab, hC2.block⟩))
  have HC2 : Hid (ArL w2 o2 b (mk A t) ∧ Ch (fun l => l = 1) (ext o w.heap.size 7) wA o2 w2) := ⟨hA2, C2⟩
  obtain ⟨k0, k1, k2, k3, k4, k5, k6⟩ := (HC.out _ _ C2).2.1.cells
  clear hA2 C2 hC2 c0 c1 hmk
  go_upto_region 5 with (go_at_call 15; refine (HAN.out w2 o2 (HC.out _ _ HC2.out.2).2.2.2.1.size (HC.out _ _ HC2.out.2).2.2.2.1 HC2.out.1 (HC.out _ _ HC2.out.2).1).mono ?_; rintro r w3 ⟨⟨i0, i1, i2, i3, i4, i5, i6, i7, key, sp, sn, sc, e, A3, o3, rfl, hA3, hC3, hZ3⟩⟩)
  have b4 : Below w3.heap.size w3 (w3.alloc (.cells #[.int .i64 i0, .int .i64 i1, .int .i64 i2, .int .i64 i3, .int .i64 i4, .int .i64 i5, .int .i64 i6, .int .i64 i7, .string key, .slice sp sn sc] 35)) := (Below.refl _ _).alloc (Nat.le_refl _) _
  have n4 : AnB (w3.alloc (.cells #[.int .i64 i0, .int .i64 i1, .int .i64 i2, .int .i64 i3, .int .i64 i4, .int .i64 i5, .int .i64 i6, .int .i64 i7, .string key, .slice sp sn sc] 35)) w3.heap.size #[.int .i64 i0, .int .i64 i1, .int .i64 i2, .int .i64 i3, .int .i64 i4, .int .i64 i5, .int .i64 i6, .int .i64 i7, .string key, .slice sp sn sc] := Go.Deep.blk_alloc_new _ _
  generalize w3.alloc (.cells #[.int .i64 i0, .int .i64 i1, .int .i64 i2, .int .i64 i3, .int .i64 i4, .int .i64 i5, .int .i64 i6, .int .i64 i7, .string key, .slice sp sn sc] 35) = w4 at *
  have HD : Hid (Ch (fun l => l = 1 ∨ l = 5) o w (ext o3 w3.heap.size 7) w4 ∧ ArL w4 (ext o3 w3.heap.size 7) b A3 ∧ Z #[.int .i64 i0, .int .i64 i1, .int .i64 i2, .int .i64 i3, .int .i64 i4, .int .i64 i5, .int .i64 i6, .int .i64 i7, .string key, .slice sp sn sc] e A3 o3 w3 ∧ Ch (fun l => l = 7) o3 w3 (ext o3 w3.heap.size 7) w4 ∧ AnB w4 (w.heap.size + 1) #[.int .i64 0, .int .i64 0, .int .i64 0, .int .i64 0, .int .i64 0, .int .i64 0, .int .i64 0, .int .i64 0, .string ⟨#[]⟩, .slice none 0 0] ∧ AnB w4 w3.heap.size #[.int .i64 i0, .int .i64 i1, .int .i64 i2, .int .i64 i3, .int .i64 i4, .int .i64 i5, .int .i64 i6, .int .i64 i7, .string key, .slice sp sn sc] ∧ ext o3 w3.heap.size 7 (w.heap.size + 1) = 7) := by
    obtain ⟨p1, p2, p3, p4, p5, p6⟩ := HC.out _ _ HC2.out.2
    have q5 : o3 (w.heap.size + 1) = 7 := (hC3.lab _ p6).trans p5
    have q6 : w.heap.size + 1 < w3.heap.size := Nat.lt_of_lt_of_le p6 hC3.size
    exact ⟨((p4.mono fun l hl => .inl hl).trans hC3).trans (Ch.ofBelow b4 7), hA3.ch (ch_seven b4) (by decide), hZ3, ch_seven b4, (b4.block _ q6).trans ((hC3.block _ p6 (by rw [p5]; decide)).trans p3), n4, (ext_old q6).trans q5⟩
  have HR5 : Hid (w.heap.size + 1 ≠ w3.heap.size) := by
    obtain ⟨p1, p2, p3, p4, p5, p6⟩ := HC.out _ _ HC2.out.2
    have := hC3.size
    show _ ≠ _
    omega
  clear hA3 hC3 hZ3 b4 k0 k1 k2 k3 k4 k5 k6
  by_cases he : e = 0
  · subst he
    obtain ⟨c0, c1, c2, c3, c4, c5, c6, c7, c8, c9, f0, f1, f2, f3, f4, f5, f6, f7, f8, f9⟩ := HD.out.2.2.2.2.1.cells
    obtain ⟨g0, g1, g2, g3, g4, g5, g6, g7, g8, g9, -⟩ := n4.cells
    clear n4
    go_wp2_with fail
    obtain ⟨d0, d1, d2, d3, d4, d5, d6, d7, d8, d9, -⟩ := (HD.out.2.2.2.2.1.put (a0 := .int .i64 i0) (a1 := .int .i64 i1) (a2 := .int .i64 i2) (a3 := .int .i64 i3) (a4 := .int .i64 i4) (a5 := .int .i64 i5) (a6 := .int .i64 i6) (a7 := .int .i64 i7) (a8 := .string key) (a9 := .slice sp sn sc)).cells
    unfold putAn at d0  d1  d2  d3  d4  d5  d6  d7  d8  d9
    have hR := HD.out.2.2.2.2.2.2
    have c7 := Ch.an7 (w := w4) hR (a0 := .int .i64 i0) (a1 := .int .i64 i1) (a2 := .int .i64 i2) (a3 := .int .i64 i3) (a4 := .int .i64 i4) (a5 := .int .i64 i5) (a6 := .int .i64 i6) (a7 := .int .i64 i7) (a8 := .string key) (a9 := .slice sp sn sc)
    refine bodyPost_ret (v := .agg #[.int .i64 i0, .int .i64 i1, .int .i64 i2, .int .i64 i3, .int .i64 i4, .int .i64 i5, .int .i64 i6, .int .i64 i7, .string key, .slice sp sn sc]) ?_ rfl ⟨#[.int .i64 i0, .int .i64 i1, .int .i64 i2, .int .i64 i3, .int .i64 i4, .int .i64 i5, .int .i64 i6, .int .i64 i7, .string key, .slice sp sn sc], 0, A3, _, Ch.an HD.out.1 (Nat.le_succ _), .inl ⟨rfl, rfl, HD.out.2.1.ch c7 (by decide), HZS.out.1 _ _ _ _ _ _ _ HD.out.2.2.1 (HD.out.2.2.2.1.trans c7)⟩⟩
    simp [results, Tryz.results7, go_sem, d0, d1, d2, d3, d4, d5, d6, d7, d8, d9]
  · have he2 : (e != 0) = true := by simpa using he
    obtain ⟨t1, t2, t3⟩ := HZS.out.2 _ _ _ _ _ HD.out.2.2.1 he
    have H4 := t3.ch HD.out.2.2.2.1 (by decide)
    have hun := undo_call (HD.out.2.1.ch (L := fun _ => False) (Ch.drew (Ch.refl _ _ _)) fun h => h) t1.s ht
    have HT : Hid (NxSt PR t q A3 ∧ Goes1 t (mk A t) A3 ∧ HlAt w4 (ext o3 w3.heap.size 7) 5 hb b t draw S ids wv kv) := ⟨t1, t2, H4⟩
    obtain ⟨x0, x1, -⟩ := H4.cells
    clear t1 t2 t3 H4 n4
    go_upto_region 6 with fail
    go_region_held3 (fun W => W.cell? ⟨hb, 0, none⟩ = some (.pointer (some ⟨b, 0, none⟩)) ∧ W.cell? ⟨hb, 1, none⟩ = some (.int .i64 t)) (first | exact ⟨x0, x1⟩ | exact ⟨(HT.out.2.2.ch C6 (by decide)).cells.1, (HT.out.2.2.ch C6 (by decide)).cells.2.1⟩)
      (first | (go_at_call 16; refine hun.mono ?_; rintro r w6 ⟨nn, rfl, o6, hA6, hC6⟩; have C6 : Ch (fun l => l = 1) (ext o3 w3.heap.size 7) w4 o6 w6 := ⟨hC6.os, hC6.tape, hC6.output, hC6.size, hC6.lab, hC6.block⟩))
    have hlt : w.heap.size + 1 < w4.heap.size := HD.out.2.2.2.2.1.lt
    have n6 : AnB w6 (w.heap.size + 1) #[.int .i64 0, .int .i64 0, .int .i64 0, .int .i64 0, .int .i64 0, .int .i64 0, .int .i64 0, .int .i64 0, .string ⟨#[]⟩, .slice none 0 0] := (C6.block _ hlt (by rw [HD.out.2.2.2.2.2.2]; decide)).trans HD.out.2.2.2.2.1
    have HU : Hid (ArL w6 o6 b (un A3 t) ∧ Ch (fun l => l = 1 ∨ l = 5) o w o6 w6 ∧ HlAt w6 o6 5 hb b t draw S ids wv kv ∧ AnB w6 (w.heap.size + 1) #[.int .i64 0, .int .i64 0, .int .i64 0, .int .i64 0, .int .i64 0, .int .i64 0, .int .i64 0, .int .i64 0, .string ⟨#[]⟩, .slice none 0 0] ∧ o6 (w.heap.size + 1) = 7) := ⟨hA6, HD.out.1.trans (C6.mono fun l hl => .inl hl), HT.out.2.2.ch C6 (by decide), n6, (C6.lab _ hlt).trans HD.out.2.2.2.2.2.2⟩
    obtain ⟨c0, c1, c2, c3, c4, c5, c6, c7, c8, c9, f0, f1, f2, f3, f4, f5, f6, f7, f8, f9⟩ := n6.cells
    clear hun hA6 hC6 C6 x0 x1 n6 hlt
    go_wp2_with fail
    obtain ⟨d0, d1, d2, d3, d4, d5, d6, d7, d8, d9, -⟩ := (HU.out.2.2.2.1.put (a0 := .int .i64 e) (a1 := .int .i64 0) (a2 := .int .i64 0) (a3 := .int .i64 0) (a4 := .int .i64 0) (a5 := .int .i64 0) (a6 := .int .i64 0) (a7 := .int .i64 0) (a8 := .string ⟨#[]⟩) (a9 := .slice none 0 0)).cells
    unfold putAn at d0  d1  d2  d3  d4  d5  d6  d7  d8  d9
    have hR := HU.out.2.2.2.2
    obtain ⟨u1, u2⟩ := un_st HST.out ht HT.out.1 HT.out.2.1
    refine bodyPost_ret (v := codeV e) ?_ rfl ⟨#[.int .i64 i0, .int .i64 i1, .int .i64 i2, .int .i64 i3, .int .i64 i4, .int .i64 i5, .int .i64 i6, .int .i64 i7, .string key, .slice sp sn sc], e, A3, o6, Ch.an HU.out.2.1 (Nat.le_succ _), .inr ⟨he, rfl, ⟨_, _, HD.out.2.2.1⟩, HU.out.1.ch (Ch.an7 hR (a0 := .int .i64 e) (a1 := .int .i64 0) (a2 := .int .i64 0) (a3 := .int .i64 0) (a4 := .int .i64 0) (a5 := .int .i64 0) (a6 := .int .i64 0) (a7 := .int .i64 0) (a8 := .string ⟨#[]⟩) (a9 := .slice none 0 0)) (by decide), u1, u2, HU.out.2.2.1.fin (by rw [hR]; decide)⟩⟩
    simp [results, Tryz.results7, go_sem, d0, d1, d2, d3, d4, d5, d6, d7, d8, d9, codeV, ansV]
end Go.Proofs.YtgipjplifndniaaGreatDoor.U

namespace Go.Proofs.YtgipjplifndniaaGreatDoor.U
open Go.RowKit Go.Maps Go.Proofs.YtgipjplifndniaaGreatDoor.L Go.Proofs.YtgipjplifndniaaGreatDoor.A Go.Proofs.YtgipjplifndniaaGreatDoor.K

variable {w w1 w2 : World} {o o1 o2 : Nat → Nat} {hb b t i k : Nat} {draw e : Int} {S : Hl} {ids : List Nat} {wv kv : Value} {A A' : Ar} {q : Nat → Int} {name : ByteArray} {right : Int}
set_option maxRecDepth 20000 in
set_option maxHeartbeats 4000000 in
theorem at_no {Z : Array Value → Int → Ar → (Nat → Nat) → World → Prop} (h : HlAt w o 5 hb b t draw S ids wv kv) (hA : ArL w o b A) (hs : name.size ≤ 140737488355328) (hkey : keyedB name = true) (hok : ∀ k ∈ S.ks, k.ok) (e : Int) (hfind : findF S.ks name right = (⟨#[]⟩, e)) (he : e ≠ 0)
    (verb : Int) (other : ByteArray) (born live n : Int) (v fv : Value) (hz : ∀ oo W, Ch (fun l => l = 7) o w oo W → Z #[.int .i64 0, .int .i64 0, .int .i64 0, .int .i64 0, .int .i64 0, .int .i64 0, .int .i64 0, .int .i64 0, .string ⟨#[]⟩, .slice none 0 0] e A oo W) :
    Calls Tryz.prog 29 #[.pointer (some ⟨hb, 0, none⟩), reqV verb name other born live n v, .int .i64 right, fv] w fun r w' => Leaves b o w Z r w' := by
  have he2 : (e != 0) = true := by simpa using he
  have b1 : Below w.heap.size w (w.alloc (.cells #[.int .i64 verb, .string name, .string other, .int .i64 born, .int .i64 live, .int .i64 n, v] 38)) := (Below.refl _ _).alloc (Nat.le_refl _) _
  have b2 : Below w.heap.size w ((w.alloc (.cells #[.int .i64 verb, .string name, .string other, .int .i64 born, .int .i64 live, .int .i64 n, v] 38)).alloc (.cells #[.int .i64 0, .int .i64 0, .int .i64 0, .int .i64 0, .int .i64 0, .int .i64 0, .int .i64 0, .int .i64 0, .string ⟨#[]⟩, .slice none 0 0] 35)) := b1.alloc (by simp) _
  have r1 : RqB (w.alloc (.cells #[.int .i64 verb, .string name, .string other, .int .i64 born, .int .i64 live, .int .i64 n, v] 38)) w.heap.size #[.int .i64 verb, .string name, .string other, .int .i64 born, .int .i64 live, .int .i64 n, v] := Go.Deep.blk_alloc_new _ _
  have r2 : RqB ((w.alloc (.cells #[.int .i64 verb, .string name, .string other, .int .i64 born, .int .i64 live, .int .i64 n, v] 38)).alloc (.cells #[.int .i64 0, .int .i64 0, .int .i64 0, .int .i64 0, .int .i64 0, .int .i64 0, .int .i64 0, .int .i64 0, .string ⟨#[]⟩, .slice none 0 0] 35)) w.heap.size #[.int .i64 verb, .string name, .string other, .int .i64 born, .int .i64 live, .int .i64 n, v] := (Below.heap_alloc _ _ _ (by simp)).trans r1
  have hs1 : (w.alloc (.cells #[.int .i64 verb, .string name, .string other, .int .i64 born, .int .i64 live, .int .i64 n, v] 38)).heap.size = w.heap.size + 1 := by simp
  have a2 := noAn_born (w.alloc (.cells #[.int .i64 verb, .string name, .string other, .int .i64 born, .int .i64 live, .int .i64 n, v] 38))
  rw [hs1] at a2
  unfold noAn at a2
  have HSZ : Hid (w.heap.size + 1 < ((w.alloc (.cells #[.int .i64 verb, .string name, .string other, .int .i64 born, .int .i64 live, .int .i64 n, v] 38)).alloc (.cells #[.int .i64 0, .int .i64 0, .int .i64 0, .int .i64 0, .int .i64 0, .int .i64 0, .int .i64 0, .int .i64 0, .string ⟨#[]⟩, .slice none 0 0] 35)).heap.size ∧ hb < w.heap.size) := ⟨by show w.heap.size + 1 < _; simp, h.lt⟩
  have HW : Hid (∀ W, Below w.heap.size w W → HlAt W (ext o w.heap.size 7) 5 hb b t draw S ids wv kv) := fun W hW => h.ch (ch_seven hW) (by decide)
  have hky := fun W => keyed_any name W (by omega)
  rw [hkey] at hky
  have HFI : Hid (∀ W (_ : Below w.heap.size w W), Calls Tryz.prog 55 #[.agg #[.int .i64 S.serial, kv], .string name, .int .i64 right] W fun x w' => x = .returned (.tuple #[.string ⟨#[]⟩, .int .i64 e]) ∧ Below W.heap.size W w') := fun W hW => by
    have := find_any S.serial kv S.ks name right W (HW.out W hW).keys.hk hok
    rw [hfind] at this
    exact this
  have HH : Hid (HlAt w o 5 hb b t draw S ids wv kv ∧ ArL w o b A) := ⟨h, hA⟩
  clear hs
  unfold reqV
  clear h hA b1 r1 hs1 hfind hok hkey
  go_enter Tryz.func29, Tryz.ntmps29
  go_wp2_with fail
  generalize ((w.alloc (.cells #[.int .i64 verb, .string name, .string other, .int .i64 born, .int .i64 live, .int .i64 n, v] 38)).alloc (.cells #[.int .i64 0, .int .i64 0, .int .i64 0, .int .i64 0, .int .i64 0, .int .i64 0, .int .i64 0, .int .i64 0, .string ⟨#[]⟩, .slice none 0 0] 35)) = wA at *
  refine (hky _).mono ?_
  rintro x w1 ⟨rfl, hb1⟩
  have HB1 : Hid (Below w.heap.size w w1 ∧ Below wA.heap.size wA w1) := ⟨b2.trans (hb1.mono b2.size), hb1⟩
  have HAR : Hid (AnB wA (w.heap.size + 1) #[.int .i64 0, .int .i64 0, .int .i64 0, .int .i64 0, .int .i64 0, .int .i64 0, .int .i64 0, .int .i64 0, .string ⟨#[]⟩, .slice none 0 0] ∧ RqB wA w.heap.size #[.int .i64 verb, .string name, .string other, .int .i64 born, .int .i64 live, .int .i64 n, v]) := ⟨a2, r2⟩
  obtain ⟨-, -, -, -, x4, x5⟩ := (HW.out _ HB1.out.1).cells
  have hfi := HFI.out _ HB1.out.1
  obtain ⟨sr, hsr⟩ : ∃ sr, sr = S.serial := ⟨_, rfl⟩
  rw [← hsr] at hfi x4
  clear hb1 r2 a2 b2 hky hsr
  go_wp2_with fail
  refine hfi.mono ?_
  rintro x w2 ⟨rfl, hb2⟩
  have HB2 : Hid (Below w.heap.size w w2 ∧ AnB w2 (w.heap.size + 1) #[.int .i64 0, .int .i64 0, .int .i64 0, .int .i64 0, .int .i64 0, .int .i64 0, .int .i64 0, .int .i64 0, .string ⟨#[]⟩, .slice none 0 0] ∧ RqB w2 w.heap.size #[.int .i64 verb, .string name, .string other, .int .i64 born, .int .i64 live, .int .i64 n, v] ∧ w.heap.size + 1 < w2.heap.size) := ⟨HB1.out.1.trans (hb2.mono HB1.out.1.size), (HAR.out.1.below HB1.out.2).below hb2, (hb2.block _ (by have := HB1.out.2.size; have := HSZ.out; omega)).trans ((HB1.out.2.block _ (by have := HSZ.out; omega)).trans HAR.out.2), by have := HB1.out.2.size; have := HSZ.out; have := hb2.size; omega⟩
  obtain ⟨c0, c1, c2, c3, c4, c5, c6, c7, c8, c9, f0, f1, f2, f3, f4, f5, f6, f7, f8, f9⟩ := HB2.out.2.1.cells
  clear hb2 hfi x4 x5
  go_wp2_with fail
  obtain ⟨d0, d1, d2, d3, d4, d5, d6, d7, d8, d9, -⟩ := (HB2.out.2.1.put (a0 := .int .i64 0) (a1 := .int .i64 0) (a2 := .int .i64 0) (a3 := .int .i64 0) (a4 := .int .i64 0) (a5 := .int .i64 0) (a6 := .int .i64 0) (a7 := .int .i64 0) (a8 := .string ⟨#[]⟩) (a9 := .slice none 0 0)).cells
  unfold putAn at d0  d1  d2  d3  d4  d5  d6  d7  d8  d9
  have c1 : Ch (fun l => l = 7) o w (ext o w.heap.size 7) w2 := ch_seven HB2.out.1
  have c2 := c1.trans (Ch.an7 (ext_new (Nat.le_succ _)) (a0 := .int .i64 0) (a1 := .int .i64 0) (a2 := .int .i64 0) (a3 := .int .i64 0) (a4 := .int .i64 0) (a5 := .int .i64 0) (a6 := .int .i64 0) (a7 := .int .i64 0) (a8 := .string ⟨#[]⟩) (a9 := .slice none 0 0))
  refine bodyPost_ret (v := .tuple #[.agg #[.int .i64 0, .int .i64 0, .int .i64 0, .int .i64 0, .int .i64 0, .int .i64 0, .int .i64 0, .int .i64 0, .string ⟨#[]⟩, .slice none 0 0], .int .i64 e]) ?_ rfl ⟨⟨0, 0, 0, 0, 0, 0, 0, 0, ⟨#[]⟩, none, 0, 0, e, A, _, rfl, HH.out.2.ch c2 (by decide), Ch.an (Ch.ofBelow HB2.out.1 7) (Nat.le_succ _), hz _ _ c2⟩⟩
  simp [results, Tryz.results29, go_sem, d0, d1, d2, d3, d4, d5, d6, d7, d8, d9]
set_option maxRecDepth 20000 in
set_option maxHeartbeats 4000000 in
theorem at_yes {Z : Array Value → Int → Ar → (Nat → Nat) → World → Prop} (h : HlAt w o 5 hb b t draw S ids wv kv) (hA : ArL w o b A) (hs : name.size ≤ 140737488355328) (hkey : keyedB name = true) (hok : ∀ k ∈ S.ks, k.ok) (nm : ByteArray) (hfind : findF S.ks name right = (nm, 0)) (hat : atN S.ws nm = some i) (hk : ids[i]? = some k) (hids : ids.length ≤ 1000000)
    (verb : Int) (other : ByteArray) (born live n : Int) (v : Value) (f : Nat) (eg : ∀ args w, (callFunc f args).run Tryz.prog w = .ok (.enter f args) w) (hZ : Stable Z)
    (HDO : ∀ W oo, Ch (fun l => l = 7) o w oo W → Calls Tryz.prog f #[.pointer (some ⟨hb, 0, none⟩), .pointer (some ⟨k, 0, none⟩), reqV verb name other born live n v] W fun r w' => Leaves b oo W Z r w') :
    Calls Tryz.prog 29 #[.pointer (some ⟨hb, 0, none⟩), reqV verb name other born live n v, .int .i64 right, .func (.func f) #[.pointer (some ⟨hb, 0, none⟩)] #[]] w fun r w' => Leaves b o w Z r w' := by
  have b1 : Below w.heap.size w (w.alloc (.cells #[.int .i64 verb, .string name, .string other, .int .i64 born, .int .i64 live, .int .i64 n, v] 38)) := (Below.refl _ _).alloc (Nat.le_refl _) _
  have b2 : Below w.heap.size w ((w.alloc (.cells #[.int .i64 verb, .string name, .string other, .int .i64 born, .int .i64 live, .int .i64 n, v] 38)).alloc (.cells #[.int .i64 0, .int .i64 0, .int .i64 0, .int .i64 0, .int .i64 0, .int .i64 0, .int .i64 0, .int .i64 0, .string ⟨#[]⟩, .slice none 0 0] 35)) := b1.alloc (by simp) _
  have r1 : RqB (w.alloc (.cells #[.int .i64 verb, .string name, .string other, .int .i64 born, .int .i64 live, .int .i64 n, v] 38)) w.heap.size #[.int .i64 verb, .string name, .string other, .int .i64 born, .int .i64 live, .int .i64 n, v] := Go.Deep.blk_alloc_new _ _
  have r2 : RqB ((w.alloc (.cells #[.int .i64 verb, .string name, .string other, .int .i64 born, .int .i64 live, .int .i64 n, v] 38)).alloc (.cells #[.int .i64 0, .int .i64 0, .int .i64 0, .int .i64 0, .int .i64 0, .int .i64 0, .int .i64 0, .int .i64 0, .string ⟨#[]⟩, .slice none 0 0] 35)) w.heap.size #[.int .i64 verb, .string name, .string other, .int .i64 born, .int .i64 live, .int .i64 n, v] := (Below.heap_alloc _ _ _ (by simp)).trans r1
  have hs1 : (w.alloc (.cells #[.int .i64 verb, .string name, .string other, .int .i64 born, .int .i64 live, .int .i64 n, v] 38)).heap.size = w.heap.size + 1 := by simp
  have a2 := noAn_born (w.alloc (.cells #[.int .i64 verb, .string name, .string other, .int .i64 born, .int .i64 live, .int .i64 n, v] 38))
  rw [hs1] at a2
  unfold noAn at a2
  have HSZ : Hid (w.heap.size + 1 < ((w.alloc (.cells #[.int .i64 verb, .string name, .string other, .int .i64 born, .int .i64 live, .int .i64 n, v] 38)).alloc (.cells #[.int .i64 0, .int .i64 0, .int .i64 0, .int .i64 0, .int .i64 0, .int .i64 0, .int .i64 0, .int .i64 0, .string ⟨#[]⟩, .slice none 0 0] 35)).heap.size ∧ hb < w.heap.size) := ⟨by show w.heap.size + 1 < _; simp, h.lt⟩
  have HW : Hid (∀ W, Below w.heap.size w W → HlAt W (ext o w.heap.size 7) 5 hb b t draw S ids wv kv) := fun W hW => h.ch (ch_seven hW) (by decide)
  have hky := fun W => keyed_any name W (by omega)
  rw [hkey] at hky
  have HFI : Hid (∀ W (_ : Below w.heap.size w W), Calls Tryz.prog 55 #[.agg #[.int .i64 S.serial, kv], .string name, .int .i64 right] W fun x w' => x = .returned (.tuple #[.string nm, .int .i64 0]) ∧ Below W.heap.size W w') := fun W hW => by
    have := find_any S.serial kv S.ks name right W (HW.out W hW).keys.hk hok
    rw [hfind] at this
    exact this
  have HH : Hid (HlAt w o 5 hb b t draw S ids wv kv ∧ ArL w o b A) := ⟨h, hA⟩
  clear hs
  unfold reqV
  have HD : Hid (∀ W oo, Ch (fun l => l = 7) o w oo W → Calls Tryz.prog f #[.pointer (some ⟨hb, 0, none⟩), .pointer (some ⟨k, 0, none⟩), .agg #[.int .i64 verb, .string name, .string other, .int .i64 born, .int .i64 live, .int .i64 n, v]] W fun r w' => Leaves b oo W Z r w') := HDO
  have HZS : Hid (Stable Z) := hZ
  have hkb : ids[i]! = k := by rw [List.getElem!_eq_getElem?_getD, hk]; rfl
  have HWD : Hid (∀ W (_ : Below w.heap.size w W), Calls Tryz.prog 50 #[.pointer (some ⟨hb, 0, none⟩), .string nm] W fun r w' => r = .returned (.pointer (some ⟨k, 0, none⟩)) ∧ w' = W) := fun W hW => by
    have := world_any (HW.out W hW) nm hids
    rw [ptN_some hat, hkb] at this
    exact this
  clear h hA b1 r1 hs1 hfind hok hkey HDO hZ hkb hat hk hids
  go_enter Tryz.func29, Tryz.ntmps29
  go_wp2_with fail
  generalize ((w.alloc (.cells #[.int .i64 verb, .string name, .string other, .int .i64 born, .int .i64 live, .int .i64 n, v] 38)).alloc (.cells #[.int .i64 0, .int .i64 0, .int .i64 0, .int .i64 0, .int .i64 0, .int .i64 0, .int .i64 0, .int .i64 0, .string ⟨#[]⟩, .slice none 0 0] 35)) = wA at *
  refine (hky _).mono ?_
  rintro x w1 ⟨rfl, hb1⟩
  have HB1 : Hid (Below w.heap.size w w1 ∧ Below wA.heap.size wA w1) := ⟨b2.trans (hb1.mono b2.size), hb1⟩
  have HAR : Hid (AnB wA (w.heap.size + 1) #[.int .i64 0, .int .i64 0, .int .i64 0, .int .i64 0, .int .i64 0, .int .i64 0, .int .i64 0, .int .i64 0, .string ⟨#[]⟩, .slice none 0 0] ∧ RqB wA w.heap.size #[.int .i64 verb, .string name, .string other, .int .i64 born, .int .i64 live, .int .i64 n, v]) := ⟨a2, r2⟩
  obtain ⟨-, -, -, -, x4, x5⟩ := (HW.out _ HB1.out.1).cells
  have hfi := HFI.out _ HB1.out.1
  obtain ⟨sr, hsr⟩ : ∃ sr, sr = S.serial := ⟨_, rfl⟩
  rw [← hsr] at hfi x4
  clear hb1 r2 a2 b2 hky hsr
  go_wp2_with fail
  refine hfi.mono ?_
  rintro x w2 ⟨rfl, hb2⟩
  have HB2 : Hid (Below w.heap.size w w2 ∧ AnB w2 (w.heap.size + 1) #[.int .i64 0, .int .i64 0, .int .i64 0, .int .i64 0, .int .i64 0, .int .i64 0, .int .i64 0, .int .i64 0, .string ⟨#[]⟩, .slice none 0 0] ∧ RqB w2 w.heap.size #[.int .i64 verb, .string name, .string other, .int .i64 born, .int .i64 live, .int .i64 n, v] ∧ w.heap.size + 1 < w2.heap.size) := ⟨HB1.out.1.trans (hb2.mono HB1.out.1.size), (HAR.out.1.below HB1.out.2).below hb2, (hb2.block _ (by have := HB1.out.2.size; have := HSZ.out; omega)).trans ((HB1.out.2.block _ (by have := HSZ.out; omega)).trans HAR.out.2), by have := HB1.out.2.size; have := HSZ.out; have := hb2.size; omega⟩
  clear hb2 hfi x4 x5
  go_wp2_with fail
  refine (HWD.out _ HB2.out.1).mono ?_
  rintro x w3 ⟨rfl, rfl⟩
  obtain ⟨k0, k1, k2, k3, k4, k5, k6⟩ := HB2.out.2.2.1.cells
  go_upto_region 10 with fail
  go_wp2_with (go_at_fn f; refine (HD.out _ _ (ch_seven HB2.out.1)).mono ?_; rintro r w4 ⟨⟨i0, i1, i2, i3, i4, i5, i6, i7, key, sp, sn, sc, e, A3, o3, rfl, hA3, hC3, hZ3⟩⟩; have HF : Hid (ArL w4 o3 b A3 ∧ Ch (fun l => l = 1 ∨ l = 5) o w o3 w4 ∧ Z #[.int .i64 i0, .int .i64 i1, .int .i64 i2, .int .i64 i3, .int .i64 i4, .int .i64 i5, .int .i64 i6, .int .i64 i7, .string key, .slice sp sn sc] e A3 o3 w4 ∧ AnB w4 (w.heap.size + 1) #[.int .i64 0, .int .i64 0, .int .i64 0, .int .i64 0, .int .i64 0, .int .i64 0, .int .i64 0, .int .i64 0, .string ⟨#[]⟩, .slice none 0 0] ∧ o3 (w.heap.size + 1) = 7) := ⟨hA3, (Ch.ofBelow HB2.out.1 7).trans hC3, hZ3, (hC3.block _ HB2.out.2.2.2 (by rw [ext_new (Nat.le_succ _)]; decide)).trans HB2.out.2.1, (hC3.lab _ HB2.out.2.2.2).trans (ext_new (Nat.le_succ _))⟩; obtain ⟨c0, c1, c2, c3, c4, c5, c6, c7, c8, c9, f0, f1, f2, f3, f4, f5, f6, f7, f8, f9⟩ := HF.out.2.2.2.1.cells; clear hA3 hC3 hZ3)
  obtain ⟨d0, d1, d2, d3, d4, d5, d6, d7, d8, d9, -⟩ := (HF.out.2.2.2.1.put (a0 := .int .i64 i0) (a1 := .int .i64 i1) (a2 := .int .i64 i2) (a3 := .int .i64 i3) (a4 := .int .i64 i4) (a5 := .int .i64 i5) (a6 := .int .i64 i6) (a7 := .int .i64 i7) (a8 := .string key) (a9 := .slice sp sn sc)).cells
  unfold putAn at d0  d1  d2  d3  d4  d5  d6  d7  d8  d9
  have c2 := Ch.an7 HF.out.2.2.2.2 (w := w4) (a0 := .int .i64 i0) (a1 := .int .i64 i1) (a2 := .int .i64 i2) (a3 := .int .i64 i3) (a4 := .int .i64 i4) (a5 := .int .i64 i5) (a6 := .int .i64 i6) (a7 := .int .i64 i7) (a8 := .string key) (a9 := .slice sp sn sc)
  refine bodyPost_ret (v := .tuple #[.agg #[.int .i64 i0, .int .i64 i1, .int .i64 i2, .int .i64 i3, .int .i64 i4, .int .i64 i5, .int .i64 i6, .int .i64 i7, .string key, .slice sp sn sc], .int .i64 e]) ?_ rfl ⟨⟨i0, i1, i2, i3, i4, i5, i6, i7, key, sp, sn, sc, e, A3, _, rfl, HF.out.1.ch c2 (by decide), Ch.an HF.out.2.1 (Nat.le_succ _), HZS.out _ _ _ _ _ _ _ HF.out.2.2.1 c2⟩⟩
  simp [results, Tryz.results29, go_sem, d0, d1, d2, d3, d4, d5, d6, d7, d8, d9]
end Go.Proofs.YtgipjplifndniaaGreatDoor.U
