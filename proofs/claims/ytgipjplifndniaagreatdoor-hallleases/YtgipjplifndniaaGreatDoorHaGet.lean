/- A universe's cells told. -/
import Derived.Test.YtgipjplifndniaaGreatDoorHaPut
import Derived.Test.YtgipjplifndniaaGreatDoorKyMint
import Derived.Test.YtgipjplifndniaaGreatDoorKyNamed
import Derived.Deep.RegionHeld3
import Derived.Test.YtgipjplifndniaaGreatDoorLpAddC
import Derived.Test.YtgipjplifndniaaGreatDoorHaBare
namespace Go.Proofs.YtgipjplifndniaaGreatDoor.U
open Go.RowKit Go.Maps Go.Proofs.YtgipjplifndniaaGreatDoor.L Go.Proofs.YtgipjplifndniaaGreatDoor.A Go.Proofs.YtgipjplifndniaaGreatDoor.K

def AnB (W : World) (R : Nat) (vs : Array Value) : Prop := W.heap[R]? = some (.cells vs 35 (0, 0))
def RqB (W : World) (R : Nat) (vs : Array Value) : Prop := W.heap[R]? = some (.cells vs 38 (0, 0))
theorem AnB.cells {W : World} {R : Nat} {a0 a1 a2 a3 a4 a5 a6 a7 a8 a9 : Value} (h : AnB W R #[a0, a1, a2, a3, a4, a5, a6, a7, a8, a9]) :
    W.cell? ⟨R, 0, none⟩ = some a0 ∧ W.cell? ⟨R, 1, none⟩ = some a1 ∧ W.cell? ⟨R, 2, none⟩ = some a2 ∧ W.cell? ⟨R, 3, none⟩ = some a3 ∧ W.cell? ⟨R, 4, none⟩ = some a4 ∧ W.cell? ⟨R, 5, none⟩ = some a5 ∧ W.cell? ⟨R, 6, none⟩ = some a6 ∧ W.cell? ⟨R, 7, none⟩ = some a7 ∧ W.cell? ⟨R, 8, none⟩ = some a8 ∧ W.cell? ⟨R, 9, none⟩ = some a9 ∧ W.frozen? ⟨R, 0, none⟩ = false ∧ W.frozen? ⟨R, 1, none⟩ = false ∧ W.frozen? ⟨R, 2, none⟩ = false ∧ W.frozen? ⟨R, 3, none⟩ = false ∧ W.frozen? ⟨R, 4, none⟩ = false ∧ W.frozen? ⟨R, 5, none⟩ = false ∧ W.frozen? ⟨R, 6, none⟩ = false ∧ W.frozen? ⟨R, 7, none⟩ = false ∧ W.frozen? ⟨R, 8, none⟩ = false ∧ W.frozen? ⟨R, 9, none⟩ = false :=
  ⟨by rw [Lib.cell_of_heap h]; rfl, by rw [Lib.cell_of_heap h]; rfl, by rw [Lib.cell_of_heap h]; rfl, by rw [Lib.cell_of_heap h]; rfl, by rw [Lib.cell_of_heap h]; rfl, by rw [Lib.cell_of_heap h]; rfl, by rw [Lib.cell_of_heap h]; rfl, by rw [Lib.cell_of_heap h]; rfl, by rw [Lib.cell_of_heap h]; rfl, by rw [Lib.cell_of_heap h]; rfl, Lib.frozen_of_heap h 0, Lib.frozen_of_heap h 1, Lib.frozen_of_heap h 2, Lib.frozen_of_heap h 3, Lib.frozen_of_heap h 4, Lib.frozen_of_heap h 5, Lib.frozen_of_heap h 6, Lib.frozen_of_heap h 7, Lib.frozen_of_heap h 8, Lib.frozen_of_heap h 9⟩
theorem RqB.cells {W : World} {R : Nat} {a0 a1 a2 a3 a4 a5 a6 : Value} (h : RqB W R #[a0, a1, a2, a3, a4, a5, a6]) :
    W.cell? ⟨R, 0, none⟩ = some a0 ∧ W.cell? ⟨R, 1, none⟩ = some a1 ∧ W.cell? ⟨R, 2, none⟩ = some a2 ∧ W.cell? ⟨R, 3, none⟩ = some a3 ∧ W.cell? ⟨R, 4, none⟩ = some a4 ∧ W.cell? ⟨R, 5, none⟩ = some a5 ∧ W.cell? ⟨R, 6, none⟩ = some a6 :=
  ⟨by rw [Lib.cell_of_heap h]; rfl, by rw [Lib.cell_of_heap h]; rfl, by rw [Lib.cell_of_heap h]; rfl, by rw [Lib.cell_of_heap h]; rfl, by rw [Lib.cell_of_heap h]; rfl, by rw [Lib.cell_of_heap h]; rfl, by rw [Lib.cell_of_heap h]; rfl⟩
def putAn (w : World) (R : Nat) (a0 a1 a2 a3 a4 a5 a6 a7 a8 a9 : Value) : World := (((((((((w.setCell ⟨R, 0, none⟩ a0).setCell ⟨R, 1, none⟩ a1).setCell ⟨R, 2, none⟩ a2).setCell ⟨R, 3, none⟩ a3).setCell ⟨R, 4, none⟩ a4).setCell ⟨R, 5, none⟩ a5).setCell ⟨R, 6, none⟩ a6).setCell ⟨R, 7, none⟩ a7).setCell ⟨R, 8, none⟩ a8).setCell ⟨R, 9, none⟩ a9
theorem AnB.put {w : World} {R : Nat} {b0 b1 b2 b3 b4 b5 b6 b7 b8 b9 a0 a1 a2 a3 a4 a5 a6 a7 a8 a9 : Value} (h : AnB w R #[b0, b1, b2, b3, b4, b5, b6, b7, b8, b9]) : AnB (putAn w R a0 a1 a2 a3 a4 a5 a6 a7 a8 a9) R #[a0, a1, a2, a3, a4, a5, a6, a7, a8, a9] := by
  have e := Go.Joins.block_setCell (i := 9) (Go.Joins.block_setCell (i := 8) (Go.Joins.block_setCell (i := 7) (Go.Joins.block_setCell (i := 6) (Go.Joins.block_setCell (i := 5) (Go.Joins.block_setCell (i := 4) (Go.Joins.block_setCell (i := 3) (Go.Joins.block_setCell (i := 2) (Go.Joins.block_setCell (i := 1) (Go.Joins.block_setCell (i := 0) h a0) a1) a2) a3) a4) a5) a6) a7) a8) a9
  simp only [List.setIfInBounds_toArray, List.set_cons_zero, List.set_cons_succ] at e
  exact e
theorem putAn_far {w : World} {R k : Nat} {a0 a1 a2 a3 a4 a5 a6 a7 a8 a9 : Value} (h : k ≠ R) : (putAn w R a0 a1 a2 a3 a4 a5 a6 a7 a8 a9).heap[k]? = w.heap[k]? := by
  unfold putAn
  rw [Below.heap_setCell _ _ _ _ h, Below.heap_setCell _ _ _ _ h, Below.heap_setCell _ _ _ _ h, Below.heap_setCell _ _ _ _ h, Below.heap_setCell _ _ _ _ h, Below.heap_setCell _ _ _ _ h, Below.heap_setCell _ _ _ _ h, Below.heap_setCell _ _ _ _ h, Below.heap_setCell _ _ _ _ h, Below.heap_setCell _ _ _ _ h]
theorem putAn_size {w : World} {R : Nat} {a0 a1 a2 a3 a4 a5 a6 a7 a8 a9 : Value} : (putAn w R a0 a1 a2 a3 a4 a5 a6 a7 a8 a9).heap.size = w.heap.size := by
  unfold putAn
  simp [World.setCell]
theorem putAn_below {w w' : World} {B R : Nat} {a0 a1 a2 a3 a4 a5 a6 a7 a8 a9 : Value} (h : Below B w w') (hR : B ≤ R) : Below B w (putAn w' R a0 a1 a2 a3 a4 a5 a6 a7 a8 a9) :=
  (((((((((h.setCell (p := ⟨R, 0, none⟩) hR _).setCell (p := ⟨R, 1, none⟩) hR _).setCell (p := ⟨R, 2, none⟩) hR _).setCell (p := ⟨R, 3, none⟩) hR _).setCell (p := ⟨R, 4, none⟩) hR _).setCell (p := ⟨R, 5, none⟩) hR _).setCell (p := ⟨R, 6, none⟩) hR _).setCell (p := ⟨R, 7, none⟩) hR _).setCell (p := ⟨R, 8, none⟩) hR _).setCell (p := ⟨R, 9, none⟩) hR _
def noAn : Array Value := #[.int .i64 0, .int .i64 0, .int .i64 0, .int .i64 0, .int .i64 0, .int .i64 0, .int .i64 0, .int .i64 0, .string ⟨#[]⟩, .slice none 0 0]
theorem noAn_born (w : World) : AnB (w.alloc (.cells noAn 35)) w.heap.size noAn := by
  exact Go.Deep.blk_alloc_new _ _
theorem AnB.below {w w' : World} {R : Nat} {vs : Array Value} (h : AnB w R vs) (hb : Below w.heap.size w w') : AnB w' R vs := (hb.block R (Array.getElem?_eq_some_iff.1 h).1).trans h
theorem AnB.lt {w : World} {R : Nat} {vs : Array Value} (h : AnB w R vs) : R < w.heap.size := (Array.getElem?_eq_some_iff.1 h).1
variable {w w1 : World} {o o1 o2 : Nat → Nat} {L hb ab t R : Nat} {draw : Int} {S : Hl} {ids : List Nat} {wv kv : Value} {M : Nat → Prop}
theorem HlAt.more (h : HlAt w o L hb ab t draw S ids wv kv) (ho : ∀ k, o k = L → o1 k = L) : HlAt w o1 L hb ab t draw S ids wv kv :=
  ⟨h.own, ho _ h.lab, h.row, fun k hk => ho k (h.rlab k hk), h.len, fun i k x hk hx => ⟨(h.each i k x hk hx).1, ho k (h.each i k x hk hx).2⟩, h.nodup, h.keys, fun k hk => ho k (h.klab k hk), h.rne, h.kne, h.hne⟩
theorem HlAt.fin (h : HlAt w o L hb ab t draw S ids wv kv) (hR : o R ≠ L) {a0 a1 a2 a3 a4 a5 a6 a7 a8 a9 : Value} : HlAt (putAn w R a0 a1 a2 a3 a4 a5 a6 a7 a8 a9) o L hb ab t draw S ids wv kv := h.keep fun _ _ hk => ⟨putAn_far fun e => hR (e ▸ hk), hk⟩
theorem Ch.an (h : Ch M o w o1 w1) (hR : w.heap.size ≤ R) {a0 a1 a2 a3 a4 a5 a6 a7 a8 a9 : Value} : Ch M o w o1 (putAn w1 R a0 a1 a2 a3 a4 a5 a6 a7 a8 a9) := by
  have hp := putAn_below (a0 := a0) (a1 := a1) (a2 := a2) (a3 := a3) (a4 := a4) (a5 := a5) (a6 := a6) (a7 := a7) (a8 := a8) (a9 := a9) (Below.refl R w1) (Nat.le_refl R)
  exact ⟨hp.os.trans h.os, hp.tape.trans h.tape, hp.output.trans h.output, by rw [putAn_size]; exact h.size, h.lab, fun k hk hn => (hp.block k (by omega)).trans (h.block k hk hn)⟩
theorem Ch.an0 (hR : o R = 0) {a0 a1 a2 a3 a4 a5 a6 a7 a8 a9 : Value} : Ch (fun l => l = 0) o w o (putAn w R a0 a1 a2 a3 a4 a5 a6 a7 a8 a9) := by
  have hp := putAn_below (a0 := a0) (a1 := a1) (a2 := a2) (a3 := a3) (a4 := a4) (a5 := a5) (a6 := a6) (a7 := a7) (a8 := a8) (a9 := a9) (Below.refl R w) (Nat.le_refl R)
  exact ⟨hp.os, hp.tape, hp.output, by rw [putAn_size]; exact Nat.le_refl _, fun _ _ => rfl, fun k _ hn => putAn_far fun e => hn (e ▸ hR)⟩
theorem Ch.an7 (hR : o R = 7) {a0 a1 a2 a3 a4 a5 a6 a7 a8 a9 : Value} : Ch (fun l => l = 7) o w o (putAn w R a0 a1 a2 a3 a4 a5 a6 a7 a8 a9) := by
  have hp := putAn_below (a0 := a0) (a1 := a1) (a2 := a2) (a3 := a3) (a4 := a4) (a5 := a5) (a6 := a6) (a7 := a7) (a8 := a8) (a9 := a9) (Below.refl R w) (Nat.le_refl R)
  exact ⟨hp.os, hp.tape, hp.output, by rw [putAn_size]; exact Nat.le_refl _, fun _ _ => rfl, fun k _ hn => putAn_far fun e => hn (e ▸ hR)⟩
def owned (o : Nat → Nat) (s : Nat) (u : Value) : Nat → Nat := fun k => if u.ownBlock = some k then 5 else ext o s 0 k
theorem owned_more {s : Nat} {u : Value} (k : Nat) (h : ext o s 0 k = 5) : owned o s u k = 5 := by
  unfold owned
  split
  · rfl
  · exact h
theorem owned_new {s : Nat} {u : Value} {k : Nat} (h : u.ownBlock = some k) : owned o s u k = 5 := if_pos h
theorem owned_old {s : Nat} {u : Value} {k : Nat} (h : u.ownBlock ≠ some k) (hk : s ≤ k) : owned o s u k = 0 := by
  unfold owned
  rw [if_neg h]
  exact ext_new hk
theorem owned_same {s : Nat} {u : Value} {k : Nat} (h : ∀ q, u.ownBlock = some q → s ≤ q) (hk : k < s) : owned o s u k = o k := by
  unfold owned
  rw [if_neg fun e => by have := h k e; omega]
  exact ext_old hk
end Go.Proofs.YtgipjplifndniaaGreatDoor.U

namespace Go.Proofs.YtgipjplifndniaaGreatDoor.U
open Go.RowKit Go.Maps Go.Proofs.YtgipjplifndniaaGreatDoor.L Go.Proofs.YtgipjplifndniaaGreatDoor.A Go.Proofs.YtgipjplifndniaaGreatDoor.K

variable {w w1 : World} {o o1 : Nat → Nat} {hb ab t i : Nat} {draw : Int} {S : Hl} {ids : List Nat} {wv kv : Value}
theorem three {a b c d : Prop} (h : a ∧ b ∧ c ∧ d) : a ∧ b ∧ c := ⟨h.1, h.2.1, h.2.2.1⟩
theorem ptN_some {ws : List Wd} {name : ByteArray} {i : Nat} (h : atN ws name = some i) : ptN ws ids name = .pointer (some ⟨ids[i]!, 0, none⟩) := by
  unfold ptN
  rw [h]
theorem ptN_none {ws : List Wd} {name : ByteArray} (h : atN ws name = none) : ptN ws ids name = .pointer none := by
  unfold ptN
  rw [h]
set_option maxRecDepth 20000 in
set_option maxHeartbeats 1000000 in
theorem lease_keyed (name : ByteArray) (rights : Int) (hs : name.size ≤ 9223372036854775807) (hk : keyedB name = true) (w : World) :
    Calls Tryz.prog 37 #[.pointer (some ⟨hb, 0, none⟩), .string name, .int .i64 rights] w fun r w' => r = .returned (.tuple #[codeV 0, .int .i64 10]) ∧ Below w.heap.size w w' := by
  have hb0 : Below w.heap.size w (w.alloc (.cells noAn 35)) := (Below.refl _ _).alloc (Nat.le_refl _) _
  have hn0 := noAn_born w
  have hc := fun W => keyed_any name W hs
  rw [hk] at hc
  unfold noAn at hb0 hn0
  have HB : Hid (Below w.heap.size w (w.alloc (.cells #[.int .i64 0, .int .i64 0, .int .i64 0, .int .i64 0, .int .i64 0, .int .i64 0, .int .i64 0, .int .i64 0, .string ⟨#[]⟩, .slice none 0 0] 35)) ∧ AnB (w.alloc (.cells #[.int .i64 0, .int .i64 0, .int .i64 0, .int .i64 0, .int .i64 0, .int .i64 0, .int .i64 0, .int .i64 0, .string ⟨#[]⟩, .slice none 0 0] 35)) w.heap.size #[.int .i64 0, .int .i64 0, .int .i64 0, .int .i64 0, .int .i64 0, .int .i64 0, .int .i64 0, .int .i64 0, .string ⟨#[]⟩, .slice none 0 0]) := ⟨hb0, hn0⟩
  clear hb0 hn0
  go_enter Tryz.func37, Tryz.ntmps37
  go_wp2_with fail
  refine (hc _).mono ?_
  rintro e w1 ⟨rfl, hb1⟩
  have a1 := HB.out.2.below hb1
  have HB1 : Hid (Below w.heap.size w w1 ∧ AnB w1 w.heap.size _) := ⟨HB.out.1.trans (hb1.mono HB.out.1.size), a1⟩
  obtain ⟨c0, c1, c2, c3, c4, c5, c6, c7, c8, c9, f0, f1, f2, f3, f4, f5, f6, f7, f8, f9⟩ := a1.cells
  clear a1 hb1 hc
  go_wp2_with fail
  obtain ⟨d0, d1, d2, d3, d4, d5, d6, d7, d8, d9, -⟩ := (HB1.out.2.put (a0 := .int .i64 0) (a1 := .int .i64 0) (a2 := .int .i64 0) (a3 := .int .i64 0) (a4 := .int .i64 0) (a5 := .int .i64 0) (a6 := .int .i64 0) (a7 := .int .i64 0) (a8 := .string ⟨#[]⟩) (a9 := .slice none 0 0)).cells
  unfold putAn at d0  d1  d2  d3  d4  d5  d6  d7  d8  d9
  refine bodyPost_ret (v := .tuple #[codeV 0, .int .i64 10]) ?_ rfl ⟨rfl, putAn_below HB1.out.1 (Nat.le_refl _)⟩
  simp [results, Tryz.results37, go_sem, d0, d1, d2, d3, d4, d5, d6, d7, d8, d9, codeV, ansV]
set_option maxRecDepth 20000 in
set_option maxHeartbeats 2000000 in
theorem lease_any (h : HlAt w o 5 hb ab t draw S ids wv kv) (hv : Vars w) (name : ByteArray) (rights : Int) (hs : name.size ≤ 140737488355328) (hk : keyedB name = false) (hat : atN S.ws name = some i) (hok : ∀ k ∈ S.ks, k.ok) (h0 : 0 ≤ S.serial) (h1 : S.serial ≤ 2147483647) (hr0 : 1 ≤ rights) (hr1 : rights ≤ 3) (hl : S.ks.length < 32) (hids : ids.length ≤ 1000000) :
    Calls Tryz.prog 37 #[.pointer (some ⟨hb, 0, none⟩), .string name, .int .i64 rights] w fun r w' => r = .returned (.tuple #[ansV 0 0 0 0 0 0 0 0 ⟨(keyT S.serial draw).toArray⟩ (.slice none 0 0), .int .i64 0]) ∧ ∃ o' u, HlAt w' o' 5 hb ab t draw ⟨S.ws, S.serial + 1, S.ks ++ [⟨⟨(keyT S.serial draw).toArray⟩, name, rights⟩]⟩ ids wv u ∧ Ch (fun l => l = 5) o w o' w' := by
  have hb0 : Below w.heap.size w (w.alloc (.cells noAn 35)) := (Below.refl _ _).alloc (Nat.le_refl _) _
  have hn0 := noAn_born w
  have hc := fun W => keyed_any name W (by omega)
  rw [hk] at hc
  unfold noAn at hb0 hn0
  have HB : Hid (Below w.heap.size w (w.alloc (.cells #[.int .i64 0, .int .i64 0, .int .i64 0, .int .i64 0, .int .i64 0, .int .i64 0, .int .i64 0, .int .i64 0, .string ⟨#[]⟩, .slice none 0 0] 35)) ∧ AnB (w.alloc (.cells #[.int .i64 0, .int .i64 0, .int .i64 0, .int .i64 0, .int .i64 0, .int .i64 0, .int .i64 0, .int .i64 0, .string ⟨#[]⟩, .slice none 0 0] 35)) w.heap.size #[.int .i64 0, .int .i64 0, .int .i64 0, .int .i64 0, .int .i64 0, .int .i64 0, .int .i64 0, .int .i64 0, .string ⟨#[]⟩, .slice none 0 0]) := ⟨hb0, hn0⟩
  have HW : Hid (∀ W, Below w.heap.size w W → (∀ l, HlAt W (ext o w.heap.size l) 5 hb ab t draw S ids wv kv) ∧ Vars W) := fun W hW => ⟨fun l => h.below hW l, hv.below hW⟩
  have HW0 : Hid (HlAt w o 5 hb ab t draw S ids wv kv) := h
  have hwd := fun W (hW : Below w.heap.size w W) => world_any ((HW.out W hW).1 0) name hids
  rw [ptN_some hat] at hwd
  have hsz := h.lt
  clear hb0 hn0
  obtain ⟨TX, hTX⟩ : ∃ TX, TX = (⟨(keyT S.serial draw).toArray⟩ : ByteArray) := ⟨_, rfl⟩
  have hmt := fun W (hW : Below w.heap.size w W) => mint_any S.serial kv S.ks name rights draw W (HW.out W hW).2 ((HW.out W hW).1 0).keys.hk hok hs h0 h1 hr0 hr1 hl
  rw [← hTX] at hmt ⊢
  obtain ⟨sr, hsr⟩ : ∃ sr, sr = S.serial := ⟨_, rfl⟩
  have HK : Hid (w.heap.size = w.heap.size ∧ hb < w.heap.size ∧ sr = S.serial) := ⟨rfl, hsz, hsr⟩
  have HL : Hid (∀ W, Below w.heap.size w W → W.cell? ⟨hb, 4, none⟩ = some (.int .i64 sr) ∧ W.cell? ⟨hb, 5, none⟩ = some kv ∧ W.cell? ⟨hb, 2, none⟩ = some (.int .i64 draw) ∧ W.frozen? ⟨hb, 4, none⟩ = false ∧ W.frozen? ⟨hb, 5, none⟩ = false ∧ hb < w.heap.size) := fun W hW => by
    obtain ⟨_, _, c2, _, c4, c5⟩ := ((HW.out W hW).1 0).cells
    rw [hsr]
    exact ⟨c4, c5, c2, ((HW.out W hW).1 0).free 4, ((HW.out W hW).1 0).free 5, hsz⟩
  rw [← hsr] at hmt ⊢
  clear h hv hTX hsr h0 h1 hr0 hr1 hl hids hat hs hok hsz
  go_enter Tryz.func37, Tryz.ntmps37
  go_wp2_with fail
  refine (hc _).mono ?_
  rintro e w1 ⟨rfl, hb1⟩
  have HB1 : Hid (Below w.heap.size w w1 ∧ AnB w1 w.heap.size _) := ⟨HB.out.1.trans (hb1.mono HB.out.1.size), HB.out.2.below hb1⟩
  clear hb1 hc
  go_wp2_with fail
  refine (hwd _ HB1.out.1).mono ?_
  rintro e w2 ⟨rfl, rfl⟩
  have S0 := HL.out _ HB1.out.1
  obtain ⟨x4, x5, x2, -⟩ := S0
  have hsl : w.heap.size ≤ w2.heap.size := HB1.out.1.size
  have HBD : Hid (Below w.heap.size w w2.drew) := HB1.out.1.drew
  have HBE : Hid (Below w.heap.size w (w2.alloc (.cells #[.int .i64 0, .slice none 0 0] 54)).drew) := (HB1.out.1.alloc hsl _).drew
  have HMT : Hid (∀ W (_ : Below w.heap.size w W), Calls Tryz.prog 65 #[.agg #[.int .i64 sr, kv], .string name, .int .i64 rights, .int .i64 draw] W fun e w' => ∃ u, e = .returned (.tuple #[.agg #[.int .i64 (sr + 1), u], .string TX, .int .i64 0]) ∧ KRow w' W.heap.size u (S.ks ++ [⟨TX, name, rights⟩]) ∧ Below W.heap.size W w') := hmt
  clear hwd hmt
  go_wp2_with fail
  go_region_held3 (fun W => W.cell? ⟨hb, 4, none⟩ = some (.int .i64 sr) ∧ W.cell? ⟨hb, 5, none⟩ = some kv ∧ W.cell? ⟨hb, 2, none⟩ = some (.int .i64 draw)) (first | exact ⟨x4, x5, x2⟩ | exact three (HL.out _ B3) | exact three (HL.out _ HBE.out) | exact three (HL.out _ (B3.alloc hs3 _)) | exact three (HL.out _ ((B3.alloc hs3 _).setCell (p := ⟨w3.heap.size, 0, none⟩) hs3 _)) | exact three (HL.out _ (((B3.alloc hs3 _).setCell (p := ⟨w3.heap.size, 0, none⟩) hs3 _).setCell (p := ⟨w3.heap.size, 1, none⟩) hs3 _)) | exact three (HL.out _ ((B3.setCell (p := ⟨w2.heap.size, 0, none⟩) hsl _).setCell (p := ⟨w2.heap.size, 1, none⟩) hsl _)))
    (first | (go_at_call 65; refine (HMT.out _ HBD.out).mono ?_; rintro e w3 ⟨u, rfl, hk3, hb3⟩; have B3 : Below w.heap.size w w3 := HBD.out.trans (hb3.mono HBD.out.size); have hs3 : w.heap.size ≤ w3.heap.size := B3.size; have hs23 : w2.heap.size ≤ w3.heap.size := hb3.size; obtain ⟨y4, y5, y2, z4, z5, hlt⟩ := HL.out _ B3; obtain ⟨pv, nv, cv, rfl⟩ := owns_form hk3; have HA3 : Hid (KRow w3 w2.heap.size (.slice pv nv cv) _ ∧ AnB w3 w.heap.size _) := ⟨hk3, AnB.below (w := w2.drew) HB1.out.2 hb3⟩; clear hk3 hb3) | (go_at_call 65; refine (HMT.out _ HBE.out).mono ?_; rintro e w3 ⟨u, rfl, hk3, hb3⟩; have B3 : Below w.heap.size w w3 := HBE.out.trans (hb3.mono HBE.out.size); have hs3 : w.heap.size ≤ w3.heap.size := B3.size; obtain ⟨t80, t81, t8f0, t8f1, t8l⟩ := (T2.born w2 0 (.slice none 0 0) 54).keep (w' := w3) (hb3.block w2.heap.size (by simp)) (by have := hb3.size; exact this); obtain ⟨y4, y5, y2, z4, z5, hlt⟩ := HL.out _ B3; obtain ⟨pv, nv, cv, rfl⟩ := owns_form hk3; have HA3 : Hid (KRow w3 (w2.heap.size + 1) (.slice pv nv cv) _ ∧ AnB w3 w.heap.size _) := ⟨by simpa using hk3, AnB.below (w := (w2.alloc (.cells #[.int .i64 0, .slice none 0 0] 54)).drew) (HB1.out.2.below (((Below.refl _ _).alloc (Nat.le_refl _) _).drew)) hb3⟩; clear hk3 hb3))
  · have B5 := B3.alloc hs3 (.cells #[.int .i64 (sr + 1), .slice pv nv cv] 54)
    have t8 := T2.born w3 (sr + 1) (.slice pv nv cv) 54
    have hbA : Below w3.heap.size w3 (w3.alloc (.cells #[.int .i64 (sr + 1), .slice pv nv cv] 54)) := (Below.refl _ _).alloc (Nat.le_refl _) _
    have k5 := HA3.out.1.below hbA
    have r5 := HA3.out.2.below hbA
    clear hbA
    generalize w3.alloc (.cells #[.int .i64 (sr + 1), .slice pv nv cv] 54) = w5 at *
    generalize w3.heap.size = r8 at *
    have HF : Hid (Below w.heap.size w w5 ∧ KRow w5 w2.heap.size (.slice pv nv cv) _ ∧ AnB w5 w.heap.size _) := ⟨B5, k5, r5⟩
    clear B5 k5 r5 HA3 x4 x5 x2 y4 y5 y2 z4 z5 hlt
    obtain ⟨y4, y5, -, z4, z5, hlt⟩ := HL.out _ HF.out.1
    obtain ⟨t80, t81, -⟩ := t8
    go_upto_region 9 with fail
    have hkl : ∀ q, (Value.slice pv nv cv).ownBlock = some q → w.heap.size < q := fun q hq => by
      have h1 := HF.out.2.1.lt q hq
      have h2 := HB1.out.2.lt
      omega
    have H6 := (((HW.out w5 HF.out.1).1 0).more (o1 := owned o w.heap.size (.slice pv nv cv)) owned_more).table (s' := sr + 1) (HF.out.2.1.mono (Nat.zero_le _)) fun q hq => ⟨owned_new hq, by have := hkl q hq; omega, fun hm => by
      obtain ⟨j, hj⟩ := List.getElem?_of_mem hm
      obtain ⟨_, _, _, _, h3⟩ := (HlAt.wlt (HW0.out) hj)
      have := hkl q hq
      omega⟩
    have hC6 : Ch (fun l => l = 5) o w (owned o w.heap.size (.slice pv nv cv)) ((w5.setCell ⟨hb, 4, none⟩ (.int .i64 (sr + 1))).setCell ⟨hb, 5, none⟩ (.slice pv nv cv)) := by
      have hb5 := HF.out.1
      refine ⟨hb5.os, hb5.tape, hb5.output, by simp [World.setCell]; exact hb5.size, fun k hk => owned_same (fun q hq => by have := hkl q hq; omega) hk, fun k hk hn => ?_⟩
      have hne : k ≠ hb := fun e => hn (e ▸ HW0.out.lab)
      exact ((Below.heap_setCell _ _ _ _ hne).trans (Below.heap_setCell _ _ _ _ hne)).trans (hb5.block k hk)
    have r6 : AnB ((w5.setCell ⟨hb, 4, none⟩ (.int .i64 (sr + 1))).setCell ⟨hb, 5, none⟩ (.slice pv nv cv)) w.heap.size _ := ((Below.heap_setCell _ _ _ _ (by show w.heap.size ≠ hb; omega)).trans (Below.heap_setCell _ _ _ _ (by show w.heap.size ≠ hb; omega))).trans HF.out.2.2
    have hR : owned o w.heap.size (.slice pv nv cv) w.heap.size ≠ 5 := by
      rw [owned_old (fun e => by have := hkl _ e; omega) (Nat.le_refl _)]
      decide
    generalize (w5.setCell ⟨hb, 4, none⟩ (.int .i64 (sr + 1))).setCell ⟨hb, 5, none⟩ (.slice pv nv cv) = w6 at *
    have HZ : Hid (_ ∧ _ ∧ AnB w6 w.heap.size _) := ⟨H6, hC6, r6⟩
    clear H6 hC6 hkl t80 t81 y4 y5 z4 z5 hlt
    obtain ⟨c0, c1, c2, c3, c4, c5, c6, c7, c8, c9, f0, f1, f2, f3, f4, f5, f6, f7, f8, f9⟩ := r6.cells
    clear r6
    go_wp2_with fail
    obtain ⟨d0, d1, d2, d3, d4, d5, d6, d7, d8, d9, -⟩ := (HZ.out.2.2.put (a0 := .int .i64 0) (a1 := .int .i64 0) (a2 := .int .i64 0) (a3 := .int .i64 0) (a4 := .int .i64 0) (a5 := .int .i64 0) (a6 := .int .i64 0) (a7 := .int .i64 0) (a8 := .string TX) (a9 := .slice none 0 0)).cells
    unfold putAn at d0  d1  d2  d3  d4  d5  d6  d7  d8  d9
    refine bodyPost_ret (v := .tuple #[ansV 0 0 0 0 0 0 0 0 TX (.slice none 0 0), .int .i64 0]) ?_ rfl ⟨rfl, _, _, HZ.out.1.fin hR, Ch.an HZ.out.2.1 (Nat.le_refl _)⟩
    simp [results, Tryz.results37, go_sem, d0, d1, d2, d3, d4, d5, d6, d7, d8, d9, ansV]
  · have B5 := (B3.setCell (p := ⟨w2.heap.size, 0, none⟩) hsl (.int .i64 (sr + 1))).setCell (p := ⟨w2.heap.size, 1, none⟩) hsl (.slice pv nv cv)
    have t8 : T2 w2.heap.size (sr + 1) (.slice pv nv cv) _ := T2.both (s := 0) (v := .slice none 0 0) ⟨t80, t81, t8f0, t8f1, t8l⟩
    have k5 := ((HA3.out.1.set (R := w2.heap.size) (by omega) 0 (.int .i64 (sr + 1))).set (R := w2.heap.size) (by omega) 1 (.slice pv nv cv)).mono (B' := w2.heap.size) (by omega)
    have r5 : AnB _ w.heap.size _ := ((Below.heap_setCell (w3.setCell ⟨w2.heap.size, 0, none⟩ (.int .i64 (sr + 1))) ⟨w2.heap.size, 1, none⟩ (.slice pv nv cv) w.heap.size (by have := HB1.out.2.lt; show w.heap.size ≠ w2.heap.size; omega)).trans (Below.heap_setCell w3 ⟨w2.heap.size, 0, none⟩ (.int .i64 (sr + 1)) w.heap.size (by have := HB1.out.2.lt; show w.heap.size ≠ w2.heap.size; omega))).trans HA3.out.2
    clear t80 t81 t8f0 t8f1 t8l
    generalize (w3.setCell ⟨w2.heap.size, 0, none⟩ (.int .i64 (sr + 1))).setCell ⟨w2.heap.size, 1, none⟩ (.slice pv nv cv) = w5 at *
    have HF : Hid (Below w.heap.size w w5 ∧ KRow w5 w2.heap.size (.slice pv nv cv) _ ∧ AnB w5 w.heap.size _) := ⟨B5, k5, r5⟩
    clear B5 k5 r5 HA3 x4 x5 x2 y4 y5 y2 z4 z5 hlt
    obtain ⟨y4, y5, -, z4, z5, hlt⟩ := HL.out _ HF.out.1
    obtain ⟨t80, t81, -⟩ := t8
    go_upto_region 9 with fail
    have hkl : ∀ q, (Value.slice pv nv cv).ownBlock = some q → w.heap.size < q := fun q hq => by
      have h1 := HF.out.2.1.lt q hq
      have h2 := HB1.out.2.lt
      omega
    have H6 := (((HW.out w5 HF.out.1).1 0).more (o1 := owned o w.heap.size (.slice pv nv cv)) owned_more).table (s' := sr + 1) (HF.out.2.1.mono (Nat.zero_le _)) fun q hq => ⟨owned_new hq, by have := hkl q hq; omega, fun hm => by
      obtain ⟨j, hj⟩ := List.getElem?_of_mem hm
      obtain ⟨_, _, _, _, h3⟩ := (HlAt.wlt (HW0.out) hj)
      have := hkl q hq
      omega⟩
    have hC6 : Ch (fun l => l = 5) o w (owned o w.heap.size (.slice pv nv cv)) ((w5.setCell ⟨hb, 4, none⟩ (.int .i64 (sr + 1))).setCell ⟨hb, 5, none⟩ (.slice pv nv cv)) := by
      have hb5 := HF.out.1
      refine ⟨hb5.os, hb5.tape, hb5.output, by simp [World.setCell]; exact hb5.size, fun k hk => owned_same (fun q hq => by have := hkl q hq; omega) hk, fun k hk hn => ?_⟩
      have hne : k ≠ hb := fun e => hn (e ▸ HW0.out.lab)
      exact ((Below.heap_setCell _ _ _ _ hne).trans (Below.heap_setCell _ _ _ _ hne)).trans (hb5.block k hk)
    have r6 : AnB ((w5.setCell ⟨hb, 4, none⟩ (.int .i64 (sr + 1))).setCell ⟨hb, 5, none⟩ (.slice pv nv cv)) w.heap.size _ := ((Below.heap_setCell _ _ _ _ (by show w.heap.size ≠ hb; omega)).trans (Below.heap_setCell _ _ _ _ (by show w.heap.size ≠ hb; omega))).trans HF.out.2.2
    have hR : owned o w.heap.size (.slice pv nv cv) w.heap.size ≠ 5 := by
      rw [owned_old (fun e => by have := hkl _ e; omega) (Nat.le_refl _)]
      decide
    generalize (w5.setCell ⟨hb, 4, none⟩ (.int .i64 (sr + 1))).setCell ⟨hb, 5, none⟩ (.slice pv nv cv) = w6 at *
    have HZ : Hid (_ ∧ _ ∧ AnB w6 w.heap.size _) := ⟨H6, hC6, r6⟩
    clear H6 hC6 hkl t80 t81 y4 y5 z4 z5 hlt
    obtain ⟨c0, c1, c2, c3, c4, c5, c6, c7, c8, c9, f0, f1, f2, f3, f4, f5, f6, f7, f8, f9⟩ := r6.cells
    clear r6
    go_wp2_with fail
    obtain ⟨d0, d1, d2, d3, d4, d5, d6, d7, d8, d9, -⟩ := (HZ.out.2.2.put (a0 := .int .i64 0) (a1 := .int .i64 0) (a2 := .int .i64 0) (a3 := .int .i64 0) (a4 := .int .i64 0) (a5 := .int .i64 0) (a6 := .int .i64 0) (a7 := .int .i64 0) (a8 := .string TX) (a9 := .slice none 0 0)).cells
    unfold putAn at d0  d1  d2  d3  d4  d5  d6  d7  d8  d9
    refine bodyPost_ret (v := .tuple #[ansV 0 0 0 0 0 0 0 0 TX (.slice none 0 0), .int .i64 0]) ?_ rfl ⟨rfl, _, _, HZ.out.1.fin hR, Ch.an HZ.out.2.1 (Nat.le_refl _)⟩
    simp [results, Tryz.results37, go_sem, d0, d1, d2, d3, d4, d5, d6, d7, d8, d9, ansV]
end Go.Proofs.YtgipjplifndniaaGreatDoor.U

namespace Go.Proofs.YtgipjplifndniaaGreatDoor.U
open Go.RowKit Go.Maps Go.Proofs.YtgipjplifndniaaGreatDoor.L Go.Proofs.YtgipjplifndniaaGreatDoor.A Go.Proofs.YtgipjplifndniaaGreatDoor.K

variable {w w1 : World} {o o1 : Nat → Nat} {hb b t i k m : Nat} {draw : Int} {S : Hl} {ids : List Nat} {wv kv : Value} {A A' : Ar} {PR : (Bool → Nat → Bool) → Int → Prop} {q : Nat → Int} {g : Gr} {x : Wd}
def GetR (g : Gr) (B : Nat) (w' : World) (u : Value) (n e : Int) : Prop :=
  ∃ zs : List (Int × Int), (∀ p : Int × Int, p ∈ zs ↔ g p.1 p.2 = true) ∧ zs.Nodup ∧ ((4096 < zs.length ∧ u = .slice none 0 0 ∧ n = 0 ∧ e = 5) ∨ (zs.length ≤ 4096 ∧ ∃ ys, e = tcode zs ∧ Tidied zs ys ∧ ORow w' B u ys ∧ n = (ys.length : Int)))
theorem cells_form {e : Ending} {w' : World} (h : CellsR g w e w') : ∃ (a : Option Addr) (n c : Nat) (er : Int), e = .returned (.tuple #[.slice a n c, .int .i64 er]) ∧ Below w.heap.size w w' ∧ GetR g w.heap.size w' (.slice a n c) n er := by
  obtain ⟨zs, h1, h2, h | ⟨h3, u, ys, rfl, h4, h5, h6⟩⟩ := h
  · exact ⟨none, 0, 0, 5, h.2.1, h.2.2, zs, h1, h2, .inl ⟨h.1, rfl, rfl, rfl⟩⟩
  · obtain ⟨a, c, rfl⟩ := h5.shape
    exact ⟨a, ys.length, c, _, rfl, h6, zs, h1, h2, .inr ⟨h3, ys, rfl, h4, h5, rfl⟩⟩
theorem GetR.go {B : Nat} {w' w2 : World} {u : Value} {n e : Int} (h : GetR g B w' u n e) (hb : ∀ k, B ≤ k → k < w'.heap.size → w2.heap[k]? = w'.heap[k]?) (hs : w'.heap.size ≤ w2.heap.size) : GetR g B w2 u n e := by
  obtain ⟨zs, h1, h2, h | ⟨h3, ys, h4, h5, h6, h7⟩⟩ := h
  · exact ⟨zs, h1, h2, .inl h⟩
  · refine ⟨zs, h1, h2, .inr ⟨h3, ys, h4, h5, ?_, h7⟩⟩
    rcases h6 with h6 | ⟨k0, b', off, c, k1, k2, k3, k4, k5, k6⟩
    · exact .inl h6
    · refine .inr ⟨k0, b', off, c, k1, k2, Nat.lt_of_lt_of_le k3 hs, k4, k5, fun j hj => ?_⟩
      obtain ⟨c0, c1, c2, c3⟩ := k6 j hj
      have e := hb b' k2 k3
      exact ⟨(World.cell?_of_block (a := ⟨b', off + j * 2, none⟩) e).trans c0, (World.cell?_of_block (a := ⟨b', off + j * 2 + 1, none⟩) e).trans c1, (World.frozen?_of_block (a := ⟨b', off + j * 2, none⟩) e).trans c2, (World.frozen?_of_block (a := ⟨b', off + j * 2 + 1, none⟩) e).trans c3⟩
set_option maxRecDepth 20000 in
set_option maxHeartbeats 4000000 in
theorem get_any (h : HlAt w o 5 hb b t draw S ids wv kv) (hA : ArL w o b A) (hst : NxSt PR t q A) (ht : t < 64) (hk : ids[i]? = some k) (hx : S.ws[i]? = some x) (hm : m + 1 ≤ 30) (hrt : Rt A t m x.root g) (v : Value) (verb : Int) (name other : ByteArray) (born live n : Int) :
    Calls Tryz.prog 34 #[.pointer (some ⟨hb, 0, none⟩), .pointer (some ⟨k, 0, none⟩), reqV verb name other born live n v] w fun r w' => ∃ u n' e', r = .returned (.tuple #[ansV 0 n' 0 0 0 0 x.born x.live ⟨#[]⟩ u, .int .i64 e']) ∧ GetR g w.heap.size w' u n' e' ∧ Below w.heap.size w w' := by
  obtain ⟨hxb, hxl⟩ := h.each i k x hk hx
  have b1 : Below w.heap.size w (w.alloc (.cells #[.int .i64 verb, .string name, .string other, .int .i64 born, .int .i64 live, .int .i64 n, v] 38)) := (Below.refl _ _).alloc (Nat.le_refl _) _
  have b2 : Below w.heap.size w ((w.alloc (.cells #[.int .i64 verb, .string name, .string other, .int .i64 born, .int .i64 live, .int .i64 n, v] 38)).alloc (.cells #[.int .i64 0, .int .i64 0, .int .i64 0, .int .i64 0, .int .i64 0, .int .i64 0, .int .i64 0, .int .i64 0, .string ⟨#[]⟩, .slice none 0 0] 35)) := b1.alloc (by simp) _
  have hs1 : (w.alloc (.cells #[.int .i64 verb, .string name, .string other, .int .i64 born, .int .i64 live, .int .i64 n, v] 38)).heap.size = w.heap.size + 1 := by simp
  have a2 := noAn_born (w.alloc (.cells #[.int .i64 verb, .string name, .string other, .int .i64 born, .int .i64 live, .int .i64 n, v] 38))
  rw [hs1] at a2
  unfold noAn at a2
  have hkl := (Array.getElem?_eq_some_iff.1 hxb).1
  have hhl := h.lt
  have HH : Hid (∀ W, Below w.heap.size w W → W.cell? ⟨hb, 0, none⟩ = some (.pointer (some ⟨b, 0, none⟩)) ∧ W.cell? ⟨hb, 1, none⟩ = some (.int .i64 t) ∧ W.cell? ⟨k, 3, none⟩ = some (.int .i64 x.root) ∧ W.cell? ⟨k, 1, none⟩ = some (.int .i64 x.born) ∧ W.cell? ⟨k, 2, none⟩ = some (.int .i64 x.live)) := fun W hW => by
    obtain ⟨c0, c1, -⟩ := (h.below hW 0).cells
    obtain ⟨-, d1, d2, d3⟩ := (show WdB W k x from (hW.block k hkl).trans hxb).cells
    exact ⟨c0, c1, d3, d1, d2⟩
  have HC : Hid (∀ W, Below w.heap.size w W → Calls Tryz.prog 63 #[.pointer (some ⟨b, 0, none⟩), .int .i64 t, .int .i64 x.root] W (CellsR g W)) := fun W hW => cells_rel (hA.ch (L := fun _ => False) (Ch.ofBelow hW 0) fun h => h) hst ht hrt (by omega) (Rt.big hm)
  have HSZ : Hid (w.heap.size + 1 < ((w.alloc (.cells #[.int .i64 verb, .string name, .string other, .int .i64 born, .int .i64 live, .int .i64 n, v] 38)).alloc (.cells #[.int .i64 0, .int .i64 0, .int .i64 0, .int .i64 0, .int .i64 0, .int .i64 0, .int .i64 0, .int .i64 0, .string ⟨#[]⟩, .slice none 0 0] 35)).heap.size) := by show w.heap.size + 1 < _; simp
  unfold reqV
  clear h hA hst hrt hxb hkl hhl
  go_enter Tryz.func34, Tryz.ntmps34
  go_wp2_with fail
  generalize ((w.alloc (.cells #[.int .i64 verb, .string name, .string other, .int .i64 born, .int .i64 live, .int .i64 n, v] 38)).alloc (.cells #[.int .i64 0, .int .i64 0, .int .i64 0, .int .i64 0, .int .i64 0, .int .i64 0, .int .i64 0, .int .i64 0, .string ⟨#[]⟩, .slice none 0 0] 35)) = wA at *
  clear hs1 b1
  have HB2 : Hid (Below w.heap.size w wA ∧ AnB wA (w.heap.size + 1) #[.int .i64 0, .int .i64 0, .int .i64 0, .int .i64 0, .int .i64 0, .int .i64 0, .int .i64 0, .int .i64 0, .string ⟨#[]⟩, .slice none 0 0]) := ⟨b2, a2⟩
  have HBD : Hid (Below w.heap.size w wA.drew) := b2.drew
  obtain ⟨s0, s1, s3, -⟩ := HH.out _ b2
  clear b2 a2
  go_region_held3 (fun W => W.cell? ⟨hb, 0, none⟩ = some (.pointer (some ⟨b, 0, none⟩)) ∧ W.cell? ⟨hb, 1, none⟩ = some (.int .i64 t) ∧ W.cell? ⟨k, 3, none⟩ = some (.int .i64 x.root)) (first | exact ⟨s0, s1, s3⟩ | exact ⟨(HH.out _ B3).1, (HH.out _ B3).2.1, (HH.out _ B3).2.2.1⟩)
    (first | (go_at_call 63; refine (HC.out _ HBD.out).mono ?_; rintro r w3 hR; obtain ⟨a, len, c, er, rfl, hb3, hg3⟩ := cells_form hR; have B3 : Below w.heap.size w w3 := HBD.out.trans (hb3.mono HBD.out.size)))
  have a3 : AnB w3 (w.heap.size + 1) #[.int .i64 0, .int .i64 0, .int .i64 0, .int .i64 0, .int .i64 0, .int .i64 0, .int .i64 0, .int .i64 0, .string ⟨#[]⟩, .slice none 0 0] := (hb3.block _ HSZ.out).trans HB2.out.2
  have HF : Hid (Below w.heap.size w w3 ∧ AnB w3 (w.heap.size + 1) #[.int .i64 0, .int .i64 0, .int .i64 0, .int .i64 0, .int .i64 0, .int .i64 0, .int .i64 0, .int .i64 0, .string ⟨#[]⟩, .slice none 0 0] ∧ GetR g wA.heap.size w3 (.slice a len c) len er ∧ wA.heap.size ≤ w3.heap.size) := ⟨B3, a3, hg3, hb3.size⟩
  obtain ⟨c0, c1, c2, c3, c4, c5, c6, c7, c8, c9, f0, f1, f2, f3, f4, f5, f6, f7, f8, f9⟩ := a3.cells
  obtain ⟨-, -, -, k1, k2⟩ := HH.out _ B3
  clear hR B3 hb3 hg3 a3 s0 s1 s3
  go_wp2_with fail
  obtain ⟨d0, d1, d2, d3, d4, d5, d6, d7, d8, d9, -⟩ := (HF.out.2.1.put (a0 := .int .i64 0) (a1 := .int .i64 len) (a2 := .int .i64 0) (a3 := .int .i64 0) (a4 := .int .i64 0) (a5 := .int .i64 0) (a6 := .int .i64 x.born) (a7 := .int .i64 x.live) (a8 := .string ⟨#[]⟩) (a9 := .slice a len c)).cells
  unfold putAn at d0  d1  d2  d3  d4  d5  d6  d7  d8  d9
  refine bodyPost_ret (v := .tuple #[ansV 0 len 0 0 0 0 x.born x.live ⟨#[]⟩ (.slice a len c), .int .i64 er]) ?_ rfl ⟨_, _, _, rfl, ?_, putAn_below HF.out.1 (Nat.le_succ _)⟩
  · simp [results, Tryz.results34, go_sem, d0, d1, d2, d3, d4, d5, d6, d7, d8, d9, ansV]
  · have hz := HF.out
    have hy := HB2.out
    obtain ⟨zs, h1, h2, h⟩ := hz.2.2.1.go (w2 := putAn w3 (w.heap.size + 1) (.int .i64 0) (.int .i64 len) (.int .i64 0) (.int .i64 0) (.int .i64 0) (.int .i64 0) (.int .i64 x.born) (.int .i64 x.live) (.string ⟨#[]⟩) (.slice a len c)) (fun j hj _ => putAn_far (by have := HSZ.out; omega)) (by rw [putAn_size]; exact Nat.le_refl _)
    refine ⟨zs, h1, h2, h.imp_right fun ⟨h3, ys, h4, h5, h6, h7⟩ => ⟨h3, ys, h4, h5, h6.mono hy.1.size, h7⟩⟩
end Go.Proofs.YtgipjplifndniaaGreatDoor.U
