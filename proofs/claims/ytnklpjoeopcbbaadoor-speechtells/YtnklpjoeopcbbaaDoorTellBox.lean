/- An answer in memory; boxText. -/
import Derived.Test.YtnklpjoeopcbbaaDoorTold
namespace Go.Proofs.YtnklpjoeopcbbaaDoor
open Go.RowKit

/-- an answer, its cells aside -/
structure An where
  code : Int
  n : Int
  x0 : Int
  y0 : Int
  x1 : Int
  y1 : Int
  born : Int
  live : Int
  key : ByteArray
def An.vals (a : An) (v : Value) : Array Value := #[.int .i64 a.code, .int .i64 a.n, .int .i64 a.x0, .int .i64 a.y0, .int .i64 a.x1, .int .i64 a.y1, .int .i64 a.born, .int .i64 a.live, .string a.key, v]
/-- it lies in a block -/
def AnIn (Q : Nat) (a : An) (v : Value) (w : World) : Prop := w.heap[Q]? = some (.cells (a.vals v) 30 (0, 0))
theorem AnIn.lt {Q : Nat} {a : An} {v : Value} {w : World} (h : AnIn Q a v w) : Q < w.heap.size := (Array.getElem?_eq_some_iff.1 h).1
theorem AnIn.born (w : World) (a : An) (v : Value) : AnIn w.heap.size a v (w.alloc (.cells (a.vals v) 30)) := heap_alloc_new w _
theorem AnIn.go {Q : Nat} {a : An} {v : Value} {w w' : World} (h : AnIn Q a v w) (hb : Below w.heap.size w w') : AnIn Q a v w' := (hb.block Q h.lt).trans h
theorem AnIn.drew {Q : Nat} {a : An} {v : Value} {w : World} (h : AnIn Q a v w) : AnIn Q a v w.drew := h
theorem AnIn.cells {Q : Nat} {a : An} {v : Value} {w : World} (h : AnIn Q a v w) : w.cell? ⟨Q, 0, none⟩ = some (.int .i64 a.code) ∧ w.cell? ⟨Q, 1, none⟩ = some (.int .i64 a.n) ∧ w.cell? ⟨Q, 2, none⟩ = some (.int .i64 a.x0) ∧ w.cell? ⟨Q, 3, none⟩ = some (.int .i64 a.y0) ∧
    w.cell? ⟨Q, 4, none⟩ = some (.int .i64 a.x1) ∧ w.cell? ⟨Q, 5, none⟩ = some (.int .i64 a.y1) ∧ w.cell? ⟨Q, 6, none⟩ = some (.int .i64 a.born) ∧ w.cell? ⟨Q, 7, none⟩ = some (.int .i64 a.live) ∧ w.cell? ⟨Q, 8, none⟩ = some (.string a.key) ∧ w.cell? ⟨Q, 9, none⟩ = some v := by
  refine ⟨?_, ?_, ?_, ?_, ?_, ?_, ?_, ?_, ?_, ?_⟩ <;> (rw [Lib.cell_of_heap h]; rfl)

def noneB : ByteArray := ⟨#[110, 111, 110, 101]⟩
def boxB (a : An) : ByteArray := if a.n = 0 then noneB else toldB ⟨#[98, 111, 120]⟩ [a.x0, a.y0, a.x1, a.y1]
structure An.fits (a : An) : Prop where
  code : Fits a.code
  n : Fits a.n
  x0 : Fits a.x0
  y0 : Fits a.y0
  x1 : Fits a.x1
  y1 : Fits a.y1

theorem told4 (wd : ByteArray) (x0 y0 x1 y1 : Int) (w : World) (t : TypeId) (hw : wd.size ≤ 10) (h0 : Fits x0) (h1 : Fits y0) (h2 : Fits x1) (h3 : Fits y1) (hv : Vars w) :
    Calls Tryd.prog 16 #[.string wd, .slice (some ⟨w.heap.size, 0, none⟩) 4 4] (w.alloc (.cells #[.int .i64 x0, .int .i64 y0, .int .i64 x1, .int .i64 y1] t)) fun e w' => e = .returned (.string (toldB wd [x0, y0, x1, y1])) ∧ Below w.heap.size w w' := by
  have hb : Below w.heap.size w (w.alloc (.cells #[.int .i64 x0, .int .i64 y0, .int .i64 x1, .int .i64 y1] t)) := (Below.refl _ _).alloc (Nat.le_refl _) _
  refine (told_any wd [x0, y0, x1, y1] w.heap.size 4 _ hw (by simp) ?_ (by simp) ?_ (hv.go hb hv.room)).mono ?_
  · intro n hn
    simp only [List.mem_cons, List.not_mem_nil, or_false] at hn
    rcases hn with rfl | rfl | rfl | rfl <;> assumption
  · intro j n hj
    rw [Lib.cell_of_heap (heap_alloc_new w _)]
    match j, hj with
    | 0, e => cases e; rfl
    | 1, e => cases e; rfl
    | 2, e => cases e; rfl
    | 3, e => cases e; rfl
  · rintro e w' ⟨he, hb'⟩
    exact ⟨he, hb.trans (hb'.mono hb.size)⟩
theorem told2 (wd : ByteArray) (x0 y0 : Int) (w : World) (t : TypeId) (hw : wd.size ≤ 10) (h0 : Fits x0) (h1 : Fits y0) (hv : Vars w) :
    Calls Tryd.prog 16 #[.string wd, .slice (some ⟨w.heap.size, 0, none⟩) 2 2] (w.alloc (.cells #[.int .i64 x0, .int .i64 y0] t)) fun e w' => e = .returned (.string (toldB wd [x0, y0])) ∧ Below w.heap.size w w' := by
  have hb : Below w.heap.size w (w.alloc (.cells #[.int .i64 x0, .int .i64 y0] t)) := (Below.refl _ _).alloc (Nat.le_refl _) _
  refine (told_any wd [x0, y0] w.heap.size 2 _ hw (by simp) ?_ (by simp) ?_ (hv.go hb hv.room)).mono ?_
  · intro n hn
    simp only [List.mem_cons, List.not_mem_nil, or_false] at hn
    rcases hn with rfl | rfl <;> assumption
  · intro j n hj
    rw [Lib.cell_of_heap (heap_alloc_new w _)]
    match j, hj with
    | 0, e => cases e; rfl
    | 1, e => cases e; rfl
  · rintro e w' ⟨he, hb'⟩
    exact ⟨he, hb.trans (hb'.mono hb.size)⟩
theorem told1 (wd : ByteArray) (x0 : Int) (w : World) (t : TypeId) (hw : wd.size ≤ 10) (h0 : Fits x0) (hv : Vars w) :
    Calls Tryd.prog 16 #[.string wd, .slice (some ⟨w.heap.size, 0, none⟩) 1 1] (w.alloc (.cells #[.int .i64 x0] t)) fun e w' => e = .returned (.string (toldB wd [x0])) ∧ Below w.heap.size w w' := by
  have hb : Below w.heap.size w (w.alloc (.cells #[.int .i64 x0] t)) := (Below.refl _ _).alloc (Nat.le_refl _) _
  refine (told_any wd [x0] w.heap.size 1 _ hw (by simp) ?_ (by simp) ?_ (hv.go hb hv.room)).mono ?_
  · intro n hn
    simp only [List.mem_cons, List.not_mem_nil, or_false] at hn
    subst hn; assumption
  · intro j n hj
    rw [Lib.cell_of_heap (heap_alloc_new w _)]
    match j, hj with
    | 0, e => cases e; rfl
  · rintro e w' ⟨he, hb'⟩
    exact ⟨he, hb.trans (hb'.mono hb.size)⟩

set_option maxRecDepth 20000 in
set_option maxHeartbeats 1000000 in
theorem boxText_any (a : An) (va : Option Addr) (vn vc : Nat) (w : World) (hv : Vars w) (hf : a.fits) :
    Calls Tryd.prog 17 #[.agg (a.vals (.slice va vn vc))] w fun e w' => e = .returned (.string (boxB a)) ∧ Below w.heap.size w w' := by
  have P0 := AnIn.born w a (.slice va vn vc)
  have hb0 : Below w.heap.size w (w.alloc (.cells (a.vals (.slice va vn vc)) 30)) := (Below.refl _ _).alloc (Nat.le_refl _) _
  have hv0 := hv.go hb0 hv.room
  have HBX : Hid (boxB a = if a.n = 0 then noneB else toldB ⟨#[98, 111, 120]⟩ [a.x0, a.y0, a.x1, a.y1]) := rfl
  obtain ⟨_, f1, f2, f3, f4, f5⟩ := hf
  obtain ⟨c0, c1, c2, c3, c4, c5, c6, c7, c8, c9⟩ := P0.cells
  unfold An.vals at *
  generalize hw0 : w.alloc (.cells #[.int .i64 a.code, .int .i64 a.n, .int .i64 a.x0, .int .i64 a.y0, .int .i64 a.x1, .int .i64 a.y1, .int .i64 a.born, .int .i64 a.live, .string a.key, .slice va vn vc] 30) = w0 at *
  have HB0 : Hid (Below w.heap.size w w0) := hb0
  have ht := fun W (hb : Below w0.heap.size w0 W) => told4 ⟨#[98, 111, 120]⟩ a.x0 a.y0 a.x1 a.y1 W 3 (by decide) f2 f3 f4 f5 (hv0.go hb hv0.room)
  clear hb0 hv0 f1 f2 f3 f4 f5 P0
  generalize boxB a = R at *
  obtain ⟨code, n, x0, y0, x1, y1, born, live, key⟩ := a
  simp only at *
  by_cases hn : n = 0
  · subst hn
    go_enter Tryd.func17, Tryd.ntmps17
    go_wp2_with fail
    go_ret
    exact ⟨by rw [HBX.out]; rfl, HB0.out⟩
  · have hne : (n == 0) = false := by simpa using hn
    have HN : Hid (¬ n = 0) := hn
    go_enter Tryd.func17, Tryd.ntmps17
    go_wp2_with fail
    refine (ht _ (Below.refl _ _)).mono ?_
    rintro e w1 ⟨rfl, b1⟩
    go_wp2_with fail
    go_ret
    exact ⟨by rw [HBX.out, if_neg HN.out]; rfl, HB0.out.trans (b1.mono HB0.out.size)⟩
end Go.Proofs.YtnklpjoeopcbbaaDoor
