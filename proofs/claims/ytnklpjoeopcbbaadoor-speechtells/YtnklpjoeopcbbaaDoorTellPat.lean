/- pattern. -/
import Derived.Test.YtnklpjoeopcbbaaDoorTellBox
namespace Go.Proofs.YtnklpjoeopcbbaaDoor
open Go.RowKit

/-- of the cells' text and error, and their corner -/
def patB (T : ByteArray) (t X0 Y0 : Int) (k : Bool) : ByteArray × Int := if t ≠ 0 then (⟨#[]⟩, t) else ((if k then toldB ⟨#[97, 116]⟩ [X0, Y0] else noneB) ++ ⟨#[10]⟩ ++ T, 0)
def At18 (f : FuncId) (b l : Int) (v : Value) (T : ByteArray) (t : Int) (W : World) : Prop := Calls Tryd.prog f #[v, .agg #[.int .i64 b, .int .i64 l]] W fun e w' => e = .returned (.tuple #[.string T, .int .i64 t]) ∧ Below W.heap.size W w'
def At26 (f : FuncId) (v : Value) (X0 Y0 X1 Y1 : Int) (k : Bool) (W : World) : Prop := Calls Tryd.prog f #[v] W fun e w' => e = .returned (.tuple #[.agg #[.int .i64 X0, .int .i64 Y0, .int .i64 X1, .int .i64 Y1], .bool k]) ∧ Below W.heap.size W w'

set_option maxRecDepth 20000 in
set_option maxHeartbeats 1000000 in
theorem pattern_any (a : An) (va : Option Addr) (vn vc : Nat) (w : World) (T : ByteArray) (t X0 Y0 X1 Y1 : Int) (k : Bool) (hv : Vars w) (hT : T.size ≤ 10000000) (hX : Fits X0 ∧ Fits Y0)
    (hE : ∀ W, Below w.heap.size w W → At18 25 a.born a.live (.slice va vn vc) T t W) (hB : ∀ W, Below w.heap.size w W → At26 26 (.slice va vn vc) X0 Y0 X1 Y1 k W) :
    Calls Tryd.prog 18 #[.agg (a.vals (.slice va vn vc))] w fun e w' => e = .returned (.tuple #[.string (patB T t X0 Y0 k).1, .int .i64 (patB T t X0 Y0 k).2]) ∧ Below w.heap.size w w' := by
  have P0 := AnIn.born w a (.slice va vn vc)
  have hb0 : Below w.heap.size w (w.alloc (.cells (a.vals (.slice va vn vc)) 30)) := (Below.refl _ _).alloc (Nat.le_refl _) _
  have hroom := hv.room
  obtain ⟨c0, c1, c2, c3, c4, c5, c6, c7, c8, c9⟩ := P0.cells
  unfold An.vals at *
  generalize hw0 : w.alloc (.cells #[.int .i64 a.code, .int .i64 a.n, .int .i64 a.x0, .int .i64 a.y0, .int .i64 a.x1, .int .i64 a.y1, .int .i64 a.born, .int .i64 a.live, .string a.key, .slice va vn vc] 30) = w0 at *
  have HB0 : Hid (Below w.heap.size w w0) := hb0
  have HP0 : Hid (AnIn w.heap.size a (.slice va vn vc) w0) := P0
  have HV : Hid (Vars w) := hv
  have e1 := hE w0 hb0
  unfold At18 at e1
  unfold At26 at hB
  clear hb0 P0 hv hE
  by_cases ht : t = 0
  · subst ht
    have HPB : Hid (patB T 0 X0 Y0 k = ((if k then toldB ⟨#[97, 116]⟩ [X0, Y0] else noneB) ++ ⟨#[10]⟩ ++ T, 0)) := rfl
    generalize patB T 0 X0 Y0 k = R at *
    go_enter Tryd.func18, Tryd.ntmps18
    go_wp2_with fail
    refine e1.mono ?_
    rintro e w1 ⟨rfl, b1⟩
    have HB1 : Hid (Below w.heap.size w w1) := HB0.out.trans (b1.mono HB0.out.size)
    obtain ⟨d0, d1, d2, d3, d4, d5, d6, d7, d8, d9⟩ := (HP0.out.go b1).cells
    have e2 := hB w1 HB1.out
    clear c0 c1 c2 c3 c4 c5 c6 c7 c8 c9 e1 b1 hB
    go_wp2_with fail
    refine e2.mono ?_
    rintro e w2 ⟨rfl, b2⟩
    have HB2 : Hid (Below w.heap.size w w2) := HB1.out.trans (b2.mono HB1.out.size)
    clear e2 b2
    cases k with
    | false =>
      go_wp2_with fail
      go_ret2
      exact ⟨by rw [HPB.out]; rfl, HB2.out.trans (((Below.refl _ _).alloc (Nat.le_refl _) _).mono HB2.out.size)⟩
    | true =>
      have hto := fun W (hb : Below w.heap.size w W) => told2 ⟨#[97, 116]⟩ X0 Y0 W 3 (by decide) hX.1 hX.2 (HV.out.go hb hroom)
      have hts : (toldB ⟨#[97, 116]⟩ [X0, Y0]).size ≤ 100 := by
        have := toldB_size ⟨#[97, 116]⟩ [X0, Y0] (by simp [hX.1, hX.2])
        have h2 : (⟨#[97, 116]⟩ : ByteArray).size = 2 := rfl
        simp only [List.length_cons, List.length_nil] at this
        omega
      generalize toldB ⟨#[97, 116]⟩ [X0, Y0] = S at *
      clear hX
      have hb3 : Below w.heap.size w (w2.alloc (.cells #[.int .i64 X0, .int .i64 Y0, .int .i64 X1, .int .i64 Y1] 25)) := HB2.out.trans (((Below.refl w2.heap.size w2).alloc (Nat.le_refl _) (.cells #[.int .i64 X0, .int .i64 Y0, .int .i64 X1, .int .i64 Y1] 25)).mono HB2.out.size)
      have ht3 := hto _ hb3
      have hz : (w2.alloc (.cells #[.int .i64 X0, .int .i64 Y0, .int .i64 X1, .int .i64 Y1] 25)).heap.size = w2.heap.size + 1 := by simp
      rw [hz] at ht3
      have HB3 : Hid (Below w.heap.size w (w2.alloc (.cells #[.int .i64 X0, .int .i64 Y0, .int .i64 X1, .int .i64 Y1] 25)) ∧ w.heap.size ≤ w2.heap.size + 1) := ⟨hb3, by rw [← hz]; exact hb3.size⟩
      clear hb3 hz hto
      go_wp2_with fail
      refine ht3.mono ?_
      rintro e w3 ⟨rfl, b3⟩
      go_wp2_with fail
      go_ret2
      exact ⟨by rw [HPB.out]; rfl, HB3.out.1.trans (b3.mono HB3.out.2)⟩
  · have hne : (t != 0) = true := by simpa using ht
    have HPB : Hid (patB T t X0 Y0 k = (⟨#[]⟩, t)) := by show _ = _; rw [patB, if_pos ht]
    generalize patB T t X0 Y0 k = R at *
    clear hB hX
    go_enter Tryd.func18, Tryd.ntmps18
    go_wp2_with fail
    refine e1.mono ?_
    rintro e w1 ⟨rfl, b1⟩
    go_wp2_with fail
    go_ret2
    exact ⟨by rw [HPB.out]; rfl, HB0.out.trans (b1.mono HB0.out.size)⟩
end Go.Proofs.YtnklpjoeopcbbaaDoor
