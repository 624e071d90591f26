/- Tell. -/
import Derived.Test.YtnklpjoeopcbbaaDoorTellPat
namespace Go.Proofs.YtnklpjoeopcbbaaDoor
open Go.RowKit

theorem known_any (verb : Int) (w : World) : Calls Tryd.prog 15 #[.int .i64 verb] w fun e w' => e = .returned (.bool (decide (0 ≤ verb) && decide (verb < 11))) ∧ Below w.heap.size w w' := by
  have HD : Hid ((0 ≤ verb ∧ verb < 11 → (decide (0 ≤ verb) && decide (verb < 11)) = true) ∧ (¬ (0 ≤ verb ∧ verb < 11) → (decide (0 ≤ verb) && decide (verb < 11)) = false)) := by
    refine ⟨fun h => by simp [h], fun h => ?_⟩
    simp only [Bool.and_eq_false_iff, decide_eq_false_iff_not]; omega
  generalize (decide (0 ≤ verb) && decide (verb < 11)) = r at *
  by_cases h0 : 0 ≤ verb
  · by_cases h1 : verb < 11
    · go_enter Tryd.func15, Tryd.ntmps15
      go_wp2_with fail
      go_ret
      exact ⟨by rw [HD.out.1 ⟨h0, h1⟩]; rfl, Below.refl _ _⟩
    · go_enter Tryd.func15, Tryd.ntmps15
      go_wp2_with fail
      go_ret
      exact ⟨by rw [HD.out.2 (by omega)]; rfl, Below.refl _ _⟩
  · go_enter Tryd.func15, Tryd.ntmps15
    go_wp2_with fail
    go_ret
    exact ⟨by rw [HD.out.2 (by omega)]; rfl, Below.refl _ _⟩

/-- what is told of an answer, of what is told of its cells -/
def tellB (verb : Int) (a : An) (P : ByteArray × Int) : ByteArray × Int :=
  if ¬ (0 ≤ verb ∧ verb < 11) then (⟨#[]⟩, 4) else if a.code ≠ 0 then (toldB ⟨#[110, 111]⟩ [a.code], 0) else if verb = 5 ∨ verb = 10 then (toldB ⟨#[99, 111, 117, 110, 116]⟩ [a.n], 0)
  else if verb = 6 then (boxB a, 0) else if verb = 9 then (⟨#[107, 101, 121, 32]⟩ ++ a.key, 0) else if verb = 3 then P else (⟨#[111, 107]⟩, 0)

/-- what holds when Tell begins -/
structure Ready (verb : Int) (a : An) (v : Value) (w : World) (fE fB : FuncId) (T : ByteArray) (t X0 Y0 X1 Y1 : Int) (k : Bool) : Prop where
  vars : Vars w
  fits : a.fits
  key : a.key.size ≤ 140737488351232
  small : T.size ≤ 10000000
  at_ : Fits X0 ∧ Fits Y0
  enc : verb = 3 → ∀ W, Below w.heap.size w W → At18 fE a.born a.live v T t W
  box : verb = 3 → ∀ W, Below w.heap.size w W → At26 fB v X0 Y0 X1 Y1 k W
theorem Ready.go {verb : Int} {a : An} {v : Value} {w w' : World} {fE fB : FuncId} {T : ByteArray} {t X0 Y0 X1 Y1 : Int} {k : Bool} (h : Ready verb a v w fE fB T t X0 Y0 X1 Y1 k) (hb : Below w.heap.size w w') : Ready verb a v w' fE fB T t X0 Y0 X1 Y1 k :=
  ⟨h.vars.go hb h.vars.room, h.fits, h.key, h.small, h.at_, fun e W hW => h.enc e W (hb.trans (hW.mono hb.size)), fun e W hW => h.box e W (hb.trans (hW.mono hb.size))⟩

set_option maxRecDepth 20000 in
set_option maxHeartbeats 2000000 in
theorem Tell_any (verb : Int) (a : An) (va : Option Addr) (vn vc : Nat) (w : World) (T : ByteArray) (t X0 Y0 X1 Y1 : Int) (k : Bool) (hr : Ready verb a (.slice va vn vc) w 25 26 T t X0 Y0 X1 Y1 k) :
    Calls Tryd.prog 10 #[.int .i64 verb, .agg (a.vals (.slice va vn vc))] w fun e w' => e = .returned (.tuple #[.string (tellB verb a (patB T t X0 Y0 k)).1, .int .i64 (tellB verb a (patB T t X0 Y0 k)).2]) ∧ Below w.heap.size w w' := by
  have P0 := AnIn.born w a (.slice va vn vc)
  have hb0 : Below w.heap.size w (w.alloc (.cells (a.vals (.slice va vn vc)) 30)) := (Below.refl _ _).alloc (Nat.le_refl _) _
  have hbox := fun W (hb : Below w.heap.size w W) => boxText_any a va vn vc W ((hr.go hb).vars) hr.fits
  have hpat := fun W (hb : Below w.heap.size w W) (e : verb = 3) => pattern_any a va vn vc W T t X0 Y0 X1 Y1 k ((hr.go hb).vars) hr.small hr.at_ ((hr.go hb).enc e) ((hr.go hb).box e)
  have hno := fun W (hb : Below w.heap.size w W) => told1 ⟨#[110, 111]⟩ a.code W 3 (by decide) hr.fits.code ((hr.go hb).vars)
  have hco := fun W (hb : Below w.heap.size w W) => told1 ⟨#[99, 111, 117, 110, 116]⟩ a.n W 3 (by decide) hr.fits.n ((hr.go hb).vars)
  have hkn := fun W => known_any verb W
  have hkey := hr.key
  have HTB : Hid (tellB verb a (patB T t X0 Y0 k) = if ¬ (0 ≤ verb ∧ verb < 11) then (⟨#[]⟩, 4) else if a.code ≠ 0 then (toldB ⟨#[110, 111]⟩ [a.code], 0) else if verb = 5 ∨ verb = 10 then (toldB ⟨#[99, 111, 117, 110, 116]⟩ [a.n], 0)
    else if verb = 6 then (boxB a, 0) else if verb = 9 then (⟨#[107, 101, 121, 32]⟩ ++ a.key, 0) else if verb = 3 then patB T t X0 Y0 k else (⟨#[111, 107]⟩, 0)) := rfl
  generalize tellB verb a (patB T t X0 Y0 k) = R at *
  generalize patB T t X0 Y0 k = P at *
  obtain ⟨c0, c1, c2, c3, c4, c5, c6, c7, c8, c9⟩ := P0.cells
  unfold An.vals at *
  generalize hw0 : w.alloc (.cells #[.int .i64 a.code, .int .i64 a.n, .int .i64 a.x0, .int .i64 a.y0, .int .i64 a.x1, .int .i64 a.y1, .int .i64 a.born, .int .i64 a.live, .string a.key, .slice va vn vc] 30) = w0 at *
  have HB0 : Hid (Below w.heap.size w w0) := hb0
  have HP0 : Hid (AnIn w.heap.size a (.slice va vn vc) w0) := P0
  clear hb0 P0 hr
  by_cases hin : 0 ≤ verb ∧ verb < 11
  · have hk : (decide (0 ≤ verb) && decide (verb < 11)) = true := by simp [hin]
    rw [hk] at hkn
    have HIN : Hid (0 ≤ verb ∧ verb < 11) := hin
    clear hk hin
    go_enter Tryd.func10, Tryd.ntmps10
    go_wp2_with fail
    refine (hkn _).mono ?_
    rintro e w1 ⟨rfl, b1⟩
    have HB1 : Hid (Below w.heap.size w w1) := HB0.out.trans (b1.mono HB0.out.size)
    obtain ⟨d0, d1, d2, d3, d4, d5, d6, d7, d8, d9⟩ := (HP0.out.go b1).cells
    clear c0 c1 c2 c3 c4 c5 c6 c7 c8 c9 b1 hkn
    by_cases hcode : a.code = 0
    · have HCO : Hid (a.code = 0) := hcode
      have hce : (a.code != 0) = false := by simpa using hcode
      clear hcode
      have hcase : verb = 5 ∨ verb = 10 ∨ verb = 6 ∨ verb = 9 ∨ verb = 3 ∨ ((verb == 5) = false ∧ (verb == 10) = false ∧ (verb == 6) = false ∧ (verb == 9) = false ∧ (verb == 3) = false) := by
        simp only [beq_eq_false_iff_ne]; omega
      rcases hcase with rfl | rfl | rfl | rfl | rfl | ⟨h1, h2, h3, h4, h5⟩
      · have HR : Hid (R = (toldB ⟨#[99, 111, 117, 110, 116]⟩ [a.n], 0)) := by show _ = _; rw [HTB.out]; simp [HCO.out]
        clear HTB
        go_wp2_with fail
        refine (hco _ HB1.out).mono ?_
        rintro e w2 ⟨rfl, b2⟩
        go_wp2_with fail
        go_ret2
        exact ⟨by rw [HR.out]; rfl, HB1.out.trans (b2.mono HB1.out.size)⟩
      · have HR : Hid (R = (toldB ⟨#[99, 111, 117, 110, 116]⟩ [a.n], 0)) := by show _ = _; rw [HTB.out]; simp [HCO.out]
        clear HTB
        go_wp2_with fail
        refine (hco _ HB1.out).mono ?_
        rintro e w2 ⟨rfl, b2⟩
        go_wp2_with fail
        go_ret2
        exact ⟨by rw [HR.out]; rfl, HB1.out.trans (b2.mono HB1.out.size)⟩
      · have HR : Hid (R = (boxB a, 0)) := by show _ = _; rw [HTB.out]; simp [HCO.out]
        clear HTB
        go_wp2_with fail
        refine (hbox _ HB1.out).mono ?_
        rintro e w2 ⟨rfl, b2⟩
        go_wp2_with fail
        go_ret2
        exact ⟨by rw [HR.out]; rfl, HB1.out.trans (b2.mono HB1.out.size)⟩
      · have HR : Hid (R = (⟨#[107, 101, 121, 32]⟩ ++ a.key, 0)) := by show _ = _; rw [HTB.out]; simp [HCO.out]
        clear HTB
        have hk4 : (⟨#[107, 101, 121, 32]⟩ : ByteArray).size = 4 := rfl
        go_wp2_with fail
        go_ret2
        exact ⟨by rw [HR.out]; rfl, HB1.out⟩
      · have HR : Hid (R = P) := by show _ = _; rw [HTB.out]; simp [HCO.out]
        clear HTB
        go_wp2_with fail
        refine (hpat _ HB1.out (by trivial)).mono ?_
        rintro e w2 ⟨rfl, b2⟩
        go_wp2_with fail
        go_ret2
        exact ⟨by rw [HR.out]; rfl, HB1.out.trans (b2.mono HB1.out.size)⟩
      · have HR : Hid (R = (⟨#[111, 107]⟩, 0)) := by
          show _ = _
          simp only [beq_eq_false_iff_ne] at h1 h2 h3 h4 h5
          have hin := HIN.out
          rw [HTB.out, if_neg (by omega), if_neg (by have := HCO.out; omega), if_neg (by omega), if_neg h3, if_neg h4, if_neg h5]
        clear HTB
        go_wp2_with fail
        go_ret2
        exact ⟨by rw [HR.out]; rfl, HB1.out⟩
    · have HR : Hid (R = (toldB ⟨#[110, 111]⟩ [a.code], 0)) := by
        show _ = _
        have hin := HIN.out
        rw [HTB.out, if_neg (by omega), if_pos hcode]
      have hce : (a.code != 0) = true := by simpa using hcode
      clear HTB hcode
      go_wp2_with fail
      refine (hno _ HB1.out).mono ?_
      rintro e w2 ⟨rfl, b2⟩
      go_wp2_with fail
      go_ret2
      exact ⟨by rw [HR.out]; rfl, HB1.out.trans (b2.mono HB1.out.size)⟩
  · have hk : (decide (0 ≤ verb) && decide (verb < 11)) = false := by
      simp only [Bool.and_eq_false_iff, decide_eq_false_iff_not]; omega
    rw [hk] at hkn
    have HR : Hid (R = (⟨#[]⟩, 4)) := by show _ = _; rw [HTB.out, if_pos hin]
    clear hk hin HTB
    go_enter Tryd.func10, Tryd.ntmps10
    go_wp2_with fail
    refine (hkn _).mono ?_
    rintro e w1 ⟨rfl, b1⟩
    go_wp2_with fail
    go_ret2
    exact ⟨by rw [HR.out]; rfl, HB0.out.trans (b1.mono HB0.out.size)⟩
end Go.Proofs.YtnklpjoeopcbbaaDoor
