/- TellAnswer. -/
import Derived.Test.YtnklpjoeopcbbaaDoorTell
import Derived.Test.YtnklpjoeopcbbaaDoorBigNeg
import Derived.Deep.RegionHeld3
namespace Go.Proofs.YtnklpjoeopcbbaaDoor
open Go.RowKit

def deciB (x : Int) : ByteArray := ⟨(Lib.itoa x).toArray⟩
theorem deci_any (x : Int) (h : Fits x) (w : World) : Calls Tryd.prog 19 #[.int .i64 x] w fun e w' => e = .returned (.string (deciB x)) ∧ Below w.heap.size w w' := decimalZ_any x w h.1 h.2
theorem deci_size (x : Int) (h : Fits x) : (deciB x).size ≤ 21 := by show (Lib.itoa x).toArray.size ≤ 21; rw [List.size_toArray]; exact Lib.itoa_length_le x h.1 h.2
theorem toldB_no (x : Int) : (⟨#[110, 111, 32]⟩ : ByteArray) ++ deciB x = toldB ⟨#[110, 111]⟩ [x] := by
  apply ByteArray.ext; simp [toldB, numsT, deciB]
theorem toldB_count (x : Int) : (⟨#[99, 111, 117, 110, 116, 32]⟩ : ByteArray) ++ deciB x = toldB ⟨#[99, 111, 117, 110, 116]⟩ [x] := by
  apply ByteArray.ext; simp [toldB, numsT, deciB]
theorem toldB_box (a b c d : Int) : (⟨#[98, 111, 120, 32]⟩ : ByteArray) ++ deciB a ++ ⟨#[32]⟩ ++ deciB b ++ ⟨#[32]⟩ ++ deciB c ++ ⟨#[32]⟩ ++ deciB d = toldB ⟨#[98, 111, 120]⟩ [a, b, c, d] := by
  apply ByteArray.ext; simp [toldB, numsT, deciB]
theorem toldB_at (a b : Int) (T : ByteArray) : (⟨#[97, 116, 32]⟩ : ByteArray) ++ deciB a ++ ⟨#[32]⟩ ++ deciB b ++ ⟨#[10]⟩ ++ T = toldB ⟨#[97, 116]⟩ [a, b] ++ ⟨#[10]⟩ ++ T := by
  apply ByteArray.ext; simp [toldB, numsT, deciB]
theorem toldB_none (T : ByteArray) : (⟨#[110, 111, 110, 101, 10]⟩ : ByteArray) ++ T = noneB ++ ⟨#[10]⟩ ++ T := by
  apply ByteArray.ext; simp [noneB]

theorem held4 {Q : Nat} {x y x' y' : Int} {w W W' : World} (h : W.cell? ⟨Q, 2, none⟩ = some (.int .i64 x) ∧ W.cell? ⟨Q, 3, none⟩ = some (.int .i64 y) ∧ W.cell? ⟨Q, 4, none⟩ = some (.int .i64 x') ∧ W.cell? ⟨Q, 5, none⟩ = some (.int .i64 y') ∧ Q < W.heap.size ∧ Below w.heap.size w W) (hb : Below W.heap.size W W') :
    W'.cell? ⟨Q, 2, none⟩ = some (.int .i64 x) ∧ W'.cell? ⟨Q, 3, none⟩ = some (.int .i64 y) ∧ W'.cell? ⟨Q, 4, none⟩ = some (.int .i64 x') ∧ W'.cell? ⟨Q, 5, none⟩ = some (.int .i64 y') ∧ Q < W'.heap.size ∧ Below w.heap.size w W' := by
  obtain ⟨h0, h1, h2, h3, h4, h5⟩ := h
  exact ⟨(hb.cell (p := ⟨Q, 2, none⟩) h4).trans h0, (hb.cell (p := ⟨Q, 3, none⟩) h4).trans h1, (hb.cell (p := ⟨Q, 4, none⟩) h4).trans h2, (hb.cell (p := ⟨Q, 5, none⟩) h4).trans h3, Nat.lt_of_lt_of_le h4 hb.size, h5.trans (hb.mono h5.size)⟩
theorem held2 {Q : Nat} {x y : Int} {w W W' : World} (h : W.cell? ⟨Q, 0, none⟩ = some (.int .i64 x) ∧ W.cell? ⟨Q, 1, none⟩ = some (.int .i64 y) ∧ Q < W.heap.size ∧ Below w.heap.size w W) (hb : Below W.heap.size W W') :
    W'.cell? ⟨Q, 0, none⟩ = some (.int .i64 x) ∧ W'.cell? ⟨Q, 1, none⟩ = some (.int .i64 y) ∧ Q < W'.heap.size ∧ Below w.heap.size w W' := by
  obtain ⟨h0, h1, h4, h5⟩ := h
  exact ⟨(hb.cell (p := ⟨Q, 0, none⟩) h4).trans h0, (hb.cell (p := ⟨Q, 1, none⟩) h4).trans h1, Nat.lt_of_lt_of_le h4 hb.size, h5.trans (hb.mono h5.size)⟩

set_option maxRecDepth 20000 in
set_option maxHeartbeats 4000000 in
theorem tellAnswer_any (verb : Int) (a : An) (va : Option Addr) (vn vc : Nat) (w : World) (T : ByteArray) (t X0 Y0 X1 Y1 : Int) (k : Bool) (hr : Ready verb a (.slice va vn vc) w 20 21 T t X0 Y0 X1 Y1 k) :
    Calls Tryd.prog 11 #[.int .i64 verb, .agg (a.vals (.slice va vn vc))] w fun e w' => e = .returned (.tuple #[.string (tellB verb a (patB T t X0 Y0 k)).1, .int .i64 (tellB verb a (patB T t X0 Y0 k)).2]) ∧ Below w.heap.size w w' := by
  have P0 := AnIn.born w a (.slice va vn vc)
  have hb0 : Below w.heap.size w (w.alloc (.cells (a.vals (.slice va vn vc)) 30)) := (Below.refl _ _).alloc (Nat.le_refl _) _
  have HRD : Hid (Ready verb a (.slice va vn vc) w 20 21 T t X0 Y0 X1 Y1 k) := hr
  have hkey := hr.key
  have HTB : Hid (tellB verb a (patB T t X0 Y0 k) = if ¬ (0 ≤ verb ∧ verb < 11) then (⟨#[]⟩, 4) else if a.code ≠ 0 then (toldB ⟨#[110, 111]⟩ [a.code], 0) else if verb = 5 ∨ verb = 10 then (toldB ⟨#[99, 111, 117, 110, 116]⟩ [a.n], 0)
    else if verb = 6 then (boxB a, 0) else if verb = 9 then (⟨#[107, 101, 121, 32]⟩ ++ a.key, 0) else if verb = 3 then patB T t X0 Y0 k else (⟨#[111, 107]⟩, 0)) := rfl
  generalize tellB verb a (patB T t X0 Y0 k) = R at *
  obtain ⟨c0, c1, c2, c3, c4, c5, c6, c7, c8, c9⟩ := P0.cells
  unfold An.vals at *
  generalize hw0 : w.alloc (.cells #[.int .i64 a.code, .int .i64 a.n, .int .i64 a.x0, .int .i64 a.y0, .int .i64 a.x1, .int .i64 a.y1, .int .i64 a.born, .int .i64 a.live, .string a.key, .slice va vn vc] 30) = w0 at *
  have HB0 : Hid (Below w.heap.size w w0) := hb0
  have HP0 : Hid (AnIn w.heap.size a (.slice va vn vc) w0) := P0
  clear hb0 P0 hr
  by_cases hin : 0 ≤ verb ∧ verb < 11
  · have HIN : Hid (0 ≤ verb ∧ verb < 11) := hin
    have hi1 : ¬ verb < 0 := by omega
    have hi2 : ¬ 10 < verb := by omega
    clear hin
    by_cases hcode : a.code = 0
    · have HCO : Hid (a.code = 0) := hcode
      have hce : (a.code != 0) = false := by simpa using hcode
      clear hcode
      have hcase : verb = 5 ∨ verb = 10 ∨ verb = 6 ∨ verb = 9 ∨ verb = 3 ∨ ((verb == 5) = false ∧ (verb == 10) = false ∧ (verb == 6) = false ∧ (verb == 9) = false ∧ (verb != 3) = true) := by
        simp only [beq_eq_false_iff_ne, bne_iff_ne]; omega
      rcases hcase with rfl | rfl | rfl | rfl | rfl | ⟨h1, h2, h3, h4, h5⟩
      · have HR : Hid (R = (toldB ⟨#[99, 111, 117, 110, 116]⟩ [a.n], 0)) := by show _ = _; rw [HTB.out]; simp [HCO.out]
        rw [← toldB_count] at HR
        have hd := deci_any a.n HRD.out.fits.n
        have hs := deci_size a.n HRD.out.fits.n
        generalize deciB a.n = D at *
        clear HTB
        go_enter Tryd.func11, Tryd.ntmps11
        go_wp2_with fail
        refine (hd _).mono ?_
        rintro e w2 ⟨rfl, b2⟩
        go_wp2_with fail
        go_ret2
        exact ⟨by rw [HR.out]; rfl, HB0.out.trans (b2.mono HB0.out.size)⟩
      · have HR : Hid (R = (toldB ⟨#[99, 111, 117, 110, 116]⟩ [a.n], 0)) := by show _ = _; rw [HTB.out]; simp [HCO.out]
        rw [← toldB_count] at HR
        have hd := deci_any a.n HRD.out.fits.n
        have hs := deci_size a.n HRD.out.fits.n
        generalize deciB a.n = D at *
        clear HTB
        go_enter Tryd.func11, Tryd.ntmps11
        go_wp2_with fail
        refine (hd _).mono ?_
        rintro e w2 ⟨rfl, b2⟩
        go_wp2_with fail
        go_ret2
        exact ⟨by rw [HR.out]; rfl, HB0.out.trans (b2.mono HB0.out.size)⟩
      · have HR : Hid (R = (boxB a, 0)) := by show _ = _; rw [HTB.out]; simp [HCO.out]
        clear HTB
        by_cases hn : a.n = 0
        · have hne : (a.n == 0) = true := by simpa using hn
          rw [boxB, if_pos hn] at HR
          clear hn
          go_enter Tryd.func11, Tryd.ntmps11
          go_wp2_with fail
          go_ret2
          exact ⟨by rw [HR.out]; rfl, HB0.out⟩
        · have hne : (a.n == 0) = false := by simpa using hn
          rw [boxB, if_neg hn, ← toldB_box] at HR
          obtain ⟨_, _, f0, f1, f2, f3⟩ := HRD.out.fits
          have k0 := deci_any a.x0 f0
          have k1 := deci_any a.y0 f1
          have k2 := deci_any a.x1 f2
          have k3 := deci_any a.y1 f3
          have s0 := deci_size a.x0 f0
          have s1 := deci_size a.y0 f1
          have s2 := deci_size a.x1 f2
          have s3 := deci_size a.y1 f3
          generalize deciB a.x0 = D0 at *
          generalize deciB a.y0 = D1 at *
          generalize deciB a.x1 = D2 at *
          generalize deciB a.y1 = D3 at *
          have hc1 : ¬ 9223372036854775807 < 4 + D0.size := by omega
          have hc2 : ¬ 9223372036854775807 < 4 + D0.size + 1 := by omega
          have hc3 : ¬ 9223372036854775807 < 4 + D0.size + 1 + D1.size := by omega
          have hc4 : ¬ 9223372036854775807 < 4 + D0.size + 1 + D1.size + 1 := by omega
          have hc5 : ¬ 9223372036854775807 < 4 + D0.size + 1 + D1.size + 1 + D2.size := by omega
          have hc6 : ¬ 9223372036854775807 < 4 + D0.size + 1 + D1.size + 1 + D2.size + 1 := by omega
          have hc7 : ¬ 9223372036854775807 < 4 + D0.size + 1 + D1.size + 1 + D2.size + 1 + D3.size := by omega
          clear hn f0 f1 f2 f3
          have h1 : w0.drew.cell? ⟨w.heap.size, 2, none⟩ = some (.int .i64 a.x0) ∧ w0.drew.cell? ⟨w.heap.size, 3, none⟩ = some (.int .i64 a.y0) ∧ w0.drew.cell? ⟨w.heap.size, 4, none⟩ = some (.int .i64 a.x1) ∧ w0.drew.cell? ⟨w.heap.size, 5, none⟩ = some (.int .i64 a.y1) ∧ w.heap.size < w0.drew.heap.size ∧ Below w.heap.size w w0.drew := ⟨c2, c3, c4, c5, HP0.out.lt, HB0.out.drew⟩
          go_enter Tryd.func11, Tryd.ntmps11
          go_wp2_with fail
          go_region_held3 (fun w' => w'.cell? ⟨w.heap.size, 2, none⟩ = some (.int .i64 a.x0) ∧ w'.cell? ⟨w.heap.size, 3, none⟩ = some (.int .i64 a.y0) ∧ w'.cell? ⟨w.heap.size, 4, none⟩ = some (.int .i64 a.x1) ∧ w'.cell? ⟨w.heap.size, 5, none⟩ = some (.int .i64 a.y1) ∧ w.heap.size < w'.heap.size ∧ Below w.heap.size w w') (first | exact h1 | exact held4 (by assumption) hb | exact held4 h1 hb)
            (first | (go_at_call_of 19 a.x0; refine (k0 _).mono ?_; rintro e w' ⟨rfl, hb⟩) | (go_at_call_of 19 a.y0; refine (k1 _).mono ?_; rintro e w' ⟨rfl, hb⟩) | (go_at_call_of 19 a.x1; refine (k2 _).mono ?_; rintro e w' ⟨rfl, hb⟩) | (go_at_call_of 19 a.y1; refine (k3 _).mono ?_; rintro e w' ⟨rfl, hb⟩))
          rename_i hH
          go_wp2_with fail
          go_ret2
          exact ⟨by rw [HR.out]; rfl, hH.2.2.2.2.2⟩
      · have HR : Hid (R = (⟨#[107, 101, 121, 32]⟩ ++ a.key, 0)) := by show _ = _; rw [HTB.out]; simp [HCO.out]
        clear HTB
        have hk4 : (⟨#[107, 101, 121, 32]⟩ : ByteArray).size = 4 := rfl
        go_enter Tryd.func11, Tryd.ntmps11
        go_wp2_with fail
        go_ret2
        exact ⟨by rw [HR.out]; rfl, HB0.out⟩
      · have HR : Hid (R = patB T t X0 Y0 k) := by show _ = _; rw [HTB.out]; simp [HCO.out]
        clear HTB
        have e1 := HRD.out.enc rfl w0 HB0.out
        unfold At18 at e1
        have hT := HRD.out.small
        by_cases ht : t = 0
        · subst ht
          go_enter Tryd.func11, Tryd.ntmps11
          go_wp2_with fail
          refine e1.mono ?_
          rintro e w1 ⟨rfl, b1⟩
          have HB1 : Hid (Below w.heap.size w w1) := HB0.out.trans (b1.mono HB0.out.size)
          obtain ⟨d0, d1, d2, d3, d4, d5, d6, d7, d8, d9⟩ := (HP0.out.go b1).cells
          have e2 := HRD.out.box rfl w1 HB1.out
          unfold At26 at e2
          clear c0 c1 c2 c3 c4 c5 c6 c7 c8 c9 e1 b1
          go_wp2_with fail
          refine e2.mono ?_
          rintro e w2 ⟨rfl, b2⟩
          have HB2 : Hid (Below w.heap.size w w2) := HB1.out.trans (b2.mono HB1.out.size)
          clear e2 b2 d0 d1 d2 d3 d4 d5 d6 d7 d8 d9
          cases k with
          | false =>
            have HR2 : Hid (R = (⟨#[110, 111, 110, 101, 10]⟩ ++ T, 0)) := by show _ = _; rw [HR.out, toldB_none]; rfl
            go_wp2_with fail
            go_ret2
            exact ⟨by rw [HR2.out]; rfl, HB2.out.trans (((Below.refl _ _).alloc (Nat.le_refl _) _).mono HB2.out.size)⟩
          | true =>
            have HR2 : Hid (R = (⟨#[97, 116, 32]⟩ ++ deciB X0 ++ ⟨#[32]⟩ ++ deciB Y0 ++ ⟨#[10]⟩ ++ T, 0)) := by show _ = _; rw [HR.out, toldB_at]; rfl
            obtain ⟨f0, f1⟩ := HRD.out.at_
            have k0 := deci_any X0 f0
            have k1 := deci_any Y0 f1
            have s0 := deci_size X0 f0
            have s1 := deci_size Y0 f1
            generalize deciB X0 = D0 at *
            generalize deciB Y0 = D1 at *
            have hc1 : ¬ 9223372036854775807 < 3 + D0.size := by omega
            have hc2 : ¬ 9223372036854775807 < 3 + D0.size + 1 := by omega
            have hc3 : ¬ 9223372036854775807 < 3 + D0.size + 1 + D1.size := by omega
            have hc4 : ¬ 9223372036854775807 < 3 + D0.size + 1 + D1.size + 1 := by omega
            have hc5 : ¬ 9223372036854775807 < 3 + D0.size + 1 + D1.size + 1 + T.size := by omega
            clear HR f0 f1
            have hbx : Below w.heap.size w (w2.alloc (.cells #[.int .i64 X0, .int .i64 Y0, .int .i64 X1, .int .i64 Y1] 25)) := HB2.out.trans (((Below.refl w2.heap.size w2).alloc (Nat.le_refl _) _).mono HB2.out.size)
            have h1 : (w2.alloc (.cells #[.int .i64 X0, .int .i64 Y0, .int .i64 X1, .int .i64 Y1] 25)).drew.cell? ⟨w2.heap.size, 0, none⟩ = some (.int .i64 X0) ∧ (w2.alloc (.cells #[.int .i64 X0, .int .i64 Y0, .int .i64 X1, .int .i64 Y1] 25)).drew.cell? ⟨w2.heap.size, 1, none⟩ = some (.int .i64 Y0) ∧ w2.heap.size < (w2.alloc (.cells #[.int .i64 X0, .int .i64 Y0, .int .i64 X1, .int .i64 Y1] 25)).drew.heap.size ∧ Below w.heap.size w (w2.alloc (.cells #[.int .i64 X0, .int .i64 Y0, .int .i64 X1, .int .i64 Y1] 25)).drew := by
              refine ⟨?_, ?_, by simp, hbx.drew⟩
              · show (w2.alloc (.cells #[.int .i64 X0, .int .i64 Y0, .int .i64 X1, .int .i64 Y1] 25)).cell? _ = _
                rw [Lib.cell_of_heap (heap_alloc_new w2 _)]; rfl
              · show (w2.alloc (.cells #[.int .i64 X0, .int .i64 Y0, .int .i64 X1, .int .i64 Y1] 25)).cell? _ = _
                rw [Lib.cell_of_heap (heap_alloc_new w2 _)]; rfl
            clear hbx
            go_wp2_with fail
            go_region_held3 (fun w' => w'.cell? ⟨w2.heap.size, 0, none⟩ = some (.int .i64 X0) ∧ w'.cell? ⟨w2.heap.size, 1, none⟩ = some (.int .i64 Y0) ∧ w2.heap.size < w'.heap.size ∧ Below w.heap.size w w') (first | exact h1 | exact held2 (by assumption) hb | exact held2 h1 hb)
              (first | (go_at_call_of 19 X0; refine (k0 _).mono ?_; rintro e w' ⟨rfl, hb⟩) | (go_at_call_of 19 Y0; refine (k1 _).mono ?_; rintro e w' ⟨rfl, hb⟩))
            rename_i hH
            go_wp2_with fail
            go_ret2
            exact ⟨by rw [HR2.out]; rfl, hH.2.2.2⟩
        · have hne : (t != 0) = true := by simpa using ht
          rw [patB, if_pos ht] at HR
          clear ht
          go_enter Tryd.func11, Tryd.ntmps11
          go_wp2_with fail
          refine e1.mono ?_
          rintro e w1 ⟨rfl, b1⟩
          go_wp2_with fail
          go_ret2
          exact ⟨by rw [HR.out]; rfl, HB0.out.trans (b1.mono HB0.out.size)⟩
      · have HR : Hid (R = (⟨#[111, 107]⟩, 0)) := by
          show _ = _
          simp only [beq_eq_false_iff_ne, bne_iff_ne] at h1 h2 h3 h4 h5
          have hin := HIN.out
          rw [HTB.out, if_neg (by omega), if_neg (by have := HCO.out; omega), if_neg (by omega), if_neg h3, if_neg h4, if_neg h5]
        clear HTB
        go_enter Tryd.func11, Tryd.ntmps11
        go_wp2_with fail
        go_ret2
        exact ⟨by rw [HR.out]; rfl, HB0.out⟩
    · have HR : Hid (R = (⟨#[110, 111, 32]⟩ ++ deciB a.code, 0)) := by
        show _ = _
        have hin := HIN.out
        rw [HTB.out, if_neg (by omega), if_pos hcode, toldB_no]
      have hce : (a.code != 0) = true := by simpa using hcode
      have hd := deci_any a.code HRD.out.fits.code
      have hs := deci_size a.code HRD.out.fits.code
      generalize deciB a.code = D at *
      clear HTB hcode
      go_enter Tryd.func11, Tryd.ntmps11
      go_wp2_with fail
      refine (hd _).mono ?_
      rintro e w2 ⟨rfl, b2⟩
      go_wp2_with fail
      go_ret2
      exact ⟨by rw [HR.out]; rfl, HB0.out.trans (b2.mono HB0.out.size)⟩
  · have HR : Hid (R = (⟨#[]⟩, 4)) := by show _ = _; rw [HTB.out, if_pos hin]
    have hi : verb < 0 ∨ (¬ verb < 0 ∧ 10 < verb) := by omega
    clear hin HTB
    rcases hi with hi1 | ⟨hi1, hi2⟩
    · go_enter Tryd.func11, Tryd.ntmps11
      go_wp2_with fail
      go_ret2
      exact ⟨by rw [HR.out]; rfl, HB0.out⟩
    · go_enter Tryd.func11, Tryd.ntmps11
      go_wp2_with fail
      go_ret2
      exact ⟨by rw [HR.out]; rfl, HB0.out⟩
end Go.Proofs.YtnklpjoeopcbbaaDoor
