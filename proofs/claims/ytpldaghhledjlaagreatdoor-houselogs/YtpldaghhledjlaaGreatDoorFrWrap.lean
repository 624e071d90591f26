/- frame.writeFrame, frame.Wrap. -/
import Derived.Test.YtpldaghhledjlaaGreatDoorFrBuild
namespace Go.Proofs.YtpldaghhledjlaaGreatDoor
open Go.RowKit
set_option maxRecDepth 20000 in
set_option maxHeartbeats 2000000 in
theorem writeFrame_any (B b : Nat) (l p : List UInt8) (m : UInt8) (w : World) (h : Bd B b l w) (hB : B ≤ w.heap.size) (hp : p.length ≤ 126) (hl : l.length + 128 ≤ 140737488355328) :
    Calls Tryz.prog 38 #[.pointer (some ⟨b, 0, none⟩), .int .u8 m.toNat, .string ⟨p.toArray⟩] w fun e w' => e = .returned (.tuple #[]) ∧ Bd B b (l ++ frameOf m p) w' ∧ Below B w w' := by
  have c1 := wb_any B b l m w h (by omega) hB
  have c2 := fun W h hB => wb_any B b (l ++ [m]) (UInt8.ofNat p.length) W h (by simp; omega) hB
  have c3 := fun W h hB => ws_any B b (l ++ [m] ++ [UInt8.ofNat p.length]) p W h (by simp; omega) hB
  have c4 := fun W => rep_any (126 - p.length) W (by omega)
  have c5 := fun W h hB => ws_any B b (l ++ [m] ++ [UInt8.ofNat p.length] ++ p) (List.replicate (126 - p.length) 0) W h (by simp; omega) hB
  rw [ofNat_len hp] at c2
  have hsz := ba_size p
  have HE : Hid (l ++ [m] ++ [UInt8.ofNat p.length] ++ p ++ List.replicate (126 - p.length) 0 = l ++ frameOf m p) := by
    show _ = _
    simp [frameOf]
  have hw1 : IntKind.u8.wrap (p.length : Int) = (p.length : Int) := by rw [IntKind.wrap_u8]; omega
  have hw2 : IntKind.i64.wrap (126 - (p.length : Int)) = ((126 - p.length : Nat) : Int) := by rw [IntKind.wrap_i64]; omega
  generalize UInt8.ofNat p.length = pc at *
  generalize (⟨p.toArray⟩ : ByteArray) = PB at *
  generalize p.length = pn at *
  clear h
  go_enter Tryz.func38, Tryz.ntmps38
  go_wp2_with fail
  refine c1.mono ?_
  rintro e w1 ⟨rfl, hb1, hz1⟩
  have hs1 : B ≤ w1.heap.size := Nat.le_trans hB hz1.size
  clear c1
  go_wp2_with fail
  refine (c2 _ hb1 hs1).mono ?_
  rintro e w2 ⟨rfl, hb2, hz2⟩
  have hs2 : B ≤ w2.heap.size := Nat.le_trans hs1 hz2.size
  clear c2 hb1
  go_wp2_with fail
  refine (c3 _ hb2 hs2).mono ?_
  rintro e w3 ⟨⟨n3, rfl⟩, hb3, hz3⟩
  have hs3 : B ≤ w3.heap.size := Nat.le_trans hs2 hz3.size
  clear c3 hb2
  go_wp2_with fail
  refine (c4 _).mono ?_
  rintro e w4 ⟨rfl, hz4⟩
  have hb4 := hb3.below hz4
  have hs4 : B ≤ w4.heap.size := Nat.le_trans hs3 hz4.size
  clear c4 hb3
  go_wp2_with fail
  refine (c5 _ hb4 hs4).mono ?_
  rintro e w5 ⟨⟨n5, rfl⟩, hb5, hz5⟩
  clear c5 hb4
  go_wp2_with fail
  exact bodyPost_end (v := .tuple #[]) (by rw [results, show Tryz.f38.results = #[] from rfl]; simp) rfl ⟨rfl, by rw [← HE.out]; exact hb5, (((hz1.trans hz2).trans hz3).trans (hz4.mono hs3)).trans hz5⟩

set_option maxRecDepth 20000 in
set_option maxHeartbeats 2000000 in
theorem wrap_any (s : List UInt8) (w : World) (hs : (wrapL s).length ≤ 140737488355328) :
    Calls Tryz.prog 24 #[.string ⟨s.toArray⟩] w fun e w' => e = .returned (.string ⟨(wrapL s).toArray⟩) ∧ Below w.heap.size w w' := by
  have hfr := bd_fresh w
  have HS : Hid ((wrapL s).length ≤ 140737488355328) := hs
  have hb0 : Below w.heap.size w (w.alloc (.cells #[.pointer none, .slice none 0 0] 94)) := (Below.refl _ _).alloc (Nat.le_refl _) _
  obtain ⟨SB, hS⟩ : ∃ S, S = (⟨s.toArray⟩ : ByteArray) := ⟨_, rfl⟩
  rw [← hS]
  have HSS : Hid (SB = ⟨s.toArray⟩) := hS
  clear hS hs
  have hwf := writeFrame_any w.heap.size w.heap.size
  have hst := bs_any w.heap.size w.heap.size
  go_enter Tryz.func24, Tryz.ntmps24
  go_wp2_with fail
  go_loopg [0] s.length (fun g s0 wr => ∃ r o : List UInt8, r.length ≤ g ∧ r.length ≤ s.length ∧ s0 = .string ⟨r.toArray⟩ ∧ o ++ wrapL r = wrapL s ∧ Bd w.heap.size w.heap.size o wr ∧ w.heap.size ≤ wr.heap.size ∧ Below w.heap.size w wr)
  case atStart => exact ⟨s, [], Nat.le_refl _, Nat.le_refl _, by rw [HSS.out], rfl, hfr, hb0.size, hb0⟩
  case round =>
    obtain ⟨r, o, hr, hrs, rfl, ho, hbd, hws, hb⟩ := hrel
    obtain ⟨R, hR⟩ : ∃ R, R = (⟨r.toArray⟩ : ByteArray) := ⟨_, rfl⟩
    have hsz : R.size = r.length := by rw [hR]; exact ba_size r
    have HR : Hid (R = ⟨r.toArray⟩ ∧ r.length ≤ gk ∧ r.length ≤ s.length) := ⟨hR, hr, hrs⟩
    have HO : Hid (o ++ wrapL r = wrapL s) := ho
    have hlen : o.length + (wrapL r).length ≤ 140737488355328 := by
      have := HS.out
      rwa [← ho, List.length_append] at this
    rw [← hR]
    clear hR hr hrs ho hfr hb0
    obtain ⟨rn, hrn⟩ : ∃ rn, rn = r.length := ⟨_, rfl⟩
    rw [← hrn] at hsz
    have HRN : Hid (rn = r.length) := hrn
    have hrl : rn ≤ 140737488355328 := by
      have h1 := wrapL_len r.length r (Nat.le_refl _)
      obtain ⟨k, h1, h2, _⟩ := h1
      omega
    by_cases hl : 126 < rn
    · have hl2 : (126 : Int) < (rn : Int) := by omega
      have HL : Hid (126 < r.length) := by show 126 < r.length; omega
      have hx : R.extract 0 126 = ⟨(r.take 126).toArray⟩ := by rw [HR.out.1, ba_take]
      have hwl : (wrapL r).length = 128 + (wrapL (r.drop 126)).length := by rw [wrapL_long HL.out, List.length_append, frameOf_len 1 (Nat.le_of_eq (take126 HL.out))]
      have c1 := hwf o (r.take 126) 1 wr hbd hws (Nat.le_of_eq (take126 HL.out)) (by omega)
      have HX : Hid (R.extract 126 rn = ⟨(r.drop 126).toArray⟩) := by show _ = _; rw [HR.out.1, HRN.out, ba_drop]
      clear hrn hl hwl hlen hbd
      rw [← hx] at c1
      clear hx
      go_wp2_with fail
      refine c1.mono ?_
      rintro e w1 ⟨rfl, hb1, hz1⟩
      clear c1
      go_wp2_with fail
      go_roundg (gk - 1)
      case measure => have := HL.out; have := HR.out; omega
      case rel =>
        have h1 := HL.out
        have h2 := HR.out
        refine ⟨r.drop 126, o ++ frameOf 1 (r.take 126), by rw [List.length_drop]; omega, by rw [List.length_drop]; omega, by rw [HX.out], ?_, hb1, Nat.le_trans hws hz1.size, hb.trans hz1⟩
        rw [List.append_assoc, ← wrapL_long h1, HO.out]
    · have hl2 : ¬ (126 : Int) < (rn : Int) := by omega
      have HL : Hid (r.length ≤ 126) := by show r.length ≤ 126; omega
      have hwl : (wrapL r).length = 128 := by rw [wrapL_short HL.out, frameOf_len 0 HL.out]
      have c1 := hwf o r 0 wr hbd hws HL.out (by omega)
      rw [← HR.out.1] at c1
      have he : o ++ frameOf 0 r = wrapL s := by rw [← wrapL_short HL.out]; exact HO.out
      rw [he] at c1
      have c2 := fun W h1 h2 => hst (wrapL s) W h1 h2
      clear he
      clear hrn hl hwl hlen hbd
      go_wp2_with fail
      refine c1.mono ?_
      rintro e w1 ⟨rfl, hb1, hz1⟩
      clear c1
      go_wp2_with fail
      refine (c2 _ hb1 (Nat.le_trans hws hz1.size)).mono ?_
      rintro e w2 ⟨rfl, hz2⟩
      go_wp2_with fail
      go_ret
      exact ⟨rfl, (hb.trans hz1).trans hz2⟩
end Go.Proofs.YtpldaghhledjlaaGreatDoor
