/- frame.firstText. -/
import Derived.Test.YtjblaomjadpbfaaDoorFrReadFrame
import Derived.Test.YtjblaomjadpbfaaDoorFrBuild
namespace Go.Proofs.YtjblaomjadpbfaaDoor
open Go.RowKit

/-- what firstText answers -/
def FirstOut (s : List UInt8) (w : World) (e : Ending) (w' : World) : Prop :=
  Below w.heap.size w w' ∧ ((∃ t r, Reads [] s t r ∧ e = .returned (.tuple #[.string ⟨t.toArray⟩, .string ⟨r.toArray⟩, .bool true])) ∨ ((∀ t r, ¬ Reads [] s t r) ∧ e = .returned (.tuple #[.string ⟨#[]⟩, .string ⟨#[]⟩, .bool false])))

set_option maxRecDepth 20000 in
set_option maxHeartbeats 2000000 in
theorem firstText_any (s : List UInt8) (w : World) (hs : s.length ≤ 140737488355328) :
    Calls Tryd.prog 21 #[.string ⟨s.toArray⟩] w (FirstOut s w) := by
  have hfr := bd_fresh w
  have hb0 : Below w.heap.size w (w.alloc (.cells #[.pointer none, .slice none 0 0] 44)) := (Below.refl _ _).alloc (Nat.le_refl _) _
  obtain ⟨SB, hS⟩ : ∃ S, S = (⟨s.toArray⟩ : ByteArray) := ⟨_, rfl⟩
  rw [← hS]
  have HSS : Hid (SB = ⟨s.toArray⟩ ∧ s.length ≤ 140737488355328) := ⟨hS, hs⟩
  clear hS hs
  go_enter Tryd.func21, Tryd.ntmps21
  go_wp2_with fail
  go_loopg [0] s.length (fun g s0 wr => ∃ r acc : List UInt8, r.length ≤ g ∧ acc.length + r.length ≤ s.length ∧ s0 = .string ⟨r.toArray⟩ ∧ (∀ t x, Reads [] s t x ↔ Reads acc r t x) ∧ Bd w.heap.size w.heap.size acc wr ∧ w.heap.size ≤ wr.heap.size ∧ Below w.heap.size w wr)
  case atStart => exact ⟨s, [], Nat.le_refl _, by simp, by rw [HSS.out.1], fun _ _ => Iff.rfl, hfr, hb0.size, hb0⟩
  case round =>
    obtain ⟨r, acc, hr, hrs, rfl, hrd, hbd, hws, hb⟩ := hrel
    obtain ⟨R, hR⟩ : ∃ R, R = (⟨r.toArray⟩ : ByteArray) := ⟨_, rfl⟩
    have hsz : R.size = r.length := by rw [hR]; exact ba_size r
    have HR : Hid (R = ⟨r.toArray⟩ ∧ r.length ≤ gk ∧ acc.length + r.length ≤ s.length) := ⟨hR, hr, hrs⟩
    have HRD : Hid (∀ t x, Reads [] s t x ↔ Reads acc r t x) := hrd
    rw [← hR]
    clear hR hr hrs hrd hfr hb0
    obtain ⟨rn, hrn⟩ : ∃ rn, rn = r.length := ⟨_, rfl⟩
    rw [← hrn] at hsz
    have HRN : Hid (rn = r.length) := hrn
    have hrl : rn ≤ 140737488355328 := by have := HR.out; have := HSS.out; omega
    by_cases hl : 128 ≤ rn
    · have hl2 : (128 : Int) ≤ (rn : Int) := by omega
      have hx : R.extract 0 128 = ⟨(r.take 128).toArray⟩ := by rw [HR.out.1, ba_take]
      have c1 := fun W => readFrame_any (fun s w h => Tryd.strings_Trim_one s 0 (by decide) w (by omega)) (r.take 128) W (by rw [List.length_take]; omega)
      rw [← hx] at c1
      have HL : Hid (128 ≤ r.length) := by show 128 ≤ r.length; omega
      clear hx hrn hl
      go_wp2_with fail
      refine (c1 _).mono ?_
      rintro e w1 ⟨rfl, hz1⟩
      have hbd1 := hbd.below hz1
      have hws1 : w.heap.size ≤ w1.heap.size := Nat.le_trans hws hz1.size
      have hb1 : Below w.heap.size w w1 := hb.trans (hz1.mono hws)
      clear c1 hbd hws hb hz1
      obtain ⟨m, p, ok, hrf⟩ : ∃ m p ok, readF (r.take 128) = (m, p, ok) := ⟨_, _, _, rfl⟩
      rw [hrf]
      have HRF : Hid (readF (r.take 128) = (m, p, ok)) := hrf
      clear hrf
      cases ok with
      | false =>
        go_wp2_with fail
        go_ret3
        exact ⟨hb1, Or.inr ⟨fun t x h => readF_false HRF.out acc t x ((HRD.out t x).1 h), rfl⟩⟩
      | true =>
        have HT : Hid (r = frameOf m p ++ r.drop 128 ∧ p.length ≤ 126 ∧ (m = 0 ∨ m = 1 ∧ p.length = 126)) := readF_true HL.out HRF.out
        by_cases hp : p = []
        · subst hp
          have hlen := Tryd.Builder_Len w.heap.size w.heap.size (Lib.byteCells acc) w1 hbd1
          rw [Lib.byteCells_length] at hlen
          have hal : acc.length ≤ 140737488355328 := by have := HR.out; have := HSS.out; omega
          by_cases ha : acc = []
          · subst ha
            have HM : Hid (m = 0) := by
              rcases HT.out.2.2 with h | ⟨_, h⟩
              · exact h
              · simp at h
            have hm0 : ((m.toNat : Int) == 0) = true := by rw [HM.out]; rfl
            have HX : Hid (R.extract 128 rn = ⟨(r.drop 128).toArray⟩) := by show _ = _; rw [HR.out.1, HRN.out, ba_drop]
            have c3 : Calls Tryd.prog 29 #[.pointer (some ⟨w.heap.size, 0, none⟩), .string ⟨#[]⟩] w1 fun e w' => (∃ n, e = .returned (.tuple #[.int .i64 n, .nilIface])) ∧ Bd w.heap.size w.heap.size [] w' ∧ Below w.heap.size w1 w' := ws_any w.heap.size w.heap.size [] [] w1 hbd1 (by simp) hws1
            have c4 : ∀ W, Bd w.heap.size w.heap.size [] W → w.heap.size ≤ W.heap.size → Calls Tryd.prog 23 #[.pointer (some ⟨w.heap.size, 0, none⟩)] W fun e w' => e = .returned (.string ⟨#[]⟩) ∧ Below w.heap.size W w' := fun W h1 h2 => bs_any w.heap.size w.heap.size [] W h1 h2
            have HQ : Hid (Reads [] s [] (r.drop 128)) := by
              show Reads [] s [] (r.drop 128)
              rw [HRD.out]
              have h1 := HT.out.1
              rw [HM.out] at h1
              have := Reads.last (acc := []) (p := []) (r := r.drop 128) (by simp) (fun _ => rfl)
              rwa [← h1] at this
            clear hbd1 hal
            go_wp2_with fail
            refine hlen.mono ?_
            rintro e w1' ⟨rfl, hw1⟩
            subst hw1
            clear hlen
            go_wp2_with fail
            refine c3.mono ?_
            rintro e w2 ⟨⟨n2, rfl⟩, hbd2, hz2⟩
            have hws2 : w.heap.size ≤ w2.heap.size := Nat.le_trans hws1 hz2.size
            have hb2 : Below w.heap.size w w2 := hb1.trans hz2
            clear c3
            go_wp2_with fail
            refine (c4 _ hbd2 hws2).mono ?_
            rintro e w3 ⟨rfl, hz3⟩
            go_wp2_with fail
            go_ret3
            exact ⟨hb2.trans hz3, Or.inl ⟨[], r.drop 128, HQ.out, by rw [HX.out]; rfl⟩⟩
          · have ha0 : (0 : Int) < (acc.length : Int) := by have := List.length_pos_iff.2 ha; omega
            have HA : Hid (¬ acc = []) := ha
            obtain ⟨an, han⟩ : ∃ an, an = acc.length := ⟨_, rfl⟩
            rw [← han] at hlen ha0 hal
            clear han ha
            go_wp2_with fail
            refine hlen.mono ?_
            rintro e w1' ⟨rfl, hw1⟩
            subst hw1
            clear hlen
            go_wp2_with fail
            go_ret3
            refine ⟨hb1, Or.inr ⟨fun t x h => ?_, rfl⟩⟩
            have h1 := (HRD.out t x).1 h
            obtain ⟨h2, h3, h4⟩ := HT.out
            rcases h4 with rfl | ⟨_, h4⟩
            · rw [h2] at h1
              exact HA.out ((reads_last h3 h1).2.2 rfl)
            · simp at h4
        · have HNE : Hid (p = [] → acc = []) := fun h => absurd h hp
          have hpe : p.isEmpty = false := by
            cases p with
            | nil => exact absurd rfl hp
            | cons _ _ => rfl
          clear hp
          have c3 := ws_any w.heap.size w.heap.size acc p w1 hbd1 (by have := HR.out; have := HSS.out; have := HT.out.2.1; have := HL.out; omega) hws1
          have c4 := fun W h1 h2 => bs_any w.heap.size w.heap.size (acc ++ p) W h1 h2
          have HX : Hid (R.extract 128 rn = ⟨(r.drop 128).toArray⟩) := by show _ = _; rw [HR.out.1, HRN.out, ba_drop]
          obtain ⟨ap, hap⟩ : ∃ ap, ap = acc ++ p := ⟨_, rfl⟩
          rw [← hap] at c3 c4
          have HAP : Hid (ap = acc ++ p) := hap
          clear hap hbd1
          go_wp2_with fail
          refine c3.mono ?_
          rintro e w2 ⟨⟨n2, rfl⟩, hbd2, hz2⟩
          have hws2 : w.heap.size ≤ w2.heap.size := Nat.le_trans hws1 hz2.size
          have hb2 : Below w.heap.size w w2 := hb1.trans hz2
          clear c3
          rcases HT.out.2.2 with hm | hm
          · have HM : Hid (m = 0) := hm
            have hm0 : ((m.toNat : Int) == 0) = true := by rw [hm]; rfl
            clear hm
            go_wp2_with fail
            refine (c4 _ hbd2 hws2).mono ?_
            rintro e w3 ⟨rfl, hz3⟩
            go_wp2_with fail
            go_ret3
            refine ⟨hb2.trans hz3, Or.inl ⟨ap, r.drop 128, ?_, ?_⟩⟩
            · rw [HRD.out, HAP.out]
              have h1 := HT.out.1
              rw [HM.out] at h1
              have := Reads.last (acc := acc) (r := r.drop 128) HT.out.2.1 HNE.out
              rwa [← h1] at this
            · rw [HX.out]; rfl
          · have HM : Hid (m = 1 ∧ p.length = 126) := hm
            have hm0 : ((m.toNat : Int) == 0) = false := by rw [hm.1]; rfl
            clear hm
            go_wp2_with fail
            go_roundg (gk - 1)
            case measure => have := HL.out; have := HR.out; omega
            case rel =>
              have h1 := HL.out
              have h2 := HR.out
              have h3 := HM.out
              refine ⟨r.drop 128, ap, by rw [List.length_drop]; omega, ?_, by rw [HX.out], fun t x => ?_, hbd2, hws2, hb2⟩
              · rw [HAP.out, List.length_append, List.length_drop]; omega
              · rw [HRD.out, HAP.out]
                have h4 := HT.out.1
                rw [h3.1] at h4
                have := reads_more (acc := acc) (s := r.drop 128) (t := t) (r := x) h3.2
                rwa [← h4] at this
    · have hl2 : ¬ (128 : Int) ≤ (rn : Int) := by omega
      clear hrn
      go_wp2_with fail
      go_ret3
      exact ⟨hb, Or.inr ⟨fun t x h => by have := ((HRD.out t x).1 h).len; have := HRN.out; omega, rfl⟩⟩
end Go.Proofs.YtjblaomjadpbfaaDoor
