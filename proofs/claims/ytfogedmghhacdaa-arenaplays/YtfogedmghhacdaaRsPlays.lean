/- ArenaPlays: the law. -/
import Derived.Test.YtfogedmghhacdaaRsMoved
import Derived.Test.YtfogedmghhacdaaRsOpenM
namespace Go.Proofs.Ytfogedmghhacdaa.A
open Go.RowKit Go.Maps

theorem PaSt.start {w w1 w2 : World} {room : Int} {F : Nat → Prop} (hF : ∀ k, F k → w.heap.size ≤ k) (hA : AtP w1 (w.heap.size + 1) F (arNew room)) (hb1 : Below w.heap.size w w1) (hS : StAt w2 w1.heap.size (fun k => k = w1.heap.size) (St.of (arNew room))) (hb2 : Below w1.heap.size w1 w2) :
    PaSt w (w.heap.size + 1) w1.heap.size w2.heap.size F (fun k => k = w1.heap.size) (arNew room) (arNew room) (.slice none 0 0) [] (w2.alloc (.cells #[.slice none 0 0] 33)) := by
  have hb3 : Below w2.heap.size w2 (w2.alloc (.cells #[.slice none 0 0] 33)) := (Below.refl _ _).alloc (Nat.le_refl _) _
  have l1 := hb1.size
  have l2 : w1.heap.size < w2.heap.size := hS.flt rfl
  refine ⟨(hA.below hb2).below hb3, hS.below hb3, heap_alloc_new w2 _, World.ownsRow_nil _ _ _ _, fun k hk e => ?_, ⟨fun e => ?_, fun e => ?_⟩, fun k hk => by simp [Value.ownBlock] at hk, fun k hk => ?_, (hb1.trans (hb2.mono l1)).trans (hb3.mono (by omega))⟩
  · have := hA.flt k hk
    omega
  · have := hA.flt _ e
    omega
  · omega
  · rcases hk with e | e | e | e
    · exact hF k e
    · omega
    · omega
    · simp [Value.ownBlock] at e
set_option maxRecDepth 20000 in
set_option maxHeartbeats 8000000 in
theorem plays_law (room : Int) (v : Value) (ds : List Dd) (w : World) (h : MRow w v ds) :
    Calls Try.prog 3 #[.int .i64 room, v] w fun e w' => e = .returned (.bool true) ∧ Below w.heap.size w w' := by
  obtain ⟨va, vc, rfl, hlen, hrow⟩ := h
  by_cases hr : 0 ≤ room ∧ room ≤ 200000
  · have hnew := newP_any room w hr.1 hr.2
    have hst := fun W => newS_any room W hr.1 hr.2
    have HG0 : Hid (Good (arNew room)) := Good.new hr.1 hr.2
    have HROW : Hid (ds = [] ∨ _) := hrow
    have HLEN : Hid (ds.length ≤ 9223372036854775807) := hlen
    obtain ⟨nd, hnd⟩ : ∃ n, n = ds.length := ⟨_, rfl⟩
    rw [← hnd] at HLEN ⊢
    have HND0 : Hid (nd = ds.length) := hnd
    clear hnd hlen hrow hr
    go_enter Try.func3, Try.ntmps3
    go_wp2_with fail
    refine hnew.mono ?_
    rintro e w1 ⟨rfl, ⟨F, hF, hA⟩, hb1⟩
    have HA : Hid (AtP w1 (w.heap.size + 1) F (arNew room)) := hA
    have HF : Hid (∀ k, F k → w.heap.size ≤ k) := hF
    have HB1 : Hid (Below w.heap.size w w1) := hb1
    clear hnew hF hA hb1
    go_wp2_with fail
    refine (hst _).mono ?_
    rintro e w2 ⟨rfl, hS, hb2⟩
    have HP : Hid (PaSt w (w.heap.size + 1) w1.heap.size w2.heap.size F (fun k => k = w1.heap.size) (arNew room) (arNew room) (.slice none 0 0) [] (w2.alloc (.cells #[.slice none 0 0] 33))) := PaSt.start HF.out HA.out HB1.out hS hb2
    clear hst hS hb2 HA HF HB1
    obtain ⟨N, hN⟩ : ∃ m, m = min nd 120 := ⟨_, rfl⟩
    have HND : Hid (N = min nd 120 ∧ nd = ds.length) := ⟨hN, HND0.out⟩
    have hNd : N ≤ nd := by omega
    have hN2 : N ≤ 120 := by omega
    clear hN
    go_wp2_with fail
    go_loopg [10] N (fun gh s10 wr => ∃ (i : Nat) (F G : Nat → Prop) (A : Ar) (v : Value) (l : List Int), i + gh = N ∧ s10 = .int .i64 i ∧ PaSt w (w.heap.size + 1) w1.heap.size w2.heap.size F G A A v l wr ∧ Good A ∧ l.length ≤ i ∧ ∀ z ∈ l, Fits z)
    case atStart => exact ⟨0, _, _, _, _, _, by omega, rfl, HP.out, HG0.out, Nat.le_refl _, fun z hz => by cases hz⟩
    case round =>
      obtain ⟨i, F', G, A, v, l, hig, rfl, S, hG, hl, hlf⟩ := hrel
      have HIG : Hid (i + gk = N) := hig
      have hiN : i ≤ N := by omega
      have HS : Hid (PaSt w (w.heap.size + 1) w1.heap.size w2.heap.size F' G A A v l wr) := S
      have HG : Hid (Good A) := hG
      have HL : Hid (l.length ≤ i) := hl
      have HLF : Hid (∀ z ∈ l, Fits z) := hlf
      clear hig S hG hl hlf HP HG0
      by_cases hlt : i < N
      · have k0 : (0 : Int) ≤ (i : Int) := by omega
        have k1 : (i : Int) < (nd : Int) := by omega
        have k2 : (i : Int) < 120 := by omega
        have hxd : ds[i]? = some (ds[i]'(by rw [← HND.out.2]; omega)) := List.getElem?_eq_getElem _
        generalize ds[i]'(by rw [← HND.out.2]; omega) = d at hxd
        obtain ⟨g, o, rfl, hg, hc⟩ := (show ∃ g o, va = some ⟨g, o, none⟩ ∧ g < w.heap.size ∧ _ from by
          rcases HROW.out with e | e
          · rw [e] at hxd; simp at hxd
          · exact e)
        obtain ⟨⟨e0, e1, e2, e3, e4, e5⟩, hfd⟩ := hc i d hxd
        have hkc := fun j => HS.out.bel.cell (p := ⟨g, j, none⟩) hg
        have d0 := (hkc _).trans e0
        have d1 := (hkc _).trans e1
        have d2 := (hkc _).trans e2
        have d3 := (hkc _).trans e3
        have d4 := (hkc _).trans e4
        have d5 := (hkc _).trans e5
        have hmv := moved_any (w.heap.size + 1) w1.heap.size w2.heap.size d.k d.t d.a0 d.a1 d.a2 d.a3 F' G A v l w wr HS.out HG.out (by have := HL.out; omega) HLF.out hfd
        clear e0 e1 e2 e3 e4 e5 hkc hxd hc hfd
        go_wp2_with fail
        refine hmv.mono ?_
        rintro e wx ⟨rfl, F3, G3, A3, v3, l3, P3, hG3, hl3, hf3⟩
        have HEND : Hid (∃ (F G : Nat → Prop) (A : Ar) (v : Value) (l : List Int), PaSt w (w.heap.size + 1) w1.heap.size w2.heap.size F G A A v l wx ∧ Good A ∧ l.length ≤ i + 1 ∧ ∀ z ∈ l, Fits z) := ⟨_, _, _, _, _, P3, hG3, by have := HL.out; omega, hf3⟩
        clear hmv P3 hG3 hl3 hf3 d0 d1 d2 d3 d4 d5 HS HG HL HLF
        go_wp2_with fail
        go_roundg (gk - 1)
        case measure => have := HIG.out; omega
        case rel =>
          obtain ⟨F, G, A, v, l, h1, h2, h3, h4⟩ := HEND.out
          exact ⟨i + 1, F, G, A, v, l, by have := HIG.out; omega, by go_num, h1, h2, h3, h4⟩
      · have hnn := HND.out.1
        have hcase : (¬ (i : Int) < (nd : Int)) ∨ ((i : Int) < (nd : Int) ∧ ¬ (i : Int) < 120) := by omega
        clear hnn
        obtain ⟨r, hst⟩ := HS.out.st
        have c1 := hst.raw.at 1 (by omega)
        rw [Sr.c1] at c1
        obtain ⟨ta, tc, hv⟩ := hst.ths.shape
        rw [hv, show (St.of A).ths.length = liveN A.ths from ref_len _ _] at c1
        have HLV : Hid (∀ W, Below wr.heap.size wr W → _) := fun W hb => liveP_any (w.heap.size + 1) F' A W (HS.out.below hb).ar HG.out.s
        have HSA : Hid (∀ W, Below wr.heap.size wr W → _) := fun W hb => squaresP_any (w.heap.size + 1) F' A W (HS.out.below hb).ar HG.out.s
        have HSS : Hid (∀ W, Below wr.heap.size wr W → _) := fun W hb => squaresS_any w1.heap.size G (St.of A) W (HS.out.below hb).st (of_tame HG.out.s)
        have HSQ : Hid ((onlySq (refL 0 A.ths)).length < 1000000) := by
          have h1 := only_ref_le A.ths A.ths.length
          rw [List.take_length] at h1
          have h2 := HG.out.s.len
          have h3 := HG.out.s.room1
          show _ < _
          omega
        have HBW : Hid (Below w.heap.size w wr) := HS.out.bel
        have hbl : w1.heap.size < wr.heap.size := hst.flt _ hst.fb
        obtain ⟨m, hm⟩ : ∃ m, m = liveN A.ths := ⟨_, rfl⟩
        rw [← hm] at c1 HLV
        clear hst hv hm
        rcases hcase with hc | ⟨hc, hc2⟩
        all_goals
          go_wp2_with fail
          go_region_with ((first
            | (go_at_call 9; refine (HLV.out _ (Below.refl _ _).drew).mono ?_; rintro e wL ⟨rfl, q, hq⟩)
            | (go_at_call 11; refine (HSA.out _ (by first | exact bel_drewN (Below.refl _ _) _ | exact (bel_drewN (Below.refl _ _) _).drew)).mono ?_; rintro e w5 ⟨sv, rfl, ho5, hb5⟩; have hb5' : Below wr.heap.size wr w5 := ⟨hb5.os, hb5.tape, hb5.output, hb5.size, hb5.block⟩; clear hb5)
            | (go_at_call 12; refine (HSS.out _ hb5').mono ?_; rintro e w6 ⟨su, rfl, ho6, hb6⟩; have ho5' := row_other ho5 fun k hk => hb6.block k (ho5.lt k hk).2; have hb6' : Below wr.heap.size wr w6 := hb5'.trans (hb6.mono hb5'.size); clear hb6 ho5)
            | (go_at_call 10; refine (sameSq_any sv su _ _ _ w6 ho5' ho6 HSQ.out).mono ?_; rintro e w7 ⟨rfl, hb7⟩; have hb7' : Below w.heap.size w w7 := HBW.out.trans ((hb6'.trans (hb7.mono hb6'.size)).mono HBW.out.size); clear hb7 ho5' ho6)))
          all_goals
            have HE : Hid (Below w.heap.size w w7) := hb7'
            go_wp2_with fail
            go_ret
            exact ⟨rfl, HE.out⟩
  · have hnew := new_bad room w hr
    have hst := fun W => newS_bad room W hr
    clear hr
    go_enter Try.func3, Try.ntmps3
    go_wp2_with fail
    refine hnew.mono ?_
    rintro e w1 ⟨rfl, rfl⟩
    go_wp2_with fail
    refine (hst _).mono ?_
    rintro e w2 ⟨rfl, rfl⟩
    go_wp2_with fail
    go_ret
    exact ⟨rfl, Below.refl _ _⟩
end Go.Proofs.Ytfogedmghhacdaa.A
