/- HallLeases, walked. -/
import Derived.Test.YtgipjplifndniaaGreatDoorHaLsB
import Derived.Deep.CutRange
import Derived.Deep.RegionHeld3
namespace Go.Proofs.YtgipjplifndniaaGreatDoor.U
open Go.RowKit Go.Maps Go.Proofs.YtgipjplifndniaaGreatDoor.L Go.Proofs.YtgipjplifndniaaGreatDoor.A Go.Proofs.YtgipjplifndniaaGreatDoor.K

theorem add_none (ys : List (Int × Int)) : addG (cellsG []) ys = cellsG ys := by
  funext X Y
  unfold addG cellsG
  simp
theorem kept_free {o : Nat → Nat} {W7 W8 W9 : World} {B : Nat} {u2 : Value} {L : List (Int × Int)} (h : Kept W8 B u2 L) (hB : W7.heap.size ≤ B) (h9 : Below W8.heap.size W8 W9) : Free (ext o W7.heap.size 0) W9 u2 L :=
  ⟨h.row.below h9, fun k hk => ext_new (by
    rcases h with ⟨_, e⟩ | ⟨_, h⟩
    · rw [e] at hk; cases hk
    · have := (h.lt k hk).1
      omega)⟩
theorem meet_put {w w9 : World} {og : Nat → Nat} {b hb g g8 g9 N : Nat} {Ag : Ar} {rr rg cc : Int} {ids4 : List Nat} {v4 u6 u : Value} {L zs2 : List (Int × Int)} (q1 : LS w w9 og b hb Ag (kS rr rg) ids4 v4 u6) (hg : AnB w9 g #[.int .i64 0, .int .i64 0, .int .i64 0, .int .i64 0, .int .i64 0, .int .i64 0, .int .i64 0, .int .i64 0, .string ⟨#[]⟩, .slice none 0 0]) (hg0 : og g = 0) (h8 : LA og w9 g8 #[.int .i64 0, .int .i64 0, .int .i64 0, .int .i64 0, .int .i64 0, .int .i64 0, .int .i64 0, .int .i64 0, .string ⟨#[]⟩, .slice none 0 0]) (h9 : LA og w9 g9 #[.int .i64 0, .int .i64 0, .int .i64 0, .int .i64 0, .int .i64 0, .int .i64 0, .int .i64 0, .int .i64 0, .string kT, .slice none 0 0]) (hF : Free og w9 u L) (hlt : ∀ k, u.ownBlock = some k → k < g) (h8g : g8 < g) (h9g : g9 < g) (hs : w.heap.size ≤ g) (q3 : Rt Ag 9 N rg (cellsG zs2)) (q4 : 1 ≤ N) (q5 : N ≤ 20) :
    ∃ (g' : Nat) (og' : Nat → Nat) (Ag' : Ar) (rg' : Int) (N' : Nat), (Value.pointer (some ⟨g, 0, none⟩)) = .pointer (some ⟨g', 0, none⟩) ∧ LS w (putAn w9 g (.int .i64 cc) (.int .i64 0) (.int .i64 0) (.int .i64 0) (.int .i64 0) (.int .i64 0) (.int .i64 0) (.int .i64 0) (.string ⟨#[]⟩) (.slice none 0 0)) og' b hb Ag' (kS rr rg') ids4 v4 u6 ∧ LA og' (putAn w9 g (.int .i64 cc) (.int .i64 0) (.int .i64 0) (.int .i64 0) (.int .i64 0) (.int .i64 0) (.int .i64 0) (.int .i64 0) (.string ⟨#[]⟩) (.slice none 0 0)) g' #[.int .i64 cc, .int .i64 0, .int .i64 0, .int .i64 0, .int .i64 0, .int .i64 0, .int .i64 0, .int .i64 0, .string ⟨#[]⟩, .slice none 0 0] ∧ LA og' (putAn w9 g (.int .i64 cc) (.int .i64 0) (.int .i64 0) (.int .i64 0) (.int .i64 0) (.int .i64 0) (.int .i64 0) (.int .i64 0) (.string ⟨#[]⟩) (.slice none 0 0)) g8 #[.int .i64 0, .int .i64 0, .int .i64 0, .int .i64 0, .int .i64 0, .int .i64 0, .int .i64 0, .int .i64 0, .string ⟨#[]⟩, .slice none 0 0] ∧ LA og' (putAn w9 g (.int .i64 cc) (.int .i64 0) (.int .i64 0) (.int .i64 0) (.int .i64 0) (.int .i64 0) (.int .i64 0) (.int .i64 0) (.string ⟨#[]⟩) (.slice none 0 0)) g9 #[.int .i64 0, .int .i64 0, .int .i64 0, .int .i64 0, .int .i64 0, .int .i64 0, .int .i64 0, .int .i64 0, .string kT, .slice none 0 0] ∧ Free og' (putAn w9 g (.int .i64 cc) (.int .i64 0) (.int .i64 0) (.int .i64 0) (.int .i64 0) (.int .i64 0) (.int .i64 0) (.int .i64 0) (.string ⟨#[]⟩) (.slice none 0 0)) u L ∧ Rt Ag' 9 N' rg' (cellsG zs2) ∧ 1 ≤ N' ∧ N' ≤ 20 ∧ g9 < g' :=
  ⟨g, og, Ag, rg, N, rfl, q1.an hg0 hs, ⟨hg.put, hg0⟩, h8.far (by omega), h9.far (by omega), hF.far fun k hk => by have := hlt k hk; omega, q3, q4, q5, h9g⟩
theorem least_near {N0 : Nat} {ys : List (Int × Int)} (h : LeastLv (N0 + 1) ys) (hn : ∀ p ∈ ys, -1000 ≤ p.1 ∧ p.1 < 1000 ∧ -1000 ≤ p.2 ∧ p.2 < 1000) : N0 ≤ 10 := by
  by_cases h1 : N0 ≤ 10
  · exact h1
  · refine absurd (fun p hp => ?_) (h.least 11 (by omega) (by omega))
    have := hn p hp
    have e : (halfN 11 : Int) = 1024 := by decide
    omega
set_option maxRecDepth 20000 in
set_option maxHeartbeats 8000000 in
theorem leases_law (v : Value) (zs : List (Int × Int)) (w : World) (hrow : RRow w v zs) (hv : K.Vars w) (rights : Int) : Calls Tryz.prog 3 #[v, .int .i64 rights] w fun e w' => e = .returned (.bool true) ∧ Below w.heap.size w w' := by
  have hrm := rooms_any w
  have HROW : Hid (RRow w v zs ∧ K.Vars w) := ⟨hrow, hv⟩
  clear hrow hv
  go_enter Tryz.func3, Tryz.ntmps3
  go_wp2_with fail
  refine hrm.mono ?_
  rintro e w1 ⟨hb, b, o1, rfl, hA1, hH1, hC1⟩
  have H1 : Hid (LS w w1 o1 b hb (arBegL.limP 9 200000) ⟨[], 0, []⟩ [] (.slice none 0 0) (.slice none 0 0)) := ⟨hA1, hH1, beg9_st fun _ _ _ h => h.elim, hC1⟩
  have hsm : Calls Tryz.prog 5 #[v, .int .i64 30, .int .i64 1000] w1 fun e w' => ∃ u, e = .returned u ∧ Below w1.heap.size w1 w' ∧ Kept w' w1.heap.size u (someL 30 1000 zs) := some_any v zs 30 1000 w1 (HROW.out.1.below H1.out.below) (by omega) (by omega) (by omega)
  clear hrm hA1 hH1 hC1
  go_wp2_with fail
  refine hsm.mono ?_
  rintro e w2 ⟨u, rfl, hb2, hk2⟩
  have H2 : Hid (LS w w2 (ext o1 w1.heap.size 0) b hb (arBegL.limP 9 200000) ⟨[], 0, []⟩ [] (.slice none 0 0) (.slice none 0 0)) := H1.out.grow hb2
  have F2 : Hid (Free (ext o1 w1.heap.size 0) w2 u (someL 30 1000 zs)) := ⟨hk2.row, fun k hk => ext_new (by
    rcases hk2 with ⟨_, e⟩ | ⟨_, h⟩
    · rw [e] at hk; cases hk
    · exact (h.lt k hk).1)⟩
  obtain ⟨L, hL⟩ : ∃ L, L = someL 30 1000 zs := ⟨_, rfl⟩
  have HL : Hid (L = someL 30 1000 zs) := hL
  rw [← hL] at F2
  obtain ⟨o2, ho2⟩ : ∃ o2, o2 = ext o1 w1.heap.size 0 := ⟨_, rfl⟩
  rw [← ho2] at H2 F2
  clear hsm hb2 hk2 hL ho2 H1
  have hsp := spot_any rights 3 w2 (by omega) (by omega)
  obtain ⟨sp, hsp1⟩ : ∃ sp, sp = spotI rights 3 := ⟨_, rfl⟩
  have hbd : 0 ≤ sp ∧ sp < 3 := by rw [hsp1]; exact spotI_bound rights 3 (by omega)
  rw [← hsp1] at hsp
  obtain ⟨rr, hrr⟩ : ∃ rr, rr = 1 + sp := ⟨_, rfl⟩
  have hw : IntKind.i64.wrap (1 + sp) = rr := by rw [IntKind.wrap_i64]; omega
  have HR : Hid (1 ≤ rr ∧ rr ≤ 3) := ⟨by omega, by omega⟩
  clear hsp1 hbd hrr
  go_wp2_with fail
  refine hsp.mono ?_
  rintro e w3 ⟨rfl, rfl⟩
  have hdo := do_new H2.out.hl H2.out.ar H2.out.st (by omega) ab ⟨#[]⟩ 8 12 0 (.slice none 0 0) ab_size ab_named life_good rfl (by decide) (by rw [beg9_cnt]; decide) (by rw [beg9_cnt, beg9_lim]; decide)
  unfold reqV codeV ansV ab at hdo
  clear hsp
  go_upto_region 7 with (first | (go_at_call 7; refine hdo.mono ?_; rintro r w4 ⟨rfl, A4, o4, ids4, v4, r4, hA4, hC4, hS4, hH4, hR4, hn4, hl4⟩))
  have hb4 : Below w4.heap.size w4 (w4.alloc (.cells #[.int .i64 0, .int .i64 0, .int .i64 0, .int .i64 0, .int .i64 0, .int .i64 0, .int .i64 0, .int .i64 0, .string ⟨#[]⟩, .slice none 0 0] 35)) := (Below.refl _ _).alloc (Nat.le_refl _) _
  have L4 : LS w w4 o4 b hb A4 ⟨[⟨ab, 8, 12, r4⟩], 0, []⟩ ids4 v4 (.slice none 0 0) := ⟨hA4, hH4, hS4, H2.out.ch.trans hC4⟩
  have HS4 : Hid (LS w (w4.alloc (.cells #[.int .i64 0, .int .i64 0, .int .i64 0, .int .i64 0, .int .i64 0, .int .i64 0, .int .i64 0, .int .i64 0, .string ⟨#[]⟩, .slice none 0 0] 35)) (ext o4 w4.heap.size 0) b hb A4 ⟨[⟨ab, 8, 12, r4⟩], 0, []⟩ ids4 v4 (.slice none 0 0) ∧ LA (ext o4 w4.heap.size 0) (w4.alloc (.cells #[.int .i64 0, .int .i64 0, .int .i64 0, .int .i64 0, .int .i64 0, .int .i64 0, .int .i64 0, .int .i64 0, .string ⟨#[]⟩, .slice none 0 0] 35)) w4.heap.size #[.int .i64 0, .int .i64 0, .int .i64 0, .int .i64 0, .int .i64 0, .int .i64 0, .int .i64 0, .int .i64 0, .string ⟨#[]⟩, .slice none 0 0] ∧ Free (ext o4 w4.heap.size 0) (w4.alloc (.cells #[.int .i64 0, .int .i64 0, .int .i64 0, .int .i64 0, .int .i64 0, .int .i64 0, .int .i64 0, .int .i64 0, .string ⟨#[]⟩, .slice none 0 0] 35)) u L ∧ Rt A4 9 1 r4 (cellsG []) ∧ A4.cnt 9 ≤ 100 ∧ A4.lim 9 = 200000 ∧ ids4.length = 1 ∧ w.heap.size ≤ w4.heap.size) := ⟨L4.grow hb4, LA.born _ _ _, (F2.out.ch hC4 (by decide)).grow hb4, hR4, (by have := hn4; rw [beg9_cnt] at this; omega), (hl4.trans beg9_lim), L4.hl.len, L4.below.size⟩
  clear hA4 hC4 hS4 hH4 hR4 hn4 hl4 hb4 L4 hdo
  generalize w4.alloc (.cells #[.int .i64 0, .int .i64 0, .int .i64 0, .int .i64 0, .int .i64 0, .int .i64 0, .int .i64 0, .int .i64 0, .string ⟨#[]⟩, .slice none 0 0] 35) = w5 at *
  generalize hg8 : w4.heap.size = g8 at *
  generalize ho5 : ext o4 g8 0 = o5 at *
  clear hg8 ho5
  have hdo2 : Calls Tryz.prog 7 #[.pointer (some ⟨hb, 0, none⟩), .agg #[.int .i64 9, .string ⟨#[97, 98]⟩, .string ⟨#[]⟩, .int .i64 0, .int .i64 0, .int .i64 rr, .slice none 0 0]] w5 fun r w' => r = .returned (.agg #[.int .i64 0, .int .i64 0, .int .i64 0, .int .i64 0, .int .i64 0, .int .i64 0, .int .i64 0, .int .i64 0, .string kT, .slice none 0 0]) ∧ ∃ A' o' u, ArL w' o' b A' ∧ Ch (fun l => l = 1 ∨ l = 5) o5 w5 o' w' ∧ NxSt noPR 9 (fun _ => 199999) A' ∧ HlAt w' o' 5 hb b 9 77 (kS rr r4) ids4 v4 u ∧ Same 9 A4 A' :=
    do_lease HS4.out.1.hl HS4.out.1.ar HS4.out.1.st (by omega) (HS4.out.1.vars HROW.out.2) (HS4.out.1.low HROW.out.2) ab_size ab_free (at_ab rr r4) (fun k hk => by cases hk) (Int.le_refl 0) (show (0 : Int) ≤ 2147483647 by decide) (show 0 < 32 by decide) (by have := HS4.out.2.2.2.2.2.2.1; omega) ⟨#[]⟩ 0 0 rr (.slice none 0 0) HR.out.1 HR.out.2
  go_upto_region 8 with (first | (go_at_call 7; refine hdo2.mono ?_; rintro r w6 ⟨rfl, A6, o6, u6, hA6, hC6, hS6, hH6, hM6⟩))
  have hb6 : Below w6.heap.size w6 (w6.alloc (.cells #[.int .i64 0, .int .i64 0, .int .i64 0, .int .i64 0, .int .i64 0, .int .i64 0, .int .i64 0, .int .i64 0, .string kT, .slice none 0 0] 35)) := (Below.refl _ _).alloc (Nat.le_refl _) _
  have L6 : LS w w6 o6 b hb A6 (kS rr r4) ids4 v4 u6 := ⟨hA6, hH6, hS6, HS4.out.1.ch.trans hC6⟩
  have HS7 : Hid (LS w (w6.alloc (.cells #[.int .i64 0, .int .i64 0, .int .i64 0, .int .i64 0, .int .i64 0, .int .i64 0, .int .i64 0, .int .i64 0, .string kT, .slice none 0 0] 35)) (ext o6 w6.heap.size 0) b hb A6 (kS rr r4) ids4 v4 u6 ∧ LA (ext o6 w6.heap.size 0) (w6.alloc (.cells #[.int .i64 0, .int .i64 0, .int .i64 0, .int .i64 0, .int .i64 0, .int .i64 0, .int .i64 0, .int .i64 0, .string kT, .slice none 0 0] 35)) g8 #[.int .i64 0, .int .i64 0, .int .i64 0, .int .i64 0, .int .i64 0, .int .i64 0, .int .i64 0, .int .i64 0, .string ⟨#[]⟩, .slice none 0 0] ∧ LA (ext o6 w6.heap.size 0) (w6.alloc (.cells #[.int .i64 0, .int .i64 0, .int .i64 0, .int .i64 0, .int .i64 0, .int .i64 0, .int .i64 0, .int .i64 0, .string kT, .slice none 0 0] 35)) w6.heap.size #[.int .i64 0, .int .i64 0, .int .i64 0, .int .i64 0, .int .i64 0, .int .i64 0, .int .i64 0, .int .i64 0, .string kT, .slice none 0 0] ∧ Free (ext o6 w6.heap.size 0) (w6.alloc (.cells #[.int .i64 0, .int .i64 0, .int .i64 0, .int .i64 0, .int .i64 0, .int .i64 0, .int .i64 0, .int .i64 0, .string kT, .slice none 0 0] 35)) u L ∧ Rt A6 9 1 r4 (cellsG []) ∧ A6.cnt 9 ≤ 100 ∧ A6.lim 9 = 200000 ∧ ids4.length = 1 ∧ w.heap.size ≤ w6.heap.size ∧ g8 < w6.heap.size) := ⟨L6.grow hb6, (HS4.out.2.1.ch hC6 (by decide)).grow hb6, LA.born _ _ _, (HS4.out.2.2.1.ch hC6 (by decide)).grow hb6, hM6.1 _ _ _ HS4.out.2.2.2.1, by rw [hM6.2.1]; exact HS4.out.2.2.2.2.1, hM6.2.2.trans HS4.out.2.2.2.2.2.1, HS4.out.2.2.2.2.2.2.1, L6.below.size, (HS4.out.2.1.ch hC6 (by decide)).1.lt⟩
  clear hA6 hC6 hS6 hH6 hM6 hb6 L6 hdo2 HS4
  generalize w6.alloc (.cells #[.int .i64 0, .int .i64 0, .int .i64 0, .int .i64 0, .int .i64 0, .int .i64 0, .int .i64 0, .int .i64 0, .string kT, .slice none 0 0] 35) = w7 at *
  generalize hg9 : w6.heap.size = g9 at *
  generalize ho7 : ext o6 g9 0 = o7 at *
  clear hg9 ho7
  obtain ⟨k4, hk4⟩ : ∃ k4, ids4[0]? = some k4 := ⟨_, List.getElem?_eq_getElem (by have := HS7.out.2.2.2.2.2.2.2.1; omega)⟩
  obtain ⟨ys, hys⟩ : ∃ ys, Tidied L ys := by rw [HL.out]; exact tidied_exists _ (someL_code (by omega) (by omega) (by omega) zs)
  have HY : Hid (Tidied L ys ∧ tcode L = 0 ∧ L.length ≤ 30 ∧ ∀ p ∈ ys, -1000 ≤ p.1 ∧ p.1 < 1000 ∧ -1000 ≤ p.2 ∧ p.2 < 1000) := ⟨hys, by rw [HL.out]; exact someL_code (by omega) (by omega) (by omega) zs, by rw [HL.out]; exact someL_len 30 1000 zs, fun p hp => by
    have h1 := ((hys.2 p).1 hp).1
    rw [HL.out] at h1
    have h2 := someL_near (M := 30) (K := 1000) (by omega) h1
    omega⟩
  have HK4 : Hid (ids4[0]? = some k4) := hk4
  clear hk4 hys
  obtain ⟨cc, hcc⟩ : ∃ cc : Int, cc = if rr = 1 then 10 else 0 := ⟨_, rfl⟩
  obtain ⟨zs2, hz2⟩ : ∃ zs2 : List (Int × Int), zs2 = if rr = 1 then [] else ys := ⟨_, rfl⟩
  have HCC : Hid (cc = (if rr = 1 then 10 else 0) ∧ zs2 = (if rr = 1 then [] else ys)) := ⟨hcc, hz2⟩
  clear hcc hz2
  go_cut [10] from 36 to 42 (fun s10 wc => ∃ (g : Nat) (og : Nat → Nat) (Ag : Ar) (rg : Int) (N : Nat), s10 = .pointer (some ⟨g, 0, none⟩) ∧ LS w wc og b hb Ag (kS rr rg) ids4 v4 u6 ∧ LA og wc g #[.int .i64 cc, .int .i64 0, .int .i64 0, .int .i64 0, .int .i64 0, .int .i64 0, .int .i64 0, .int .i64 0, .string ⟨#[]⟩, .slice none 0 0] ∧ LA og wc g8 #[.int .i64 0, .int .i64 0, .int .i64 0, .int .i64 0, .int .i64 0, .int .i64 0, .int .i64 0, .int .i64 0, .string ⟨#[]⟩, .slice none 0 0] ∧ LA og wc g9 #[.int .i64 0, .int .i64 0, .int .i64 0, .int .i64 0, .int .i64 0, .int .i64 0, .int .i64 0, .int .i64 0, .string kT, .slice none 0 0] ∧ Free og wc u L ∧ Rt Ag 9 N rg (cellsG zs2) ∧ 1 ≤ N ∧ N ≤ 20 ∧ g9 < g)
  case first =>
    have HCE : Hid (∀ W, Below w7.heap.size w7 W → Calls Tryz.prog 8 #[u] W fun e w' => ∃ p2 n2 c2, e = .returned (.slice p2 n2 c2) ∧ Below W.heap.size W w' ∧ Kept w' W.heap.size (.slice p2 n2 c2) L) := fun W hW => (cellsK_any u L W (HS7.out.2.2.2.1.grow hW).1 (by have := HY.out.2.2.1; omega)).mono fun e w' ⟨u2, h1, h2, h3⟩ => by
      rcases h3 with ⟨h4, rfl⟩ | ⟨h4, h5⟩
      · exact ⟨_, _, _, h1, h2, .inl ⟨h4, rfl⟩⟩
      · obtain ⟨p2, n2, c2, rfl⟩ := K.owns_form h5
        exact ⟨_, _, _, h1, h2, .inr ⟨h4, h5⟩⟩
    have HDO : Hid (∀ W p2 n2 c2, Below w7.heap.size w7 W → Free (ext o7 w7.heap.size 0) W (.slice p2 n2 c2) L → Calls Tryz.prog 7 #[.pointer (some ⟨hb, 0, none⟩), .agg #[.int .i64 2, .string kT, .string ⟨#[]⟩, .int .i64 0, .int .i64 0, .int .i64 0, .slice p2 n2 c2]] W fun r w' => r = .returned (.agg #[.int .i64 cc, .int .i64 0, .int .i64 0, .int .i64 0, .int .i64 0, .int .i64 0, .int .i64 0, .int .i64 0, .string ⟨#[]⟩, .slice none 0 0]) ∧ Hid (AnB w' g9 #[.int .i64 0, .int .i64 0, .int .i64 0, .int .i64 0, .int .i64 0, .int .i64 0, .int .i64 0, .int .i64 0, .string kT, .slice none 0 0]) ∧ Hid (∀ R vs, LA (ext o7 w7.heap.size 0) W R vs → AnB w' R vs) ∧ Hid (∃ og Ag rg N, LS w w' og b hb Ag (kS rr rg) ids4 v4 u6 ∧ Ch (fun l => l = 1 ∨ l = 5) (ext o7 w7.heap.size 0) W og w' ∧ Rt Ag 9 N rg (cellsG zs2) ∧ 1 ≤ N ∧ N ≤ 20)) := fun W p2 n2 c2 hW hF => by
      have G := HS7.out.1.grow hW
      have g9W := HS7.out.2.2.1.grow hW
      by_cases h1 : rr = 1
      · have e1 : cc = 10 := by rw [HCC.out.1, if_pos h1]
        have e2 : zs2 = [] := by rw [HCC.out.2, if_pos h1]
        subst h1
        have hf : findF (kS 1 r4).ks kT 2 = (⟨#[]⟩, 10) := by rw [find_k, if_pos lack_12]
        refine ((do_shut G.hl G.ar G.st (by omega) kT_size kT_keyed ok_k 10 (by decide) ⟨#[]⟩ 0 0 0 (.slice p2 n2 c2)).1 hf).mono ?_
        rintro r w' ⟨rfl, A', o', k1, k2, k3, k4, k5⟩
        rw [e1, e2]
        exact ⟨rfl, (g9W.ch k2 (by decide)).1, fun R vs h => (h.ch k2 (by decide)).1, o', A', r4, 1, ⟨k1, k4, k3, G.ch.trans k2⟩, k2, k5.1 _ _ _ HS7.out.2.2.2.2.1, by omega, by omega⟩
      · have e1 : cc = 0 := by rw [HCC.out.1, if_neg h1]
        have e2 : zs2 = ys := by rw [HCC.out.2, if_neg h1]
        have hlk : lacks rr 2 = false := by
          have := HR.out
          have h3 : rr = 2 ∨ rr = 3 := by omega
          rcases h3 with rfl | rfl
          · exact lack_22
          · exact lack_32
        have hf : findF (kS rr r4).ks kT 2 = (ab, 0) := by rw [find_k, hlk]; rfl
        have hyl : ys.length ≤ 30 := Nat.le_trans (tidied_len HY.out.1) HY.out.2.2.1
        refine (do_set (k := k4) (i := 0) (x := ⟨ab, 8, 12, r4⟩) G.hl G.ar G.st (by omega) kT_size kT_keyed ok_k ab hf (at_ab rr r4) HK4.out (by have := HS7.out.2.2.2.2.2.2.2.1; omega) rfl (Nat.le_refl 1) (by omega) HS7.out.2.2.2.2.1 (.slice p2 n2 c2) L ys hF.1 hF.2 HY.out.2.1 HY.out.1 (by have := HS7.out.2.2.2.2.2.1; omega) (by have := HS7.out.2.2.2.2.2.1; have := HS7.out.2.2.2.2.2.2.1; omega) ⟨#[]⟩ 0 0 0).mono ?_
        rintro r w' ⟨rfl, A', o', id', N, k1, k2, k3, k4', k5, k6, ⟨N0, k7, k8⟩, k9⟩
        rw [e1, e2]
        rw [add_none] at k5
        have := least_near k7 HY.out.2.2.2
        exact ⟨rfl, (g9W.ch k2 (by decide)).1, fun R vs h => (h.ch k2 (by decide)).1, o', A', id', N, ⟨k1, k4', k3, G.ch.trans k2⟩, k2, k5, k6, by omega⟩
    have HB0 : Hid (Below w7.heap.size w7 w7.drew) := (Below.refl _ _).drew
    have HB1 : Hid (Below w7.heap.size w7 (w7.alloc (.cells #[.int .i64 0, .int .i64 0, .int .i64 0, .int .i64 0, .int .i64 0, .int .i64 0, .int .i64 0, .int .i64 0, .string ⟨#[]⟩, .slice none 0 0] 35)).drew) := ((Below.refl _ _).alloc (Nat.le_refl _) _).drew
    have HSK : Hid (∀ W, AnB W g9 #[.int .i64 0, .int .i64 0, .int .i64 0, .int .i64 0, .int .i64 0, .int .i64 0, .int .i64 0, .int .i64 0, .string kT, .slice none 0 0] → W.cell? ⟨g9, 8, none⟩ = some (.string kT)) := fun W h => h.cells.2.2.2.2.2.2.2.2.1
    have HSB : Hid (∀ W, Below w7.heap.size w7 W → W.cell? ⟨g9, 8, none⟩ = some (.string kT)) := fun W h => HSK.out W (HS7.out.2.2.1.1.below h)
    have HG9 : Hid (g9 < w7.heap.size) := HS7.out.2.2.1.1.lt
    have HPB : Hid (∀ W g, AnB W g9 #[.int .i64 0, .int .i64 0, .int .i64 0, .int .i64 0, .int .i64 0, .int .i64 0, .int .i64 0, .int .i64 0, .string kT, .slice none 0 0] → g9 < g → (putAn W g (.int .i64 cc) (.int .i64 0) (.int .i64 0) (.int .i64 0) (.int .i64 0) (.int .i64 0) (.int .i64 0) (.int .i64 0) (.string ⟨#[]⟩) (.slice none 0 0)).cell? ⟨g9, 8, none⟩ = some (.string kT)) := fun W g h hne => HSK.out _ ((putAn_far (w := W) (R := g) (k := g9) (by omega)).trans h)
    have s9 : w7.drew.cell? ⟨g9, 8, none⟩ = some (.string kT) := HSB.out _ HB0.out
    go_region_held3 (fun W => W.cell? ⟨g9, 8, none⟩ = some (.string kT)) (first | with_reducible exact s9 | with_reducible exact hS10 | with_reducible exact HSK.out _ hN9.out | with_reducible exact HSB.out _ HB1.out | with_reducible exact HSB.out _ B8 | with_reducible exact HSB.out _ (B8.alloc B8.size _) | with_reducible exact HSK.out _ (hN9.out.below ((Below.refl _ _).alloc (Nat.le_refl _) _)))
      (first | (go_at_call 8; refine (HCE.out _ HB0.out).mono ?_; rintro x w8 ⟨p2, n2, c2, rfl, hb8, hk8⟩; have B8 : Below w7.heap.size w7 w8 := HB0.out.trans (hb8.mono HB0.out.size)) | (go_at_call 8; refine (HCE.out _ HB1.out).mono ?_; rintro x w8 ⟨p2, n2, c2, rfl, hb8, hk8⟩; have B8 : Below w7.heap.size w7 w8 := HB1.out.trans (hb8.mono HB1.out.size); have hC8 : Hid (LA (ext o7 w7.heap.size 0) w8 w7.heap.size #[.int .i64 0, .int .i64 0, .int .i64 0, .int .i64 0, .int .i64 0, .int .i64 0, .int .i64 0, .int .i64 0, .string ⟨#[]⟩, .slice none 0 0]) := ⟨AnB.below (w := (w7.alloc (.cells #[.int .i64 0, .int .i64 0, .int .i64 0, .int .i64 0, .int .i64 0, .int .i64 0, .int .i64 0, .int .i64 0, .string ⟨#[]⟩, .slice none 0 0] 35)).drew) (Go.Deep.blk_alloc_new _ _) hb8, ext_new (Nat.le_refl _)⟩) | (go_at_call 7; refine (HDO.out w8 p2 n2 c2 B8 (kept_free hk8 HB1.out.size (Below.refl _ _))).mono ?_; rintro r w9 ⟨rfl, hN9, hP9, hG9⟩; obtain ⟨m0, m1, m2, m3, m4, m5, m6, m7, m8, m9, z0, z1, z2, z3, z4, z5, z6, z7, z8, z9⟩ := (hP9.out _ _ hC8.out).cells; have hS10 := HPB.out w9 w7.heap.size hN9.out HG9.out; unfold putAn at hS10) | (go_at_call 7; refine (HDO.out w8 p2 n2 c2 B8 (kept_free hk8 HB0.out.size (Below.refl _ _))).mono ?_; rintro r w9 ⟨rfl, hN9, hP9, hG9⟩) | (go_at_call 7; refine (HDO.out _ p2 n2 c2 (B8.alloc B8.size _) (kept_free hk8 (by first | exact HB0.out.size | exact HB1.out.size) ((Below.refl _ _).alloc (Nat.le_refl _) _))).mono ?_; rintro r w9 ⟨rfl, hN9, hP9, hG9⟩; obtain ⟨m0, m1, m2, m3, m4, m5, m6, m7, m8, m9, z0, z1, z2, z3, z4, z5, z6, z7, z8, z9⟩ := (hP9.out w8.heap.size #[.int .i64 0, .int .i64 0, .int .i64 0, .int .i64 0, .int .i64 0, .int .i64 0, .int .i64 0, .int .i64 0, .string ⟨#[]⟩, .slice none 0 0] ⟨Go.Deep.blk_alloc_new _ _, ext_new B8.size⟩).cells; have hS10 := HPB.out w9 w8.heap.size hN9.out (Nat.lt_of_lt_of_le HG9.out B8.size); unfold putAn at hS10))
    · have hbA : Below w9.heap.size w9 (w9.alloc (.cells #[.int .i64 cc, .int .i64 0, .int .i64 0, .int .i64 0, .int .i64 0, .int .i64 0, .int .i64 0, .int .i64 0, .string ⟨#[]⟩, .slice none 0 0] 35)) := (Below.refl _ _).alloc (Nat.le_refl _) _
      go_wp2_with fail
      go_meet
      case rel =>
        obtain ⟨og, Ag, rg, N, q1, q2, q3, q4, q5⟩ := hG9.out
        exact ⟨w9.heap.size, ext og w9.heap.size 0, Ag, rg, N, rfl, q1.grow hbA, LA.born _ _ _, ((HS7.out.2.1.grow B8).ch q2 (by decide)).grow hbA, ((HS7.out.2.2.1.grow B8).ch q2 (by decide)).grow hbA, ((HS7.out.2.2.2.1.grow B8).ch q2 (by decide)).grow hbA, q3, q4, q5, hN9.out.lt⟩
    · go_wp2_with fail
      go_meet
      case rel =>
        obtain ⟨og, Ag, rg, N, q1, q2, q3, q4, q5⟩ := hG9.out
        have BA : Below w7.heap.size w7 (w8.alloc (.cells #[.int .i64 0, .int .i64 0, .int .i64 0, .int .i64 0, .int .i64 0, .int .i64 0, .int .i64 0, .int .i64 0, .string ⟨#[]⟩, .slice none 0 0] 35)) := B8.alloc B8.size _
        have hw := HS7.out.2.2.2.2.2.2.2.2.1
        have hs8 := B8.size
        have hg7 := HG9.out
        have h87 := HS7.out.2.1.1.lt
        have R := meet_put (cc := cc) (g := w8.heap.size) q1 (hP9.out w8.heap.size #[.int .i64 0, .int .i64 0, .int .i64 0, .int .i64 0, .int .i64 0, .int .i64 0, .int .i64 0, .int .i64 0, .string ⟨#[]⟩, .slice none 0 0] ⟨Go.Deep.blk_alloc_new _ _, ext_new B8.size⟩) ((q2.lab w8.heap.size (by simp)).trans (ext_new B8.size)) ((HS7.out.2.1.grow BA).ch q2 (by decide)) ((HS7.out.2.2.1.grow BA).ch q2 (by decide)) ((HS7.out.2.2.2.1.grow BA).ch q2 (by decide)) (fun k hk => by have := HS7.out.2.2.2.1.lt k hk; omega) (by omega) (by omega) (by omega) q3 q4 q5
        unfold putAn at R
        exact R
    · go_wp2_with fail
      go_meet
      case rel =>
        obtain ⟨og, Ag, rg, N, q1, q2, q3, q4, q5⟩ := hG9.out
        have hw := HS7.out.2.2.2.2.2.2.2.2.1
        have hs8 := B8.size
        have hg7 := HG9.out
        have h87 := HS7.out.2.1.1.lt
        have R := meet_put (cc := cc) (g := w7.heap.size) q1 (hP9.out _ _ hC8.out) ((q2.lab w7.heap.size hC8.out.1.lt).trans (ext_new (Nat.le_refl _))) ((HS7.out.2.1.grow B8).ch q2 (by decide)) ((HS7.out.2.2.1.grow B8).ch q2 (by decide)) ((HS7.out.2.2.2.1.grow B8).ch q2 (by decide)) (fun k hk => HS7.out.2.2.2.1.lt k hk) (by omega) (by omega) (by omega) q3 q4 q5
        unfold putAn at R
        exact R
  case rest =>
  obtain ⟨g10, og, Ag, rg, N, rfl, c1, c2, c3, c4, c5, c6, c7, c8, c9⟩ := hcut
  have HS10 : Hid (LS w wc og b hb Ag (kS rr rg) ids4 v4 u6 ∧ LA og wc g8 #[.int .i64 0, .int .i64 0, .int .i64 0, .int .i64 0, .int .i64 0, .int .i64 0, .int .i64 0, .int .i64 0, .string ⟨#[]⟩, .slice none 0 0] ∧ LA og wc g9 #[.int .i64 0, .int .i64 0, .int .i64 0, .int .i64 0, .int .i64 0, .int .i64 0, .int .i64 0, .int .i64 0, .string kT, .slice none 0 0] ∧ LA og wc g10 #[.int .i64 cc, .int .i64 0, .int .i64 0, .int .i64 0, .int .i64 0, .int .i64 0, .int .i64 0, .int .i64 0, .string ⟨#[]⟩, .slice none 0 0] ∧ Free og wc u L) := ⟨c1, c3, c4, c2, c5⟩
  have HN10 : Hid (Rt Ag 9 N rg (cellsG zs2) ∧ N ≤ 20) := ⟨c6, c8⟩
  have HZ2 : Hid (Tidy zs2 ∧ zs2.length ≤ 30 ∧ ∀ p ∈ zs2, -1000 ≤ p.1 ∧ p.1 < 1000 ∧ -1000 ≤ p.2 ∧ p.2 < 1000) := by
    show _ ∧ _
    rw [HCC.out.2]
    split
    · exact ⟨List.Pairwise.nil, by simp, fun p hp => by cases hp⟩
    · exact ⟨HY.out.1.1, Nat.le_trans (tidied_len HY.out.1) HY.out.2.2.1, HY.out.2.2.2⟩
  clear c1 c2 c3 c4 c5 c6 c7 c8 c9 hw
  have h123 : rr = 1 ∨ rr = 2 ∨ rr = 3 := by have := HR.out; omega
  rcases h123 with h1 | h2 | h3
  · subst h1
    have e1 : cc = 10 := by rw [HCC.out.1]; rfl
    have e2 : zs2 = [] := by rw [HCC.out.2]; rfl
    have HE2 : Hid (zs2 = []) := e2
    subst e1
    clear e2
    have s9 : wc.cell? ⟨g9, 8, none⟩ = some (.string kT) := HS10.out.2.2.1.1.cells.2.2.2.2.2.2.2.2.1
    have hd := ls_get HS10.out.1 HK4.out HS7.out.2.2.2.2.2.2.2.1 lack_11 HN10.out.1 HN10.out.2 HZ2.out.1 HZ2.out.2.1 HZ2.out.2.2
    go_upto_region 10 with (first | (go_at_call 7; refine hd.mono ?_; rintro r w11 ⟨sp, sc, A11, o11, rfl, hF, hL, hC⟩))
    have hbA : Below w11.heap.size w11 (w11.alloc (.cells #[.int .i64 0, .int .i64 zs2.length, .int .i64 0, .int .i64 0, .int .i64 0, .int .i64 0, .int .i64 8, .int .i64 12, .string ⟨#[]⟩, .slice sp zs2.length sc] 35)) := (Below.refl _ _).alloc (Nat.le_refl _) _
    have HS11 : Hid (LS w (w11.alloc (.cells #[.int .i64 0, .int .i64 zs2.length, .int .i64 0, .int .i64 0, .int .i64 0, .int .i64 0, .int .i64 8, .int .i64 12, .string ⟨#[]⟩, .slice sp zs2.length sc] 35)) (ext o11 w11.heap.size 0) b hb A11 (kS 1 rg) ids4 v4 u6 ∧ LA (ext o11 w11.heap.size 0) (w11.alloc (.cells #[.int .i64 0, .int .i64 zs2.length, .int .i64 0, .int .i64 0, .int .i64 0, .int .i64 0, .int .i64 8, .int .i64 12, .string ⟨#[]⟩, .slice sp zs2.length sc] 35)) g8 #[.int .i64 0, .int .i64 0, .int .i64 0, .int .i64 0, .int .i64 0, .int .i64 0, .int .i64 0, .int .i64 0, .string ⟨#[]⟩, .slice none 0 0] ∧ LA (ext o11 w11.heap.size 0) (w11.alloc (.cells #[.int .i64 0, .int .i64 zs2.length, .int .i64 0, .int .i64 0, .int .i64 0, .int .i64 0, .int .i64 8, .int .i64 12, .string ⟨#[]⟩, .slice sp zs2.length sc] 35)) g9 #[.int .i64 0, .int .i64 0, .int .i64 0, .int .i64 0, .int .i64 0, .int .i64 0, .int .i64 0, .int .i64 0, .string kT, .slice none 0 0] ∧ LA (ext o11 w11.heap.size 0) (w11.alloc (.cells #[.int .i64 0, .int .i64 zs2.length, .int .i64 0, .int .i64 0, .int .i64 0, .int .i64 0, .int .i64 8, .int .i64 12, .string ⟨#[]⟩, .slice sp zs2.length sc] 35)) g10 #[.int .i64 10, .int .i64 0, .int .i64 0, .int .i64 0, .int .i64 0, .int .i64 0, .int .i64 0, .int .i64 0, .string ⟨#[]⟩, .slice none 0 0] ∧ LA (ext o11 w11.heap.size 0) (w11.alloc (.cells #[.int .i64 0, .int .i64 zs2.length, .int .i64 0, .int .i64 0, .int .i64 0, .int .i64 0, .int .i64 8, .int .i64 12, .string ⟨#[]⟩, .slice sp zs2.length sc] 35)) w11.heap.size #[.int .i64 0, .int .i64 zs2.length, .int .i64 0, .int .i64 0, .int .i64 0, .int .i64 0, .int .i64 8, .int .i64 12, .string ⟨#[]⟩, .slice sp zs2.length sc] ∧ Free (ext o11 w11.heap.size 0) (w11.alloc (.cells #[.int .i64 0, .int .i64 zs2.length, .int .i64 0, .int .i64 0, .int .i64 0, .int .i64 0, .int .i64 8, .int .i64 12, .string ⟨#[]⟩, .slice sp zs2.length sc] 35)) u L ∧ Free (ext o11 w11.heap.size 0) (w11.alloc (.cells #[.int .i64 0, .int .i64 zs2.length, .int .i64 0, .int .i64 0, .int .i64 0, .int .i64 0, .int .i64 8, .int .i64 12, .string ⟨#[]⟩, .slice sp zs2.length sc] 35)) (.slice sp zs2.length sc) zs2) := ⟨hL.grow hbA, ((HS10.out.2.1).ch hC (by decide)).grow hbA, ((HS10.out.2.2.1).ch hC (by decide)).grow hbA, ((HS10.out.2.2.2.1).ch hC (by decide)).grow hbA, LA.born _ _ _, ((HS10.out.2.2.2.2).ch hC (by decide)).grow hbA, hF.grow hbA⟩
    clear hbA hL hC hF hd s9
    generalize (w11.alloc (.cells #[.int .i64 0, .int .i64 zs2.length, .int .i64 0, .int .i64 0, .int .i64 0, .int .i64 0, .int .i64 8, .int .i64 12, .string ⟨#[]⟩, .slice sp zs2.length sc] 35)) = w11a at *
    generalize hgg11 : w11.heap.size = g11 at *
    generalize hog11 : ext o11 g11 0 = o11a at *
    clear hgg11 hog11
    have s9 : w11a.cell? ⟨g9, 8, none⟩ = some (.string kT) := HS11.out.2.2.1.1.cells.2.2.2.2.2.2.2.2.1
    have hd := ls_leaseno HS11.out.1
    go_upto_region 11 with (first | (go_at_call 7; refine hd.mono ?_; rintro r w12 ⟨A12, o12, rfl, hL, hC⟩))
    have hbA : Below w12.heap.size w12 (w12.alloc (.cells #[.int .i64 10, .int .i64 0, .int .i64 0, .int .i64 0, .int .i64 0, .int .i64 0, .int .i64 0, .int .i64 0, .string ⟨#[]⟩, .slice none 0 0] 35)) := (Below.refl _ _).alloc (Nat.le_refl _) _
    have HS12 : Hid (LS w (w12.alloc (.cells #[.int .i64 10, .int .i64 0, .int .i64 0, .int .i64 0, .int .i64 0, .int .i64 0, .int .i64 0, .int .i64 0, .string ⟨#[]⟩, .slice none 0 0] 35)) (ext o12 w12.heap.size 0) b hb A12 (kS 1 rg) ids4 v4 u6 ∧ LA (ext o12 w12.heap.size 0) (w12.alloc (.cells #[.int .i64 10, .int .i64 0, .int .i64 0, .int .i64 0, .int .i64 0, .int .i64 0, .int .i64 0, .int .i64 0, .string ⟨#[]⟩, .slice none 0 0] 35)) g8 #[.int .i64 0, .int .i64 0, .int .i64 0, .int .i64 0, .int .i64 0, .int .i64 0, .int .i64 0, .int .i64 0, .string ⟨#[]⟩, .slice none 0 0] ∧ LA (ext o12 w12.heap.size 0) (w12.alloc (.cells #[.int .i64 10, .int .i64 0, .int .i64 0, .int .i64 0, .int .i64 0, .int .i64 0, .int .i64 0, .int .i64 0, .string ⟨#[]⟩, .slice none 0 0] 35)) g9 #[.int .i64 0, .int .i64 0, .int .i64 0, .int .i64 0, .int .i64 0, .int .i64 0, .int .i64 0, .int .i64 0, .string kT, .slice none 0 0] ∧ LA (ext o12 w12.heap.size 0) (w12.alloc (.cells #[.int .i64 10, .int .i64 0, .int .i64 0, .int .i64 0, .int .i64 0, .int .i64 0, .int .i64 0, .int .i64 0, .string ⟨#[]⟩, .slice none 0 0] 35)) g10 #[.int .i64 10, .int .i64 0, .int .i64 0, .int .i64 0, .int .i64 0, .int .i64 0, .int .i64 0, .int .i64 0, .string ⟨#[]⟩, .slice none 0 0] ∧ LA (ext o12 w12.heap.size 0) (w12.alloc (.cells #[.int .i64 10, .int .i64 0, .int .i64 0, .int .i64 0, .int .i64 0, .int .i64 0, .int .i64 0, .int .i64 0, .string ⟨#[]⟩, .slice none 0 0] 35)) g11 #[.int .i64 0, .int .i64 zs2.length, .int .i64 0, .int .i64 0, .int .i64 0, .int .i64 0, .int .i64 8, .int .i64 12, .string ⟨#[]⟩, .slice sp zs2.length sc] ∧ LA (ext o12 w12.heap.size 0) (w12.alloc (.cells #[.int .i64 10, .int .i64 0, .int .i64 0, .int .i64 0, .int .i64 0, .int .i64 0, .int .i64 0, .int .i64 0, .string ⟨#[]⟩, .slice none 0 0] 35)) w12.heap.size #[.int .i64 10, .int .i64 0, .int .i64 0, .int .i64 0, .int .i64 0, .int .i64 0, .int .i64 0, .int .i64 0, .string ⟨#[]⟩, .slice none 0 0] ∧ Free (ext o12 w12.heap.size 0) (w12.alloc (.cells #[.int .i64 10, .int .i64 0, .int .i64 0, .int .i64 0, .int .i64 0, .int .i64 0, .int .i64 0, .int .i64 0, .string ⟨#[]⟩, .slice none 0 0] 35)) u L ∧ Free (ext o12 w12.heap.size 0) (w12.alloc (.cells #[.int .i64 10, .int .i64 0, .int .i64 0, .int .i64 0, .int .i64 0, .int .i64 0, .int .i64 0, .int .i64 0, .string ⟨#[]⟩, .slice none 0 0] 35)) (.slice sp zs2.length sc) zs2) := ⟨hL.grow hbA, ((HS11.out.2.1).ch hC (by decide)).grow hbA, ((HS11.out.2.2.1).ch hC (by decide)).grow hbA, ((HS11.out.2.2.2.1).ch hC (by decide)).grow hbA, ((HS11.out.2.2.2.2.1).ch hC (by decide)).grow hbA, LA.born _ _ _, ((HS11.out.2.2.2.2.2.1).ch hC (by decide)).grow hbA, ((HS11.out.2.2.2.2.2.2).ch hC (by decide)).grow hbA⟩
    clear hbA hL hC hd s9
    generalize (w12.alloc (.cells #[.int .i64 10, .int .i64 0, .int .i64 0, .int .i64 0, .int .i64 0, .int .i64 0, .int .i64 0, .int .i64 0, .string ⟨#[]⟩, .slice none 0 0] 35)) = w12a at *
    generalize hgg12 : w12.heap.size = g12 at *
    generalize hog12 : ext o12 g12 0 = o12a at *
    clear hgg12 hog12
    have hd := ls_drop HS12.out.1 HS7.out.2.2.2.2.2.2.2.1
    go_upto_region 12 with (first | (go_at_call 7; refine hd.mono ?_; rintro r w13 ⟨A13, o13, ids13, wv13, u13, rfl, hL, hC⟩))
    have HS13 : Hid (LS w w13 o13 b hb A13 ⟨[], 1, []⟩ ids13 wv13 u13 ∧ LA o13 w13 g8 #[.int .i64 0, .int .i64 0, .int .i64 0, .int .i64 0, .int .i64 0, .int .i64 0, .int .i64 0, .int .i64 0, .string ⟨#[]⟩, .slice none 0 0] ∧ LA o13 w13 g9 #[.int .i64 0, .int .i64 0, .int .i64 0, .int .i64 0, .int .i64 0, .int .i64 0, .int .i64 0, .int .i64 0, .string kT, .slice none 0 0] ∧ LA o13 w13 g10 #[.int .i64 10, .int .i64 0, .int .i64 0, .int .i64 0, .int .i64 0, .int .i64 0, .int .i64 0, .int .i64 0, .string ⟨#[]⟩, .slice none 0 0] ∧ LA o13 w13 g11 #[.int .i64 0, .int .i64 zs2.length, .int .i64 0, .int .i64 0, .int .i64 0, .int .i64 0, .int .i64 8, .int .i64 12, .string ⟨#[]⟩, .slice sp zs2.length sc] ∧ LA o13 w13 g12 #[.int .i64 10, .int .i64 0, .int .i64 0, .int .i64 0, .int .i64 0, .int .i64 0, .int .i64 0, .int .i64 0, .string ⟨#[]⟩, .slice none 0 0] ∧ Free o13 w13 u L ∧ Free o13 w13 (.slice sp zs2.length sc) zs2) := ⟨hL, (HS12.out.2.1).ch hC (by decide), (HS12.out.2.2.1).ch hC (by decide), (HS12.out.2.2.2.1).ch hC (by decide), (HS12.out.2.2.2.2.1).ch hC (by decide), (HS12.out.2.2.2.2.2.1).ch hC (by decide), (HS12.out.2.2.2.2.2.2.1).ch hC (by decide), (HS12.out.2.2.2.2.2.2.2).ch hC (by decide)⟩
    clear hL hC hd
    have s9 : w13.cell? ⟨g9, 8, none⟩ = some (.string kT) := HS13.out.2.2.1.1.cells.2.2.2.2.2.2.2.2.1
    have hd := ls_gone HS13.out.1
    go_upto_region 13 with (first | (go_at_call 7; refine hd.mono ?_; rintro r w14 ⟨A14, o14, rfl, hL, hC⟩))
    have hbA : Below w14.heap.size w14 (w14.alloc (.cells #[.int .i64 6, .int .i64 0, .int .i64 0, .int .i64 0, .int .i64 0, .int .i64 0, .int .i64 0, .int .i64 0, .string ⟨#[]⟩, .slice none 0 0] 35)) := (Below.refl _ _).alloc (Nat.le_refl _) _
    have HS14 : Hid (LS w (w14.alloc (.cells #[.int .i64 6, .int .i64 0, .int .i64 0, .int .i64 0, .int .i64 0, .int .i64 0, .int .i64 0, .int .i64 0, .string ⟨#[]⟩, .slice none 0 0] 35)) (ext o14 w14.heap.size 0) b hb A14 ⟨[], 1, []⟩ ids13 wv13 u13 ∧ LA (ext o14 w14.heap.size 0) (w14.alloc (.cells #[.int .i64 6, .int .i64 0, .int .i64 0, .int .i64 0, .int .i64 0, .int .i64 0, .int .i64 0, .int .i64 0, .string ⟨#[]⟩, .slice none 0 0] 35)) g8 #[.int .i64 0, .int .i64 0, .int .i64 0, .int .i64 0, .int .i64 0, .int .i64 0, .int .i64 0, .int .i64 0, .string ⟨#[]⟩, .slice none 0 0] ∧ LA (ext o14 w14.heap.size 0) (w14.alloc (.cells #[.int .i64 6, .int .i64 0, .int .i64 0, .int .i64 0, .int .i64 0, .int .i64 0, .int .i64 0, .int .i64 0, .string ⟨#[]⟩, .slice none 0 0] 35)) g9 #[.int .i64 0, .int .i64 0, .int .i64 0, .int .i64 0, .int .i64 0, .int .i64 0, .int .i64 0, .int .i64 0, .string kT, .slice none 0 0] ∧ LA (ext o14 w14.heap.size 0) (w14.alloc (.cells #[.int .i64 6, .int .i64 0, .int .i64 0, .int .i64 0, .int .i64 0, .int .i64 0, .int .i64 0, .int .i64 0, .string ⟨#[]⟩, .slice none 0 0] 35)) g10 #[.int .i64 10, .int .i64 0, .int .i64 0, .int .i64 0, .int .i64 0, .int .i64 0, .int .i64 0, .int .i64 0, .string ⟨#[]⟩, .slice none 0 0] ∧ LA (ext o14 w14.heap.size 0) (w14.alloc (.cells #[.int .i64 6, .int .i64 0, .int .i64 0, .int .i64 0, .int .i64 0, .int .i64 0, .int .i64 0, .int .i64 0, .string ⟨#[]⟩, .slice none 0 0] 35)) g11 #[.int .i64 0, .int .i64 zs2.length, .int .i64 0, .int .i64 0, .int .i64 0, .int .i64 0, .int .i64 8, .int .i64 12, .string ⟨#[]⟩, .slice sp zs2.length sc] ∧ LA (ext o14 w14.heap.size 0) (w14.alloc (.cells #[.int .i64 6, .int .i64 0, .int .i64 0, .int .i64 0, .int .i64 0, .int .i64 0, .int .i64 0, .int .i64 0, .string ⟨#[]⟩, .slice none 0 0] 35)) g12 #[.int .i64 10, .int .i64 0, .int .i64 0, .int .i64 0, .int .i64 0, .int .i64 0, .int .i64 0, .int .i64 0, .string ⟨#[]⟩, .slice none 0 0] ∧ LA (ext o14 w14.heap.size 0) (w14.alloc (.cells #[.int .i64 6, .int .i64 0, .int .i64 0, .int .i64 0, .int .i64 0, .int .i64 0, .int .i64 0, .int .i64 0, .string ⟨#[]⟩, .slice none 0 0] 35)) w14.heap.size #[.int .i64 6, .int .i64 0, .int .i64 0, .int .i64 0, .int .i64 0, .int .i64 0, .int .i64 0, .int .i64 0, .string ⟨#[]⟩, .slice none 0 0] ∧ Free (ext o14 w14.heap.size 0) (w14.alloc (.cells #[.int .i64 6, .int .i64 0, .int .i64 0, .int .i64 0, .int .i64 0, .int .i64 0, .int .i64 0, .int .i64 0, .string ⟨#[]⟩, .slice none 0 0] 35)) u L ∧ Free (ext o14 w14.heap.size 0) (w14.alloc (.cells #[.int .i64 6, .int .i64 0, .int .i64 0, .int .i64 0, .int .i64 0, .int .i64 0, .int .i64 0, .int .i64 0, .string ⟨#[]⟩, .slice none 0 0] 35)) (.slice sp zs2.length sc) zs2) := ⟨hL.grow hbA, ((HS13.out.2.1).ch hC (by decide)).grow hbA, ((HS13.out.2.2.1).ch hC (by decide)).grow hbA, ((HS13.out.2.2.2.1).ch hC (by decide)).grow hbA, ((HS13.out.2.2.2.2.1).ch hC (by decide)).grow hbA, ((HS13.out.2.2.2.2.2.1).ch hC (by decide)).grow hbA, LA.born _ _ _, ((HS13.out.2.2.2.2.2.2.1).ch hC (by decide)).grow hbA, ((HS13.out.2.2.2.2.2.2.2).ch hC (by decide)).grow hbA⟩
    clear hbA hL hC hd s9
    generalize (w14.alloc (.cells #[.int .i64 6, .int .i64 0, .int .i64 0, .int .i64 0, .int .i64 0, .int .i64 0, .int .i64 0, .int .i64 0, .string ⟨#[]⟩, .slice none 0 0] 35)) = w14a at *
    generalize hgg13 : w14.heap.size = g13 at *
    generalize hog13 : ext o14 g13 0 = o14a at *
    clear hgg13 hog13
    have kg8 := HS14.out.2.1.1.cells.1
    have kg9 := HS14.out.2.2.1.1.cells.1
    have kg10 := HS14.out.2.2.2.1.1.cells.1
    have kg11 := HS14.out.2.2.2.2.1.1.cells.1
    have kg12 := HS14.out.2.2.2.2.2.1.1.cells.1
    have kg13 := HS14.out.2.2.2.2.2.2.1.1.cells.1
    have kc := HS14.out.2.2.2.2.1.1.cells.2.2.2.2.2.2.2.2.2.1
    have hba : (bits BinOp.and IntKind.i64 1 2) = 0 := by decide +kernel
    have hbb : (bits BinOp.and IntKind.i64 1 1) = 1 := by decide +kernel
    have hz0 : zs2.length = 0 := by rw [HE2.out]; rfl
    have htd := tidy_told u L w14a HS14.out.2.2.2.2.2.2.2.1.1
    rw [HY.out.2.1] at htd
    go_wp2_with fail
    refine htd.mono ?_
    rintro e w15 ⟨uT, ysT, rfl, hb15, hT, hO⟩
    have x10 := (HS14.out.2.2.2.1.1.below hb15).cells.1
    have x11 := (HS14.out.2.2.2.2.1.1.below hb15).cells.1
    have xc := (HS14.out.2.2.2.2.1.1.below hb15).cells.2.2.2.2.2.2.2.2.2.1
    have HB15 : Hid (Below w.heap.size w w15) := HS14.out.1.below.trans (hb15.mono HS14.out.1.below.size)
    clear hT hO hb15 htd
    go_wp2_with fail
    go_ret
    exact ⟨rfl, HB15.out⟩
  · subst h2
    have e1 : cc = 0 := by rw [HCC.out.1]; rfl
    have e2 : zs2 = ys := by rw [HCC.out.2]; rfl
    have HE2 : Hid (zs2 = ys) := e2
    subst e1
    clear e2
    have s9 : wc.cell? ⟨g9, 8, none⟩ = some (.string kT) := HS10.out.2.2.1.1.cells.2.2.2.2.2.2.2.2.1
    have hd := ls_getno HS10.out.1 lack_21
    go_upto_region 10 with (first | (go_at_call 7; refine hd.mono ?_; rintro r w11 ⟨A11, o11, rfl, hL, hC⟩))
    have hbA : Below w11.heap.size w11 (w11.alloc (.cells #[.int .i64 10, .int .i64 0, .int .i64 0, .int .i64 0, .int .i64 0, .int .i64 0, .int .i64 0, .int .i64 0, .string ⟨#[]⟩, .slice none 0 0] 35)) := (Below.refl _ _).alloc (Nat.le_refl _) _
    have HS11 : Hid (LS w (w11.alloc (.cells #[.int .i64 10, .int .i64 0, .int .i64 0, .int .i64 0, .int .i64 0, .int .i64 0, .int .i64 0, .int .i64 0, .string ⟨#[]⟩, .slice none 0 0] 35)) (ext o11 w11.heap.size 0) b hb A11 (kS 2 rg) ids4 v4 u6 ∧ LA (ext o11 w11.heap.size 0) (w11.alloc (.cells #[.int .i64 10, .int .i64 0, .int .i64 0, .int .i64 0, .int .i64 0, .int .i64 0, .int .i64 0, .int .i64 0, .string ⟨#[]⟩, .slice none 0 0] 35)) g8 #[.int .i64 0, .int .i64 0, .int .i64 0, .int .i64 0, .int .i64 0, .int .i64 0, .int .i64 0, .int .i64 0, .string ⟨#[]⟩, .slice none 0 0] ∧ LA (ext o11 w11.heap.size 0) (w11.alloc (.cells #[.int .i64 10, .int .i64 0, .int .i64 0, .int .i64 0, .int .i64 0, .int .i64 0, .int .i64 0, .int .i64 0, .string ⟨#[]⟩, .slice none 0 0] 35)) g9 #[.int .i64 0, .int .i64 0, .int .i64 0, .int .i64 0, .int .i64 0, .int .i64 0, .int .i64 0, .int .i64 0, .string kT, .slice none 0 0] ∧ LA (ext o11 w11.heap.size 0) (w11.alloc (.cells #[.int .i64 10, .int .i64 0, .int .i64 0, .int .i64 0, .int .i64 0, .int .i64 0, .int .i64 0, .int .i64 0, .string ⟨#[]⟩, .slice none 0 0] 35)) g10 #[.int .i64 0, .int .i64 0, .int .i64 0, .int .i64 0, .int .i64 0, .int .i64 0, .int .i64 0, .int .i64 0, .string ⟨#[]⟩, .slice none 0 0] ∧ LA (ext o11 w11.heap.size 0) (w11.alloc (.cells #[.int .i64 10, .int .i64 0, .int .i64 0, .int .i64 0, .int .i64 0, .int .i64 0, .int .i64 0, .int .i64 0, .string ⟨#[]⟩, .slice none 0 0] 35)) w11.heap.size #[.int .i64 10, .int .i64 0, .int .i64 0, .int .i64 0, .int .i64 0, .int .i64 0, .int .i64 0, .int .i64 0, .string ⟨#[]⟩, .slice none 0 0] ∧ Free (ext o11 w11.heap.size 0) (w11.alloc (.cells #[.int .i64 10, .int .i64 0, .int .i64 0, .int .i64 0, .int .i64 0, .int .i64 0, .int .i64 0, .int .i64 0, .string ⟨#[]⟩, .slice none 0 0] 35)) u L) := ⟨hL.grow hbA, ((HS10.out.2.1).ch hC (by decide)).grow hbA, ((HS10.out.2.2.1).ch hC (by decide)).grow hbA, ((HS10.out.2.2.2.1).ch hC (by decide)).grow hbA, LA.born _ _ _, ((HS10.out.2.2.2.2).ch hC (by decide)).grow hbA⟩
    clear hbA hL hC hd s9
    generalize (w11.alloc (.cells #[.int .i64 10, .int .i64 0, .int .i64 0, .int .i64 0, .int .i64 0, .int .i64 0, .int .i64 0, .int .i64 0, .string ⟨#[]⟩, .slice none 0 0] 35)) = w11a at *
    generalize hgg11 : w11.heap.size = g11 at *
    generalize hog11 : ext o11 g11 0 = o11a at *
    clear hgg11 hog11
    have s9 : w11a.cell? ⟨g9, 8, none⟩ = some (.string kT) := HS11.out.2.2.1.1.cells.2.2.2.2.2.2.2.2.1
    have hd := ls_leaseno HS11.out.1
    go_upto_region 11 with (first | (go_at_call 7; refine hd.mono ?_; rintro r w12 ⟨A12, o12, rfl, hL, hC⟩))
    have hbA : Below w12.heap.size w12 (w12.alloc (.cells #[.int .i64 10, .int .i64 0, .int .i64 0, .int .i64 0, .int .i64 0, .int .i64 0, .int .i64 0, .int .i64 0, .string ⟨#[]⟩, .slice none 0 0] 35)) := (Below.refl _ _).alloc (Nat.le_refl _) _
    have HS12 : Hid (LS w (w12.alloc (.cells #[.int .i64 10, .int .i64 0, .int .i64 0, .int .i64 0, .int .i64 0, .int .i64 0, .int .i64 0, .int .i64 0, .string ⟨#[]⟩, .slice none 0 0] 35)) (ext o12 w12.heap.size 0) b hb A12 (kS 2 rg) ids4 v4 u6 ∧ LA (ext o12 w12.heap.size 0) (w12.alloc (.cells #[.int .i64 10, .int .i64 0, .int .i64 0, .int .i64 0, .int .i64 0, .int .i64 0, .int .i64 0, .int .i64 0, .string ⟨#[]⟩, .slice none 0 0] 35)) g8 #[.int .i64 0, .int .i64 0, .int .i64 0, .int .i64 0, .int .i64 0, .int .i64 0, .int .i64 0, .int .i64 0, .string ⟨#[]⟩, .slice none 0 0] ∧ LA (ext o12 w12.heap.size 0) (w12.alloc (.cells #[.int .i64 10, .int .i64 0, .int .i64 0, .int .i64 0, .int .i64 0, .int .i64 0, .int .i64 0, .int .i64 0, .string ⟨#[]⟩, .slice none 0 0] 35)) g9 #[.int .i64 0, .int .i64 0, .int .i64 0, .int .i64 0, .int .i64 0, .int .i64 0, .int .i64 0, .int .i64 0, .string kT, .slice none 0 0] ∧ LA (ext o12 w12.heap.size 0) (w12.alloc (.cells #[.int .i64 10, .int .i64 0, .int .i64 0, .int .i64 0, .int .i64 0, .int .i64 0, .int .i64 0, .int .i64 0, .string ⟨#[]⟩, .slice none 0 0] 35)) g10 #[.int .i64 0, .int .i64 0, .int .i64 0, .int .i64 0, .int .i64 0, .int .i64 0, .int .i64 0, .int .i64 0, .string ⟨#[]⟩, .slice none 0 0] ∧ LA (ext o12 w12.heap.size 0) (w12.alloc (.cells #[.int .i64 10, .int .i64 0, .int .i64 0, .int .i64 0, .int .i64 0, .int .i64 0, .int .i64 0, .int .i64 0, .string ⟨#[]⟩, .slice none 0 0] 35)) g11 #[.int .i64 10, .int .i64 0, .int .i64 0, .int .i64 0, .int .i64 0, .int .i64 0, .int .i64 0, .int .i64 0, .string ⟨#[]⟩, .slice none 0 0] ∧ LA (ext o12 w12.heap.size 0) (w12.alloc (.cells #[.int .i64 10, .int .i64 0, .int .i64 0, .int .i64 0, .int .i64 0, .int .i64 0, .int .i64 0, .int .i64 0, .string ⟨#[]⟩, .slice none 0 0] 35)) w12.heap.size #[.int .i64 10, .int .i64 0, .int .i64 0, .int .i64 0, .int .i64 0, .int .i64 0, .int .i64 0, .int .i64 0, .string ⟨#[]⟩, .slice none 0 0] ∧ Free (ext o12 w12.heap.size 0) (w12.alloc (.cells #[.int .i64 10, .int .i64 0, .int .i64 0, .int .i64 0, .int .i64 0, .int .i64 0, .int .i64 0, .int .i64 0, .string ⟨#[]⟩, .slice none 0 0] 35)) u L) := ⟨hL.grow hbA, ((HS11.out.2.1).ch hC (by decide)).grow hbA, ((HS11.out.2.2.1).ch hC (by decide)).grow hbA, ((HS11.out.2.2.2.1).ch hC (by decide)).grow hbA, ((HS11.out.2.2.2.2.1).ch hC (by decide)).grow hbA, LA.born _ _ _, ((HS11.out.2.2.2.2.2).ch hC (by decide)).grow hbA⟩
    clear hbA hL hC hd s9
    generalize (w12.alloc (.cells #[.int .i64 10, .int .i64 0, .int .i64 0, .int .i64 0, .int .i64 0, .int .i64 0, .int .i64 0, .int .i64 0, .string ⟨#[]⟩, .slice none 0 0] 35)) = w12a at *
    generalize hgg12 : w12.heap.size = g12 at *
    generalize hog12 : ext o12 g12 0 = o12a at *
    clear hgg12 hog12
    have hd := ls_drop HS12.out.1 HS7.out.2.2.2.2.2.2.2.1
    go_upto_region 12 with (first | (go_at_call 7; refine hd.mono ?_; rintro r w13 ⟨A13, o13, ids13, wv13, u13, rfl, hL, hC⟩))
    have HS13 : Hid (LS w w13 o13 b hb A13 ⟨[], 1, []⟩ ids13 wv13 u13 ∧ LA o13 w13 g8 #[.int .i64 0, .int .i64 0, .int .i64 0, .int .i64 0, .int .i64 0, .int .i64 0, .int .i64 0, .int .i64 0, .string ⟨#[]⟩, .slice none 0 0] ∧ LA o13 w13 g9 #[.int .i64 0, .int .i64 0, .int .i64 0, .int .i64 0, .int .i64 0, .int .i64 0, .int .i64 0, .int .i64 0, .string kT, .slice none 0 0] ∧ LA o13 w13 g10 #[.int .i64 0, .int .i64 0, .int .i64 0, .int .i64 0, .int .i64 0, .int .i64 0, .int .i64 0, .int .i64 0, .string ⟨#[]⟩, .slice none 0 0] ∧ LA o13 w13 g11 #[.int .i64 10, .int .i64 0, .int .i64 0, .int .i64 0, .int .i64 0, .int .i64 0, .int .i64 0, .int .i64 0, .string ⟨#[]⟩, .slice none 0 0] ∧ LA o13 w13 g12 #[.int .i64 10, .int .i64 0, .int .i64 0, .int .i64 0, .int .i64 0, .int .i64 0, .int .i64 0, .int .i64 0, .string ⟨#[]⟩, .slice none 0 0] ∧ Free o13 w13 u L) := ⟨hL, (HS12.out.2.1).ch hC (by decide), (HS12.out.2.2.1).ch hC (by decide), (HS12.out.2.2.2.1).ch hC (by decide), (HS12.out.2.2.2.2.1).ch hC (by decide), (HS12.out.2.2.2.2.2.1).ch hC (by decide), (HS12.out.2.2.2.2.2.2).ch hC (by decide)⟩
    clear hL hC hd
    have s9 : w13.cell? ⟨g9, 8, none⟩ = some (.string kT) := HS13.out.2.2.1.1.cells.2.2.2.2.2.2.2.2.1
    have hd := ls_gone HS13.out.1
    go_upto_region 13 with (first | (go_at_call 7; refine hd.mono ?_; rintro r w14 ⟨A14, o14, rfl, hL, hC⟩))
    have hbA : Below w14.heap.size w14 (w14.alloc (.cells #[.int .i64 6, .int .i64 0, .int .i64 0, .int .i64 0, .int .i64 0, .int .i64 0, .int .i64 0, .int .i64 0, .string ⟨#[]⟩, .slice none 0 0] 35)) := (Below.refl _ _).alloc (Nat.le_refl _) _
    have HS14 : Hid (LS w (w14.alloc (.cells #[.int .i64 6, .int .i64 0, .int .i64 0, .int .i64 0, .int .i64 0, .int .i64 0, .int .i64 0, .int .i64 0, .string ⟨#[]⟩, .slice none 0 0] 35)) (ext o14 w14.heap.size 0) b hb A14 ⟨[], 1, []⟩ ids13 wv13 u13 ∧ LA (ext o14 w14.heap.size 0) (w14.alloc (.cells #[.int .i64 6, .int .i64 0, .int .i64 0, .int .i64 0, .int .i64 0, .int .i64 0, .int .i64 0, .int .i64 0, .string ⟨#[]⟩, .slice none 0 0] 35)) g8 #[.int .i64 0, .int .i64 0, .int .i64 0, .int .i64 0, .int .i64 0, .int .i64 0, .int .i64 0, .int .i64 0, .string ⟨#[]⟩, .slice none 0 0] ∧ LA (ext o14 w14.heap.size 0) (w14.alloc (.cells #[.int .i64 6, .int .i64 0, .int .i64 0, .int .i64 0, .int .i64 0, .int .i64 0, .int .i64 0, .int .i64 0, .string ⟨#[]⟩, .slice none 0 0] 35)) g9 #[.int .i64 0, .int .i64 0, .int .i64 0, .int .i64 0, .int .i64 0, .int .i64 0, .int .i64 0, .int .i64 0, .string kT, .slice none 0 0] ∧ LA (ext o14 w14.heap.size 0) (w14.alloc (.cells #[.int .i64 6, .int .i64 0, .int .i64 0, .int .i64 0, .int .i64 0, .int .i64 0, .int .i64 0, .int .i64 0, .string ⟨#[]⟩, .slice none 0 0] 35)) g10 #[.int .i64 0, .int .i64 0, .int .i64 0, .int .i64 0, .int .i64 0, .int .i64 0, .int .i64 0, .int .i64 0, .string ⟨#[]⟩, .slice none 0 0] ∧ LA (ext o14 w14.heap.size 0) (w14.alloc (.cells #[.int .i64 6, .int .i64 0, .int .i64 0, .int .i64 0, .int .i64 0, .int .i64 0, .int .i64 0, .int .i64 0, .string ⟨#[]⟩, .slice none 0 0] 35)) g11 #[.int .i64 10, .int .i64 0, .int .i64 0, .int .i64 0, .int .i64 0, .int .i64 0, .int .i64 0, .int .i64 0, .string ⟨#[]⟩, .slice none 0 0] ∧ LA (ext o14 w14.heap.size 0) (w14.alloc (.cells #[.int .i64 6, .int .i64 0, .int .i64 0, .int .i64 0, .int .i64 0, .int .i64 0, .int .i64 0, .int .i64 0, .string ⟨#[]⟩, .slice none 0 0] 35)) g12 #[.int .i64 10, .int .i64 0, .int .i64 0, .int .i64 0, .int .i64 0, .int .i64 0, .int .i64 0, .int .i64 0, .string ⟨#[]⟩, .slice none 0 0] ∧ LA (ext o14 w14.heap.size 0) (w14.alloc (.cells #[.int .i64 6, .int .i64 0, .int .i64 0, .int .i64 0, .int .i64 0, .int .i64 0, .int .i64 0, .int .i64 0, .string ⟨#[]⟩, .slice none 0 0] 35)) w14.heap.size #[.int .i64 6, .int .i64 0, .int .i64 0, .int .i64 0, .int .i64 0, .int .i64 0, .int .i64 0, .int .i64 0, .string ⟨#[]⟩, .slice none 0 0] ∧ Free (ext o14 w14.heap.size 0) (w14.alloc (.cells #[.int .i64 6, .int .i64 0, .int .i64 0, .int .i64 0, .int .i64 0, .int .i64 0, .int .i64 0, .int .i64 0, .string ⟨#[]⟩, .slice none 0 0] 35)) u L) := ⟨hL.grow hbA, ((HS13.out.2.1).ch hC (by decide)).grow hbA, ((HS13.out.2.2.1).ch hC (by decide)).grow hbA, ((HS13.out.2.2.2.1).ch hC (by decide)).grow hbA, ((HS13.out.2.2.2.2.1).ch hC (by decide)).grow hbA, ((HS13.out.2.2.2.2.2.1).ch hC (by decide)).grow hbA, LA.born _ _ _, ((HS13.out.2.2.2.2.2.2).ch hC (by decide)).grow hbA⟩
    clear hbA hL hC hd s9
    generalize (w14.alloc (.cells #[.int .i64 6, .int .i64 0, .int .i64 0, .int .i64 0, .int .i64 0, .int .i64 0, .int .i64 0, .int .i64 0, .string ⟨#[]⟩, .slice none 0 0] 35)) = w14a at *
    generalize hgg13 : w14.heap.size = g13 at *
    generalize hog13 : ext o14 g13 0 = o14a at *
    clear hgg13 hog13
    have kg8 := HS14.out.2.1.1.cells.1
    have kg9 := HS14.out.2.2.1.1.cells.1
    have kg10 := HS14.out.2.2.2.1.1.cells.1
    have kg11 := HS14.out.2.2.2.2.1.1.cells.1
    have kg12 := HS14.out.2.2.2.2.2.1.1.cells.1
    have kg13 := HS14.out.2.2.2.2.2.2.1.1.cells.1
    have kc := HS14.out.2.2.2.2.1.1.cells.2.2.2.2.2.2.2.2.2.1
    have hba : (bits BinOp.and IntKind.i64 2 2) = 2 := by decide +kernel
    have hbb : (bits BinOp.and IntKind.i64 2 1) = 0 := by decide +kernel
    have htd := tidy_told u L w14a HS14.out.2.2.2.2.2.2.2.1
    rw [HY.out.2.1] at htd
    go_wp2_with fail
    refine htd.mono ?_
    rintro e w15 ⟨uT, ysT, rfl, hb15, hT, hO⟩
    have x10 := (HS14.out.2.2.2.1.1.below hb15).cells.1
    have x11 := (HS14.out.2.2.2.2.1.1.below hb15).cells.1
    have xc := (HS14.out.2.2.2.2.1.1.below hb15).cells.2.2.2.2.2.2.2.2.2.1
    have HB15 : Hid (Below w.heap.size w w15) := HS14.out.1.below.trans (hb15.mono HS14.out.1.below.size)
    clear hT hO hb15 htd
    go_wp2_with fail
    go_ret
    exact ⟨rfl, HB15.out⟩
  · subst h3
    have e1 : cc = 0 := by rw [HCC.out.1]; rfl
    have e2 : zs2 = ys := by rw [HCC.out.2]; rfl
    have HE2 : Hid (zs2 = ys) := e2
    subst e1
    clear e2
    have s9 : wc.cell? ⟨g9, 8, none⟩ = some (.string kT) := HS10.out.2.2.1.1.cells.2.2.2.2.2.2.2.2.1
    have hd := ls_get HS10.out.1 HK4.out HS7.out.2.2.2.2.2.2.2.1 lack_31 HN10.out.1 HN10.out.2 HZ2.out.1 HZ2.out.2.1 HZ2.out.2.2
    go_upto_region 10 with (first | (go_at_call 7; refine hd.mono ?_; rintro r w11 ⟨sp, sc, A11, o11, rfl, hF, hL, hC⟩))
    have hbA : Below w11.heap.size w11 (w11.alloc (.cells #[.int .i64 0, .int .i64 zs2.length, .int .i64 0, .int .i64 0, .int .i64 0, .int .i64 0, .int .i64 8, .int .i64 12, .string ⟨#[]⟩, .slice sp zs2.length sc] 35)) := (Below.refl _ _).alloc (Nat.le_refl _) _
    have HS11 : Hid (LS w (w11.alloc (.cells #[.int .i64 0, .int .i64 zs2.length, .int .i64 0, .int .i64 0, .int .i64 0, .int .i64 0, .int .i64 8, .int .i64 12, .string ⟨#[]⟩, .slice sp zs2.length sc] 35)) (ext o11 w11.heap.size 0) b hb A11 (kS 3 rg) ids4 v4 u6 ∧ LA (ext o11 w11.heap.size 0) (w11.alloc (.cells #[.int .i64 0, .int .i64 zs2.length, .int .i64 0, .int .i64 0, .int .i64 0, .int .i64 0, .int .i64 8, .int .i64 12, .string ⟨#[]⟩, .slice sp zs2.length sc] 35)) g8 #[.int .i64 0, .int .i64 0, .int .i64 0, .int .i64 0, .int .i64 0, .int .i64 0, .int .i64 0, .int .i64 0, .string ⟨#[]⟩, .slice none 0 0] ∧ LA (ext o11 w11.heap.size 0) (w11.alloc (.cells #[.int .i64 0, .int .i64 zs2.length, .int .i64 0, .int .i64 0, .int .i64 0, .int .i64 0, .int .i64 8, .int .i64 12, .string ⟨#[]⟩, .slice sp zs2.length sc] 35)) g9 #[.int .i64 0, .int .i64 0, .int .i64 0, .int .i64 0, .int .i64 0, .int .i64 0, .int .i64 0, .int .i64 0, .string kT, .slice none 0 0] ∧ LA (ext o11 w11.heap.size 0) (w11.alloc (.cells #[.int .i64 0, .int .i64 zs2.length, .int .i64 0, .int .i64 0, .int .i64 0, .int .i64 0, .int .i64 8, .int .i64 12, .string ⟨#[]⟩, .slice sp zs2.length sc] 35)) g10 #[.int .i64 0, .int .i64 0, .int .i64 0, .int .i64 0, .int .i64 0, .int .i64 0, .int .i64 0, .int .i64 0, .string ⟨#[]⟩, .slice none 0 0] ∧ LA (ext o11 w11.heap.size 0) (w11.alloc (.cells #[.int .i64 0, .int .i64 zs2.length, .int .i64 0, .int .i64 0, .int .i64 0, .int .i64 0, .int .i64 8, .int .i64 12, .string ⟨#[]⟩, .slice sp zs2.length sc] 35)) w11.heap.size #[.int .i64 0, .int .i64 zs2.length, .int .i64 0, .int .i64 0, .int .i64 0, .int .i64 0, .int .i64 8, .int .i64 12, .string ⟨#[]⟩, .slice sp zs2.length sc] ∧ Free (ext o11 w11.heap.size 0) (w11.alloc (.cells #[.int .i64 0, .int .i64 zs2.length, .int .i64 0, .int .i64 0, .int .i64 0, .int .i64 0, .int .i64 8, .int .i64 12, .string ⟨#[]⟩, .slice sp zs2.length sc] 35)) u L ∧ Free (ext o11 w11.heap.size 0) (w11.alloc (.cells #[.int .i64 0, .int .i64 zs2.length, .int .i64 0, .int .i64 0, .int .i64 0, .int .i64 0, .int .i64 8, .int .i64 12, .string ⟨#[]⟩, .slice sp zs2.length sc] 35)) (.slice sp zs2.length sc) zs2) := ⟨hL.grow hbA, ((HS10.out.2.1).ch hC (by decide)).grow hbA, ((HS10.out.2.2.1).ch hC (by decide)).grow hbA, ((HS10.out.2.2.2.1).ch hC (by decide)).grow hbA, LA.born _ _ _, ((HS10.out.2.2.2.2).ch hC (by decide)).grow hbA, hF.grow hbA⟩
    clear hbA hL hC hF hd s9
    generalize (w11.alloc (.cells #[.int .i64 0, .int .i64 zs2.length, .int .i64 0, .int .i64 0, .int .i64 0, .int .i64 0, .int .i64 8, .int .i64 12, .string ⟨#[]⟩, .slice sp zs2.length sc] 35)) = w11a at *
    generalize hgg11 : w11.heap.size = g11 at *
    generalize hog11 : ext o11 g11 0 = o11a at *
    clear hgg11 hog11
    have s9 : w11a.cell? ⟨g9, 8, none⟩ = some (.string kT) := HS11.out.2.2.1.1.cells.2.2.2.2.2.2.2.2.1
    have hd := ls_leaseno HS11.out.1
    go_upto_region 11 with (first | (go_at_call 7; refine hd.mono ?_; rintro r w12 ⟨A12, o12, rfl, hL, hC⟩))
    have hbA : Below w12.heap.size w12 (w12.alloc (.cells #[.int .i64 10, .int .i64 0, .int .i64 0, .int .i64 0, .int .i64 0, .int .i64 0, .int .i64 0, .int .i64 0, .string ⟨#[]⟩, .slice none 0 0] 35)) := (Below.refl _ _).alloc (Nat.le_refl _) _
    have HS12 : Hid (LS w (w12.alloc (.cells #[.int .i64 10, .int .i64 0, .int .i64 0, .int .i64 0, .int .i64 0, .int .i64 0, .int .i64 0, .int .i64 0, .string ⟨#[]⟩, .slice none 0 0] 35)) (ext o12 w12.heap.size 0) b hb A12 (kS 3 rg) ids4 v4 u6 ∧ LA (ext o12 w12.heap.size 0) (w12.alloc (.cells #[.int .i64 10, .int .i64 0, .int .i64 0, .int .i64 0, .int .i64 0, .int .i64 0, .int .i64 0, .int .i64 0, .string ⟨#[]⟩, .slice none 0 0] 35)) g8 #[.int .i64 0, .int .i64 0, .int .i64 0, .int .i64 0, .int .i64 0, .int .i64 0, .int .i64 0, .int .i64 0, .string ⟨#[]⟩, .slice none 0 0] ∧ LA (ext o12 w12.heap.size 0) (w12.alloc (.cells #[.int .i64 10, .int .i64 0, .int .i64 0, .int .i64 0, .int .i64 0, .int .i64 0, .int .i64 0, .int .i64 0, .string ⟨#[]⟩, .slice none 0 0] 35)) g9 #[.int .i64 0, .int .i64 0, .int .i64 0, .int .i64 0, .int .i64 0, .int .i64 0, .int .i64 0, .int .i64 0, .string kT, .slice none 0 0] ∧ LA (ext o12 w12.heap.size 0) (w12.alloc (.cells #[.int .i64 10, .int .i64 0, .int .i64 0, .int .i64 0, .int .i64 0, .int .i64 0, .int .i64 0, .int .i64 0, .string ⟨#[]⟩, .slice none 0 0] 35)) g10 #[.int .i64 0, .int .i64 0, .int .i64 0, .int .i64 0, .int .i64 0, .int .i64 0, .int .i64 0, .int .i64 0, .string ⟨#[]⟩, .slice none 0 0] ∧ LA (ext o12 w12.heap.size 0) (w12.alloc (.cells #[.int .i64 10, .int .i64 0, .int .i64 0, .int .i64 0, .int .i64 0, .int .i64 0, .int .i64 0, .int .i64 0, .string ⟨#[]⟩, .slice none 0 0] 35)) g11 #[.int .i64 0, .int .i64 zs2.length, .int .i64 0, .int .i64 0, .int .i64 0, .int .i64 0, .int .i64 8, .int .i64 12, .string ⟨#[]⟩, .slice sp zs2.length sc] ∧ LA (ext o12 w12.heap.size 0) (w12.alloc (.cells #[.int .i64 10, .int .i64 0, .int .i64 0, .int .i64 0, .int .i64 0, .int .i64 0, .int .i64 0, .int .i64 0, .string ⟨#[]⟩, .slice none 0 0] 35)) w12.heap.size #[.int .i64 10, .int .i64 0, .int .i64 0, .int .i64 0, .int .i64 0, .int .i64 0, .int .i64 0, .int .i64 0, .string ⟨#[]⟩, .slice none 0 0] ∧ Free (ext o12 w12.heap.size 0) (w12.alloc (.cells #[.int .i64 10, .int .i64 0, .int .i64 0, .int .i64 0, .int .i64 0, .int .i64 0, .int .i64 0, .int .i64 0, .string ⟨#[]⟩, .slice none 0 0] 35)) u L ∧ Free (ext o12 w12.heap.size 0) (w12.alloc (.cells #[.int .i64 10, .int .i64 0, .int .i64 0, .int .i64 0, .int .i64 0, .int .i64 0, .int .i64 0, .int .i64 0, .string ⟨#[]⟩, .slice none 0 0] 35)) (.slice sp zs2.length sc) zs2) := ⟨hL.grow hbA, ((HS11.out.2.1).ch hC (by decide)).grow hbA, ((HS11.out.2.2.1).ch hC (by decide)).grow hbA, ((HS11.out.2.2.2.1).ch hC (by decide)).grow hbA, ((HS11.out.2.2.2.2.1).ch hC (by decide)).grow hbA, LA.born _ _ _, ((HS11.out.2.2.2.2.2.1).ch hC (by decide)).grow hbA, ((HS11.out.2.2.2.2.2.2).ch hC (by decide)).grow hbA⟩
    clear hbA hL hC hd s9
    generalize (w12.alloc (.cells #[.int .i64 10, .int .i64 0, .int .i64 0, .int .i64 0, .int .i64 0, .int .i64 0, .int .i64 0, .int .i64 0, .string ⟨#[]⟩, .slice none 0 0] 35)) = w12a at *
    generalize hgg12 : w12.heap.size = g12 at *
    generalize hog12 : ext o12 g12 0 = o12a at *
    clear hgg12 hog12
    have hd := ls_drop HS12.out.1 HS7.out.2.2.2.2.2.2.2.1
    go_upto_region 12 with (first | (go_at_call 7; refine hd.mono ?_; rintro r w13 ⟨A13, o13, ids13, wv13, u13, rfl, hL, hC⟩))
    have HS13 : Hid (LS w w13 o13 b hb A13 ⟨[], 1, []⟩ ids13 wv13 u13 ∧ LA o13 w13 g8 #[.int .i64 0, .int .i64 0, .int .i64 0, .int .i64 0, .int .i64 0, .int .i64 0, .int .i64 0, .int .i64 0, .string ⟨#[]⟩, .slice none 0 0] ∧ LA o13 w13 g9 #[.int .i64 0, .int .i64 0, .int .i64 0, .int .i64 0, .int .i64 0, .int .i64 0, .int .i64 0, .int .i64 0, .string kT, .slice none 0 0] ∧ LA o13 w13 g10 #[.int .i64 0, .int .i64 0, .int .i64 0, .int .i64 0, .int .i64 0, .int .i64 0, .int .i64 0, .int .i64 0, .string ⟨#[]⟩, .slice none 0 0] ∧ LA o13 w13 g11 #[.int .i64 0, .int .i64 zs2.length, .int .i64 0, .int .i64 0, .int .i64 0, .int .i64 0, .int .i64 8, .int .i64 12, .string ⟨#[]⟩, .slice sp zs2.length sc] ∧ LA o13 w13 g12 #[.int .i64 10, .int .i64 0, .int .i64 0, .int .i64 0, .int .i64 0, .int .i64 0, .int .i64 0, .int .i64 0, .string ⟨#[]⟩, .slice none 0 0] ∧ Free o13 w13 u L ∧ Free o13 w13 (.slice sp zs2.length sc) zs2) := ⟨hL, (HS12.out.2.1).ch hC (by decide), (HS12.out.2.2.1).ch hC (by decide), (HS12.out.2.2.2.1).ch hC (by decide), (HS12.out.2.2.2.2.1).ch hC (by decide), (HS12.out.2.2.2.2.2.1).ch hC (by decide), (HS12.out.2.2.2.2.2.2.1).ch hC (by decide), (HS12.out.2.2.2.2.2.2.2).ch hC (by decide)⟩
    clear hL hC hd
    have s9 : w13.cell? ⟨g9, 8, none⟩ = some (.string kT) := HS13.out.2.2.1.1.cells.2.2.2.2.2.2.2.2.1
    have hd := ls_gone HS13.out.1
    go_upto_region 13 with (first | (go_at_call 7; refine hd.mono ?_; rintro r w14 ⟨A14, o14, rfl, hL, hC⟩))
    have hbA : Below w14.heap.size w14 (w14.alloc (.cells #[.int .i64 6, .int .i64 0, .int .i64 0, .int .i64 0, .int .i64 0, .int .i64 0, .int .i64 0, .int .i64 0, .string ⟨#[]⟩, .slice none 0 0] 35)) := (Below.refl _ _).alloc (Nat.le_refl _) _
    have HS14 : Hid (LS w (w14.alloc (.cells #[.int .i64 6, .int .i64 0, .int .i64 0, .int .i64 0, .int .i64 0, .int .i64 0, .int .i64 0, .int .i64 0, .string ⟨#[]⟩, .slice none 0 0] 35)) (ext o14 w14.heap.size 0) b hb A14 ⟨[], 1, []⟩ ids13 wv13 u13 ∧ LA (ext o14 w14.heap.size 0) (w14.alloc (.cells #[.int .i64 6, .int .i64 0, .int .i64 0, .int .i64 0, .int .i64 0, .int .i64 0, .int .i64 0, .int .i64 0, .string ⟨#[]⟩, .slice none 0 0] 35)) g8 #[.int .i64 0, .int .i64 0, .int .i64 0, .int .i64 0, .int .i64 0, .int .i64 0, .int .i64 0, .int .i64 0, .string ⟨#[]⟩, .slice none 0 0] ∧ LA (ext o14 w14.heap.size 0) (w14.alloc (.cells #[.int .i64 6, .int .i64 0, .int .i64 0, .int .i64 0, .int .i64 0, .int .i64 0, .int .i64 0, .int .i64 0, .string ⟨#[]⟩, .slice none 0 0] 35)) g9 #[.int .i64 0, .int .i64 0, .int .i64 0, .int .i64 0, .int .i64 0, .int .i64 0, .int .i64 0, .int .i64 0, .string kT, .slice none 0 0] ∧ LA (ext o14 w14.heap.size 0) (w14.alloc (.cells #[.int .i64 6, .int .i64 0, .int .i64 0, .int .i64 0, .int .i64 0, .int .i64 0, .int .i64 0, .int .i64 0, .string ⟨#[]⟩, .slice none 0 0] 35)) g10 #[.int .i64 0, .int .i64 0, .int .i64 0, .int .i64 0, .int .i64 0, .int .i64 0, .int .i64 0, .int .i64 0, .string ⟨#[]⟩, .slice none 0 0] ∧ LA (ext o14 w14.heap.size 0) (w14.alloc (.cells #[.int .i64 6, .int .i64 0, .int .i64 0, .int .i64 0, .int .i64 0, .int .i64 0, .int .i64 0, .int .i64 0, .string ⟨#[]⟩, .slice none 0 0] 35)) g11 #[.int .i64 0, .int .i64 zs2.length, .int .i64 0, .int .i64 0, .int .i64 0, .int .i64 0, .int .i64 8, .int .i64 12, .string ⟨#[]⟩, .slice sp zs2.length sc] ∧ LA (ext o14 w14.heap.size 0) (w14.alloc (.cells #[.int .i64 6, .int .i64 0, .int .i64 0, .int .i64 0, .int .i64 0, .int .i64 0, .int .i64 0, .int .i64 0, .string ⟨#[]⟩, .slice none 0 0] 35)) g12 #[.int .i64 10, .int .i64 0, .int .i64 0, .int .i64 0, .int .i64 0, .int .i64 0, .int .i64 0, .int .i64 0, .string ⟨#[]⟩, .slice none 0 0] ∧ LA (ext o14 w14.heap.size 0) (w14.alloc (.cells #[.int .i64 6, .int .i64 0, .int .i64 0, .int .i64 0, .int .i64 0, .int .i64 0, .int .i64 0, .int .i64 0, .string ⟨#[]⟩, .slice none 0 0] 35)) w14.heap.size #[.int .i64 6, .int .i64 0, .int .i64 0, .int .i64 0, .int .i64 0, .int .i64 0, .int .i64 0, .int .i64 0, .string ⟨#[]⟩, .slice none 0 0] ∧ Free (ext o14 w14.heap.size 0) (w14.alloc (.cells #[.int .i64 6, .int .i64 0, .int .i64 0, .int .i64 0, .int .i64 0, .int .i64 0, .int .i64 0, .int .i64 0, .string ⟨#[]⟩, .slice none 0 0] 35)) u L ∧ Free (ext o14 w14.heap.size 0) (w14.alloc (.cells #[.int .i64 6, .int .i64 0, .int .i64 0, .int .i64 0, .int .i64 0, .int .i64 0, .int .i64 0, .int .i64 0, .string ⟨#[]⟩, .slice none 0 0] 35)) (.slice sp zs2.length sc) zs2) := ⟨hL.grow hbA, ((HS13.out.2.1).ch hC (by decide)).grow hbA, ((HS13.out.2.2.1).ch hC (by decide)).grow hbA, ((HS13.out.2.2.2.1).ch hC (by decide)).grow hbA, ((HS13.out.2.2.2.2.1).ch hC (by decide)).grow hbA, ((HS13.out.2.2.2.2.2.1).ch hC (by decide)).grow hbA, LA.born _ _ _, ((HS13.out.2.2.2.2.2.2.1).ch hC (by decide)).grow hbA, ((HS13.out.2.2.2.2.2.2.2).ch hC (by decide)).grow hbA⟩
    clear hbA hL hC hd s9
    generalize (w14.alloc (.cells #[.int .i64 6, .int .i64 0, .int .i64 0, .int .i64 0, .int .i64 0, .int .i64 0, .int .i64 0, .int .i64 0, .string ⟨#[]⟩, .slice none 0 0] 35)) = w14a at *
    generalize hgg13 : w14.heap.size = g13 at *
    generalize hog13 : ext o14 g13 0 = o14a at *
    clear hgg13 hog13
    have kg8 := HS14.out.2.1.1.cells.1
    have kg9 := HS14.out.2.2.1.1.cells.1
    have kg10 := HS14.out.2.2.2.1.1.cells.1
    have kg11 := HS14.out.2.2.2.2.1.1.cells.1
    have kg12 := HS14.out.2.2.2.2.2.1.1.cells.1
    have kg13 := HS14.out.2.2.2.2.2.2.1.1.cells.1
    have kc := HS14.out.2.2.2.2.1.1.cells.2.2.2.2.2.2.2.2.2.1
    have hba : (bits BinOp.and IntKind.i64 3 2) = 2 := by decide +kernel
    have hbb : (bits BinOp.and IntKind.i64 3 1) = 1 := by decide +kernel
    have htd := tidy_told u L w14a HS14.out.2.2.2.2.2.2.2.1.1
    rw [HY.out.2.1] at htd
    go_wp2_with fail
    refine htd.mono ?_
    rintro e w15 ⟨uT, ysT, rfl, hb15, hT, hO⟩
    have x10 := (HS14.out.2.2.2.1.1.below hb15).cells.1
    have x11 := (HS14.out.2.2.2.2.1.1.below hb15).cells.1
    have xc := (HS14.out.2.2.2.2.1.1.below hb15).cells.2.2.2.2.2.2.2.2.2.1
    have HB15 : Hid (Below w.heap.size w w15) := HS14.out.1.below.trans (hb15.mono HS14.out.1.below.size)
    have hyt : ysT = zs2 := by rw [HE2.out]; exact hT.unique HY.out.1
    have hsame := same_any (.slice sp zs2.length sc) uT zs2 w15 ((HS14.out.2.2.2.2.2.2.2.2.grow hb15).1) (by rw [← hyt]; exact hO.read)
    clear hT hO hb15 htd hyt
    go_wp2_with (go_at_call 10; refine hsame.mono ?_; rintro e w16 ⟨rfl, hb16⟩)
    go_ret
    exact ⟨rfl, HB15.out.trans (hb16.mono HB15.out.size)⟩
end Go.Proofs.YtgipjplifndniaaGreatDoor.U
