/- FrameOnly: the law's walk. -/
import Derived.Test.YtjblaomjadpbfaaDoorFrFrames
import Derived.Test.YtjblaomjadpbfaaDoorFrSame
namespace Go.Proofs.YtjblaomjadpbfaaDoor
open Go.RowKit

theorem joinW_take {ts : List (List UInt8)} {i : Nat} (h : i < ts.length) : joinW (ts.take (i + 1)) = joinW (ts.take i) ++ wrapL (ts.getD i []) := by
  rw [List.take_succ_eq_append_getElem h, joinW_append, joinW_one, List.getD_eq_getElem?_getD, List.getElem?_eq_getElem h]
  rfl
theorem joinW_part (ts : List (List UInt8)) (i : Nat) : (joinW (ts.take i)).length ≤ (joinW ts).length := by
  have := congrArg List.length (joinW_append (ts.take i) (ts.drop i))
  rw [List.take_append_drop, List.length_append] at this
  omega

set_option maxRecDepth 20000 in
set_option maxHeartbeats 2000000 in
theorem only_law (s : List UInt8) (m : Int) (w : World) (hs : s.length ≤ 140737488351232) (hm : w.cell? ⟨0, 0, none⟩ = some (.int .i64 m)) :
    Calls Tryd.prog 6 #[.string ⟨s.toArray⟩] w (fun e w' => e = .returned (.bool true) ∧ Below w.heap.size w w') := by
  have c1 := unwrap_any s w hs
  have hlt : 0 < w.heap.size := World.block_lt_of_cell? _ _ hm
  have c2 : ∀ W, Below w.heap.size w W → Calls Tryd.prog 15 #[] W (fun e w' => e = .returned (.bool true) ∧ Below W.heap.size W w') := fun W hb => frames_any m W ((World.cell?_of_block (a := ⟨0, 0, none⟩) (hb.block 0 hlt)).trans hm)
  obtain ⟨SB, hS⟩ : ∃ S, S = (⟨s.toArray⟩ : ByteArray) := ⟨_, rfl⟩
  have HS : Hid (SB = ⟨s.toArray⟩ ∧ s.length ≤ 140737488351232) := ⟨hS, hs⟩
  rw [← hS] at c1 ⊢
  clear hS hm hlt
  go_enter Tryd.func6, Tryd.ntmps6
  go_wp2_with fail
  refine c1.mono ?_
  rintro e w1 ⟨hb1, h1⟩
  clear c1
  rcases h1 with ⟨v, ts, hj, ht, rfl⟩ | ⟨hno, rfl⟩
  · obtain ⟨va, vc, rfl, hr⟩ := ht.row
    have HR : Hid (0 < ts.length → _) := hr
    have HJ : Hid (s = joinW ts) := hj
    have hlen : 128 * ts.length ≤ s.length := by rw [hj]; exact joinW_len ts
    have hln : ts.length ≤ 140737488351232 := by omega
    obtain ⟨n, hn⟩ : ∃ n, n = ts.length := ⟨_, rfl⟩
    rw [← hn] at HR hln ⊢
    have HN : Hid (n = ts.length) := hn
    clear hr hj hlen hn ht hs
    go_wp2_with fail
    go_loopg [5, 23] n (fun g s5 s23 wr => ∃ i : Nat, i + g = n ∧ s23 = .int .i64 i ∧ s5 = .string ⟨(joinW (ts.take i)).toArray⟩ ∧ Below w1.heap.size w1 wr)
    case atStart => exact ⟨0, by omega, rfl, rfl, Below.refl _ _⟩
    case round =>
      obtain ⟨i, hi, rfl, rfl, hb⟩ := hrel
      have HI : Hid (i + gk = n) := hi
      have hin : i ≤ n := by omega
      clear hi
      have hbw : Below w.heap.size w wr := hb1.trans (hb.mono hb1.size)
      have hjl := joinW_part ts i
      rw [← HJ.out] at hjl
      have htz : (⟨(joinW (ts.take i)).toArray⟩ : ByteArray).size ≤ 140737488351232 := by rw [ba_size]; have := HS.out; omega
      by_cases hlt : i < n
      · have h0 : (0 : Int) ≤ (i : Int) := by omega
        have h1 : (i : Int) < (n : Int) := by omega
        obtain ⟨ab, ao, ha, hca⟩ := HR.out (by omega)
        subst ha
        have e1 := hca i hlt
        have g1 : wr.cell? ⟨ab, ao + i, none⟩ = some (.string ⟨(ts.getD i []).toArray⟩) := (World.cell?_of_block (a := ⟨ab, ao + i, none⟩) (hb.block ab (World.block_lt_of_cell? _ _ e1))).trans e1
        have hjt := joinW_take (ts := ts) (i := i) (by rw [← HN.out]; exact hlt)
        have hj2 := joinW_part ts (i + 1)
        rw [← HJ.out, hjt, List.length_append] at hj2
        have c3 := fun W => wrap_any (ts.getD i []) W (by have := HS.out; omega)
        have HCAT : Hid ((⟨(joinW (ts.take i)).toArray⟩ : ByteArray) ++ ⟨(wrapL (ts.getD i [])).toArray⟩ = ⟨(joinW (ts.take (i + 1))).toArray⟩) := by show _ = _; rw [ba_app, hjt]
        have hwz : (⟨(wrapL (ts.getD i [])).toArray⟩ : ByteArray).size ≤ 140737488351232 := by rw [ba_size]; have := HS.out; omega
        generalize (⟨(ts.getD i []).toArray⟩ : ByteArray) = X at *
        generalize (⟨(wrapL (ts.getD i [])).toArray⟩ : ByteArray) = Y at *
        generalize (⟨(joinW (ts.take i)).toArray⟩ : ByteArray) = Z at *
        have HLT : Hid (i < n) := hlt
        clear hca e1 hlt hjt hj2 hjl
        go_wp2_with fail
        refine (c3 _).mono ?_
        rintro e w3 ⟨rfl, hb3⟩
        clear c3
        go_wp2_with fail
        go_roundg (gk - 1)
        case measure => have := HI.out; have := HLT.out; omega
        case rel => exact ⟨i + 1, by have := HI.out; have := HLT.out; omega, by go_num, by rw [HCAT.out], hb.trans (hb3.mono hb.size)⟩
      · have h1 : ¬ (i : Int) < (n : Int) := by omega
        have he : joinW (ts.take i) = s := by rw [HJ.out, List.take_of_length_le (by rw [← HN.out]; omega)]
        rw [he, ← HS.out.1]
        clear hjl htz he hlt
        go_wp2_with fail
        refine (c2 _ hbw).mono ?_
        rintro e w3 ⟨rfl, hb3⟩
        clear c2
        go_wp2_with fail
        go_ret
        exact ⟨rfl, hbw.trans (hb3.mono hbw.size)⟩
  · go_wp2_with fail
    refine (c2 _ hb1).mono ?_
    rintro e w2 ⟨rfl, hb2⟩
    clear c2
    go_wp2_with fail
    go_ret
    exact ⟨rfl, hb1.trans (hb2.mono hb1.size)⟩
end Go.Proofs.YtjblaomjadpbfaaDoor
