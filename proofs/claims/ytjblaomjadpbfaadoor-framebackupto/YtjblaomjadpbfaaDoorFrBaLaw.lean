/- FrameBack: the law's walk. -/
import Derived.Test.YtjblaomjadpbfaaDoorFrOnLaw
namespace Go.Proofs.YtjblaomjadpbfaaDoor
open Go.RowKit

theorem wrapL_ge (t : List UInt8) : t.length ≤ (wrapL t).length ∧ (wrapL t).length % 128 = 0 := by
  obtain ⟨k, h1, h2, _⟩ := wrapL_len t.length t (Nat.le_refl _)
  omega

set_option maxRecDepth 20000 in
set_option maxHeartbeats 2000000 in
theorem back_law (v : Value) (ts : List (List UInt8)) (m : Int) (w : World) (hs : (joinW ts).length ≤ 140737488351232) (hv : TRow w v ts) (hm : w.cell? ⟨0, 0, none⟩ = some (.int .i64 m)) :
    Calls Tryd.prog 5 #[v] w (fun e w' => e = .returned (.bool true) ∧ Below w.heap.size w w') := by
  have c1 := fun W => unwrap_any (joinW ts) W hs
  have hlt0 : 0 < w.heap.size := World.block_lt_of_cell? _ _ hm
  have c2 : ∀ W, Below w.heap.size w W → Calls Tryd.prog 15 #[] W (fun e w' => e = .returned (.bool true) ∧ Below W.heap.size W w') := fun W hb => frames_any m W ((World.cell?_of_block (a := ⟨0, 0, none⟩) (hb.block 0 hlt0)).trans hm)
  obtain ⟨va, vc, rfl, hr⟩ := hv
  obtain ⟨n, hn⟩ : ∃ n, n = ts.length := ⟨_, rfl⟩
  rw [← hn] at hr ⊢
  have hlen := joinW_len ts
  have hln : n ≤ 140737488351232 := by omega
  have HN : Hid (n = ts.length) := hn
  have HS : Hid ((joinW ts).length ≤ 140737488351232) := hs
  have HR : Hid (0 < n → ∃ b off, va = some (⟨b, off, none⟩ : Addr) ∧ ∀ i, i < n → w.cell? ⟨b, off + i, none⟩ = some (.string ⟨(ts.getD i []).toArray⟩)) := hr
  clear hr hn hlen hs hm hlt0
  go_enter Tryd.func5, Tryd.ntmps5
  go_wp2_with fail
  go_loopg [3, 4] n (fun g s3 s4 wr => ∃ i : Nat, i + g = n ∧ s4 = .int .i64 i ∧ s3 = .string ⟨(joinW (ts.take i)).toArray⟩ ∧ Below w.heap.size w wr)
  case atStart => exact ⟨0, by omega, rfl, rfl, Below.refl _ _⟩
  case round =>
    obtain ⟨i, hi, rfl, rfl, hb⟩ := hrel
    have HI : Hid (i + gk = n) := hi
    have hin : i ≤ n := by omega
    clear hi
    have hjl := joinW_part ts i
    have htz : (⟨(joinW (ts.take i)).toArray⟩ : ByteArray).size ≤ 140737488351232 := by rw [ba_size]; have := HS.out; omega
    by_cases hlt : i < n
    · have h0 : (0 : Int) ≤ (i : Int) := by omega
      have h1 : (i : Int) < (n : Int) := by omega
      obtain ⟨ab, ao, ha, hca⟩ := HR.out (by omega)
      subst ha
      have e1 := hca i hlt
      have g1 : wr.cell? ⟨ab, ao + i, none⟩ = some (.string ⟨(ts.getD i []).toArray⟩) := (World.cell?_of_block (a := ⟨ab, ao + i, none⟩) (hb.block ab (World.block_lt_of_cell? _ _ e1))).trans e1
      have hjt := joinW_take (ts := ts) (i := i) (by rw [← HN.out]; exact hlt)
      have hj2 := joinW_part ts (i + 1)
      rw [hjt, List.length_append] at hj2
      have c3 := wrap_any (ts.getD i []) wr (by have := HS.out; omega)
      have HCAT : Hid ((⟨(joinW (ts.take i)).toArray⟩ : ByteArray) ++ ⟨(wrapL (ts.getD i [])).toArray⟩ = ⟨(joinW (ts.take (i + 1))).toArray⟩) := by show _ = _; rw [ba_app, hjt]
      have hwz : (⟨(wrapL (ts.getD i [])).toArray⟩ : ByteArray).size ≤ 140737488351232 := by rw [ba_size]; have := HS.out; omega
      obtain ⟨hge, hmod⟩ := wrapL_ge (ts.getD i [])
      have hg2 : (⟨(ts.getD i []).toArray⟩ : ByteArray).size ≤ (⟨(wrapL (ts.getD i [])).toArray⟩ : ByteArray).size := by rw [ba_size, ba_size]; exact hge
      have hm2 : (⟨(wrapL (ts.getD i [])).toArray⟩ : ByteArray).size % 128 = 0 := by rw [ba_size]; exact hmod
      generalize (⟨(ts.getD i []).toArray⟩ : ByteArray) = X at *
      generalize (⟨(wrapL (ts.getD i [])).toArray⟩ : ByteArray) = Y at *
      generalize (⟨(joinW (ts.take i)).toArray⟩ : ByteArray) = Z at *
      have HLT : Hid (i < n) := hlt
      clear hca hlt hjt hj2 hjl hge hmod
      have l1 : ab < wr.heap.size := World.block_lt_of_cell? _ _ g1
      have hy1 : ¬ ((Y.size : Int) < (X.size : Int)) := by omega
      have hy2 : ((Y.size : Int) % 128 != 0) = false := by rw [bne_eq_false_iff_eq]; omega
      go_wp2_with fail
      refine c3.mono ?_
      rintro e w3 ⟨rfl, hb3⟩
      have g3 : w3.cell? ⟨ab, ao + i, none⟩ = some (.string X) := (World.cell?_of_block (a := ⟨ab, ao + i, none⟩) (hb3.block ab l1)).trans g1
      have hb4 : Below w.heap.size w w3 := hb.trans (hb3.mono hb.size)
      clear c3 hg2 hm2
      go_wp2_with fail
      go_roundg (gk - 1)
      case measure => have := HI.out; have := HLT.out; omega
      case rel => exact ⟨i + 1, by have := HI.out; have := HLT.out; omega, by go_num, by rw [HCAT.out], hb4⟩
    · have h1 : ¬ (i : Int) < (n : Int) := by omega
      have he : joinW (ts.take i) = joinW ts := by rw [List.take_of_length_le (by rw [← HN.out]; omega)]
      rw [he]
      generalize (⟨(joinW ts).toArray⟩ : ByteArray) = JB at *
      clear hjl htz he hlt
      go_wp2_with fail
      refine (c1 _).mono ?_
      rintro e w3 ⟨hb3, h3⟩
      have hb4 : Below w.heap.size w w3 := hb.trans (hb3.mono hb.size)
      clear c1
      rcases h3 with ⟨v, ts', hj, ht, rfl⟩ | ⟨hno, _⟩
      rotate_left
      · exact absurd rfl (hno ts)
      · obtain rfl := joinW_inj _ _ hj
        obtain ⟨ua, uc, rfl, hu⟩ := ht.row
        rw [← HN.out] at hu ⊢
        have HU : Hid (0 < n → ∃ b off, ua = some (⟨b, off, none⟩ : Addr) ∧ ∀ i, i < n → w3.cell? ⟨b, off + i, none⟩ = some (.string ⟨(ts.getD i []).toArray⟩)) := hu
        clear hu ht hj
        go_wp2_with fail
        refine (c2 _ hb4).mono ?_
        rintro e w4 ⟨rfl, hb5⟩
        have hb6 : Below w.heap.size w w4 := hb4.trans (hb5.mono hb4.size)
        clear c2
        go_wp2_with fail
        clear HI h1 hin
        go_loopg [8] n (fun g s8 wr => ∃ j : Nat, j + g = n ∧ s8 = .int .i64 j ∧ Below w4.heap.size w4 wr)
        case atStart => exact ⟨0, by omega, rfl, Below.refl _ _⟩
        case round =>
          obtain ⟨j, hj, rfl, hbj⟩ := hrel
          have HI : Hid (j + gk = n) := hj
          have hjn : j ≤ n := by omega
          clear hj
          have hbw : Below w.heap.size w wr := hb6.trans (hbj.mono hb6.size)
          by_cases hlt : j < n
          · have h0 : (0 : Int) ≤ (j : Int) := by omega
            have h1 : (j : Int) < (n : Int) := by omega
            obtain ⟨ab, ao, ha, hca⟩ := HR.out (by omega)
            obtain ⟨bb, bo, hb', hcb⟩ := HU.out (by omega)
            subst ha hb'
            have e1 := hca j hlt
            have e2 := hcb j hlt
            have l1 : ab < w.heap.size := World.block_lt_of_cell? _ _ e1
            have l2 : bb < w3.heap.size := World.block_lt_of_cell? _ _ e2
            have hb37 : Below w3.heap.size w3 wr := hb5.trans (hbj.mono hb5.size)
            have g1 : wr.drew.cell? ⟨ab, ao + j, none⟩ = some (.string ⟨(ts.getD j []).toArray⟩) := (World.cell?_of_block (a := ⟨ab, ao + j, none⟩) (hbw.drew.block ab l1)).trans e1
            have g2 : wr.drew.cell? ⟨bb, bo + j, none⟩ = some (.string ⟨(ts.getD j []).toArray⟩) := (World.cell?_of_block (a := ⟨bb, bo + j, none⟩) (hb37.drew.block bb l2)).trans e2
            generalize (⟨(ts.getD j []).toArray⟩ : ByteArray) = X at *
            have HLT : Hid (j < n) := hlt
            clear hca hcb e1 e2 l1 l2 hlt hb37
            go_wp2_with fail
            go_region
            go_wp2_with fail
            go_roundg (gk - 1)
            case measure => have := HI.out; have := HLT.out; omega
            case rel => exact ⟨j + 1, by have := HI.out; have := HLT.out; omega, by go_num, hbj.drew⟩
          · have h1 : ¬ (j : Int) < (n : Int) := by omega
            go_wp2_with fail
            go_ret
            exact ⟨rfl, hbw⟩
end Go.Proofs.YtjblaomjadpbfaaDoor
