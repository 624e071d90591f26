/- Whole numbers: a difference. -/
import Derived.Test.YtekjcmejnhhpaaaDoorBigAdd
import Derived.Test.YtekjcmejnhhpaaaDoorSubPure
namespace Go.Proofs.YtekjcmejnhhpaaaDoor
open Go.RowKit

theorem wrapU' (n : Int) : IntKind.u64.wrap n = n % 18446744073709551616 := by simp [IntKind.wrap, IntKind.bits, IntKind.signed]
set_option maxHeartbeats 2000000 in
theorem bigSub_any (B B' n m : Nat) (u v : Value) (w : World) (hu : Wd w B u n) (hv : Wd w B' v m) (hle : m ≤ n) (hs : Few n) :
    Calls Tryd.prog 43 #[u, v] w fun e w' => ∃ x, e = .returned x ∧ Wd w' w.heap.size x (n - m) ∧ Below w.heap.size w w' := by
  have hmk := fun (K : Nat) (hK : K ≤ 1000) W => run_make_row' (P := Tryd.prog) 42 62 (.int .u32 0) 4 Tryd.underlying42 (by kernel_rfl) rfl .i64 .i64 K (by omega) (by omega) W
  obtain ⟨a1, k1, c1, rfl, hk1, hc1, hk1000, hn1, hp1, h1⟩ := hu
  obtain ⟨a2, k2, c2, rfl, hk2, hc2, hk2000, hn2, hp2, h2⟩ := hv
  have hk12 := wd_many hs hp1
  have HN : Hid (n < 4294967296 ^ k1 ∧ m < 4294967296 ^ k2 ∧ m ≤ n) := ⟨hn1, hn2, hle⟩
  have hmk1 := hmk k1 (by omega) w
  clear hn1 hn2 hp1 hp2 hmk
  have hR := World.rowIs_made w (.int .u32 0) k1 62
  have hB := (Below.refl w.heap.size w).alloc (Nat.le_refl _) (.cells (madeCells #[.int .u32 0] k1) 62)
  go_enter Tryd.func43, Tryd.ntmps43
  go_wp2_with fail
  generalize w.alloc (.cells (madeCells #[.int .u32 0] k1) 62) = wM at *
  clear hmk1
  go_loopg [6, 7] k1 (fun g s6 s7 wr => ∃ i : Nat, i + g = k1 ∧ s6 = .int .u64 (bw n m i : Nat) ∧ s7 = .int .i64 i ∧ wr.rowIs w.heap.size 62 k1 (fun j => if j < i then .int .u32 (wd (n - m) j : Nat) else .int .u32 0) ∧ Below w.heap.size w wr)
  case atStart => exact ⟨0, by omega, by rw [bw_zero]; rfl, rfl, hR.congr fun i hi => by rw [if_neg (by omega)], hB⟩
  case round =>
    obtain ⟨i, hi, rfl, rfl, hrow, hbw⟩ := hrel
    have HI : Hid (i + gk = k1) := hi
    have hik : i ≤ k1 := by omega
    have hcy := bw_le n m i
    clear hi
    by_cases hlt : i < k1
    · rcases h1 with h1 | ⟨b1, o1, rfl, _, hb1, hw1⟩
      · omega
      have x0 := (hbw.cell (p := ⟨b1, o1 + i, none⟩) hb1).trans (hw1 i hlt)
      have hi2 : (i : Int) < (k1 : Int) := by omega
      have hi1 : (0 : Int) ≤ (i : Int) := by omega
      have hsm := wd_diff n m i HN.out.2.2
      have hnx := bw_next n m i
      have ha := wd_lt n i
      have hb := wd_lt m i
      have HLT : Hid (wd (n - m) i < 4294967296) := wd_lt _ _
      have f0 := hrow.frozen i
      have e0 := hrow.cell (i := i) (by omega)
      rw [if_neg (by omega)] at e0
      have HROW : Hid (wr.rowIs w.heap.size 62 k1 (fun j => if j < i then .int .u32 (wd (n - m) j : Nat) else .int .u32 0)) := hrow
      by_cases hl2 : i < k2
      · rcases h2 with h2 | ⟨b2, o2, rfl, _, hb2, hw2⟩
        · omega
        have y0 := (hbw.cell (p := ⟨b2, o2 + i, none⟩) hb2).trans (hw2 i hl2)
        have hj2 : (i : Int) < (k2 : Int) := by omega
        generalize wd n i = x at *
        generalize wd m i = y at *
        generalize bw n m i = z at *
        have HSM : Hid ((wd (n - m) i + y + z) % 4294967296 = x) := hsm
        have HNX : Hid (bw n m (i + 1) = if x < y + z then 1 else 0) := hnx
        clear hsm hnx hrow
        go_wp2_with fail
        go_roundg (gk - 1)
        case measure => have := HI.out; omega
        case rel =>
          have h3 := HI.out
          refine ⟨i + 1, by omega, ?_, by go_num, ?_, ?_⟩
          · rw [HNX.out]
            refine congrArg (Value.int .u64) ?_
            simp only [wrapU']
            split <;> omega
          · refine (HROW.out.set i _).congr fun j hj => ?_
            by_cases h : j = i
            · rw [if_pos h, if_pos (by omega), h]
              refine congrArg (Value.int .u32) ?_
              have h5 := HSM.out
              have h6 := HLT.out
              simp only [wrapU']
              omega
            · rw [if_neg h]
              by_cases h' : j < i
              · rw [if_pos h', if_pos (by omega)]
              · rw [if_neg h', if_neg (by omega)]
          · exact hbw.setCell (p := ⟨w.heap.size, i, none⟩) (Nat.le_refl _) _
      · have hm0 : wd m i = 0 := wd_none HN.out.2.1 (by omega)
        rw [hm0] at hsm hnx
        have hj2 : ¬ (i : Int) < (k2 : Int) := by omega
        generalize wd n i = x at *
        generalize bw n m i = z at *
        have HSM : Hid ((wd (n - m) i + 0 + z) % 4294967296 = x) := hsm
        have HNX : Hid (bw n m (i + 1) = if x < 0 + z then 1 else 0) := hnx
        clear hsm hnx hrow hm0
        go_wp2_with fail
        go_roundg (gk - 1)
        case measure => have := HI.out; omega
        case rel =>
          have h3 := HI.out
          refine ⟨i + 1, by omega, ?_, by go_num, ?_, ?_⟩
          · rw [HNX.out]
            refine congrArg (Value.int .u64) ?_
            simp only [wrapU']
            split <;> omega
          · refine (HROW.out.set i _).congr fun j hj => ?_
            by_cases h : j = i
            · rw [if_pos h, if_pos (by omega), h]
              refine congrArg (Value.int .u32) ?_
              have h5 := HSM.out
              have h6 := HLT.out
              simp only [wrapU']
              omega
            · rw [if_neg h]
              by_cases h' : j < i
              · rw [if_pos h', if_pos (by omega)]
              · rw [if_neg h', if_neg (by omega)]
          · exact hbw.setCell (p := ⟨w.heap.size, i, none⟩) (Nat.le_refl _) _
    · have hik2 : i = k1 := by omega
      have ht := trim_any w.heap.size w.heap.size 0 k1 k1 (n - m) wr (Nat.le_refl _) (Nat.le_refl _) (by unfold maxLen; omega) (by omega) hrow.lt (by have := HN.out; omega) (fun j hj => by
        rw [Nat.zero_add, hrow.cell (i := j) hj, if_pos (by omega)])
      have hi2 : ¬ (i : Int) < (k1 : Int) := by omega
      clear hik2 hrow
      go_wp2_with fail
      refine ht.mono ?_
      rintro e w' ⟨v, rfl, hv, rfl⟩
      go_wp2_with fail
      go_ret
      exact ⟨v, rfl, hv, hbw⟩
end Go.Proofs.YtekjcmejnhhpaaaDoor
