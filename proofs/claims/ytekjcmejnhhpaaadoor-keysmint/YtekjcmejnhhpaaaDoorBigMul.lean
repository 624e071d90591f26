/- Whole numbers: ten times a number. -/
import Derived.Test.YtekjcmejnhhpaaaDoorBigAdd
namespace Go.Proofs.YtekjcmejnhhpaaaDoor
open Go.RowKit

theorem prod_lt {n k : Nat} (hn : n < 4294967296 ^ k) : n * 10 < 4294967296 ^ (k + 1) := by
  rw [wpow]
  omega

set_option maxHeartbeats 4000000 in
theorem bigTen_any (B B' n : Nat) (u v : Value) (w : World) (hu : Wd w B u n) (hv : Wd w B' v 10) (hs : Few n) :
    Calls Tryd.prog 35 #[u, v] w fun e w' => ∃ x, e = .returned x ∧ Wd w' w.heap.size x (n * 10) ∧ Below w.heap.size w w' := by
  have hmk := fun (K : Nat) (hK : K ≤ 1000) W => run_make_row' (P := Tryd.prog) 42 62 (.int .u32 0) 4 Tryd.underlying42 (by kernel_rfl) rfl .i64 .i64 K (by omega) (by omega) W
  obtain ⟨a2, k2, c2, rfl, hk2, hc2, _, hn2, hp2, h2⟩ := hv
  have hk21 : k2 = 1 := by
    have h3 := wd_few (n := 10) (by omega) hp2
    have h4 : k2 ≠ 0 := by rintro rfl; simp at hn2
    have h5 := hp2 h4
    rcases (show k2 = 1 ∨ k2 = 2 by omega) with rfl | rfl
    · rfl
    · simp at h5
  subst hk21
  rcases h2 with h2 | ⟨b2, o2, rfl, _, hb2, hw2⟩
  · omega
  have y0 := hw2 0 (by omega)
  simp only [Nat.add_zero, show wd 10 0 = 10 from rfl] at y0
  clear hw2 hn2 hp2
  obtain ⟨a1, k1, c1, rfl, hk1, hc1, _, hn1, hp1, h1⟩ := hu
  have hk12 := wd_many hs hp1
  have HN : Hid (n < 4294967296 ^ k1) := hn1
  by_cases hk0 : k1 = 0
  · subst hk0
    have hn0 : n = 0 := by simp at hn1; exact hn1
    subst hn0
    clear hn1 hp1 h1 hmk
    go_enter Tryd.func35, Tryd.ntmps35
    go_wp2_with fail
    go_ret
    exact ⟨_, rfl, ⟨none, 0, 0, rfl, by omega, by unfold maxLen; omega, by omega, by simp, by simp, Or.inl rfl⟩, Below.refl _ _⟩
  · rcases h1 with h1 | ⟨b1, o1, rfl, _, hb1, hw1⟩
    · omega
    have HW : Hid (Wds w b1 o1 n k1) := hw1
    have hmk1 := hmk (k1 + 1) (by omega) w
    clear hn1 hp1 hmk hw1
    rw [show (((k1 + 1 : Nat) : Int)) = (k1 : Int) + 1 by omega] at hmk1
    obtain ⟨K, hK⟩ : ∃ K, K = k1 + 1 := ⟨_, rfl⟩
    rw [← hK] at hmk1
    have HK : Hid (K = k1 + 1) := hK
    have hR := World.rowIs_made w (.int .u32 0) K 62
    have hB := (Below.refl w.heap.size w).alloc (Nat.le_refl _) (.cells (madeCells #[.int .u32 0] K) 62)
    have hk0' : ¬ (k1 : Int) = 0 := by omega
    have hk0b : ((k1 : Int) == 0) = false := by simp; omega
    clear hK
    go_enter Tryd.func35, Tryd.ntmps35
    go_wp2_with fail
    generalize w.alloc (.cells (madeCells #[.int .u32 0] K) 62) = wM at *
    clear hmk1
    go_loopg [6] k1 (fun g s6 wr => ∃ i : Nat, i + g = k1 ∧ s6 = .int .i64 i ∧ wr.rowIs w.heap.size 62 K (fun j => if j < i then .int .u32 (wd (n * 10) j) else if j = i then .int .u32 (my n 10 i : Nat) else .int .u32 0) ∧ Below w.heap.size w wr)
    case atStart => exact ⟨0, by omega, rfl, hR.congr fun i hi => by rw [if_neg (by omega), my_zero]; simp, hB⟩
    case round =>
      obtain ⟨i, hi, rfl, hrow, hbw⟩ := hrel
      obtain ⟨gK, hgK⟩ : ∃ x, x = gk := ⟨_, rfl⟩
      subst hgK
      obtain ⟨wR, hwR⟩ : ∃ x, x = wr := ⟨_, rfl⟩
      subst hwR
      have HI : Hid (i + gK = k1) := hi
      have hik : i ≤ k1 := by omega
      clear hi
      by_cases hlt : i < k1
      · have x0 := (hbw.cell (p := ⟨b1, o1 + i, none⟩) hb1).trans (HW.out i hlt)
        have y1 := (hbw.cell (p := ⟨b2, o2, none⟩) hb2).trans y0
        have hi2 : (i : Int) < (k1 : Int) := by omega
        have hi3 : (i : Int) < (K : Int) := by have := HK.out; omega
        have hi4 : (i : Int) + 1 < (K : Int) := by have := HK.out; omega
        have hi1 : (0 : Int) ≤ (i : Int) := by omega
        have hsm := wd_prod n 10 i
        have hnx := my_next n 10 i
        have ha := wd_lt n i
        have hz := my_lt n 10 i (by omega)
        have f0 := hrow.frozen i
        have f1 := hrow.frozen (i + 1)
        have e0 := hrow.cell (i := i) (by have := HK.out; omega)
        have e1 := hrow.cell (i := i + 1) (by have := HK.out; omega)
        rw [if_neg (by omega), if_pos rfl] at e0
        rw [if_neg (by omega), if_neg (by omega)] at e1
        have HROW : Hid (wR.rowIs w.heap.size 62 K (fun j => if j < i then .int .u32 (wd (n * 10) j) else if j = i then .int .u32 (my n 10 i : Nat) else .int .u32 0)) := hrow
        generalize wd n i = x at *
        generalize my n 10 i = z at *
        have HSM : Hid (wd (n * 10) i = (z + x * 10) % 4294967296) := hsm
        have HNX : Hid (my n 10 (i + 1) = (z + x * 10) / 4294967296) := hnx
        have hx2 : (x : Int) < 4294967296 := by omega
        have hz2 : (z : Int) < 10 := by omega
        have hz3 : (0 : Int) ≤ (z : Int) := by omega
        have hx3 : (0 : Int) ≤ (x : Int) := by omega
        clear hsm hnx hrow
        go_wp2_with fail
        go_loopg [7, 8] 1 (fun g s7 s8 wr => (g = 1 ∧ s7 = .int .u64 0 ∧ s8 = .int .i64 0 ∧ wr = wR) ∨ (g = 0 ∧ s7 = .int .u64 (((x : Int) * 10 + z) / 4294967296) ∧ s8 = .int .i64 1 ∧ wr.rowIs w.heap.size 62 K (fun j => if j < i + 1 then .int .u32 (wd (n * 10) j) else .int .u32 0) ∧ Below w.heap.size w wr))
        case atStart => exact Or.inl ⟨rfl, rfl, rfl, rfl⟩
        case round =>
          rcases hrel with ⟨rfl, rfl, rfl, rfl⟩ | ⟨rfl, rfl, rfl, hr3, hb3⟩
          · go_wp2_with fail
            go_region
            go_wp2_with fail
            go_roundg 0
            case measure => omega
            case rel =>
              refine Or.inr ⟨rfl, rfl, rfl, ?_, (hbw.setCell (p := ⟨w.heap.size, i, none⟩) (Nat.le_refl _) _).drew⟩
              refine World.rowIs.congr (w := wr.setCell ⟨w.heap.size, i, none⟩ (.int .u32 (((x : Int) * 10 + z) % 4294967296))) (HROW.out.set i _) fun j hj => ?_
              by_cases h : j = i
              · rw [if_pos h, if_pos (by omega), h, HSM.out]; exact congrArg (Value.int .u32) (by omega)
              · rw [if_neg h]
                by_cases h' : j < i
                · rw [if_pos h', if_pos (by omega)]
                · rw [if_neg h', if_neg h, if_neg (by omega)]
          · have f2 := hr3.frozen (i + 1)
            have e2 := hr3.cell (i := i + 1) (by have := HK.out; omega)
            rw [if_neg (by omega)] at e2
            have HR3 : Hid (wr.rowIs w.heap.size 62 K (fun j => if j < i + 1 then .int .u32 (wd (n * 10) j) else .int .u32 0)) := hr3
            obtain ⟨cc, hcc⟩ : ∃ cc : Int, cc = ((x : Int) * 10 + z) / 4294967296 := ⟨_, rfl⟩
            rw [← hcc]
            have HCC : Hid (cc = ((my n 10 (i + 1) : Nat) : Int)) := by show _ = _; rw [hcc, HNX.out]; omega
            have hc1 : 0 ≤ cc := by omega
            have hc2 : cc < 10 := by omega
            clear hr3 f0 f1 e0 e1 x0 y1 hcc
            go_wp2_with fail
            go_roundg (gK - 1)
            case measure => have := HI.out; omega
            case rel =>
              refine ⟨i + 1, by have := HI.out; omega, by go_num, ?_, hb3.setCell (p := ⟨w.heap.size, i + 1, none⟩) (Nat.le_refl _) _⟩
              refine (HR3.out.set (i + 1) _).congr fun j hj => ?_
              by_cases h : j = i + 1
              · rw [if_pos h, if_neg (by omega), if_pos h, HCC.out]
              · rw [if_neg h]
                by_cases h' : j < i + 1
                · rw [if_pos h', if_pos h']
                · rw [if_neg h', if_neg h', if_neg h]
      · have hik2 : i = k1 := by omega
        have HSM : Hid (wd (n * 10) k1 = my n 10 i) := by
          show _ = _
          rw [wd_prod, wd_none HN.out (Nat.le_refl _), hik2]
          have := my_lt n 10 k1 (by omega)
          omega
        have ht := trim_any w.heap.size w.heap.size 0 K K (n * 10) wR (Nat.le_refl _) (Nat.le_refl _) (by have := HK.out; unfold maxLen; omega) (by have := HK.out; omega) (by have := hrow.lt; exact this) (by rw [HK.out]; exact prod_lt HN.out) (fun j hj => by
          rw [Nat.zero_add]
          have h := hrow.cell (i := j) hj
          rw [h]
          by_cases h1 : j = k1
          · rw [if_neg (by omega), if_pos (by omega), h1, HSM.out]
          · rw [if_pos (by have := HK.out; omega)])
        have hi2 : ¬ (i : Int) < (k1 : Int) := by omega
        clear hik2 hrow
        go_wp2_with fail
        refine ht.mono ?_
        rintro e w' ⟨v, rfl, hv, rfl⟩
        go_wp2_with fail
        go_ret
        exact ⟨v, rfl, hv, hbw⟩
end Go.Proofs.YtekjcmejnhhpaaaDoor
