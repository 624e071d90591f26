/- Whole numbers: sums. -/
import Derived.Test.YtekjcmejnhhpaaaDoorBigMore
import Derived.Test.YtekjcmejnhhpaaaDoorAddPure
import Derived.Deep.CutRange
import Derived.Deep.RegionHeld3
import Derived.Deep.RegionWith
namespace Go.Proofs.YtekjcmejnhhpaaaDoor
open Go.RowKit

/-- a slice at least as long as another -/
def Longer (u v : Value) : Prop := ∃ a k c a' k' c', u = .slice a k c ∧ v = .slice a' k' c' ∧ k' ≤ k

set_option maxHeartbeats 2000000 in
theorem bigAdd_any (B B' n m : Nat) (u v : Value) (w : World) (hu : Wd w B u n) (hv : Wd w B' v m) (hs : Few n ∧ Few m) :
    Calls Tryd.prog 34 #[u, v] w fun e w' => ∃ x, e = .returned x ∧ Wd w' w.heap.size x (n + m) ∧ Below w.heap.size w w' := by
  have hmk := fun (K : Nat) (hK : K ≤ 1000) W => run_make_row' (P := Tryd.prog) 42 62 (.int .u32 0) 4 Tryd.underlying42 (by kernel_rfl) rfl .i64 .i64 K (by omega) (by omega) W
  have HU : Hid (Wd w B u n) := hu
  have HV : Hid (Wd w B' v m) := hv
  have HS : Hid (Few n ∧ Few m) := hs
  obtain ⟨a, k, c, rfl, _⟩ := hu
  obtain ⟨a', k', c', rfl, _⟩ := hv
  go_enter Tryd.func34, Tryd.ntmps34
  go_upto_if 12 with fail
  go_cut [0, 1] from 8 to 18 (fun s0 s1 wc => (∃ n' m' B1 B2 : Nat, Wd w B1 s0 n' ∧ Wd w B2 s1 m' ∧ Longer s0 s1 ∧ n' + m' = n + m ∧ Few n' ∧ Few m') ∧ wc = w)
  case first =>
    by_cases hl : k < k'
    · have hl2 : (k : Int) < (k' : Int) := by omega
      go_wp2_with fail
      go_meet
      case rel => exact ⟨⟨m, n, B', B, HV.out, HU.out, ⟨_, _, _, _, _, _, rfl, rfl, by omega⟩, by omega, HS.out.2, HS.out.1⟩, rfl⟩
    · have hl2 : ¬ (k : Int) < (k' : Int) := by omega
      go_wp2_with fail
      go_meet
      case rel => exact ⟨⟨n, m, B, B', HU.out, HV.out, ⟨_, _, _, _, _, _, rfl, rfl, by omega⟩, by omega, HS.out.1, HS.out.2⟩, rfl⟩
  case rest =>
  obtain ⟨⟨n', m', B1, B2, h1, h2, hlg, hsum, hn64, hm64⟩, rfl⟩ := hcut
  have HSUM : Hid (n' + m' = n + m) := hsum
  clear hsum HU HV HS hs
  obtain ⟨a1, k1, c1, rfl, hk1, hc1, hk1000, hn1, hp1, h1⟩ := h1
  obtain ⟨a2, k2, c2, rfl, hk2, hc2, hk2000, hn2, hp2, h2⟩ := h2
  obtain ⟨_, _, _, _, _, _, e1, e2, hle⟩ := hlg
  cases e1
  cases e2
  have hk12 := wd_many hn64 hp1
  have hn2' : m' < 4294967296 ^ k1 := Nat.lt_of_lt_of_le hn2 (Nat.pow_le_pow_right (by omega) hle)
  have HN : Hid (n' < 4294967296 ^ k1 ∧ m' < 4294967296 ^ k2 ∧ m' < 4294967296 ^ k1) := ⟨hn1, hn2, hn2'⟩
  have hmk1 := hmk (k1 + 1) (by omega) wc
  clear hn1 hn2 hn2' hp1 hp2 hmk
  rw [show (((k1 + 1 : Nat) : Int)) = (k1 : Int) + 1 by omega] at hmk1
  obtain ⟨K, hK⟩ : ∃ K, K = k1 + 1 := ⟨_, rfl⟩
  rw [← hK] at hmk1
  have HK : Hid (K = k1 + 1) := hK
  have hR := World.rowIs_made wc (.int .u32 0) K 62
  have hB := (Below.refl wc.heap.size wc).alloc (Nat.le_refl _) (.cells (madeCells #[.int .u32 0] K) 62)
  have hkK : (k1 : Int) < (K : Int) := by omega
  clear hK
  go_wp2_with fail
  generalize wc.alloc (.cells (madeCells #[.int .u32 0] K) 62) = wM at *
  clear hmk1
  go_loopg [6, 7] k1 (fun g s6 s7 wr => ∃ i : Nat, i + g = k1 ∧ s6 = .int .u64 (cy n' m' i : Nat) ∧ s7 = .int .i64 i ∧ wr.rowIs wc.heap.size 62 K (fun j => if j < i then .int .u32 (wd (n' + m') j) else .int .u32 0) ∧ Below wc.heap.size wc wr)
  case atStart => exact ⟨0, by omega, by rw [cy_zero]; rfl, rfl, hR.congr fun i hi => by rw [if_neg (by omega)], hB⟩
  case round =>
    obtain ⟨i, hi, rfl, rfl, hrow, hbw⟩ := hrel
    have HI : Hid (i + gk = k1) := hi
    have hik : i ≤ k1 := by omega
    have hcy := cy_le n' m' i
    clear hi
    by_cases hlt : i < k1
    · rcases h1 with h1 | ⟨b1, o1, rfl, _, hb1, hw1⟩
      · omega
      have x0 := (hbw.cell (p := ⟨b1, o1 + i, none⟩) hb1).trans (hw1 i hlt)
      have hi2 : (i : Int) < (k1 : Int) := by omega
      have hi3 : (i : Int) < (K : Int) := by have := HK.out; omega
      have hi1 : (0 : Int) ≤ (i : Int) := by omega
      have hsm := wd_sum n' m' i
      have hnx := cy_next n' m' i
      have ha := wd_lt n' i
      have hb := wd_lt m' i
      have f0 := hrow.frozen i
      have e0 := hrow.cell (i := i) (by have := HK.out; omega)
      rw [if_neg (by omega)] at e0
      have HROW : Hid (wr.rowIs wc.heap.size 62 K (fun j => if j < i then .int .u32 (wd (n' + m') j) else .int .u32 0)) := hrow
      by_cases hl2 : i < k2
      · rcases h2 with h2 | ⟨b2, o2, rfl, _, hb2, hw2⟩
        · omega
        have y0 := (hbw.cell (p := ⟨b2, o2 + i, none⟩) hb2).trans (hw2 i hl2)
        have hj2 : (i : Int) < (k2 : Int) := by omega
        generalize wd n' i = x at *
        generalize wd m' i = y at *
        generalize cy n' m' i = z at *
        have HSM : Hid (wd (n' + m') i = (z + x + y) % 4294967296) := hsm
        have HNX : Hid (cy n' m' (i + 1) = (z + x + y) / 4294967296) := hnx
        clear hsm hnx hrow
        go_wp2_with fail
        go_roundg (gk - 1)
        case measure => have := HI.out; omega
        case rel =>
          refine ⟨i + 1, by have := HI.out; omega, ?_, by go_num, ?_, ?_⟩
          · rw [HNX.out]; exact congrArg (Value.int .u64) (by omega)
          · refine (HROW.out.set i _).congr fun j hj => ?_
            by_cases h : j = i
            · rw [if_pos h, if_pos (by omega), h, HSM.out]; exact congrArg (Value.int .u32) (by omega)
            · rw [if_neg h]
              by_cases h' : j < i
              · rw [if_pos h', if_pos (by omega)]
              · rw [if_neg h', if_neg (by omega)]
          · exact hbw.setCell (p := ⟨wc.heap.size, i, none⟩) (Nat.le_refl _) _
      · have hm0 : wd m' i = 0 := wd_none HN.out.2.1 (by omega)
        rw [hm0] at hsm hnx
        have hj2 : ¬ (i : Int) < (k2 : Int) := by omega
        generalize wd n' i = x at *
        generalize cy n' m' i = z at *
        have HSM : Hid (wd (n' + m') i = (z + x + 0) % 4294967296) := hsm
        have HNX : Hid (cy n' m' (i + 1) = (z + x + 0) / 4294967296) := hnx
        clear hsm hnx hrow hm0
        go_wp2_with fail
        go_roundg (gk - 1)
        case measure => have := HI.out; omega
        case rel =>
          refine ⟨i + 1, by have := HI.out; omega, ?_, by go_num, ?_, ?_⟩
          · rw [HNX.out]; exact congrArg (Value.int .u64) (by omega)
          · refine (HROW.out.set i _).congr fun j hj => ?_
            by_cases h : j = i
            · rw [if_pos h, if_pos (by omega), h, HSM.out]; exact congrArg (Value.int .u32) (by omega)
            · rw [if_neg h]
              by_cases h' : j < i
              · rw [if_pos h', if_pos (by omega)]
              · rw [if_neg h', if_neg (by omega)]
          · exact hbw.setCell (p := ⟨wc.heap.size, i, none⟩) (Nat.le_refl _) _
    · have hik2 : i = k1 := by omega
      have HSM : Hid (wd (n' + m') k1 = cy n' m' i) := by
        show _ = _
        rw [wd_sum, wd_none HN.out.1 (Nat.le_refl _), wd_none HN.out.2.2 (Nat.le_refl _), hik2]
        have := cy_le n' m' k1
        omega
      have f0 := hrow.frozen k1
      have e0 := hrow.cell (i := k1) (by have := HK.out; omega)
      rw [if_neg (by omega)] at e0
      have HROW : Hid (wr.rowIs wc.heap.size 62 K (fun j => if j < i then .int .u32 (wd (n' + m') j) else .int .u32 0)) := hrow
      have ht := fun (v : Int) (hv : v = (cy n' m' i : Nat)) => trim_any wc.heap.size wc.heap.size 0 K K (n' + m') (wr.setCell ⟨wc.heap.size, k1, none⟩ (.int .u32 v)) (Nat.le_refl _) (Nat.le_refl _) (by have := HK.out; unfold maxLen; omega) (by have := HK.out; omega) (by have := hrow.lt; simpa [World.setCell] using this) (by rw [HK.out]; exact sum_lt HN.out.1 HN.out.2.2) (fun j hj => by
        rw [Nat.zero_add]
        have h := (HROW.out.set k1 (.int .u32 v)).cell (i := j) hj
        rw [h]
        by_cases h1 : j = k1
        · rw [if_pos h1, h1, HSM.out, hv]
        · rw [if_neg h1, if_pos (by have := HK.out; omega)])
      have hi2 : ¬ (i : Int) < (k1 : Int) := by omega
      obtain ⟨z, hz⟩ : ∃ z, z = cy n' m' i := ⟨_, rfl⟩
      have ht2 := ht z (by rw [hz])
      rw [← hz] at hcy ⊢
      clear ht hik2 hrow hz
      have hz1 : (z : Int) ≤ 1 := by omega
      go_wp2_with fail
      refine ht2.mono ?_
      rintro e w' ⟨v, rfl, hv, rfl⟩
      go_wp2_with fail
      go_ret
      exact ⟨v, rfl, by rw [← HSUM.out]; exact hv, hbw.setCell (p := ⟨wc.heap.size, k1, none⟩) (Nat.le_refl _) _⟩

theorem Wd.other {w w' : World} {B b : Nat} {v : Value} {n : Nat} (h : Wd w B v n) (hg : w.grownBy w' (some b)) (hne : ∃ x a k c T fr, w.heap[b]? = some (.cells #[.bool x, .slice a k c] T fr)) : Wd w' B v n := by
  obtain ⟨a, k, c, hv, hk, hc, hk2, hn, hp, h⟩ := h
  refine ⟨a, k, c, hv, hk, hc, hk2, hn, hp, ?_⟩
  rcases h with h | ⟨b', off, ha, hB2, hlt, hw⟩
  · exact Or.inl h
  · by_cases hk0 : k = 0
    · exact Or.inl hk0
    · refine Or.inr ⟨b', off, ha, hB2, Nat.lt_of_lt_of_le hlt hg.size, fun j hj => ?_⟩
      have hbb : b' ≠ b := by
        rintro rfl
        obtain ⟨x, a2, k2, c2, T, fr, hblk⟩ := hne
        have := hw 0 (by omega)
        rw [Lib.cell_of_heap hblk] at this
        match off, this with
        | 0, h => simp at h
        | 1, h => simp at h
        | o + 2, h => simp at h
      rw [World.cell?_of_block (w := w) (hg.block b' hlt (fun e => hbb (Option.some.inj e)))]
      exact hw j hj
theorem grown_under {w w1 w2 : World} {r : Option Nat} (h : Below w.heap.size w w1) (g : w1.grownBy w2 r) : w.grownBy w2 r :=
  ⟨g.os.trans h.os, g.tape.trans h.tape, g.output.trans h.output, Nat.le_trans h.size g.size, fun k hk hr => (g.block k (Nat.lt_of_lt_of_le hk h.size) hr).trans (h.block k hk)⟩
theorem grown_then {w w1 w2 : World} {r : Option Nat} (g : w.grownBy w1 r) (h : Below w1.heap.size w1 w2) : w.grownBy w2 r :=
  ⟨h.os.trans g.os, h.tape.trans g.tape, h.output.trans g.output, Nat.le_trans g.size h.size, fun k hk hr => (h.block k (Nat.lt_of_lt_of_le hk g.size)).trans (g.block k hk hr)⟩
theorem grown_of {w w1 : World} (h : Below w.heap.size w w1) (r : Option Nat) : w.grownBy w1 r := ⟨h.os, h.tape, h.output, h.size, fun k hk _ => h.block k hk⟩
theorem grown_trans {w w1 w2 : World} {r : Option Nat} (g : w.grownBy w1 r) (h : w1.grownBy w2 r) : w.grownBy w2 r :=
  ⟨h.os.trans g.os, h.tape.trans g.tape, h.output.trans g.output, Nat.le_trans g.size h.size, fun k hk hr => (h.block k (Nat.lt_of_lt_of_le hk g.size) hr).trans (g.block k hk hr)⟩
theorem grown_to_below {w w1 : World} {b B : Nat} (g : w.grownBy w1 (some b)) (hB : B ≤ b) (hw : B ≤ w.heap.size) : Below B w w1 :=
  ⟨g.os, g.tape, g.output, g.size, fun k hk => g.block k (by omega) (fun e => by have := Option.some.inj e; omega)⟩

theorem give2_any (b n : Nat) (v p q : Value) (w : World) (hb : w.heap[b]? = some (.cells #[p, q] 44 (0, 0))) (hv : Wd w (b + 1) v n) :
    Calls Tryd.prog 31 #[.pointer (some ⟨b, 0, none⟩), .bool false, v] w fun e w' => e = .returned (.pointer (some ⟨b, 0, none⟩)) ∧ IsInt b n w' ∧ w.grownBy w' (some b) := by
  have c0 : w.cell? ⟨b, 0, none⟩ = some p := by rw [Lib.cell_of_heap hb]; rfl
  have c1 : w.cell? ⟨b, 1, none⟩ = some q := by rw [Lib.cell_of_heap hb]; rfl
  have f0 := Lib.frozen_of_heap hb 0
  have f1 := Lib.frozen_of_heap hb 1
  have HV : Hid (Wd w (b + 1) v n) := hv
  have HB : Hid (w.heap[b]? = some (.cells #[p, q] 44 (0, 0))) := hb
  obtain ⟨a, k, c, rfl, _⟩ := hv
  clear hb
  go_enter Tryd.func31, Tryd.ntmps31
  go_wp2_with fail
  go_ret
  have hne : ∀ (W : World) (i : Nat) (x : Value), W.grownBy (W.setCell ⟨b, i, none⟩ x) (some b) := fun W i x => ⟨rfl, rfl, rfl, by simp [World.setCell], fun k _ hk => Below.heap_setCell _ _ _ _ (fun e => hk (by simp [e]))⟩
  refine ⟨rfl, ⟨.slice a k c, ?_, (HV.out.setCell (by omega)).setCell (by omega)⟩, grown_trans (hne _ _ _) (hne _ _ _)⟩
  exact Go.Joins.block_setCell (Go.Joins.block_setCell HB.out _) _

set_option maxHeartbeats 1000000 in
theorem setInt2_any (b n : Nat) (p q : Value) (w : World) (hn : n < 9223372036854775808) (hb : w.heap[b]? = some (.cells #[p, q] 44 (0, 0))) :
    Calls Tryd.prog 33 #[.pointer (some ⟨b, 0, none⟩), .int .i64 n] w fun e w' => e = .returned (.pointer (some ⟨b, 0, none⟩)) ∧ IsInt b n w' ∧ w.grownBy w' (some b) := by
  have hlt := (Array.getElem?_eq_some_iff.1 hb).1
  have hws := fun W => words_any n W (by omega)
  have HB : Hid (w.heap[b]? = some (.cells #[p, q] 44 (0, 0))) := hb
  clear hb
  have hn0 : ¬ (n : Int) < 0 := by omega
  go_enter Tryd.func33, Tryd.ntmps33
  go_wp2_with fail
  refine (hws _).mono ?_
  rintro e w1 ⟨v, rfl, hv, hb1⟩
  go_wp2_with fail
  refine (give2_any b n v p q _ ((hb1.block b hlt).trans HB.out) (hv.mono hlt)).mono ?_
  rintro e w2 ⟨rfl, hi, hb2⟩
  go_wp2_with fail
  go_ret
  exact ⟨rfl, hi, grown_under hb1 hb2⟩

/-- a whole number stays where another one's block is written -/
theorem IsInt.other {b b' n : Nat} {w w' : World} (h : IsInt b n w) (hg : w.grownBy w' (some b')) (hne : b ≠ b') (hb : ∃ x a k c, w.heap[b']? = some (.cells #[.bool x, .slice a k c] 44 (0, 0))) : IsInt b n w' := by
  obtain ⟨v, hv, hw⟩ := h
  obtain ⟨x, a, k, c, hb⟩ := hb
  exact ⟨v, (hg.block b (Array.getElem?_eq_some_iff.1 hv).1 (fun e => hne (Option.some.inj e))).trans hv, hw.other hg ⟨x, a, k, c, _, _, hb⟩⟩
theorem IsInt.shape {b n : Nat} {w : World} (h : IsInt b n w) : ∃ x a k c, w.heap[b]? = some (.cells #[.bool x, .slice a k c] 44 (0, 0)) := by
  obtain ⟨v, hv, a, k, c, rfl, _⟩ := h
  exact ⟨_, a, k, c, hv⟩
end Go.Proofs.YtekjcmejnhhpaaaDoor
