/- trim, words, small: lists of words. -/
import Derived.Test.YtpldaghhledjlaaGreatDoorProg
import Derived.Test.YtpldaghhledjlaaGreatDoorWordPure
import Derived.WalkKit
import Derived.WalkSpells
import Derived.WalkLawsBesides
import Derived.RegionTactic
import Derived.BigRegion
import Derived.BigQuiet
import Derived.Deep.LoopGhost
import Derived.Deep.OwnRows
import Derived.Laws.Bits64b
import Derived.Lib.OthersKept
import Derived.Lib.Builder
import Derived.Lib.SmallJoins
namespace Go.Proofs.YtpldaghhledjlaaGreatDoor.W
open Go.RowKit

def Wds (w : World) (b off n k : Nat) : Prop := ∀ j, j < k → w.cell? ⟨b, off + j, none⟩ = some (.int .u32 (wd n j))

/-- a slice's value over the words of n, without a nought at the end -/
def Wd (w : World) (B : Nat) (v : Value) (n : Nat) : Prop :=
  ∃ a k c, v = .slice a k c ∧ k ≤ c ∧ c ≤ maxLen ∧ k ≤ 1000 ∧ n < 4294967296 ^ k ∧ (k ≠ 0 → 4294967296 ^ (k - 1) ≤ n) ∧ (k = 0 ∨ ∃ b off, a = some ⟨b, off, none⟩ ∧ B ≤ b ∧ b < w.heap.size ∧ Wds w b off n k)

theorem trim_any (B b off k c n : Nat) (w : World) (hB : B ≤ b) (hk : k ≤ c) (hc : c ≤ maxLen) (hk2 : k ≤ 1000) (hlt : b < w.heap.size) (hn : n < 4294967296 ^ k) (h : Wds w b off n k) :
    Calls Tryz.prog 149 #[.slice (some ⟨b, off, none⟩) k c] w fun e w' => ∃ u, e = .returned u ∧ Wd w' B u n ∧ w' = w := by
  have HA : Hid (Wds w b off n k) := h
  have HN : Hid (n < 4294967296 ^ k) := hn
  clear h hn
  go_enter Tryz.func149, Tryz.ntmps149
  go_wp2
  go_loopg [3] k (fun g s wr => ∃ m : Nat, m = g ∧ m ≤ k ∧ s = .int .i64 m ∧ n < 4294967296 ^ m ∧ wr = w)
  case atStart => exact ⟨k, rfl, Nat.le_refl _, rfl, HN.out, rfl⟩
  case round =>
    obtain ⟨m, rfl, hmk, rfl, hnm, rfl⟩ := hrel
    have HM : Hid (n < 4294967296 ^ m) := hnm
    clear hnm
    cases m with
    | zero =>
      go_wp2
      go_ret
      exact ⟨_, rfl, ⟨_, 0, c, rfl, by omega, hc, by omega, HM.out, by simp, Or.inl rfl⟩, rfl⟩
    | succ m =>
      have c0 := HA.out m (by omega)
      have hi1 : (0 : Int) ≤ (m : Int) := by omega
      have hi2 : (m : Int) < (k : Int) := by omega
      by_cases h0 : wd n m = 0
      · rw [h0] at c0
        go_wp2
        go_roundg m
        case measure => omega
        case rel => exact ⟨m, rfl, by omega, rfl, wd_zero HM.out h0, rfl⟩
      · have hne : ((wd n m : Int) == 0) = false := by
          rw [beq_eq_false_iff_ne]
          omega
        have HP := wd_pos h0
        have HP' : Hid (4294967296 ^ m ≤ n) := HP
        clear HP h0
        go_wp2
        go_ret
        exact ⟨_, rfl, ⟨_, m + 1, c, rfl, by omega, hc, by omega, HM.out, fun _ => HP'.out, Or.inr ⟨b, off, rfl, hB, hlt, fun j hj => HA.out j (by omega)⟩⟩, rfl⟩

theorem Wd.below {w w' : World} {B : Nat} {v : Value} {n : Nat} (h : Wd w B v n) (hb : Below w.heap.size w w') : Wd w' B v n := by
  obtain ⟨a, k, c, hv, hk, hc, hk2, hn, hp, h⟩ := h
  refine ⟨a, k, c, hv, hk, hc, hk2, hn, hp, ?_⟩
  rcases h with h | ⟨b, off, ha, hB, hlt, hw⟩
  · exact Or.inl h
  · exact Or.inr ⟨b, off, ha, hB, Nat.lt_of_lt_of_le hlt hb.size, fun j hj => (hb.cell (p := ⟨b, off + j, none⟩) hlt).trans (hw j hj)⟩

theorem words_any (u : Nat) (w : World) (hu : u < 18446744073709551616) :
    Calls Tryz.prog 105 #[.int .u64 u] w fun e w' => ∃ v, e = .returned v ∧ Wd w' w.heap.size v u ∧ Below w.heap.size w w' := by
  have ht := fun W (h : Wds W w.heap.size 0 u 2) (hlt : w.heap.size < W.heap.size) => trim_any w.heap.size w.heap.size 0 2 2 u W (Nat.le_refl _) (by omega) (by unfold maxLen; omega) (by omega) hlt (by omega) h
  have h0 := wd_two0 u
  have h1 := wd_two1 u hu
  go_enter Tryz.func105, Tryz.ntmps105
  go_wp2_with fail
  have hb0 : Below w.heap.size w (w.alloc (.cells #[.int .u32 ((u : Int) % 4294967296), .int .u32 ((u : Int) / 4294967296)] 165)) := (Below.refl _ _).alloc (Nat.le_refl _) _
  have hw := ht (w.alloc (.cells #[.int .u32 ((u : Int) % 4294967296), .int .u32 ((u : Int) / 4294967296)] 165)) (by
    intro j hj
    rw [World.cell?_alloc_new]
    match j, hj with
    | 0, _ => rw [h0]; rfl
    | 1, _ => rw [h1]; rfl) (by simp)
  refine hw.mono ?_
  rintro e w' ⟨v, rfl, hv, rfl⟩
  go_wp2_with fail
  go_ret
  exact ⟨_, rfl, hv, hb0⟩

theorem small_any (B : Nat) (v : Value) (n d : Nat) (w : World) (h : Wd w B v n) (hd : 0 < d) (hd2 : d < 4294967296) :
    Calls Tryz.prog 107 #[v, .int .u32 d] w fun e w' => ∃ u, e = .returned (.tuple #[u, .int .u32 (n % d : Nat)]) ∧ Wd w' w.heap.size u (n / d) ∧ Below w.heap.size w w' := by
  obtain ⟨a, k, c, rfl, hk, hc, hk2, hn, _, h⟩ := h
  have hmk := fun W => run_make_row' (P := Tryz.prog) 133 165 (.int .u32 0) 4 Tryz.underlying133 (by kernel_rfl) rfl .i64 .i64 k (by omega) (by omega) W
  have HN : Hid (n < 4294967296 ^ k) := hn
  clear hn
  go_enter Tryz.func107, Tryz.ntmps107
  go_wp2_with fail
  have hR := World.rowIs_made w (.int .u32 0) k 165
  have hB := (Below.refl w.heap.size w).alloc (Nat.le_refl _) (.cells (madeCells #[.int .u32 0] k) 165)
  have hsz : w.heap.size < (w.alloc (.cells (madeCells #[.int .u32 0] k) 165)).heap.size := by simp
  generalize w.alloc (.cells (madeCells #[.int .u32 0] k) 165) = w1 at *
  clear hmk
  go_loopg [7, 8] k (fun g s7 s8 wr => ∃ m : Nat, m = g ∧ m ≤ k ∧ s7 = .int .u64 (n / 4294967296 ^ m % d : Nat) ∧ s8 = .int .i64 ((m : Int) - 1) ∧ wr.rowIs w.heap.size 165 k (fun j => if j < m then .int .u32 0 else .int .u32 (wd (n / d) j)) ∧ Below w.heap.size w wr)
  case atStart =>
    refine ⟨k, rfl, Nat.le_refl _, ?_, rfl, hR.congr fun i hi => by rw [if_pos hi], hB⟩
    rw [Nat.div_eq_of_lt HN.out]
    rfl
  case round =>
    obtain ⟨m, rfl, hmk, rfl, rfl, hrow, hbw⟩ := hrel
    cases m with
    | zero =>
      have ht := trim_any w.heap.size w.heap.size 0 k k (n / d) wr (Nat.le_refl _) (Nat.le_refl _) (by omega) hk2 (by have := hrow.lt; omega) (wd_div_lt HN.out) (fun j hj => by rw [Nat.zero_add, hrow.cell hj]; simp)
      rw [show n / 4294967296 ^ 0 % d = n % d by simp]
      have hr := Nat.mod_lt n hd
      obtain ⟨r, hrd⟩ : ∃ r, r = n % d := ⟨_, rfl⟩
      rw [← hrd] at hr ⊢
      have HRD : Hid (r = n % d) := hrd
      clear hrd
      have hr2 : (r : Int) < 4294967296 := by omega
      go_wp2_with fail
      refine ht.mono ?_
      rintro e w' ⟨v, rfl, hv, rfl⟩
      go_wp2_with fail
      go_ret2
      refine ⟨v, ?_, hv, hbw⟩
      rw [← HRD.out]
      rfl
    | succ m =>
      rcases h with h | ⟨b, off, rfl, _, hlt, hw⟩
      · omega
      have c0 := (hbw.cell (p := ⟨b, off + m, none⟩) hlt).trans (hw m (by omega))
      rw [show (((m + 1 : Nat) : Int) - 1) = (m : Int) by omega]
      have hi1 : (0 : Int) ≤ (m : Int) := by omega
      have hi2 : (m : Int) < (k : Int) := by omega
      have hdi := wd_div n d m hd
      have hre := wd_rem n d m
      have hr := Nat.mod_lt (n / 4294967296 ^ (m + 1)) hd
      have ha := wd_lt n m
      have hq := wd_lt (n / d) m
      have e1 := hrow.cell (i := m) (by omega)
      have e2 := hrow.frozen m
      generalize n / 4294967296 ^ (m + 1) % d = r at *
      generalize wd n m = x at *
      have hor : bits .or .u64 ((r : Int) * 4294967296) (x : Int) = ((r * 4294967296 + x : Nat) : Int) := by
        have := bits_or_u64_nat (r * 4294967296) x (by omega) (by omega)
        rw [or_word r x ha] at this
        simpa using this
      have htd : ((r * 4294967296 + x : Nat) : Int).tdiv (d : Int) = ((wd (n / d) m : Nat) : Int) := by rw [← hdi]; rfl
      have htm : ((r * 4294967296 + x : Nat) : Int).tmod (d : Int) = ((n / 4294967296 ^ m % d : Nat) : Int) := by rw [← hre]; rfl
      have hy : r * 4294967296 + x < 18446744073709551616 := by omega
      obtain ⟨z, hz⟩ : ∃ z, z = n / 4294967296 ^ m % d := ⟨_, rfl⟩
      rw [← hz] at htm hre
      have HZ : Hid (z = n / 4294967296 ^ m % d) := hz
      clear hz
      generalize r * 4294967296 + x = y at *
      have HS := hrow.set m (.int .u32 (wd (n / d) m))
      have HQ : Hid (∃ q, q = wd (n / d) m) := ⟨_, rfl⟩
      obtain ⟨q, hqd⟩ := HQ.out
      rw [← hqd] at htd hq HS
      have HQD : Hid (q = wd (n / d) m) := hqd
      have HS' : Hid ((wr.setCell ⟨w.heap.size, m, none⟩ (.int .u32 q)).rowIs w.heap.size 165 k (fun j => if j = m then .int .u32 q else if j < m + 1 then .int .u32 0 else .int .u32 (wd (n / d) j))) := HS
      have HBW : Hid (Below w.heap.size w wr) := hbw
      clear HS HQ hqd hdi hre hrow
      go_wp2_with fail
      go_roundg m
      case measure => omega
      case rel =>
        refine ⟨m, rfl, by omega, by rw [HZ.out], rfl, HS'.out.congr fun i hi => ?_, HBW.out.setCell (p := ⟨w.heap.size, m, none⟩) (Nat.le_refl _) _⟩
        rw [HQD.out]
        by_cases h1 : i = m
        · rw [if_pos h1, if_neg (by omega), h1]
        · rw [if_neg h1]
          by_cases h2 : i < m
          · rw [if_pos h2, if_pos (by omega)]
          · rw [if_neg h2, if_neg (by omega)]

theorem Tryz.infoWord : (Tryz.prog.info? 165).map (fun i => (i.zero, i.size, i.bytes)) = some (some (.int .u32 0), 1, 4) := by kernel_rfl
theorem twin_any (B : Nat) (v : Value) (n : Nat) (w : World) (h : Wd w B v n) (h0 : n ≠ 0) :
    Calls Tryz.prog 106 #[v] w fun e w' => ∃ u, e = .returned u ∧ Wd w' w.heap.size u n ∧ Below w.heap.size w w' := by
  obtain ⟨a, k, c, rfl, hk, hc, hk2, hn, hp, h⟩ := h
  have hk0 : k ≠ 0 := by
    rintro rfl
    simp at hn
    omega
  rcases h with h | ⟨b, off, rfl, _, hlt, hw⟩
  · omega
  have HN : Hid (n < 4294967296 ^ k) := hn
  have HP : Hid (4294967296 ^ (k - 1) ≤ n) := hp hk0
  have HW : Hid (Wds w b off n k) := hw
  clear hn hp hw
  obtain ⟨i0, hi, hz0, hz1, hz2⟩ : ∃ i, Tryz.prog.info? 165 = some i ∧ i.zero = some (.int .u32 0) ∧ i.size = 1 ∧ i.bytes = 4 := by
    have := Tryz.infoWord
    cases hh : Tryz.prog.info? 165 with
    | none => rw [hh] at this; cases this
    | some i =>
      rw [hh] at this
      simp only [Option.map_some, Option.some.injEq, Prod.mk.injEq] at this
      exact ⟨i, rfl, this.1, this.2.1, this.2.2⟩
  go_enter Tryz.func106, Tryz.ntmps106
  go_wp2_with (at_builtin; refine wpList_append_own _ rfl _ _ 133 rfl w.heap.size 165 i0 (.int .u32 0) 1 4 Tryz.underlying133 hi hz0 hz1 hz2 rfl (by decide) _ _ _ rfl (World.ownsRow_nil _ _ _ _) ⟨b, off, none⟩ k c ((List.range k).map fun j => .int .u32 (wd n j)) rfl (by simp) ?c1 ?c2 ?c3 ?c4 (Nat.le_refl _) ?_)
  case c1 =>
    intro j u hj
    simp only [List.getElem?_map, Option.map_eq_some_iff] at hj
    obtain ⟨i, hi, rfl⟩ := hj
    obtain ⟨hlt', rfl⟩ := List.getElem?_eq_some_iff.1 hi
    simp only [List.length_range] at hlt'
    simp only [List.getElem_range]
    have e : (⟨b, off, none⟩ : Addr).add j = ⟨b, off + j, none⟩ := by simp only [Addr.add]; split <;> simp_all
    rw [e]
    exact HW.out j hlt'
  case c2 =>
    intro u hu
    simp only [List.mem_map] at hu
    obtain ⟨_, _, rfl⟩ := hu
    rfl
  case c3 => unfold maxLen; omega
  case c4 => omega
  intro v' w2 hown' hgrow _
  have hb : Below w.heap.size w w2 := (Below.refl _ _).grown hgrow (Nat.le_refl _) (fun k hk => by simp [Value.ownBlock] at hk)
  go_wp2_with fail
  go_ret
  refine ⟨_, rfl, ?_, hb⟩
  rcases hown'.2 with ⟨_, h0⟩ | ⟨g, cap, cur, rfl, hg, hgg, hkc, hcm, hcs, htk⟩
  · omega
  · refine ⟨_, k, cap, rfl, hkc, hcm, hk2, HN.out, fun _ => HP.out, Or.inr ⟨g, 0, rfl, hg, (Array.getElem?_eq_some_iff.1 hgg).1, fun j hj => ?_⟩⟩
    rw [Nat.zero_add, Lib.cell_of_heap hgg]
    have : (cur.toList.take (k * 1))[j]? = some (.int .u32 (wd n j)) := by
      rw [htk]
      simp [hj]
    rw [List.getElem?_take] at this
    simpa [hj] using this

/-- a whole number in its block, not below 0 -/
def IsInt (b n : Nat) (w : World) : Prop := ∃ v, w.heap[b]? = some (.cells #[.bool false, v] 135 (0, 0)) ∧ Wd w (b + 1) v n

theorem Wd.mono {w : World} {B B' : Nat} {v : Value} {n : Nat} (h : Wd w B v n) (hB : B' ≤ B) : Wd w B' v n := by
  obtain ⟨a, k, c, hv, hk, hc, hk2, hn, hp, h⟩ := h
  refine ⟨a, k, c, hv, hk, hc, hk2, hn, hp, ?_⟩
  rcases h with h | ⟨b, off, ha, hB2, hlt, hw⟩
  · exact Or.inl h
  · exact Or.inr ⟨b, off, ha, by omega, hlt, hw⟩
theorem Wd.setCell {w : World} {B b i : Nat} {v u : Value} {n : Nat} (h : Wd w B v n) (hb : b < B) : Wd (w.setCell ⟨b, i, none⟩ u) B v n := by
  obtain ⟨a, k, c, hv, hk, hc, hk2, hn, hp, h⟩ := h
  refine ⟨a, k, c, hv, hk, hc, hk2, hn, hp, ?_⟩
  rcases h with h | ⟨b', off, ha, hB2, hlt, hw⟩
  · exact Or.inl h
  · refine Or.inr ⟨b', off, ha, hB2, by simpa [World.setCell] using hlt, fun j hj => ?_⟩
    rw [World.cell?_of_block (w := w) (Below.heap_setCell _ _ _ _ (by show b' ≠ b; omega))]
    exact hw j hj

theorem give_any (b n : Nat) (v p q : Value) (w : World) (hb : w.heap[b]? = some (.cells #[p, q] 135 (0, 0))) (hv : Wd w (b + 1) v n) :
    Calls Tryz.prog 104 #[.pointer (some ⟨b, 0, none⟩), .bool false, v] w fun e w' => e = .returned (.pointer (some ⟨b, 0, none⟩)) ∧ IsInt b n w' ∧ Below b w w' := by
  have c0 : w.cell? ⟨b, 0, none⟩ = some p := by rw [Lib.cell_of_heap hb]; rfl
  have c1 : w.cell? ⟨b, 1, none⟩ = some q := by rw [Lib.cell_of_heap hb]; rfl
  have f0 := Lib.frozen_of_heap hb 0
  have f1 := Lib.frozen_of_heap hb 1
  have HV : Hid (Wd w (b + 1) v n) := hv
  have HB : Hid (w.heap[b]? = some (.cells #[p, q] 135 (0, 0))) := hb
  obtain ⟨a, k, c, rfl, _⟩ := hv
  clear hb
  go_enter Tryz.func104, Tryz.ntmps104
  go_wp2_with fail
  go_ret
  refine ⟨rfl, ⟨.slice a k c, ?_, (HV.out.setCell (by omega)).setCell (by omega)⟩, ((Below.refl _ _).setCell (p := ⟨b, 1, none⟩) (Nat.le_refl _) _).setCell (p := ⟨b, 0, none⟩) (Nat.le_refl _) _⟩
  exact Go.Joins.block_setCell (Go.Joins.block_setCell HB.out _) _

theorem IsInt.go {b n : Nat} {w w' : World} (h : IsInt b n w) (hb : Below w.heap.size w w') : IsInt b n w' := by
  obtain ⟨v, hv, hw⟩ := h
  exact ⟨v, (hb.block b (Array.getElem?_eq_some_iff.1 hv).1).trans hv, hw.below hb⟩

set_option maxHeartbeats 1000000 in
theorem setInt_any (b n : Nat) (p q : Value) (w : World) (hn : n < 9223372036854775808) (hb : w.heap[b]? = some (.cells #[p, q] 135 (0, 0))) :
    Calls Tryz.prog 63 #[.pointer (some ⟨b, 0, none⟩), .int .i64 n] w fun e w' => e = .returned (.pointer (some ⟨b, 0, none⟩)) ∧ IsInt b n w' ∧ Below b w w' := by
  have hlt := (Array.getElem?_eq_some_iff.1 hb).1
  have hws := fun W => words_any n W (by omega)
  have HB : Hid (w.heap[b]? = some (.cells #[p, q] 135 (0, 0))) := hb
  clear hb
  have hn0 : ¬ (n : Int) < 0 := by omega
  go_enter Tryz.func63, Tryz.ntmps63
  go_wp2_with fail
  refine (hws _).mono ?_
  rintro e w1 ⟨v, rfl, hv, hb1⟩
  go_wp2_with fail
  refine (give_any b n v p q _ ((hb1.block b hlt).trans HB.out) (hv.mono hlt)).mono ?_
  rintro e w2 ⟨rfl, hi, hb2⟩
  go_wp2_with fail
  go_ret
  exact ⟨rfl, hi, (hb1.mono (by omega)).trans hb2⟩

theorem newInt_any (n : Nat) (w : World) (hn : n < 9223372036854775808) :
    Calls Tryz.prog 46 #[.int .i64 n] w fun e w' => e = .returned (.pointer (some ⟨w.heap.size, 0, none⟩)) ∧ IsInt w.heap.size n w' ∧ Below w.heap.size w w' := by
  have hb0 : Below w.heap.size w (w.alloc (.cells #[.bool false, .slice none 0 0] 135)) := (Below.refl _ _).alloc (Nat.le_refl _) _
  have hs := setInt_any w.heap.size n (.bool false) (.slice none 0 0) (w.alloc (.cells #[.bool false, .slice none 0 0] 135)) hn (Go.Deep.blk_alloc_new _ _)
  go_enter Tryz.func46, Tryz.ntmps46
  go_wp2_with fail
  refine hs.mono ?_
  rintro e w2 ⟨rfl, hi, hb2⟩
  go_wp2_with fail
  go_ret
  exact ⟨rfl, hi, hb0.trans hb2⟩
end Go.Proofs.YtpldaghhledjlaaGreatDoor.W
