/- rule.counts: how many live neighbours each place has. -/
import Derived.Test.YtoppncaidhlenabEntry
import Derived.Test.YtoppncaidhlenabTidyLaw
import Derived.Deep.LoopGhost
namespace Go.Proofs.Ytoppncaidhlenab
open Go.RowKit Go.Maps

theorem makeCounts (x : Int) (w : World) : (Instr.makeMap 73 (some (.int .i64 x))).run Try.prog w = .ok (.map (some w.heap.size)) (w.alloc (.map #[] 0)) := by
  simp [Instr.makeMap, run_underlying Try.underlying73, asInt, asIntOf, newObj, Result.andThen]
  rfl

/-- the nine places around a cell, row by row -/
def nine (c : Int × Int) : List (Int × Int) :=
  [(c.1 - 1, c.2 - 1), (c.1, c.2 - 1), (c.1 + 1, c.2 - 1), (c.1 - 1, c.2), (c.1, c.2), (c.1 + 1, c.2), (c.1 - 1, c.2 + 1), (c.1, c.2 + 1), (c.1 + 1, c.2 + 1)]
/-- what is added of one cell, up to a place -/
def opsTo (c : Int × Int) (m : Nat) : List ((Int × Int) × Int) := (c, 0) :: (((nine c).take m).filter (fun q => !decide (q = c))).map (fun q => (q, 1))
/-- what is added of a list of cells -/
def opsL (l : List (Int × Int)) : List ((Int × Int) × Int) := l.flatMap (fun c => opsTo c 9)

/-- each number that is added is 0 or 1 -/
def Small (ops : List ((Int × Int) × Int)) : Prop := ∀ o ∈ ops, o.2 = 0 ∨ o.2 = 1
theorem total_le : ∀ {ops : List ((Int × Int) × Int)}, Small ops → ∀ p, 0 ≤ total ops p ∧ total ops p ≤ ops.length
  | [], _, p => by simp [total]
  | (q, d) :: r, h, p => by
    have h1 := total_le (ops := r) (fun o ho => h o (List.mem_cons_of_mem _ ho)) p
    have h2 := h (q, d) (by simp)
    simp only at h2
    rw [total, List.length_cons]
    split <;> omega

/-- midway: the map holds what has been added, and a cell lies in its block -/
def MidC (w : World) (g : Nat) (z : Int × Int) (N : Nat) (ops : List ((Int × Int) × Int)) (wr : World) : Prop :=
  Below w.heap.size w wr ∧ g < wr.heap.size ∧ w.heap.size < g ∧ wr.cell? ⟨g, 0, none⟩ = some (.int .i64 z.1) ∧ wr.cell? ⟨g, 1, none⟩ = some (.int .i64 z.2) ∧
    Small ops ∧ ops.length ≤ N ∧ ∃ D : DataW Unit, wr.ownsMap Try.prog 53 (plainElem Try.prog 3) w.heap.size N D ∧ Cnt D ops

theorem MidC.alloc {w wr : World} {g N : Nat} {z : Int × Int} {ops : List ((Int × Int) × Int)} (h : MidC w g z N ops wr) (o : Obj) : MidC w g z N ops (wr.alloc o) := by
  obtain ⟨h1, h2, h3, h4, h5, h6, h7, D, h8, h9⟩ := h
  refine ⟨h1.alloc h1.size o, by simp; omega, h3, ?_, ?_, h6, h7, D, h8.alloc o, h9⟩
  · rw [World.cell?_alloc_past _ _ _ h2]; exact h4
  · rw [World.cell?_alloc_past _ _ _ h2]; exact h5

theorem MidC.mono {w wr : World} {g N N' : Nat} {z : Int × Int} {ops : List ((Int × Int) × Int)} (h : MidC w g z N ops wr) (hN : N ≤ N') : MidC w g z N' ops wr := by
  obtain ⟨h1, h2, h3, h4, h5, h6, h7, D, h8, h9⟩ := h
  exact ⟨h1, h2, h3, h4, h5, h6, by omega, D, h8.mono hN, h9⟩

theorem MidC.bump {w wr : World} {g N : Nat} {z : Int × Int} {ops : List ((Int × Int) × Int)} (h : MidC w g z N ops wr) (hN : N ≤ 50000) (qx qy : Int) (hq : FitsP (qx, qy)) (d : Int) (hd : d = 0 ∨ d = 1) :
    ∃ (v : Int) (st : Nat) (wA wB : World), (Instr.lookup 73 (.map (some w.heap.size)) (.agg #[.int .i64 qx, .int .i64 qy]) false).run Try.prog wr.drew = .ok (.int .i64 v) wr.drew ∧
      (Instr.mapEntry 73 (.map (some w.heap.size)) (.agg #[.int .i64 qx, .int .i64 qy])).run Try.prog wr.drew = .ok (.tuple #[.int .i64 v, .int .i64 st]) wA ∧
      (Instr.lookup 73 (.map (some w.heap.size)) (.agg #[.int .i64 qx, .int .i64 qy]) false).run Try.prog wA = .ok (.int .i64 v) wA ∧
      (Instr.entryStore 73 (.map (some w.heap.size)) (.int .i64 st) (.int .i64 (v + d))).run Try.prog wA = .ok () wB ∧ IntKind.i64.wrap (v + d) = v + d ∧ MidC w g z (N + 1) (ops ++ [((qx, qy), d)]) wB := by
  obtain ⟨h1, h2, h3, h4, h5, h6, h7, D, h8, h9⟩ := h
  obtain ⟨v, st, wA, hat, hwv, hl0, hE, hl1, hgA, hS⟩ := entry_step (w := wr.drew) h8.drew (by unfold maxLen; omega) hq
  have hv : v = total ops (qx, qy) := by
    have := (h9 (qx, qy) hq).2
    rw [hat] at this
    simpa using this
  have hb := total_le h6 (qx, qy)
  have hf : Fits (v + d) := by unfold Fits; omega
  obtain ⟨wB, hst, hown, hg⟩ := hS (v + d) (wf_of_fits hf)
  refine ⟨v, st, wA, wB, hl0, hE, hl1, hst, by rw [IntKind.wrap_i64]; unfold Fits at hf; omega, ?_⟩
  have hblk : wB.heap[g]? = wr.heap[g]? := hg.block g h2 (by simp; omega)
  have hcell : ∀ o, wB.cell? ⟨g, o, none⟩ = wr.cell? ⟨g, o, none⟩ := fun o => by simp [World.cell?, hblk]
  refine ⟨h1.drew.grown hg h1.size (fun j hj => by cases hj; exact Nat.le_refl _), Nat.lt_of_lt_of_le h2 hg.size, h3, by rw [hcell]; exact h4, by rw [hcell]; exact h5, ?_, ?_, _, hown, h9.put h8.isMap hq d (v + d) (by rw [hv])⟩
  · intro o ho
    rw [List.mem_append, List.mem_singleton] at ho
    rcases ho with ho | rfl
    · exact h6 o ho
    · exact hd
  · rw [List.length_append, List.length_singleton]; omega

/-- between cells -/
def Out (w : World) (N : Nat) (ops : List ((Int × Int) × Int)) (wr : World) : Prop :=
  Below w.heap.size w wr ∧ w.heap.size < wr.heap.size ∧ Small ops ∧ ops.length ≤ N ∧ ∃ D : DataW Unit, wr.ownsMap Try.prog 53 (plainElem Try.prog 3) w.heap.size N D ∧ Cnt D ops
theorem Out.mid {w wr : World} {N : Nat} {ops : List ((Int × Int) × Int)} (h : Out w N ops wr) (x y : Int) : MidC w wr.heap.size (x, y) N ops (wr.alloc (.cells #[.int .i64 x, .int .i64 y] 53)) := by
  obtain ⟨h1, h2, h3, h4, D, h5, h6⟩ := h
  exact ⟨h1.alloc h1.size _, by simp, h2, by rw [World.cell?_alloc_new]; rfl, by rw [World.cell?_alloc_new]; rfl, h3, h4, D, h5.alloc _, h6⟩
theorem MidC.out {w wr : World} {g N : Nat} {z : Int × Int} {ops : List ((Int × Int) × Int)} (h : MidC w g z N ops wr) : Out w N ops wr := by
  obtain ⟨h1, h2, h3, h4, h5, h6, h7, D, h8, h9⟩ := h
  exact ⟨h1, by omega, h6, h7, D, h8, h9⟩

theorem nine_at (c : Int × Int) : ∀ i j : Nat, i < 3 → j < 3 → (nine c)[3 * j + i]? = some (c.1 - 1 + i, c.2 - 1 + j)
  | 0, 0, _, _ => by simp [nine]
  | 1, 0, _, _ => by simp [nine]
  | 2, 0, _, _ => by simp [nine]; omega
  | 0, 1, _, _ => by simp [nine]
  | 1, 1, _, _ => by simp [nine]
  | 2, 1, _, _ => by simp [nine]; omega
  | 0, 2, _, _ => by simp [nine]; omega
  | 1, 2, _, _ => by simp [nine]; omega
  | 2, 2, _, _ => by simp [nine]; omega
theorem opsTo_succ (c : Int × Int) (m : Nat) (q : Int × Int) (h : (nine c)[m]? = some q) : opsTo c (m + 1) = opsTo c m ++ if q = c then [] else [(q, 1)] := by
  have e : (nine c).take (m + 1) = (nine c).take m ++ [q] := by
    obtain ⟨hm, he⟩ := List.getElem?_eq_some_iff.1 h
    rw [List.take_succ_eq_append_getElem hm, he]
  unfold opsTo
  rw [e, List.filter_append, List.map_append]
  by_cases hq : q = c
  · simp [hq]
  · simp [hq]
theorem opsL_succ (zs : List (Int × Int)) (k : Nat) (z : Int × Int) (hk : k < zs.length) (h : zs[k]! = z) : opsL (zs.take (k + 1)) = opsL (zs.take k) ++ opsTo z 9 := by
  rw [List.take_succ_eq_append_getElem hk, ← getElem!_pos zs k hk, h]
  simp [opsL]

set_option maxRecDepth 4000 in
set_option maxHeartbeats 4000000 in
theorem counts_some (b off n c : Nat) (zs : List (Int × Int)) (w : World) (hb : b < w.heap.size) (HL : Hid (zs.length = n)) (HH : Hid (HoldsR w b off zs)) (hn : n ≤ 4096) (HN : Hid (zs.any farP = false)) :
    Calls Try.prog 45 #[.slice (some ⟨b, off, none⟩) n c] w fun e w' => e = .returned (.map (some w.heap.size)) ∧ Out w (n * 10) (opsL zs) w' := by
  have hmm := makeCounts
  have hO0 : Out w 0 [] (w.alloc (.map #[] 0)) := ⟨(Below.refl _ _).alloc (Nat.le_refl _) _, by simp, (fun o ho => by cases ho), Nat.le_refl _, .map [], World.ownsMap_made (H := Unit) w Try.prog 53 (plainElem Try.prog 3), Cnt.empty⟩
  go_enter Try.func45, Try.ntmps45
  go_wp2
  clear hmm
  go_loopg [15] n (fun gk s15 wr => ∃ (k : Nat), k ≤ n ∧ n - k ≤ gk ∧ s15 = .int .i64 k ∧ Out w (k * 10) (opsL (zs.take k)) wr)
  case atStart => exact ⟨0, by omega, by omega, rfl, hO0⟩
  case round =>
    obtain ⟨k, hk, hgk, rfl, hout⟩ := hrel
    have HG : Hid (n - k ≤ gk) := hgk
    have HO : Hid (Out w (k * 10) (opsL (zs.take k)) wr) := hout
    have hbr := hout.1
    clear hgk hout
    have hsz := hbr.size
    by_cases hlt : k < n
    · obtain ⟨c0, c1⟩ := HH.out k (by rw [HL.out]; exact hlt)
      rw [← hbr.cell (p := ⟨b, off + k * 2, none⟩) hb] at c0
      rw [← hbr.cell (p := ⟨b, off + k * 2 + 1, none⟩) hb] at c1
      have hnear : farP zs[k]! = false := by
        have h1 := HN.out
        rw [List.any_eq_false] at h1
        have h2 := h1 zs[k]! (by rw [getElem!_pos zs k (by rw [HL.out]; exact hlt)]; exact List.getElem_mem _)
        simpa using h2
      generalize hz : zs[k]! = z at c0 c1 hnear
      have HZ : Hid (zs[k]! = z) := hz
      clear hz
      obtain ⟨x, y⟩ := z
      simp only at c0 c1
      have hxy : -1099511627776 < x ∧ x < 1099511627776 ∧ -1099511627776 < y ∧ y < 1099511627776 := by
        simp [farP, farI] at hnear
        omega
      clear hnear
      obtain ⟨x0, x1, y0, y1⟩ := hxy
      have hi1 : (0 : Int) ≤ (k : Int) := by omega
      have hi2 : (k : Int) < (n : Int) := by omega
      have hbw : b < wr.heap.size := Nat.lt_of_lt_of_le hb hsz
      have hfit : FitsP (x, y) := ⟨⟨by omega, by omega⟩, ⟨by omega, by omega⟩⟩
      obtain ⟨v, st, wA, wB, hl0, hE, hl1, hst, hwrap, hmid⟩ := (HO.out.mid x y).bump (by omega) x y hfit 0 (Or.inl rfl)
      rw [Int.add_zero] at hst hwrap
      obtain ⟨g, hg⟩ : ∃ g, g = wr.heap.size := ⟨_, rfl⟩
      rw [← hg] at hmid
      have HM : Hid (MidC w g (x, y) (k * 10 + 1) (opsL (zs.take k) ++ opsTo (x, y) 0) wB) := hmid
      obtain ⟨mb, mg1, mg2, mc0, mc1, _⟩ := hmid
      have hy1 : IntKind.i64.wrap (y - 1) = y - 1 := by rw [IntKind.wrap_i64]; omega
      have hy2 : IntKind.i64.wrap (y + 1) = y + 1 := by rw [IntKind.wrap_i64]; omega
      have hx1 : IntKind.i64.wrap (x - 1) = x - 1 := by rw [IntKind.wrap_i64]; omega
      have hx2 : IntKind.i64.wrap (x + 1) = x + 1 := by rw [IntKind.wrap_i64]; omega
      go_wp2_with fail
      go_region
      clear hl0 hE hl1 hst hwrap
      rw [← hg]
      clear hg
      go_wp2_with fail
      obtain ⟨gK, hgK⟩ : ∃ a, a = gk := ⟨gk, rfl⟩
      subst hgK
      go_loopg [6] 3 (fun gj s6 wj => ∃ (j : Nat), j ≤ 3 ∧ 3 - j ≤ gj ∧ s6 = .int .i64 (y - 1 + j) ∧ MidC w g (x, y) (k * 10 + 1 + 3 * j) (opsL (zs.take k) ++ opsTo (x, y) (3 * j)) wj)
      case atStart => exact ⟨0, by omega, by omega, by simp, HM.out⟩
      case round =>
        obtain ⟨j, hj, hgj, rfl, hmid⟩ := hrel
        obtain ⟨gJ, hgJ⟩ : ∃ a, a = gk := ⟨gk, rfl⟩
        subst hgJ
        obtain ⟨wj, hwj⟩ : ∃ a, a = wr := ⟨wr, rfl⟩
        subst hwj
        have HGJ : Hid (3 - j ≤ gJ) := hgj
        have HM2 : Hid (MidC w g (x, y) (k * 10 + 1 + 3 * j) (opsL (zs.take k) ++ opsTo (x, y) (3 * j)) wj) := hmid
        clear HM mb mg1 mg2 mc0 mc1 hgj
        obtain ⟨mb, mg1, mg2, mc0, mc1, _⟩ := hmid
        obtain ⟨Y, hY⟩ : ∃ Y : Int, Y = y - 1 + j := ⟨_, rfl⟩
        rw [← hY]
        have HY : Hid (Y = y - 1 + j) := hY
        have hYw : IntKind.i64.wrap (Y + 1) = Y + 1 := by rw [IntKind.wrap_i64]; omega
        by_cases hj3 : j < 3
        · have hle : Y ≤ y + 1 := by omega
          clear hY
          go_wp2_with fail
          go_loopg [7] 3 (fun gi s7 wi => ∃ (i : Nat), i ≤ 3 ∧ 3 - i ≤ gi ∧ s7 = .int .i64 (x - 1 + i) ∧ MidC w g (x, y) (k * 10 + 1 + 3 * j + i) (opsL (zs.take k) ++ opsTo (x, y) (3 * j + i)) wi)
          case atStart => exact ⟨0, by omega, by omega, by simp, HM2.out⟩
          case round =>
            obtain ⟨i, hi, hgi, rfl, hmid⟩ := hrel
            have HGI : Hid (3 - i ≤ gk) := hgi
            have HM3 : Hid (MidC w g (x, y) (k * 10 + 1 + 3 * j + i) (opsL (zs.take k) ++ opsTo (x, y) (3 * j + i)) wr) := hmid
            clear HM2 mb mg1 mg2 mc0 mc1 hgi
            obtain ⟨mb, mg1, mg2, mc0, mc1, _⟩ := hmid
            obtain ⟨X, hX⟩ : ∃ X : Int, X = x - 1 + i := ⟨_, rfl⟩
            rw [← hX]
            have HX : Hid (X = x - 1 + i) := hX
            have hXw : IntKind.i64.wrap (X + 1) = X + 1 := by rw [IntKind.wrap_i64]; omega
            by_cases hi3 : i < 3
            · have hle2 : X ≤ x + 1 := by omega
              have hq : (nine (x, y))[3 * j + i]? = some (X, Y) := by
                have := nine_at (x, y) i j hi3 hj3
                rw [HX.out, HY.out]
                exact this
              have hops := opsTo_succ (x, y) (3 * j + i) (X, Y) hq
              have HOP : Hid (opsTo (x, y) (3 * j + i + 1) = opsTo (x, y) (3 * j + i) ++ if (X, Y) = (x, y) then [] else [((X, Y), 1)]) := hops
              have hfit2 : FitsP (X, Y) := by
                have h1 := HY.out
                have h2 := HX.out
                exact ⟨⟨by omega, by omega⟩, ⟨by omega, by omega⟩⟩
              clear hX hq hops
              by_cases hself : (X, Y) = (x, y)
              · have hne : ∀ w, (binOp .neq 53 (.agg #[.int .i64 X, .int .i64 Y]) (.agg #[.int .i64 x, .int .i64 y])).run Try.prog w = .ok (.bool false) w := fun w => by rw [neP_run (X, Y) (x, y)]; simp [hself]
                have HS : Hid ((X, Y) = (x, y)) := hself
                clear hself
                go_wp2_with fail
                go_roundg (gk - 1)
                case measure => have := HGI.out; omega
                case rel =>
                  have h1 := HGI.out
                  have h2 := HX.out
                  refine ⟨i + 1, by omega, by omega, by rw [h2]; congr 1; omega, ?_⟩
                  rw [show 3 * j + (i + 1) = 3 * j + i + 1 by omega, HOP.out, if_pos HS.out, List.append_nil]
                  exact (HM3.out.alloc _).mono (by omega)
              · have hne : ∀ w, (binOp .neq 53 (.agg #[.int .i64 X, .int .i64 Y]) (.agg #[.int .i64 x, .int .i64 y])).run Try.prog w = .ok (.bool true) w := fun w => by rw [neP_run (X, Y) (x, y)]; simp [hself]
                have HS : Hid (¬ (X, Y) = (x, y)) := hself
                clear hself
                obtain ⟨v2, st2, wA2, wB2, hl0, hE, hl1, hst, hwrap, hmid2⟩ := (HM3.out.alloc (.cells #[.int .i64 X, .int .i64 Y] 53)).bump (by omega) X Y hfit2 1 (Or.inr rfl)
                have HM4 : Hid (MidC w g (x, y) (k * 10 + 1 + 3 * j + i + 1) (opsL (zs.take k) ++ opsTo (x, y) (3 * j + i) ++ [((X, Y), 1)]) wB2) := hmid2
                clear hmid2
                go_wp2_with fail
                go_region
                go_wp2_with fail
                go_roundg (gk - 1)
                case measure => have := HGI.out; omega
                case rel =>
                  have h1 := HGI.out
                  have h2 := HX.out
                  refine ⟨i + 1, by omega, by omega, by rw [h2]; congr 1; omega, ?_⟩
                  rw [show 3 * j + (i + 1) = 3 * j + i + 1 by omega, HOP.out, if_neg HS.out, ← List.append_assoc]
                  exact HM4.out.mono (by omega)
            · have hgt : ¬ X ≤ x + 1 := by omega
              have HI3 : Hid (i = 3) := by show i = 3; omega
              clear hX
              go_wp2_with fail
              go_roundg (gJ - 1)
              case measure => have := HGJ.out; omega
              case rel =>
                have h1 := HGJ.out
                have h2 := HY.out
                have h3 := HI3.out
                subst h3
                exact ⟨j + 1, by omega, by omega, by rw [h2]; congr 1; omega, HM3.out⟩
        · have hgt : ¬ Y ≤ y + 1 := by omega
          have HJ3 : Hid (j = 3) := by show j = 3; omega
          clear hY
          go_wp2_with fail
          go_roundg (gK - 1)
          case measure => have := HG.out; omega
          case rel =>
            have h1 := HG.out
            have h3 := HJ3.out
            subst h3
            refine ⟨k + 1, by omega, by omega, by go_num, ?_⟩
            rw [opsL_succ zs k (x, y) (by rw [HL.out]; exact hlt) HZ.out]
            have := HM2.out.out
            rw [show (k + 1) * 10 = k * 10 + 1 + 3 * 3 by omega]
            exact this
    · have hkn : k = n := by omega
      subst hkn
      go_wp2_with fail
      go_ret
      have := HO.out
      rw [List.take_of_length_le (by rw [HL.out]; omega)] at this
      exact ⟨rfl, this⟩
end Go.Proofs.Ytoppncaidhlenab
