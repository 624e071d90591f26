/- The document's merge: what is in either list, by how often and in which. -/
import Derived.Test.YthobobgiendcfaaEntry
import Derived.Test.YthobobgiendcfaaMg
import Derived.Deep.LoopGhost
import Derived.Deep.RegionHeld3
namespace Go.Proofs.Ythobobgiendcfaa
open Go.RowKit Go.Maps

theorem makeMarks (w : World) : (Instr.makeMap 179 none).run Try.prog w = .ok (.map (some w.heap.size)) (w.alloc (.map #[] 0)) := by
  simp [Instr.makeMap, newObj, Result.andThen]
  rfl

/-- each number that is added is one of 0, 1 and 2 -/
def Small (ops : List ((Int × Int) × Int)) : Prop := ∀ o ∈ ops, 0 ≤ o.2 ∧ o.2 ≤ 2
theorem total_le : ∀ {ops : List ((Int × Int) × Int)}, Small ops → ∀ p, 0 ≤ total ops p ∧ total ops p ≤ 2 * ops.length
  | [], _, p => by simp [total]
  | (q, d) :: r, h, p => by
    have h1 := total_le (ops := r) (fun o ho => h o (List.mem_cons_of_mem _ ho)) p
    have h2 := h (q, d) (by simp)
    simp only at h2
    rw [total, List.length_cons]
    split <;> omega
/-- the map holds what has been added -/
def Marks (w : World) (N : Nat) (ops : List ((Int × Int) × Int)) (wr : World) : Prop :=
  Below w.heap.size w wr ∧ w.heap.size < wr.heap.size ∧ Small ops ∧ ops.length ≤ N ∧ ∃ D : DataW Unit, wr.ownsMap Try.prog 87 (plainElem Try.prog 3) w.heap.size N D ∧ Cnt D ops
theorem Marks.alloc {w wr : World} {N : Nat} {ops : List ((Int × Int) × Int)} (h : Marks w N ops wr) (o : Obj) : Marks w N ops (wr.alloc o) := by
  obtain ⟨h1, h2, h3, h4, D, h5, h6⟩ := h
  exact ⟨h1.alloc h1.size o, by simp; omega, h3, h4, D, h5.alloc o, h6⟩
theorem Marks.drew {w wr : World} {N : Nat} {ops : List ((Int × Int) × Int)} (h : Marks w N ops wr) : Marks w N ops wr.drew := by
  obtain ⟨h1, h2, h3, h4, D, h5, h6⟩ := h
  exact ⟨h1.drew, h2, h3, h4, D, h5.drew, h6⟩
theorem Marks.below {w w3 wr : World} {N : Nat} {ops : List ((Int × Int) × Int)} (h : Marks w N ops w3) (hb : Below w3.heap.size w3 wr) : Marks w N ops wr := by
  obtain ⟨h1, h2, h3, h4, D, ⟨es, clock, h5, F⟩, h6⟩ := h
  exact ⟨h1.trans (hb.mono h1.size), Nat.lt_of_lt_of_le h2 hb.size, h3, h4, D, ⟨es, clock, by rw [hb.block _ h2]; exact h5, F⟩, h6⟩

theorem Marks.bump {w wr : World} {N : Nat} {ops : List ((Int × Int) × Int)} (h : Marks w N ops wr) (hN : N ≤ 50000) (qx qy : Int) (hq : FitsP (qx, qy)) (d : Int) (hd : 0 ≤ d ∧ d ≤ 2) :
    ∃ (v : Int) (st : Nat) (wA wB : World), (Instr.lookup 179 (.map (some w.heap.size)) (.agg #[.int .i64 qx, .int .i64 qy]) false).run Try.prog wr.drew = .ok (.int .i64 v) wr.drew ∧
      (Instr.mapEntry 179 (.map (some w.heap.size)) (.agg #[.int .i64 qx, .int .i64 qy])).run Try.prog wr.drew = .ok (.tuple #[.int .i64 v, .int .i64 st]) wA ∧
      (Instr.lookup 179 (.map (some w.heap.size)) (.agg #[.int .i64 qx, .int .i64 qy]) false).run Try.prog wA = .ok (.int .i64 v) wA ∧
      (Instr.entryStore 179 (.map (some w.heap.size)) (.int .i64 st) (.int .i64 (v + d))).run Try.prog wA = .ok () wB ∧ IntKind.i64.wrap (v + d) = v + d ∧ Marks w (N + 1) (ops ++ [((qx, qy), d)]) wB := by
  obtain ⟨h1, h2, h6, h7, D, h8, h9⟩ := h
  obtain ⟨v, st, wA, hat, hwv, hl0, hE, hl1, hgA, hS⟩ := entry_step (w := wr.drew) h8.drew (by unfold maxLen; omega) hq
  have hv : v = total ops (qx, qy) := by
    have := (h9 (qx, qy) hq).2
    rw [hat] at this
    simpa using this
  have hb := total_le h6 (qx, qy)
  have hf : Fits (v + d) := by unfold Fits; omega
  obtain ⟨wB, hst, hown, hg⟩ := hS (v + d) (wf_of_fits hf)
  refine ⟨v, st, wA, wB, hl0, hE, hl1, hst, by rw [IntKind.wrap_i64]; unfold Fits at hf; omega, ?_⟩
  refine ⟨h1.drew.grown hg h1.size (fun j hj => by cases hj; exact Nat.le_refl _), Nat.lt_of_lt_of_le h2 hg.size, ?_, ?_, _, hown, h9.put h8.isMap hq d (v + d) (by rw [hv])⟩
  · intro o ho
    rw [List.mem_append, List.mem_singleton] at ho
    rcases ho with ho | rfl
    · exact h6 o ho
    · exact hd
  · rw [List.length_append, List.length_singleton]; omega

/-- what a look-up answers -/
theorem Marks.look {w wr : World} {N : Nat} {ops : List ((Int × Int) × Int)} (h : Marks w N ops wr) (qx qy : Int) (hq : FitsP (qx, qy)) :
    (Instr.lookup 179 (.map (some w.heap.size)) (.agg #[.int .i64 qx, .int .i64 qy]) false).run Try.prog wr = .ok (.int .i64 (total ops (qx, qy))) wr := by
  obtain ⟨h1, h2, h6, h7, D, h8, h9⟩ := h
  obtain ⟨c, hlook, hat, hwc⟩ := h8.lookup_int law Try.underlying179 Try.underlying3 (Try.zero3 wr) (key_cell hq)
  have := (h9 (qx, qy) hq).2
  rw [hat] at this
  have hc : c = total ops (qx, qy) := by simpa using this
  rw [← hc]
  exact hlook

/-- what is added of both lists -/
def opsOf (d : Int) (l : List (Int × Int)) : List ((Int × Int) × Int) := l.map (fun p => (p, d))
theorem total_of (d : Int) : ∀ (l : List (Int × Int)), l.Nodup → ∀ p, total (opsOf d l) p = if p ∈ l then d else 0
  | [], _, p => by simp [opsOf, total]
  | q :: l, h, p => by
    rw [List.nodup_cons] at h
    have ih := total_of d l h.2 p
    unfold opsOf at ih ⊢
    rw [List.map_cons, total, ih]
    by_cases e : q = p
    · subst e
      simp [h.1]
    · have : ¬ p = q := fun k => e k.symm
      simp [e, this]
theorem tidy_nodup {l : List (Int × Int)} (h : Tidy l) : l.Nodup := by
  refine h.imp ?_
  intro a b hab e
  subst e
  unfold ahead at hab
  omega
theorem opsOf_succ (d : Int) (zs : List (Int × Int)) (k : Nat) (z : Int × Int) (hk : k < zs.length) (h : zs[k]! = z) : opsOf d (zs.take (k + 1)) = opsOf d (zs.take k) ++ [(z, d)] := by
  rw [List.take_succ_eq_append_getElem hk, ← getElem!_pos zs k hk, h]
  simp [opsOf]
/-- what is kept so far -/
def DoneTo (keep : Bool → Bool → Bool) (ys ts dn rs : List (Int × Int)) : Prop :=
  Tidy rs ∧ rs.length ≤ dn.length ∧ ∀ p, p ∈ rs ↔ p ∈ dn ∧ keep (decide (p ∈ ys)) (decide (p ∈ ts)) = true
theorem DoneTo.skip {keep : Bool → Bool → Bool} {ys ts dn rs : List (Int × Int)} {c : Int × Int} (h : DoneTo keep ys ts dn rs) (hc : keep (decide (c ∈ ys)) (decide (c ∈ ts)) = false) : DoneTo keep ys ts (dn ++ [c]) rs := by
  refine ⟨h.1, by have := h.2.1; simp; omega, fun p => ?_⟩
  rw [h.2.2 p, List.mem_append, List.mem_singleton]
  constructor
  · rintro ⟨h1, h2⟩; exact ⟨Or.inl h1, h2⟩
  · rintro ⟨h1 | rfl, h2⟩
    · exact ⟨h1, h2⟩
    · rw [hc] at h2; cases h2
theorem DoneTo.put {keep : Bool → Bool → Bool} {ys ts dn rs rs' : List (Int × Int)} {c : Int × Int} (h : DoneTo keep ys ts dn rs) (hc : keep (decide (c ∈ ys)) (decide (c ∈ ts)) = true)
    (h1 : Tidy rs') (h2 : ∀ p, p ∈ rs' ↔ p = c ∨ p ∈ rs) (h3 : rs'.length ≤ rs.length + 1) : DoneTo keep ys ts (dn ++ [c]) rs' := by
  refine ⟨h1, by have := h.2.1; simp; omega, fun p => ?_⟩
  rw [h2 p, h.2.2 p, List.mem_append, List.mem_singleton]
  constructor
  · rintro (rfl | ⟨k1, k2⟩)
    · exact ⟨Or.inr rfl, hc⟩
    · exact ⟨Or.inl k1, k2⟩
  · rintro ⟨k1 | rfl, k2⟩
    · exact Or.inr ⟨k1, k2⟩
    · exact Or.inl rfl
theorem take_next (zs : List (Int × Int)) (k : Nat) (z : Int × Int) (hk : k < zs.length) (h : zs[k]! = z) : zs.take (k + 1) = zs.take k ++ [z] := by
  rw [List.take_succ_eq_append_getElem hk, ← getElem!_pos zs k hk, h]
/-- the lists that are through -/
def through (ys ts : List (Int × Int)) (t : Nat) : List (Int × Int) := if t = 0 then [] else if t = 1 then ys else ys ++ ts
theorem fits_tidied {za ys : List (Int × Int)} (h : Tidied za ys) {p : Int × Int} (hp : p ∈ ys) : FitsP p := by
  obtain ⟨h1, h2⟩ := (h.2 p).1 hp
  unfold tcode at h2
  split at h2
  · cases h2
  · split at h2
    · cases h2
    · rename_i hn
      have h3 : farP p = false := by
        have h4 : za.any farP = false := by simpa using hn
        rw [List.any_eq_false] at h4
        have := h4 p h1
        simpa using this
      simp [farP, farI] at h3
      exact ⟨⟨by omega, by omega⟩, ⟨by omega, by omega⟩⟩

set_option maxRecDepth 4000 in
set_option maxHeartbeats 40000000 in
theorem refMerge_any (keep : Bool → Bool → Bool) (g : Nat) (eg : ∀ args w, (callFunc g args).run Try.prog w = .ok (.enter g args) w) (hk : ∀ a b W, Calls Try.prog g #[.bool a, .bool b] W fun e w' => e = .returned (.bool (keep a b)) ∧ w' = W)
    (v u : Value) (za zb : List (Int × Int)) (w : World) (ha : RRow w v za) (hb : RRow w u zb) :
    Calls Try.prog 102 #[v, u, .func (.func g) #[] #[]] w fun e w' => MergeOut keep za zb w e w' := by
  have hTa := refTidy_told v za w ha
  have HB : Hid (RRow w u zb) := hb
  have HKP : Hid (∀ a b W, Calls Try.prog g #[.bool a, .bool b] W fun e w' => e = .returned (.bool (keep a b)) ∧ w' = W) := hk
  clear ha hb hk
  by_cases htc : tcode za = 0
  · rw [htc] at hTa
    by_cases huc : tcode zb = 0
    · have HC : Hid (tcode za = 0 ∧ tcode zb = 0) := ⟨htc, huc⟩
      clear htc huc
      have hmm := makeMarks
      go_enter Try.func102, Try.ntmps102
      go_wp2_with fail
      refine hTa.mono ?_
      rintro e w1 ⟨va, ys, rfl, hb1, ht1, hr1⟩
      have hTb := refTidy_told u zb w1 (HB.out.below hb1)
      rw [HC.out.2] at hTb
      go_wp2_with fail
      refine hTb.mono ?_
      rintro e w2 ⟨vb, ts, rfl, hb2, ht2, hr2⟩
      have hbw2 : Below w.heap.size w w2 := hb1.trans (hb2.mono hb1.size)
      have HT : Hid (Tidied za ys ∧ Tidied zb ts) := ⟨ht1, ht2⟩
      have hsa := tidied_short ht1 HC.out.1
      have hsb := tidied_short ht2 HC.out.2
      have hra := hr1.below hb2
      clear hTa hTb ht1 ht2 hr1 hb1 hb2
      obtain ⟨aa, ca, rfl, ra1⟩ := hra.shape
      obtain ⟨ab, cb, rfl, rb1⟩ := hr2.shape
      have HRR : Hid (Row w2 (.slice aa ys.length ca) ys ∧ Row w2 (.slice ab ts.length cb) ts) := ⟨hra, hr2⟩
      clear hra hr2
      obtain ⟨n, hn⟩ : ∃ n, n = ys.length := ⟨_, rfl⟩
      obtain ⟨m, hm⟩ : ∃ m, m = ts.length := ⟨_, rfl⟩
      have HL : Hid (n = ys.length ∧ m = ts.length) := ⟨hn, hm⟩
      rw [← hn] at hsa ra1 HRR ⊢
      rw [← hm] at hsb rb1 HRR ⊢
      clear hn hm
      have hO0 : Marks w2 0 [] (w2.alloc (.map #[] 0)) := ⟨(Below.refl _ _).alloc (Nat.le_refl _) _, by simp, (fun o ho => by cases ho), Nat.le_refl _, .map [], World.ownsMap_made (H := Unit) w2 Try.prog 87 (plainElem Try.prog 3), Cnt.empty⟩
      have HO : Hid (Marks w2 0 [] (w2.alloc (.map #[] 0))) := hO0
      clear hO0
      go_wp2_with fail
      clear hmm
      go_loopg [40] n (fun gk s40 wr => ∃ (k : Nat), k ≤ n ∧ n - k ≤ gk ∧ s40 = .int .i64 k ∧ Marks w2 k (opsOf 1 (ys.take k)) wr)
      case atStart => exact ⟨0, by omega, by omega, rfl, HO.out⟩
      case round =>
        obtain ⟨k, hk, hgk, rfl, hout⟩ := hrel
        have HG : Hid (n - k ≤ gk) := hgk
        have HO : Hid (Marks w2 k (opsOf 1 (ys.take k)) wr) := hout
        have hbr := hout.1
        clear hgk hout
        have hsz := hbr.size
        by_cases hlt : k < n
        · rcases HRR.out.1 with ⟨h0, _⟩ | ⟨_, b, off, c, hv, hb, _, _, hH⟩
          · have := HL.out.1; rw [h0] at this; simp at this; omega
          simp only [Value.slice.injEq] at hv
          obtain ⟨hv1, _, rfl⟩ := hv
          subst hv1
          obtain ⟨c0, c1⟩ := hH k (by rw [← HL.out.1]; exact hlt)
          rw [← hbr.cell (p := ⟨b, off + k * 2, none⟩) hb] at c0
          rw [← hbr.cell (p := ⟨b, off + k * 2 + 1, none⟩) hb] at c1
          have hfit : FitsP ys[k]! := fits_tidied HT.out.1 (by rw [getElem!_pos ys k (by rw [← HL.out.1]; exact hlt)]; exact List.getElem_mem _)
          generalize hz : ys[k]! = z at c0 c1 hfit
          have HZ : Hid (ys[k]! = z) := hz
          clear hz hH
          obtain ⟨x, y⟩ := z
          simp only at c0 c1
          have hi1 : (0 : Int) ≤ (k : Int) := by omega
          have hi2 : (k : Int) < (n : Int) := by omega
          have hbw : b < wr.heap.size := Nat.lt_of_lt_of_le hb hsz
          obtain ⟨v, st, wA, wB, hl0, hE, hl1, hst, hwrap, hmid⟩ := (HO.out.alloc (.cells #[.int .i64 x, .int .i64 y] 87)).bump (by omega) x y hfit 1 (by omega)
          have HM : Hid (Marks w2 (k + 1) (opsOf 1 (ys.take k) ++ [((x, y), 1)]) wB) := hmid
          clear hmid hfit
          go_wp2_with fail
          go_region
          go_wp2_with fail
          go_roundg (gk - 1)
          case measure => have := HG.out; omega
          case rel =>
            have := HG.out
            refine ⟨k + 1, by omega, by omega, by go_num, ?_⟩
            rw [opsOf_succ 1 ys k (x, y) (by rw [← HL.out.1]; exact hlt) HZ.out]
            exact HM.out
        · have hkn : k = n := by omega
          subst hkn
          have HO1 : Hid (Marks w2 k (opsOf 1 ys) wr) := by
            show Marks w2 k (opsOf 1 ys) wr
            have := HO.out
            rw [List.take_of_length_le (by rw [← HL.out.1]; omega)] at this
            exact this
          have hnlt : ¬ (k : Int) < (k : Int) := by omega
          go_wp2_with fail
          obtain ⟨w3, hw3⟩ : ∃ a, a = wr := ⟨wr, rfl⟩
          subst hw3
          go_loopg [53] m (fun gk s53 wr => ∃ (j : Nat), j ≤ m ∧ m - j ≤ gk ∧ s53 = .int .i64 j ∧ Marks w2 (k + j) (opsOf 1 ys ++ opsOf 2 (ts.take j)) wr)
          case atStart => exact ⟨0, by omega, by omega, rfl, by simpa [opsOf] using HO1.out⟩
          case round =>
            obtain ⟨j, hj, hgj, rfl, hout⟩ := hrel
            have HG : Hid (m - j ≤ gk) := hgj
            have HO2 : Hid (Marks w2 (k + j) (opsOf 1 ys ++ opsOf 2 (ts.take j)) wr) := hout
            have hbr := hout.1
            clear hgj hout
            have hsz := hbr.size
            by_cases hlt2 : j < m
            · rcases HRR.out.2 with ⟨h0, _⟩ | ⟨_, b, off, c, hv, hb, _, _, hH⟩
              · have := HL.out.2; rw [h0] at this; simp at this; omega
              simp only [Value.slice.injEq] at hv
              obtain ⟨hv1, _, rfl⟩ := hv
              subst hv1
              obtain ⟨c0, c1⟩ := hH j (by rw [← HL.out.2]; exact hlt2)
              rw [← hbr.cell (p := ⟨b, off + j * 2, none⟩) hb] at c0
              rw [← hbr.cell (p := ⟨b, off + j * 2 + 1, none⟩) hb] at c1
              have hfit : FitsP ts[j]! := fits_tidied HT.out.2 (by rw [getElem!_pos ts j (by rw [← HL.out.2]; exact hlt2)]; exact List.getElem_mem _)
              generalize hz : ts[j]! = z at c0 c1 hfit
              have HZ : Hid (ts[j]! = z) := hz
              clear hz hH
              obtain ⟨x, y⟩ := z
              simp only at c0 c1
              have hi1 : (0 : Int) ≤ (j : Int) := by omega
              have hi2 : (j : Int) < (m : Int) := by omega
              have hbw : b < wr.heap.size := Nat.lt_of_lt_of_le hb hsz
              obtain ⟨v, st, wA, wB, hl0, hE, hl1, hst, hwrap, hmid⟩ := (HO2.out.alloc (.cells #[.int .i64 x, .int .i64 y] 87)).bump (by omega) x y hfit 2 (by omega)
              have HM : Hid (Marks w2 (k + j + 1) (opsOf 1 ys ++ opsOf 2 (ts.take j) ++ [((x, y), 2)]) wB) := hmid
              clear hmid hfit
              go_wp2_with fail
              go_region
              go_wp2_with fail
              go_roundg (gk - 1)
              case measure => have := HG.out; omega
              case rel =>
                have := HG.out
                refine ⟨j + 1, by omega, by omega, by go_num, ?_⟩
                rw [opsOf_succ 2 ts j (x, y) (by rw [← HL.out.2]; exact hlt2) HZ.out, ← List.append_assoc]
                exact HM.out
            · have hjn : j = m := by omega
              subst hjn
              have HO3 : Hid (Marks w2 (k + j) (opsOf 1 ys ++ opsOf 2 ts) wr) := by
                show Marks w2 (k + j) (opsOf 1 ys ++ opsOf 2 ts) wr
                have := HO2.out
                rw [List.take_of_length_le (by rw [← HL.out.2]; omega)] at this
                exact this
              have hnlt2 : ¬ (j : Int) < (j : Int) := by omega
              clear HO HO1 HO2
              go_wp2_with fail
              have hbW : Below w.heap.size w wr := hbw2.trans (hbr.mono hbw2.size)
              obtain ⟨w4, hw4⟩ : ∃ a, a = wr := ⟨wr, rfl⟩
              subst hw4
              obtain ⟨W5, hW5⟩ : ∃ a, a = w4.alloc (Obj.cells #[Value.slice aa k ca, Value.slice ab j cb] 69) := ⟨_, rfl⟩
              rw [← hW5]
              have hg0 : W5.cell? ⟨w4.heap.size, 0, none⟩ = some (.slice aa k ca) := by rw [hW5, World.cell?_alloc_new]; rfl
              have hg1 : W5.cell? ⟨w4.heap.size, 1, none⟩ = some (.slice ab j cb) := by rw [hW5, World.cell?_alloc_new]; rfl
              have hgs : w4.heap.size < W5.heap.size := by rw [hW5]; simp
              have hB5 : Below w2.heap.size w2 W5 := by rw [hW5]; exact hbr.alloc hbr.size _
              have hbw5 : Below w.heap.size w W5 := hbw2.trans (hB5.mono hbw2.size)
              have HO5 : Hid (Marks w2 (k + j) (opsOf 1 ys ++ opsOf 2 ts) W5) := by
                show Marks w2 (k + j) (opsOf 1 ys ++ opsOf 2 ts) W5
                rw [hW5]; exact HO3.out.alloc _
              clear hW5 HO3
              go_loopg [16, 68] 2 (fun gk s16 s68 wr => ∃ (t : Nat) (rs : List (Int × Int)), t ≤ 2 ∧ 2 - t ≤ gk ∧ s68 = .int .i64 t ∧ Kept wr W5.heap.size s16 rs ∧ DoneTo keep ys ts (through ys ts t) rs ∧ Below W5.heap.size W5 wr)
              case atStart => exact ⟨0, [], by omega, by omega, rfl, Or.inl ⟨rfl, rfl⟩, ⟨List.Pairwise.nil, by simp, fun p => by simp [through]⟩, Below.refl _ _⟩
              case round =>
                obtain ⟨t, rs, ht, hgt, rfl, hK, hD, hbr5⟩ := hrel
                obtain ⟨gT, hgT⟩ : ∃ a, a = gk := ⟨gk, rfl⟩
                subst hgT
                obtain ⟨wt, hwt⟩ : ∃ a, a = wr := ⟨wr, rfl⟩
                subst hwt
                have HG : Hid (2 - t ≤ gT) := hgt
                have HK : Hid (Kept wt W5.heap.size u16 rs ∧ DoneTo keep ys ts (through ys ts t) rs) := ⟨hK, hD⟩
                obtain ⟨a9, c9, h9, hr9⟩ := hK.row.shape
                clear hgt hK hD
                by_cases hlt3 : t < 2
                · obtain ⟨al, nl, cl', ls, hcl, HROW⟩ : ∃ al nl cl' ls, W5.cell? ⟨w4.heap.size, t, none⟩ = some (.slice al nl cl') ∧ Hid (Row w2 (.slice al nl cl') ls ∧ nl = ls.length ∧ nl ≤ 4096 ∧ through ys ts (t + 1) = through ys ts t ++ ls ∧ (∀ p ∈ ls, FitsP p) ∧ (through ys ts t).length ≤ 4096) := by
                    have := HL.out
                    rcases (show t = 0 ∨ t = 1 by omega) with rfl | rfl
                    · exact ⟨aa, k, ca, ys, hg0, HRR.out.1, HL.out.1, hsa, by simp [through], fun p hp => fits_tidied HT.out.1 hp, by simp [through]⟩
                    · exact ⟨ab, j, cb, ts, hg1, HRR.out.2, HL.out.2, hsb, by simp [through], fun p hp => fits_tidied HT.out.2 hp, by simp [through]; omega⟩
                  rw [← hbr5.cell (p := ⟨w4.heap.size, t, none⟩) hgs] at hcl
                  have hi1 : (0 : Int) ≤ (t : Int) := by omega
                  have hi2 : (t : Int) < (2 : Int) := by omega
                  have hnl : nl ≤ 4096 := HROW.out.2.2.1
                  have hgw : w4.heap.size < wt.heap.size := Nat.lt_of_lt_of_le hgs hbr5.size
                  go_wp2_with fail
                  go_loopg [16, 74] nl (fun gk s16 s74 wr => ∃ (i : Nat) (rs : List (Int × Int)), i ≤ nl ∧ nl - i ≤ gk ∧ s74 = .int .i64 i ∧ Kept wr W5.heap.size s16 rs ∧ DoneTo keep ys ts (through ys ts t ++ ls.take i) rs ∧ Below W5.heap.size W5 wr)
                  case atStart => exact ⟨0, rs, by omega, by omega, rfl, HK.out.1, by simpa using HK.out.2, hbr5⟩
                  case round =>
                    obtain ⟨i, rs2, hi, hgi, rfl, hK2, hD2, hbr6⟩ := hrel
                    have HGI : Hid (nl - i ≤ gk) := hgi
                    have HK2 : Hid (Kept wr W5.heap.size u16 rs2 ∧ DoneTo keep ys ts (through ys ts t ++ ls.take i) rs2) := ⟨hK2, hD2⟩
                    have hrs2 : rs2.length ≤ 8192 := by
                      have h1 := hD2.2.1
                      have h2 := HROW.out.2.2.2.2.2
                      rw [List.length_append, List.length_take] at h1
                      omega
                    clear hgi hK2 hD2 HK hcl h9
                    have hbr2 : Below w2.heap.size w2 wr := hB5.trans (hbr6.mono hB5.size)
                    by_cases hlt4 : i < nl
                    · rcases HROW.out.1 with ⟨h0, _⟩ | ⟨_, b, off, c, hv, hb, _, _, hH⟩
                      · have := HROW.out.2.1; rw [h0] at this; simp at this; omega
                      simp only [Value.slice.injEq] at hv
                      obtain ⟨hv1, hv2, rfl⟩ := hv
                      clear hv2
                      subst hv1
                      obtain ⟨c0, c1⟩ := hH i (by rw [← HROW.out.2.1]; exact hlt4)
                      rw [← hbr2.cell (p := ⟨b, off + i * 2, none⟩) hb] at c0
                      rw [← hbr2.cell (p := ⟨b, off + i * 2 + 1, none⟩) hb] at c1
                      have hmem : ls[i]! ∈ ls := by rw [getElem!_pos ls i (by rw [← HROW.out.2.1]; exact hlt4)]; exact List.getElem_mem _
                      have hfit : FitsP ls[i]! := HROW.out.2.2.2.2.1 _ hmem
                      generalize hz : ls[i]! = z at c0 c1 hfit
                      have HZ : Hid (ls[i]! = z) := hz
                      clear hz hH hmem
                      obtain ⟨x, y⟩ := z
                      simp only at c0 c1
                      have hj1 : (0 : Int) ≤ (i : Int) := by omega
                      have hj2 : (i : Int) < (nl : Int) := by omega
                      have hbw : b < wr.heap.size := Nat.lt_of_lt_of_le hb hbr2.size
                      have hlook : (Instr.lookup 179 (.map (some w2.heap.size)) (.agg #[.int .i64 x, .int .i64 y]) false).run Try.prog (wr.alloc (.cells #[.int .i64 x, .int .i64 y] 87)).drew = .ok (.int .i64 (total (opsOf 1 ys ++ opsOf 2 ts) (x, y))) (wr.alloc (.cells #[.int .i64 x, .int .i64 y] 87)).drew :=
                        Marks.look ((HO5.out.below hbr6).alloc _).drew x y hfit
                      have htot : total (opsOf 1 ys ++ opsOf 2 ts) (x, y) = (if (x, y) ∈ ys then 1 else 0) + (if (x, y) ∈ ts then 2 else 0) := by
                        rw [total_append, total_of 1 ys (tidy_nodup HT.out.1.1), total_of 2 ts (tidy_nodup HT.out.2.1)]
                      rw [htot] at hlook
                      have HNX : Hid (ls.take (i + 1) = ls.take i ++ [(x, y)]) := take_next ls i (x, y) (by rw [← HROW.out.2.1]; exact hlt4) HZ.out
                      clear htot hfit
                      obtain ⟨ba, hba⟩ : ∃ ba, ba = decide ((x, y) ∈ ys) := ⟨_, rfl⟩
                      obtain ⟨bb, hbb⟩ : ∃ bb, bb = decide ((x, y) ∈ ts) := ⟨_, rfl⟩
                      have HBB : Hid (ba = decide ((x, y) ∈ ys) ∧ bb = decide ((x, y) ∈ ts)) := ⟨hba, hbb⟩
                      have e1 : (if (x, y) ∈ ys then (1 : Int) else 0) = if ba then 1 else 0 := by rw [hba]; simp
                      have e2 : (if (x, y) ∈ ts then (2 : Int) else 0) = if bb then 2 else 0 := by rw [hbb]; simp
                      rw [e1, e2] at hlook
                      clear e1 e2 hba hbb
                      have hcall := HKP.out ba bb
                      generalize hkb : keep ba bb = kb at hcall
                      have HKB : Hid (keep (decide ((x, y) ∈ ys)) (decide ((x, y) ∈ ts)) = kb) := by show _ = _; rw [← HBB.out.1, ← HBB.out.2]; exact hkb
                      clear hkb
                      cases ba <;> cases bb <;> simp only [Bool.false_eq_true, if_false, if_true, Int.add_zero, Int.zero_add, Int.reduceAdd] at hlook
                      · have hS0 : (wr.alloc (.cells #[.int .i64 x, .int .i64 y] 87)).drew.cell? ⟨wr.heap.size, 0, none⟩ = some (.int .i64 x) ∧ (wr.alloc (.cells #[.int .i64 x, .int .i64 y] 87)).drew.cell? ⟨wr.heap.size, 1, none⟩ = some (.int .i64 y) ∧ (Instr.lookup 179 (.map (some w2.heap.size)) (.agg #[.int .i64 x, .int .i64 y]) false).run Try.prog (wr.alloc (.cells #[.int .i64 x, .int .i64 y] 87)).drew = .ok (.int .i64 0) (wr.alloc (.cells #[.int .i64 x, .int .i64 y] 87)).drew ∧ (wr.alloc (.cells #[.int .i64 x, .int .i64 y] 87)).drew.heap = (wr.alloc (.cells #[.int .i64 x, .int .i64 y] 87)).heap ∧ Below W5.heap.size W5 (wr.alloc (.cells #[.int .i64 x, .int .i64 y] 87)).drew := ⟨by simp [go_sem, World.cell?_alloc_new], by simp [go_sem, World.cell?_alloc_new], hlook, rfl, (hbr6.alloc hbr6.size _).drew⟩
                        go_wp2_with fail
                        go_region_held3 (fun w' => w'.cell? ⟨wr.heap.size, 0, none⟩ = some (.int .i64 x) ∧ w'.cell? ⟨wr.heap.size, 1, none⟩ = some (.int .i64 y) ∧ (Instr.lookup 179 (.map (some w2.heap.size)) (.agg #[.int .i64 x, .int .i64 y]) false).run Try.prog w' = .ok (.int .i64 0) w' ∧ w'.heap = (wr.alloc (.cells #[.int .i64 x, .int .i64 y] 87)).heap ∧ Below W5.heap.size W5 w') (first | exact hS0 | assumption)
                          (first | (refine (hcall _).mono ?_; rintro e w' ⟨rfl, hw⟩; subst hw))
                        all_goals
                          rename_i hH
                          have hB6 : Below W5.heap.size W5 (wr.alloc (.cells #[.int .i64 x, .int .i64 y] 87)).drew := hH.2.2.2.2
                          clear hH hlook hS0 hcall
                          cases kb
                          · go_wp2_with fail
                            go_roundg (gk - 1)
                            case measure => have := HGI.out; omega
                            case rel =>
                              have := HGI.out
                              refine ⟨i + 1, rs2, by omega, by omega, by go_num, HK2.out.1.block (fun g hg => Below.heap_alloc _ _ g hg), ?_, hB6⟩
                              rw [HNX.out, ← List.append_assoc]
                              exact HK2.out.2.skip HKB.out
                          · have hput := put_any u16 W5.heap.size rs2 (x, y) (wr.alloc (.cells #[.int .i64 x, .int .i64 y] 87)).drew hB6.size (HK2.out.1.block (fun g hg => Below.heap_alloc _ _ g hg)) HK2.out.2.1 (by omega)
                            simp only at hput
                            go_wp2_with fail
                            refine hput.mono ?_
                            rintro e w7 ⟨u7, rs7, rfl, t7, m7, n7, l7, o7, b7⟩
                            go_wp2_with fail
                            go_roundg (gk - 1)
                            case measure => have := HGI.out; omega
                            case rel =>
                              have := HGI.out
                              refine ⟨i + 1, rs7, by omega, by omega, by go_num, Or.inr ⟨n7, o7⟩, ?_, hB6.trans b7⟩
                              rw [HNX.out, ← List.append_assoc]
                              exact HK2.out.2.put HKB.out t7 m7 l7
                      · have hS0 : (wr.alloc (.cells #[.int .i64 x, .int .i64 y] 87)).drew.cell? ⟨wr.heap.size, 0, none⟩ = some (.int .i64 x) ∧ (wr.alloc (.cells #[.int .i64 x, .int .i64 y] 87)).drew.cell? ⟨wr.heap.size, 1, none⟩ = some (.int .i64 y) ∧ (Instr.lookup 179 (.map (some w2.heap.size)) (.agg #[.int .i64 x, .int .i64 y]) false).run Try.prog (wr.alloc (.cells #[.int .i64 x, .int .i64 y] 87)).drew = .ok (.int .i64 2) (wr.alloc (.cells #[.int .i64 x, .int .i64 y] 87)).drew ∧ (wr.alloc (.cells #[.int .i64 x, .int .i64 y] 87)).drew.heap = (wr.alloc (.cells #[.int .i64 x, .int .i64 y] 87)).heap ∧ Below W5.heap.size W5 (wr.alloc (.cells #[.int .i64 x, .int .i64 y] 87)).drew := ⟨by simp [go_sem, World.cell?_alloc_new], by simp [go_sem, World.cell?_alloc_new], hlook, rfl, (hbr6.alloc hbr6.size _).drew⟩
                        go_wp2_with fail
                        go_region_held3 (fun w' => w'.cell? ⟨wr.heap.size, 0, none⟩ = some (.int .i64 x) ∧ w'.cell? ⟨wr.heap.size, 1, none⟩ = some (.int .i64 y) ∧ (Instr.lookup 179 (.map (some w2.heap.size)) (.agg #[.int .i64 x, .int .i64 y]) false).run Try.prog w' = .ok (.int .i64 2) w' ∧ w'.heap = (wr.alloc (.cells #[.int .i64 x, .int .i64 y] 87)).heap ∧ Below W5.heap.size W5 w') (first | exact hS0 | assumption)
                          (first | (refine (hcall _).mono ?_; rintro e w' ⟨rfl, hw⟩; subst hw))
                        all_goals
                          rename_i hH
                          have hB6 : Below W5.heap.size W5 (wr.alloc (.cells #[.int .i64 x, .int .i64 y] 87)).drew := hH.2.2.2.2
                          clear hH hlook hS0 hcall
                          cases kb
                          · go_wp2_with fail
                            go_roundg (gk - 1)
                            case measure => have := HGI.out; omega
                            case rel =>
                              have := HGI.out
                              refine ⟨i + 1, rs2, by omega, by omega, by go_num, HK2.out.1.block (fun g hg => Below.heap_alloc _ _ g hg), ?_, hB6⟩
                              rw [HNX.out, ← List.append_assoc]
                              exact HK2.out.2.skip HKB.out
                          · have hput := put_any u16 W5.heap.size rs2 (x, y) (wr.alloc (.cells #[.int .i64 x, .int .i64 y] 87)).drew hB6.size (HK2.out.1.block (fun g hg => Below.heap_alloc _ _ g hg)) HK2.out.2.1 (by omega)
                            simp only at hput
                            go_wp2_with fail
                            refine hput.mono ?_
                            rintro e w7 ⟨u7, rs7, rfl, t7, m7, n7, l7, o7, b7⟩
                            go_wp2_with fail
                            go_roundg (gk - 1)
                            case measure => have := HGI.out; omega
                            case rel =>
                              have := HGI.out
                              refine ⟨i + 1, rs7, by omega, by omega, by go_num, Or.inr ⟨n7, o7⟩, ?_, hB6.trans b7⟩
                              rw [HNX.out, ← List.append_assoc]
                              exact HK2.out.2.put HKB.out t7 m7 l7
                      · have hS0 : (wr.alloc (.cells #[.int .i64 x, .int .i64 y] 87)).drew.cell? ⟨wr.heap.size, 0, none⟩ = some (.int .i64 x) ∧ (wr.alloc (.cells #[.int .i64 x, .int .i64 y] 87)).drew.cell? ⟨wr.heap.size, 1, none⟩ = some (.int .i64 y) ∧ (Instr.lookup 179 (.map (some w2.heap.size)) (.agg #[.int .i64 x, .int .i64 y]) false).run Try.prog (wr.alloc (.cells #[.int .i64 x, .int .i64 y] 87)).drew = .ok (.int .i64 1) (wr.alloc (.cells #[.int .i64 x, .int .i64 y] 87)).drew ∧ (wr.alloc (.cells #[.int .i64 x, .int .i64 y] 87)).drew.heap = (wr.alloc (.cells #[.int .i64 x, .int .i64 y] 87)).heap ∧ Below W5.heap.size W5 (wr.alloc (.cells #[.int .i64 x, .int .i64 y] 87)).drew := ⟨by simp [go_sem, World.cell?_alloc_new], by simp [go_sem, World.cell?_alloc_new], hlook, rfl, (hbr6.alloc hbr6.size _).drew⟩
                        go_wp2_with fail
                        go_region_held3 (fun w' => w'.cell? ⟨wr.heap.size, 0, none⟩ = some (.int .i64 x) ∧ w'.cell? ⟨wr.heap.size, 1, none⟩ = some (.int .i64 y) ∧ (Instr.lookup 179 (.map (some w2.heap.size)) (.agg #[.int .i64 x, .int .i64 y]) false).run Try.prog w' = .ok (.int .i64 1) w' ∧ w'.heap = (wr.alloc (.cells #[.int .i64 x, .int .i64 y] 87)).heap ∧ Below W5.heap.size W5 w') (first | exact hS0 | assumption)
                          (first | (refine (hcall _).mono ?_; rintro e w' ⟨rfl, hw⟩; subst hw))
                        all_goals
                          rename_i hH
                          have hB6 : Below W5.heap.size W5 (wr.alloc (.cells #[.int .i64 x, .int .i64 y] 87)).drew := hH.2.2.2.2
                          clear hH hlook hS0 hcall
                          cases kb
                          · go_wp2_with fail
                            go_roundg (gk - 1)
                            case measure => have := HGI.out; omega
                            case rel =>
                              have := HGI.out
                              refine ⟨i + 1, rs2, by omega, by omega, by go_num, HK2.out.1.block (fun g hg => Below.heap_alloc _ _ g hg), ?_, hB6⟩
                              rw [HNX.out, ← List.append_assoc]
                              exact HK2.out.2.skip HKB.out
                          · have hput := put_any u16 W5.heap.size rs2 (x, y) (wr.alloc (.cells #[.int .i64 x, .int .i64 y] 87)).drew hB6.size (HK2.out.1.block (fun g hg => Below.heap_alloc _ _ g hg)) HK2.out.2.1 (by omega)
                            simp only at hput
                            go_wp2_with fail
                            refine hput.mono ?_
                            rintro e w7 ⟨u7, rs7, rfl, t7, m7, n7, l7, o7, b7⟩
                            go_wp2_with fail
                            go_roundg (gk - 1)
                            case measure => have := HGI.out; omega
                            case rel =>
                              have := HGI.out
                              refine ⟨i + 1, rs7, by omega, by omega, by go_num, Or.inr ⟨n7, o7⟩, ?_, hB6.trans b7⟩
                              rw [HNX.out, ← List.append_assoc]
                              exact HK2.out.2.put HKB.out t7 m7 l7
                      · have hS0 : (wr.alloc (.cells #[.int .i64 x, .int .i64 y] 87)).drew.cell? ⟨wr.heap.size, 0, none⟩ = some (.int .i64 x) ∧ (wr.alloc (.cells #[.int .i64 x, .int .i64 y] 87)).drew.cell? ⟨wr.heap.size, 1, none⟩ = some (.int .i64 y) ∧ (Instr.lookup 179 (.map (some w2.heap.size)) (.agg #[.int .i64 x, .int .i64 y]) false).run Try.prog (wr.alloc (.cells #[.int .i64 x, .int .i64 y] 87)).drew = .ok (.int .i64 3) (wr.alloc (.cells #[.int .i64 x, .int .i64 y] 87)).drew ∧ (wr.alloc (.cells #[.int .i64 x, .int .i64 y] 87)).drew.heap = (wr.alloc (.cells #[.int .i64 x, .int .i64 y] 87)).heap ∧ Below W5.heap.size W5 (wr.alloc (.cells #[.int .i64 x, .int .i64 y] 87)).drew := ⟨by simp [go_sem, World.cell?_alloc_new], by simp [go_sem, World.cell?_alloc_new], hlook, rfl, (hbr6.alloc hbr6.size _).drew⟩
                        go_wp2_with fail
                        go_region_held3 (fun w' => w'.cell? ⟨wr.heap.size, 0, none⟩ = some (.int .i64 x) ∧ w'.cell? ⟨wr.heap.size, 1, none⟩ = some (.int .i64 y) ∧ (Instr.lookup 179 (.map (some w2.heap.size)) (.agg #[.int .i64 x, .int .i64 y]) false).run Try.prog w' = .ok (.int .i64 3) w' ∧ w'.heap = (wr.alloc (.cells #[.int .i64 x, .int .i64 y] 87)).heap ∧ Below W5.heap.size W5 w') (first | exact hS0 | assumption)
                          (first | (refine (hcall _).mono ?_; rintro e w' ⟨rfl, hw⟩; subst hw))
                        all_goals
                          rename_i hH
                          have hB6 : Below W5.heap.size W5 (wr.alloc (.cells #[.int .i64 x, .int .i64 y] 87)).drew := hH.2.2.2.2
                          clear hH hlook hS0 hcall
                          cases kb
                          · go_wp2_with fail
                            go_roundg (gk - 1)
                            case measure => have := HGI.out; omega
                            case rel =>
                              have := HGI.out
                              refine ⟨i + 1, rs2, by omega, by omega, by go_num, HK2.out.1.block (fun g hg => Below.heap_alloc _ _ g hg), ?_, hB6⟩
                              rw [HNX.out, ← List.append_assoc]
                              exact HK2.out.2.skip HKB.out
                          · have hput := put_any u16 W5.heap.size rs2 (x, y) (wr.alloc (.cells #[.int .i64 x, .int .i64 y] 87)).drew hB6.size (HK2.out.1.block (fun g hg => Below.heap_alloc _ _ g hg)) HK2.out.2.1 (by omega)
                            simp only at hput
                            go_wp2_with fail
                            refine hput.mono ?_
                            rintro e w7 ⟨u7, rs7, rfl, t7, m7, n7, l7, o7, b7⟩
                            go_wp2_with fail
                            go_roundg (gk - 1)
                            case measure => have := HGI.out; omega
                            case rel =>
                              have := HGI.out
                              refine ⟨i + 1, rs7, by omega, by omega, by go_num, Or.inr ⟨n7, o7⟩, ?_, hB6.trans b7⟩
                              rw [HNX.out, ← List.append_assoc]
                              exact HK2.out.2.put HKB.out t7 m7 l7
                    · have hin : i = nl := by omega
                      have hnlt4 : ¬ (i : Int) < (nl : Int) := by omega
                      go_wp2_with fail
                      go_roundg (gT - 1)
                      case measure => have := HG.out; omega
                      case rel =>
                        have := HG.out
                        refine ⟨t + 1, rs2, by omega, by omega, by go_num, HK2.out.1, ?_, hbr6⟩
                        have h1 := HK2.out.2
                        rw [List.take_of_length_le (by rw [← HROW.out.2.1]; omega)] at h1
                        rw [HROW.out.2.2.2.1]
                        exact h1
                · have ht2 : t = 2 := by omega
                  subst ht2
                  subst h9
                  have hbF : Below w.heap.size w wt := hbw5.trans (hbr5.mono hbw5.size)
                  have HRS : Hid (rs = mg keep (ys.length + ts.length) ys ts) := by
                    show _ = _
                    obtain ⟨s1, s2⟩ := mg_spec keep (ys.length + ts.length) ys ts HT.out.1.1 HT.out.2.1 (Nat.le_refl _)
                    refine tidy_unique _ _ HK.out.2.1 s1 fun p => ?_
                    rw [HK.out.2.2.2 p, s2 p]
                    simp [through]
                  have hrl : rs.length ≤ 8192 := by
                    have h1 := HK.out.2.2.1
                    have h2 := HL.out
                    simp [through] at h1
                    omega
                  by_cases hbig : 4096 < rs.length
                  · have hd : (4096 : Int) < (rs.length : Int) := by omega
                    go_wp2_with fail
                    go_ret2
                    have hF : mergeF keep (tcode za) (tcode zb) ys ts = (5, []) := by rw [mergeF, HC.out.1, HC.out.2, if_neg (by simp), if_neg (by simp), ← HRS.out, if_pos hbig]
                    exact ⟨_, ys, ts, HT.out.1, HT.out.2, by rw [hF]; rfl, hbF, by rw [hF]; exact Or.inl ⟨rfl, rfl⟩⟩
                  · have hd : ¬ (4096 : Int) < (rs.length : Int) := by omega
                    go_wp2_with fail
                    go_ret2
                    have hF : mergeF keep (tcode za) (tcode zb) ys ts = (0, rs) := by rw [mergeF, HC.out.1, HC.out.2, if_neg (by simp), if_neg (by simp), ← HRS.out, if_neg hbig]
                    exact ⟨_, ys, ts, HT.out.1, HT.out.2, by rw [hF]; rfl, hbF, by rw [hF]; exact HK.out.1.row⟩
    · have HC : Hid (tcode za = 0) := htc
      have HU : Hid (tcode zb ≠ 0) := huc
      have hne : (tcode zb != 0) = true := by simpa using huc
      clear htc huc
      go_enter Try.func102, Try.ntmps102
      go_wp2_with fail
      refine hTa.mono ?_
      rintro e w1 ⟨va, ys, rfl, hb1, ht1, hr1⟩
      have hTb := refTidy_told u zb w1 (HB.out.below hb1)
      generalize hc : tcode zb = code at *
      have HE : Hid (tcode zb = code) := hc
      clear hc hTa
      go_wp2_with fail
      refine hTb.mono ?_
      rintro e w2 ⟨vb, ts, rfl, hb2, ht2, hr2⟩
      clear hTb
      go_wp2_with fail
      go_ret2
      have hF : mergeF keep (tcode za) (tcode zb) ys ts = (code, []) := by rw [mergeF, HC.out, HE.out, if_neg (by simp), if_pos HU.out]
      exact ⟨_, ys, ts, ht1, ht2, by rw [hF]; rfl, hb1.trans (hb2.mono hb1.size), by rw [hF]; exact Or.inl ⟨rfl, rfl⟩⟩
  · have HC : Hid (tcode za ≠ 0) := htc
    have hne : (tcode za != 0) = true := by simpa using htc
    generalize hc : tcode za = code at *
    have HE : Hid (tcode za = code) := hc
    clear hc htc
    go_enter Try.func102, Try.ntmps102
    go_wp2_with fail
    refine hTa.mono ?_
    rintro e w1 ⟨va, ys, rfl, hb1, ht1, hr1⟩
    clear hTa
    go_wp2_with fail
    go_ret2
    obtain ⟨ts, hts⟩ := tidied_exists zb
    have hF : mergeF keep (tcode za) (tcode zb) ys ts = (code, []) := by rw [mergeF, HE.out, if_pos HC.out]
    exact ⟨_, ys, ts, ht1, hts, by rw [hF]; rfl, hb1, by rw [hF]; exact Or.inl ⟨rfl, rfl⟩⟩
end Go.Proofs.Ythobobgiendcfaa
