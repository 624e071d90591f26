/- What lifelodgeref.far, ahead and put answer. -/
import Derived.Test.YtofbcngcblleaaaGreatPutPure
import Derived.BigQuiet
import Derived.Deep.QuietTactic
import Derived.Deep.AppendLies
namespace Go.Proofs.YtofbcngcblleaaaGreat
open Go.RowKit Go.Lib Go.Sort
attribute [local go_sem ↓] Go.wp_at_zero Go.wp_at_succ
set_option maxHeartbeats 400000 in
theorem far_any (n : Int) (w : World) : Calls Tryz.prog 62 #[.int .i64 n] w fun e w' => e = .returned (.bool (farI n)) ∧ w' = w := by
  by_cases h1 : n ≤ -1099511627776
  · have hd : decide (n ≤ -1099511627776) = true := by simpa using h1
    go_enter Tryz.func62, Tryz.ntmps62
    go_wp2
    go_ret
    refine ⟨?_, rfl⟩
    simp [farI, h1]
  · have hd : decide (n ≤ -1099511627776) = false := by simpa using h1
    go_enter Tryz.func62, Tryz.ntmps62
    go_wp2
    go_ret
    refine ⟨?_, rfl⟩
    unfold farI
    rw [hd, Bool.false_or]
    rfl
def aheadB (p q : Int × Int) : Bool := decide (p.2 < q.2) || (decide (p.2 = q.2) && decide (p.1 < q.1))
theorem aheadB_iff (p q : Int × Int) : aheadB p q = true ↔ ahead p q := by simp [aheadB, ahead]
theorem aheadB_not (p q : Int × Int) : aheadB p q = false ↔ ¬ ahead p q := by rw [← aheadB_iff, Bool.not_eq_true]
set_option maxHeartbeats 1000000 in
theorem ahead_any (p q : Int × Int) (w : World) : Calls Tryz.prog 86 #[.agg #[.int .i64 p.1, .int .i64 p.2], .agg #[.int .i64 q.1, .int .i64 q.2]] w fun e w' => e = .returned (.bool (aheadB p q)) ∧ w' = (w.alloc (.cells #[.int .i64 p.1, .int .i64 p.2] 52)).alloc (.cells #[.int .i64 q.1, .int .i64 q.2] 52) := by
  obtain ⟨px, py⟩ := p
  obtain ⟨qx, qy⟩ := q
  by_cases h1 : py < qy
  · have hd : decide (py < qy) = true := by simpa using h1
    go_enter Tryz.func86, Tryz.ntmps86
    go_wp2
    go_ret
    refine ⟨?_, rfl⟩
    simp [aheadB, h1]
  · have hd : decide (py < qy) = false := by simpa using h1
    by_cases h2 : py = qy
    · have he : (py == qy) = true := by simpa using h2
      go_enter Tryz.func86, Tryz.ntmps86
      go_wp2
      go_ret
      refine ⟨?_, rfl⟩
      simp [aheadB]
    · have he : (py == qy) = false := by simpa using h2
      go_enter Tryz.func86, Tryz.ntmps86
      go_wp2
      go_ret
      refine ⟨?_, rfl⟩
      simp [aheadB, h1, h2]
structure Found (zs : List (Int × Int)) (c : Int × Int) (l h : Nat) : Prop where
  le : l ≤ h
  top : h ≤ zs.length
  lo : ∀ j, j < l → ahead zs[j]! c
  hi : ∀ j, h ≤ j → j < zs.length → ¬ ahead zs[j]! c
theorem Found.up {zs : List (Int × Int)} {c : Int × Int} {l h m : Nat} (hf : Found zs c l h) (hT : Tidy zs) (hm : m < h) (ha : ahead zs[m]! c) : Found zs c (m + 1) h := by
  have ht := hf.top
  refine ⟨by omega, hf.top, fun j hj => ?_, hf.hi⟩
  by_cases e : j = m
  · rw [e]; exact ha
  · exact ahead_trans (tidy_get hT (show j < m by omega) (by omega)) ha
theorem Found.down {zs : List (Int × Int)} {c : Int × Int} {l h m : Nat} (hf : Found zs c l h) (hT : Tidy zs) (hl : l ≤ m) (hm : m < h) (ha : ¬ ahead zs[m]! c) : Found zs c l m := by
  have ht := hf.top
  refine ⟨hl, by omega, hf.lo, fun j hj hjl => ?_⟩
  by_cases e : j = m
  · rw [e]; exact ha
  · intro hc
    exact ha (ahead_trans (tidy_get hT (show m < j by omega) hjl) hc)
theorem owns_of_block {w w' : World} {base : Nat} {v : Value} {n : Nat} {xs : List Value} (h : w.ownsRow base 52 2 v n xs) (hb : ∀ g, v.ownBlock = some g → w'.heap[g]? = w.heap[g]?) : w'.ownsRow base 52 2 v n xs := by
  refine ⟨h.1, ?_⟩
  rcases h.2 with h2 | ⟨g, cap, cur, hv, hg, hh, r⟩
  · exact Or.inl h2
  · exact Or.inr ⟨g, cap, cur, hv, hg, by rw [hb g (by rw [hv]; rfl)]; exact hh, r⟩
theorem owns_block {w : World} {base g n cap : Nat} {xs : List Value} (h : w.ownsRow base 52 2 (.slice (some ⟨g, 0, none⟩) n cap) n xs) : ∃ L : List Value, w.heap[g]? = some (.cells L.toArray 52 (0, 0)) ∧ L.length = cap * 2 ∧ L.take (n * 2) = xs := by
  rcases h.2 with ⟨e, _⟩ | ⟨g', cap', cur, e, _, hh, _, _, hs, ht⟩
  · cases e
  · injection e with e1 _ e3
    injection e1 with e1
    injection e1 with e1 _ _
    subst e1 e3
    exact ⟨cur.toList, by rw [Array.toArray_toList]; exact hh, by simpa using hs, ht⟩
theorem heap_setCell_same (w : World) (g o : Nat) (v : Value) (L : List Value) (h : w.heap[g]? = some (.cells L.toArray 52 (0, 0))) : (w.setCell ⟨g, o, none⟩ v).heap[g]? = some (.cells (L.set o v).toArray 52 (0, 0)) := by
  rw [setCell_eq]
  simp only [mapBlock, Array.getElem?_modify, if_pos, h, Option.map_some, onCells]
  simp
theorem cell_of_block (w : World) (g o : Nat) (L : List Value) (h : w.heap[g]? = some (.cells L.toArray 52 (0, 0))) : w.cell? ⟨g, o, none⟩ = L[o]? := by
  simp [World.cell?, h]
theorem free_of_block (w : World) (g o : Nat) (L : List Value) (h : w.heap[g]? = some (.cells L.toArray 52 (0, 0))) : w.frozen? ⟨g, o, none⟩ = false := by
  simp [World.frozen?, h]
theorem put_final {w : World} {base g l n cap : Nat} {zs : List (Int × Int)} {c : Int × Int} {x y : Value} {R : List Value} (hb : base ≤ g) (hl : l ≤ n) (hn : zs.length = n) (hcap : n + 1 ≤ cap) (hcm : cap ≤ maxLen)
    (hblk : w.heap[g]? = some (.cells (cellsL (zs.take l) ++ x :: y :: (cellsL (zs.drop l) ++ R)).toArray 52 (0, 0))) (hlen : (cellsL (zs.take l) ++ x :: y :: (cellsL (zs.drop l) ++ R)).length = cap * 2) :
    ((w.setCell ⟨g, l * 2, none⟩ (.int .i64 c.1)).setCell ⟨g, l * 2 + 1, none⟩ (.int .i64 c.2)).ownsRow base 52 2 (.slice (some ⟨g, 0, none⟩) (n + 1) cap) (zs.take l ++ c :: zs.drop l).length (cellsL (zs.take l ++ c :: zs.drop l)) := by
  have hA : (cellsL (zs.take l)).length = l * 2 := by rw [cellsL_length, List.length_take]; congr 1; omega
  have hlen' : (zs.take l ++ c :: zs.drop l).length = n + 1 := by simp; omega
  have h1 := heap_setCell_same _ g (l * 2) (.int .i64 c.1) _ hblk
  have h2 := heap_setCell_same _ g (l * 2 + 1) (.int .i64 c.2) _ h1
  have hset : ((cellsL (zs.take l) ++ x :: y :: (cellsL (zs.drop l) ++ R)).set (l * 2) (.int .i64 c.1)).set (l * 2 + 1) (.int .i64 c.2) = cellsL (zs.take l ++ c :: zs.drop l) ++ R := by
    rw [List.set_append_right _ _ (by omega), List.set_append_right _ _ (by rw [hA]; omega), hA, Nat.sub_self, show l * 2 + 1 - l * 2 = 1 by omega, cellsL_append, cellsL_cons]
    simp
  rw [hset] at h2
  refine ⟨by rw [cellsL_length], Or.inr ⟨g, cap, _, by rw [hlen'], hb, h2, by rw [hlen']; exact hcap, hcm, ?_, ?_⟩⟩
  · rw [← hset]
    simpa using hlen
  · simp only
    rw [← cellsL_length, List.take_left']
    rfl
def movedL (L : List Value) (zs : List (Int × Int)) (l : Nat) : List Value := L.take ((l + 1) * 2) ++ cellsL (zs.drop l) ++ L.drop ((l + 1) * 2 + (cellsL (zs.drop l)).length)
theorem take_of {L xs ys : List Value} {m k : Nat} (h : L.take m = xs ++ ys) (hk : k ≤ xs.length) (hm : k ≤ m) : L.take k = xs.take k := by
  have := congrArg (List.take k) h
  rwa [List.take_take, Nat.min_eq_left hm, List.take_append_of_le_length hk] at this
theorem moved_form {L : List Value} {zs : List (Int × Int)} {l : Nat} {ys : List Value} (hl : l < zs.length) (ht : L.take ((zs.length + 1) * 2) = cellsL zs ++ ys) :
    movedL L zs l = cellsL (zs.take l) ++ .int .i64 (zs[l]!).1 :: .int .i64 (zs[l]!).2 :: (cellsL (zs.drop l) ++ L.drop ((l + 1) * 2 + (cellsL (zs.drop l)).length)) := by
  have h1 : L.take ((l + 1) * 2) = cellsL (zs.take (l + 1)) := by
    rw [take_of ht (by rw [cellsL_length]; omega) (by omega), cellsL_take]
  have h2 : zs.take (l + 1) = zs.take l ++ [zs[l]!] := by
    rw [List.take_succ_eq_append_getElem hl, getElem!_pos zs l hl]
  unfold movedL
  rw [h1, h2, cellsL_append, cellsL_cons]
  simp [cellsL]
theorem copy_src {L : List Value} {zs : List (Int × Int)} {l : Nat} {ys : List Value} (ht : L.take ((zs.length + 1) * 2) = cellsL zs ++ ys) (j : Nat) (v : Value) (h : (cellsL (zs.drop l))[j]? = some v) : L[l * 2 + j]? = some v := by
  rw [cellsL_drop, List.getElem?_drop] at h
  have hlt : l * 2 + j < (cellsL zs).length := (List.getElem?_eq_some_iff.1 h).1
  have h1 : (L.take ((zs.length + 1) * 2))[l * 2 + j]? = some v := by rw [ht, List.getElem?_append_left hlt]; exact h
  rw [cellsL_length] at hlt
  rwa [List.getElem?_take, if_pos (by omega)] at h1
theorem copy_zero (w : World) (ty : TypeId) (da : Option Addr) (dc : Nat) (ad : Addr) (sl sc : Nat) : (Builtin.copy_ #[24, 24] ty #[.slice da 0 dc, .slice (some ad) sl sc]).run Tryz.prog w = .ok (goInt 0) w := by
  have hl := run_loadCells_list (P := Tryz.prog) w ad [] (by simp)
  simp only [List.length_nil] at hl
  cases da <;> simp [Builtin.copy_, run_underlying Tryz.underlying24, Builtin.lenOf, Builtin.firstCells, Tryz.sizeOf52, hl, storeCells]
def PutOut (base : Nat) (zs : List (Int × Int)) (c : Int × Int) (w : World) (e : Ending) (w' : World) : Prop :=
  ∃ u ys, e = .returned u ∧ Tidy ys ∧ (∀ p, p ∈ ys ↔ p = c ∨ p ∈ zs) ∧ ys ≠ [] ∧ ys.length ≤ zs.length + 1 ∧ w'.ownsRow base 52 2 u ys.length (cellsL ys) ∧ Below base w w'
set_option maxHeartbeats 2000000 in
theorem put_some (g cap base : Nat) (zs : List (Int × Int)) (c : Int × Int) (w : World) (hown : w.ownsRow base 52 2 (.slice (some ⟨g, 0, none⟩) zs.length cap) zs.length (cellsL zs)) (hT : Tidy zs) (hn : zs.length ≤ 100000) :
    Calls Tryz.prog 63 #[.slice (some ⟨g, 0, none⟩) zs.length cap, .agg #[.int .i64 c.1, .int .i64 c.2]] w fun e w' => PutOut base zs c w e w' := by
  have hH := holdsR_of_owns hown
  have hglt := hown.lt g rfl
  have OW : Hid (w.ownsRow base 52 2 (.slice (some ⟨g, 0, none⟩) zs.length cap) zs.length (cellsL zs)) := hown
  have HH : Hid (HoldsR w g 0 zs) := hH
  have HT : Hid (Tidy zs) := hT
  have HG : Hid (base ≤ g ∧ g < w.heap.size) := hglt
  clear hown hH hT hglt
  generalize hl : zs.length = n at *
  have HL : Hid (zs.length = n) := hl
  clear hl
  go_enter Tryz.func63, Tryz.ntmps63
  go_wp2
  go_loopg [5, 6] n (fun gk s5 s6 wr => ∃ l h : Nat, s5 = .int .i64 l ∧ s6 = .int .i64 h ∧ h - l ≤ gk ∧ Found zs c l h ∧ Below (w.heap.size + 1) (w.alloc (.cells #[.int .i64 c.1, .int .i64 c.2] 52)) wr)
  case atStart => exact ⟨0, n, rfl, rfl, by omega, ⟨Nat.zero_le _, by rw [HL.out]; exact Nat.le_refl _, fun j hj => by omega, fun j hj hjl => by rw [HL.out] at hjl; omega⟩, Below.refl _ _⟩
  case round =>
    obtain ⟨l, h, rfl, rfl, hgk, hf, hb⟩ := hrel
    have hle := hf.le
    have htop := hf.top
    rw [HL.out] at htop
    have HF : Hid (Found zs c l h) := hf
    have GK : Hid (h - l ≤ gk) := hgk
    clear hf hgk
    have hws : w.heap.size < wr.heap.size := by have := hb.size; simp at this; omega
    have cb0 : wr.cell? ⟨w.heap.size, 0, none⟩ = some (.int .i64 c.1) := by rw [hb.cell (p := ⟨w.heap.size, 0, none⟩) (by simp), World.cell?_alloc_new]; rfl
    have cb1 : wr.cell? ⟨w.heap.size, 1, none⟩ = some (.int .i64 c.2) := by rw [hb.cell (p := ⟨w.heap.size, 1, none⟩) (by simp), World.cell?_alloc_new]; rfl
    by_cases hlt : l < h
    · obtain ⟨m, hm⟩ : ∃ m, m = (l + h) / 2 := ⟨_, rfl⟩
      have hm1 : l ≤ m := by omega
      have hm2 : m < h := by omega
      have hmI : ((l : Int) + (h : Int)) / 2 = (m : Int) := by omega
      have hi1 : (0 : Int) ≤ (m : Int) := by omega
      have hi2 : (m : Int) < (n : Int) := by omega
      clear hm
      obtain ⟨e0, e1⟩ := HH.out m (by rw [HL.out]; omega)
      have gl := HG.out.2
      have c0 : wr.cell? ⟨g, 0 + m * 2, none⟩ = some (.int .i64 (zs[m]!).1) := by rw [hb.cell (p := ⟨g, 0 + m * 2, none⟩) (show g < w.heap.size + 1 by omega), World.cell?_alloc_past _ _ _ gl]; exact e0
      have c1 : wr.cell? ⟨g, 0 + m * 2 + 1, none⟩ = some (.int .i64 (zs[m]!).2) := by rw [hb.cell (p := ⟨g, 0 + m * 2 + 1, none⟩) (show g < w.heap.size + 1 by omega), World.cell?_alloc_past _ _ _ gl]; exact e1
      rw [Nat.zero_add] at c0 c1
      clear e0 e1
      have hcall := fun W => ahead_any zs[m]! c W
      cases ha : aheadB zs[m]! c
      · rw [ha] at hcall
        generalize hz : zs[m]! = z at *
        have HZ : Hid (zs[m]! = z) := hz
        clear hz
        have hgw : g < wr.heap.size := by omega
        have HA : Hid (aheadB z c = false) := ha
        clear ha
        go_wp2
        rw [hmI]
        go_region_held3 (fun w' => w'.cell? ⟨g, m * 2, none⟩ = some (.int .i64 z.1) ∧ w'.cell? ⟨g, m * 2 + 1, none⟩ = some (.int .i64 z.2) ∧ w'.cell? ⟨w.heap.size, 0, none⟩ = some (.int .i64 c.1) ∧ w'.cell? ⟨w.heap.size, 1, none⟩ = some (.int .i64 c.2)) (go_keep)
          (first | (go_at_call 86; refine (hcall _).mono ?_; rintro e w' ⟨rfl, rfl⟩))
        go_wp2
        go_roundg (m - l)
        case measure => have := GK.out; omega
        case rel => exact ⟨l, m, rfl, rfl, Nat.le_refl _, HF.out.down HT.out hm1 hm2 (by rw [HZ.out]; exact (aheadB_not z c).1 HA.out), ((hb.alloc (by omega) _).alloc (by simp; omega) _).drew⟩
      · rw [ha] at hcall
        generalize hz : zs[m]! = z at *
        have HZ : Hid (zs[m]! = z) := hz
        clear hz
        have hgw : g < wr.heap.size := by omega
        have HA : Hid (aheadB z c = true) := ha
        clear ha
        go_wp2
        rw [hmI]
        go_region_held3 (fun w' => w'.cell? ⟨g, m * 2, none⟩ = some (.int .i64 z.1) ∧ w'.cell? ⟨g, m * 2 + 1, none⟩ = some (.int .i64 z.2) ∧ w'.cell? ⟨w.heap.size, 0, none⟩ = some (.int .i64 c.1) ∧ w'.cell? ⟨w.heap.size, 1, none⟩ = some (.int .i64 c.2)) (go_keep)
          (first | (go_at_call 86; refine (hcall _).mono ?_; rintro e w' ⟨rfl, rfl⟩))
        go_wp2
        go_roundg (h - (m + 1))
        case measure => have := GK.out; omega
        case rel => exact ⟨m + 1, h, by go_num, rfl, Nat.le_refl _, HF.out.up HT.out hm2 (by rw [HZ.out]; exact (aheadB_iff z c).1 HA.out), ((hb.alloc (by omega) _).alloc (by simp; omega) _).drew⟩
    · have hlh : l = h := by omega
      subst hlh
      have gl := HG.out.2
      have gb := HG.out.1
      have hgw : g < wr.heap.size := by omega
      have bel : Below base w wr := ((Below.refl _ _).alloc (by omega) _).trans (hb.mono (by omega))
      have OW2 : Hid (wr.ownsRow base 52 2 (.slice (some ⟨g, 0, none⟩) n cap) n (cellsL zs)) := owns_of_block OW.out (fun k hk => by simp [Value.ownBlock] at hk; subst hk; rw [hb.block g (by omega), Below.heap_alloc _ _ _ gl])
      have OW3 : Hid (∀ o, (wr.alloc o).drew.ownsRow base 52 2 (.slice (some ⟨g, 0, none⟩) n cap) n (cellsL zs)) := fun o => owns_of_block OW2.out (fun k hk => by simp [Value.ownBlock] at hk; subst hk; exact Below.heap_alloc _ _ _ hgw)
      obtain ⟨i0, hi, hz0, hz1, hz2⟩ := info_parts Tryz.info52
      have hcellI : ∀ o, wr.cell? ⟨g, o, none⟩ = w.cell? ⟨g, o, none⟩ := fun o => by rw [hb.cell (p := ⟨g, o, none⟩) (show g < w.heap.size + 1 by omega), World.cell?_alloc_past _ _ _ gl]
      by_cases hln : l < n
      · obtain ⟨e0, e1⟩ := HH.out l (by rw [HL.out]; omega)
        rw [Nat.zero_add, ← hcellI] at e0 e1
        have CI : Hid (∀ o, wr.cell? ⟨g, o, none⟩ = w.cell? ⟨g, o, none⟩) := hcellI
        clear hcellI
        have hi1 : (0 : Int) ≤ (l : Int) := by omega
        have hi2 : (l : Int) < (n : Int) := by omega
        generalize hz : zs[l]! = z at *
        have HZ : Hid (zs[l]! = z) := hz
        clear hz
        by_cases hzc : z = c
        · subst hzc
          have heq : ∀ w, (binOp .eql 52 (.agg #[.int .i64 z.1, .int .i64 z.2]) (.agg #[.int .i64 z.1, .int .i64 z.2])).run Tryz.prog w = .ok (.bool true) w := fun w => by rw [eqP_run]; simp
          go_wp2
          go_region
          go_wp2
          go_ret
          refine ⟨_, zs, rfl, HT.out, fun p => ⟨Or.inr, fun hp => ?_⟩, ?_, by rw [HL.out]; omega, ?_, bel.drew⟩
          · rcases hp with rfl | hp
            · rw [← HZ.out, getElem!_pos zs l (by rw [HL.out]; exact hln)]
              exact List.getElem_mem _
            · exact hp
          · intro e
            have := HL.out
            rw [e] at this
            simp at this
            omega
          · rw [HL.out]
            exact OW2.out
        · have heq : ∀ w, (binOp .eql 52 (.agg #[.int .i64 z.1, .int .i64 z.2]) (.agg #[.int .i64 c.1, .int .i64 c.2])).run Tryz.prog w = .ok (.bool false) w := fun w => by rw [eqP_run]; simp [hzc]
          have HC : Hid (¬ z = c) := hzc
          clear hzc
          go_wp2
          go_region
          have hbase : base ≤ wr.heap.size := by omega
          go_wp2_with (at_builtin; refine wpList_append_lies _ rfl _ _ 24 rfl base 52 i0 (.agg #[.int .i64 0, .int .i64 0]) 2 16 Tryz.underlying24 hi hz0 hz1 hz2 rfl (by decide) (.slice (some ⟨g, 0, none⟩) n cap) n (cellsL zs) rfl (by exact OW3.out _) ⟨wr.heap.size, 0, none⟩ 1 1 [.int .i64 c.1, .int .i64 c.2] rfl rfl (by exact cell_two_new _ _ _ _) (by intro u hu; simp at hu; rcases hu with rfl | rfl <;> rfl) (by omega) (by unfold maxLen; omega) (by omega) (by simp; omega) (wr.heap.size + 1) (by simp) ?_; intro g2 cap2 w1 hown2 hgrow hat hlt2)
          have hcap2 : n + 1 ≤ cap2 := by
            rcases hown2.2 with ⟨e, _⟩ | ⟨g', cap', cur, e, _, _, hle', _⟩
            · cases e
            · injection e with _ _ e3
              omega
          have hcm2 : cap2 ≤ 9223372036854775807 := by
            rcases hown2.2 with ⟨e, _⟩ | ⟨g', cap', cur, e, _, _, _, hmx, _⟩
            · cases e
            · injection e with _ _ e3
              unfold maxLen at hmx
              omega
          have hat' : g2 = g ∨ g2 = wr.heap.size + 1 := by
            rcases hat with h | h
            · left
              simp [Value.ownBlock] at h
              omega
            · right
              exact h
          clear hat
          have hj1 : (l : Int) + 1 ≤ (n : Int) + 1 := by omega
          have hj2 : (n : Int) + 1 ≤ (cap2 : Int) := by omega
          have O2 : Hid (w1.ownsRow base 52 2 (.slice (some ⟨g2, 0, none⟩) (n + 1) cap2) (n + 1) (cellsL zs ++ [.int .i64 c.1, .int .i64 c.2])) := hown2
          obtain ⟨curL, hblk, hcl, htake⟩ := owns_block hown2
          clear hown2 heq
          have hwl : IntKind.i64.wrap ((l : Int) + 1) = (l : Int) + 1 := by rw [IntKind.wrap_i64]; omega
          have hk1 : (0 : Int) ≤ (l : Int) + 1 := by omega
          have hk3 : ¬ cap2 = l + 1 := by omega
          have hk4 : ¬ cap2 = l := by omega
          have hcp : ∀ ty, (Builtin.copy_ #[24, 24] ty #[.slice (some ⟨g2, (l + 1) * 2, none⟩) (n - l) (cap2 - (l + 1)), .slice (some ⟨g2, l * 2, none⟩) (n + 1 - l) (cap2 - l)]).run Tryz.prog w1.drew =
              .ok (goInt ((n - l : Nat) : Int)) (w1.drew.setRow g2 (movedL curL zs l).toArray) := by
            intro ty
            have hlen : (cellsL (zs.drop l)).length = (n - l) * 2 := by rw [cellsL_length, List.length_drop, HL.out]
            have ht' : curL.take ((zs.length + 1) * 2) = cellsL zs ++ [.int .i64 c.1, .int .i64 c.2] := by rw [HL.out]; exact htake
            have := copy_run w1.drew ty g2 ((l + 1) * 2) (n - l) (cap2 - (l + 1)) ⟨g2, l * 2, none⟩ (n + 1 - l) (cap2 - l) curL.toArray 52 (cellsL (zs.drop l)) (n - l) hblk (by show n - l = min (n + 1 - l) (n - l); omega) hlen
              (fun j v hj => by rw [addP, cell_of_block w1.drew g2 _ curL hblk]; exact copy_src ht' j v hj) (by rw [hlen]; simp; omega) (cellsL_one _)
            exact this
          have hM := moved_form (L := curL) (zs := zs) (l := l) (ys := [.int .i64 c.1, .int .i64 c.2]) (by rw [HL.out]; exact hln) (by rw [HL.out]; exact htake)
          have hMl : (movedL curL zs l).length = cap2 * 2 := by
            unfold movedL
            simp only [List.length_append, List.length_take, List.length_drop, cellsL_length, HL.out]
            omega
          have hne2 : w.heap.size ≠ g2 := by omega
          have hbx0 : w1.cell? ⟨w.heap.size, 0, none⟩ = some (.int .i64 c.1) := hgrow.cell (a := ⟨w.heap.size, 0, none⟩) (by show (wr.alloc _).cell? _ = _; rw [World.cell?_alloc_past _ _ _ hws]; exact cb0) (by simp [Value.ownBlock]; omega)
          have hbx1 : w1.cell? ⟨w.heap.size, 1, none⟩ = some (.int .i64 c.2) := hgrow.cell (a := ⟨w.heap.size, 1, none⟩) (by show (wr.alloc _).cell? _ = _; rw [World.cell?_alloc_past _ _ _ hws]; exact cb1) (by simp [Value.ownBlock]; omega)
          have FIN : Hid (∃ w2, w2 = w1.drew.setRow g2 (movedL curL zs l).toArray ∧ w2.heap[g2]? = some (.cells (movedL curL zs l).toArray 52 (0, 0)) ∧ (∀ o, w2.cell? ⟨w.heap.size, o, none⟩ = w1.cell? ⟨w.heap.size, o, none⟩) ∧ Below base w w2) :=
            ⟨_, rfl, setRow_heap _ _ _ _ _ _ hblk, fun o => cell_setRow_other _ _ _ _ hne2, below_setRow (((bel.alloc hbase _).drew.grown hgrow (by simp; omega) (by intro k hk; simp [Value.ownBlock] at hk; omega)).drew) (by omega) _⟩
          have KM : Hid (movedL curL zs l = cellsL (zs.take l) ++ .int .i64 (zs[l]!).1 :: .int .i64 (zs[l]!).2 :: (cellsL (zs.drop l) ++ curL.drop ((l + 1) * 2 + (cellsL (zs.drop l)).length)) ∧ (movedL curL zs l).length = cap2 * 2) := ⟨hM, hMl⟩
          clear hM hMl
          clear cb0 cb1 e0 e1 hblk htake hcl
          go_region
          obtain ⟨w2, hw2, hblk2, hcell2, hbel2⟩ := FIN.out
          rw [← hw2]
          clear hcp
          rw [KM.out.1] at hblk2
          have s0 := cell_of_block w2 g2 (l * 2) _ hblk2
          have s1 := cell_of_block w2 g2 (l * 2 + 1) _ hblk2
          have t0 := free_of_block w2 g2 (l * 2) _ hblk2
          have t1 := free_of_block w2 g2 (l * 2 + 1) _ hblk2
          have hA : (cellsL (zs.take l)).length = l * 2 := by rw [cellsL_length, List.length_take, HL.out, Nat.min_eq_left (by omega)]
          rw [List.getElem?_append_right (by omega), hA, Nat.sub_self] at s0
          rw [List.getElem?_append_right (by omega), hA, show l * 2 + 1 - l * 2 = 1 by omega] at s1
          simp only [List.getElem?_cons_zero, List.getElem?_cons_succ] at s0 s1
          have b0 := (hcell2 0).trans hbx0
          have b1 := (hcell2 1).trans hbx1
          have PF := @put_final w2 base g2 l n cap2 zs c _ _ _ (by omega) (by omega) HL.out hcap2 hcm2 hblk2 (by rw [← KM.out.1]; exact KM.out.2)
          have PF' : Hid _ := PF
          have HB2 : Hid (Below base w w2 ∧ base ≤ g2) := ⟨hbel2, by omega⟩
          clear PF hbel2 hblk2 hcell2 hbx0 hbx1 hA hw2
          go_wp2
          go_ret
          obtain ⟨pt, pm⟩ := put_tidy (c := c) (k := l) HT.out (by rw [HL.out]; omega) HF.out.lo HF.out.hi (fun _ => by rw [HZ.out]; exact HC.out)
          refine ⟨_, _, rfl, pt, pm, by simp, by rw [List.length_append, List.length_cons, List.length_take, List.length_drop, HL.out]; omega, PF'.out, (HB2.out.1.setCell HB2.out.2 _).setCell HB2.out.2 _⟩
      · have hle' : l = n := by omega
        subst hle'
        clear hcellI
        have hd : decide ((l : Int) < (l : Int)) = false := by simp
        have hbase : base ≤ wr.heap.size := by omega
        go_wp2
        go_region
        go_wp2_with (at_builtin; refine wpList_append_lies _ rfl _ _ 24 rfl base 52 i0 (.agg #[.int .i64 0, .int .i64 0]) 2 16 Tryz.underlying24 hi hz0 hz1 hz2 rfl (by decide) (.slice (some ⟨g, 0, none⟩) l cap) l (cellsL zs) rfl (by exact OW3.out _) ⟨wr.heap.size, 0, none⟩ 1 1 [.int .i64 c.1, .int .i64 c.2] rfl rfl (by exact cell_two_new _ _ _ _) (by intro u hu; simp at hu; rcases hu with rfl | rfl <;> rfl) (by omega) (by unfold maxLen; omega) (by omega) (by simp; omega) (wr.heap.size + 1) (by simp) ?_; intro g2 cap2 w1 hown2 hgrow hat hlt2)
        have hcap2 : l + 1 ≤ cap2 := by
          rcases hown2.2 with ⟨e, _⟩ | ⟨g', cap', cur, e, _, _, hle', _⟩
          · cases e
          · injection e with _ _ e3
            omega
        have hcm2 : cap2 ≤ 9223372036854775807 := by
          rcases hown2.2 with ⟨e, _⟩ | ⟨g', cap', cur, e, _, _, _, hmx, _⟩
          · cases e
          · injection e with _ _ e3
            unfold maxLen at hmx
            omega
        have hat' : g2 = g ∨ g2 = wr.heap.size + 1 := by
          rcases hat with h | h
          · left
            simp [Value.ownBlock] at h
            omega
          · right
            exact h
        clear hat
        have hj2 : (l : Int) + 1 ≤ (cap2 : Int) := by omega
        obtain ⟨curL, hblk, hcl, htake⟩ := owns_block hown2
        clear hown2
        have hwl : IntKind.i64.wrap ((l : Int) + 1) = (l : Int) + 1 := by rw [IntKind.wrap_i64]; omega
        have hk1 : (0 : Int) ≤ (l : Int) + 1 := by omega
        have hk4 : ¬ cap2 = l := by omega
        have hcp := copy_zero
        have hne2 : w.heap.size ≠ g2 := by omega
        have b0 : w1.cell? ⟨w.heap.size, 0, none⟩ = some (.int .i64 c.1) := hgrow.cell (a := ⟨w.heap.size, 0, none⟩) (by show (wr.alloc _).cell? _ = _; rw [World.cell?_alloc_past _ _ _ hws]; exact cb0) (by simp [Value.ownBlock]; omega)
        have b1 : w1.cell? ⟨w.heap.size, 1, none⟩ = some (.int .i64 c.2) := hgrow.cell (a := ⟨w.heap.size, 1, none⟩) (by show (wr.alloc _).cell? _ = _; rw [World.cell?_alloc_past _ _ _ hws]; exact cb1) (by simp [Value.ownBlock]; omega)
        have hform : curL = cellsL (zs.take l) ++ .int .i64 c.1 :: .int .i64 c.2 :: (cellsL (zs.drop l) ++ curL.drop ((l + 1) * 2)) := by
          rw [List.take_of_length_le (by rw [HL.out]; exact Nat.le_refl _), List.drop_of_length_le (by rw [HL.out]; exact Nat.le_refl _)]
          have := List.take_append_drop ((l + 1) * 2) curL
          rw [htake] at this
          simpa [cellsL] using this.symm
        have hblk2 : w1.heap[g2]? = some (.cells (cellsL (zs.take l) ++ .int .i64 c.1 :: .int .i64 c.2 :: (cellsL (zs.drop l) ++ curL.drop ((l + 1) * 2))).toArray 52 (0, 0)) := by rw [← hform]; exact hblk
        have s0 := cell_of_block w1 g2 (l * 2) _ hblk2
        have s1 := cell_of_block w1 g2 (l * 2 + 1) _ hblk2
        have t0 := free_of_block w1 g2 (l * 2) _ hblk2
        have t1 := free_of_block w1 g2 (l * 2 + 1) _ hblk2
        have hA : (cellsL (zs.take l)).length = l * 2 := by rw [cellsL_length, List.length_take, HL.out, Nat.min_eq_left (by omega)]
        rw [List.getElem?_append_right (by omega), hA, Nat.sub_self] at s0
        rw [List.getElem?_append_right (by omega), hA, show l * 2 + 1 - l * 2 = 1 by omega] at s1
        simp only [List.getElem?_cons_zero, List.getElem?_cons_succ] at s0 s1
        have PF := @put_final w1 base g2 l l cap2 zs c _ _ _ (by omega) (by omega) HL.out hcap2 hcm2 hblk2 (by rw [← hform]; exact hcl)
        have PF' : Hid _ := PF
        have HB2 : Hid (Below base w w1 ∧ base ≤ g2) := ⟨(bel.alloc hbase _).drew.grown hgrow (by simp; omega) (by intro k hk; simp [Value.ownBlock] at hk; omega), by omega⟩
        clear PF hblk2 hA hblk hform htake hcl cb0 cb1
        obtain ⟨pt, pm⟩ := put_tidy (c := c) (k := l) HT.out (by rw [HL.out]; omega) HF.out.lo HF.out.hi (fun h => by rw [HL.out] at h; omega)
        have LAST : Hid (PutOut base zs c w (.returned (.slice (some ⟨g2, 0, none⟩) (l + 1) cap2)) (((w1.setCell ⟨g2, l * 2, none⟩ (.int .i64 c.1)).setCell ⟨g2, l * 2 + 1, none⟩ (.int .i64 c.2)).drew)) :=
          ⟨_, _, rfl, pt, pm, by simp, by rw [List.length_append, List.length_cons, List.length_take, List.length_drop, HL.out]; omega, PF'.out, ((HB2.out.1.setCell HB2.out.2 _).setCell HB2.out.2 _).drew⟩
        clear pt pm
        by_cases hce : cap2 = l + 1
        · subst hce
          go_region
          go_wp2
          go_ret
          exact LAST.out
        · go_region
          go_wp2
          go_ret
          exact LAST.out
end Go.Proofs.YtofbcngcblleaaaGreat
