/- PlaneTidies: both Tidy answer the same of every list. The walk of the law itself. -/
import Derived.Test.YtkcngkcfcokboaaSame
import Derived.Laws.CopyOwn
import Derived.BigQuiet
import Derived.Deep.QuietTactic
import Derived.Deep.AppendLies
namespace Go.Proofs.Ytkcngkcfcokboaa
open Go.RowKit Go.Lib Go.Sort

theorem mem_take_get {zs : List (Int × Int)} {k : Nat} {p : Int × Int} (h : p ∈ zs.take k) : ∃ j, j < k ∧ j < zs.length ∧ zs[j]! = p := by
  obtain ⟨j, hj, e⟩ := List.getElem_of_mem h
  have h1 : j < k ∧ j < zs.length := by simp at hj; omega
  refine ⟨j, h1.1, h1.2, ?_⟩
  rw [getElem!_pos zs j h1.2, ← e, List.getElem_take]
theorem mem_drop_get {zs : List (Int × Int)} {k : Nat} {p : Int × Int} (h : p ∈ zs.drop k) : ∃ j, k ≤ j ∧ j < zs.length ∧ zs[j]! = p := by
  obtain ⟨j, hj, e⟩ := List.getElem_of_mem h
  have h1 : k + j < zs.length := by simp at hj; omega
  refine ⟨k + j, by omega, h1, ?_⟩
  rw [getElem!_pos zs (k + j) h1, ← e, List.getElem_drop]
theorem tidy_get {zs : List (Int × Int)} (h : Tidy zs) {i j : Nat} (hij : i < j) (hj : j < zs.length) : ahead zs[i]! zs[j]! := by
  rw [getElem!_pos zs i (by omega), getElem!_pos zs j hj]
  exact List.pairwise_iff_getElem.1 h i j (by omega) hj hij

theorem put_tidy {zs : List (Int × Int)} {c : Int × Int} {k : Nat} (hT : Tidy zs) (hk : k ≤ zs.length) (hlo : ∀ j, j < k → ahead zs[j]! c) (hhi : ∀ j, k ≤ j → j < zs.length → ¬ ahead zs[j]! c) (hne : k < zs.length → zs[k]! ≠ c) :
    Tidy (zs.take k ++ c :: zs.drop k) ∧ ∀ p, p ∈ zs.take k ++ c :: zs.drop k ↔ p = c ∨ p ∈ zs := by
  have hT' : (zs.take k ++ zs.drop k).Pairwise ahead := by rw [List.take_append_drop]; exact hT
  obtain ⟨t1, t2, t3⟩ := List.pairwise_append.1 hT'
  have hc : ∀ p ∈ zs.drop k, ahead c p := by
    intro p hp
    obtain ⟨j, hj, hl, rfl⟩ := mem_drop_get hp
    rcases ahead_or zs[j]! c with h | h | h
    · exact absurd h (hhi j hj hl)
    · exfalso
      by_cases e : j = k
      · subst e; exact hne hl h
      · have := tidy_get hT (show k < j by omega) hl
        rw [h] at this
        exact hhi k (Nat.le_refl _) (by omega) this
    · exact h
  constructor
  · refine List.pairwise_append.2 ⟨t1, List.pairwise_cons.2 ⟨hc, t2⟩, fun p hp q hq => ?_⟩
    rcases List.mem_cons.1 hq with rfl | hq
    · obtain ⟨j, hj, _, rfl⟩ := mem_take_get hp
      exact hlo j hj
    · exact t3 p hp q hq
  · intro p
    rw [List.mem_append, List.mem_cons]
    have : p ∈ zs ↔ p ∈ zs.take k ∨ p ∈ zs.drop k := by
      rw [← List.mem_append, List.take_append_drop]
    rw [this]
    constructor
    · rintro (h | h | h)
      · exact Or.inr (Or.inl h)
      · exact Or.inl h
      · exact Or.inr (Or.inr h)
    · rintro (h | h | h)
      · exact Or.inr (Or.inl h)
      · exact Or.inl h
      · exact Or.inr (Or.inr h)

/-- a list's cells in memory, one behind the other -/
def cellsL (zs : List (Int × Int)) : List Value := zs.flatMap encPt
theorem cellsL_cons (p : Int × Int) (zs : List (Int × Int)) : cellsL (p :: zs) = .int .i64 p.1 :: .int .i64 p.2 :: cellsL zs := rfl
theorem cellsL_append (a b : List (Int × Int)) : cellsL (a ++ b) = cellsL a ++ cellsL b := List.flatMap_append
theorem cellsL_length : ∀ zs : List (Int × Int), (cellsL zs).length = zs.length * 2
  | [] => rfl
  | p :: zs => by rw [cellsL_cons, List.length_cons, List.length_cons, cellsL_length zs, List.length_cons]; omega
theorem cellsL_one (zs : List (Int × Int)) (u : Value) (h : u ∈ cellsL zs) : u.oneCell' = true := by
  obtain ⟨p, _, hu⟩ := List.mem_flatMap.1 h
  exact encPt_one p u hu
theorem cellsL_get : ∀ (zs : List (Int × Int)) (j : Nat), j < zs.length → (cellsL zs)[j * 2]? = some (.int .i64 (zs[j]!).1) ∧ (cellsL zs)[j * 2 + 1]? = some (.int .i64 (zs[j]!).2)
  | [], j, h => by simp at h
  | p :: zs, 0, _ => ⟨rfl, rfl⟩
  | p :: zs, j + 1, h => by
    have := cellsL_get zs j (by simpa using h)
    rw [cellsL_cons, show (j + 1) * 2 = j * 2 + 1 + 1 by omega, show j * 2 + 1 + 1 + 1 = (j * 2 + 1) + 1 + 1 by omega]
    simp only [List.getElem?_cons_succ]
    have e : (p :: zs)[j + 1]! = zs[j]! := by simp
    rw [e]
    exact this
theorem cellsL_take : ∀ (zs : List (Int × Int)) (k : Nat), cellsL (zs.take k) = (cellsL zs).take (k * 2)
  | [], k => by simp [cellsL]
  | p :: zs, 0 => rfl
  | p :: zs, k + 1 => by
    rw [List.take_succ_cons, cellsL_cons, cellsL_cons, cellsL_take zs k, show (k + 1) * 2 = k * 2 + 1 + 1 by omega, List.take_succ_cons, List.take_succ_cons]
theorem cellsL_drop : ∀ (zs : List (Int × Int)) (k : Nat), cellsL (zs.drop k) = (cellsL zs).drop (k * 2)
  | [], k => by simp [cellsL]
  | p :: zs, 0 => rfl
  | p :: zs, k + 1 => by
    rw [List.drop_succ_cons, cellsL_cons, cellsL_drop zs k, show (k + 1) * 2 = k * 2 + 1 + 1 by omega, List.drop_succ_cons, List.drop_succ_cons]

theorem holdsR_of_owns {w : World} {base g n cap : Nat} {zs : List (Int × Int)} (h : w.ownsRow base 87 2 (.slice (some ⟨g, 0, none⟩) n cap) n (cellsL zs)) : HoldsR w g 0 zs := by
  intro j hj
  obtain ⟨e0, e1⟩ := cellsL_get zs j hj
  have h0 := h.cells rfl _ _ e0
  have h1 := h.cells rfl _ _ e1
  rw [addP] at h0 h1
  exact ⟨h0, by rw [← h1]; congr 2⟩

/-- the built-in copy, of cells, within a row of the call's own -/
theorem copy_run (w : World) (ty : TypeId) (g o dLen dCap : Nat) (a : Addr) (sLen sCap : Nat) (cur : Array Value) (t : TypeId) (cs : List Value) (n : Nat)
    (hg : w.heap[g]? = some (.cells cur t (0, 0))) (hn : n = Nat.min sLen dLen) (hl : cs.length = n * 2)
    (hsrc : ∀ j v, cs[j]? = some v → w.cell? (a.add j) = some v) (hfit : o + cs.length ≤ cur.size) (h1 : ∀ v ∈ cs, v.oneCell' = true) :
    (Builtin.copy_ #[69, 69] ty #[.slice (some ⟨g, o, none⟩) dLen dCap, .slice (some a) sLen sCap]).run Try.prog w =
      .ok (goInt n) (w.setRow g (cur.toList.take o ++ cs ++ cur.toList.drop (o + cs.length)).toArray) := by
  have hld := run_loadCells_list (P := Try.prog) w a cs hsrc
  have hst := run_storeCells_at Try.prog g o t cs 0 cur w hg (by simpa using hfit) h1
  rw [hl] at hld
  simp [Builtin.copy_, run_underlying Try.underlying69, Builtin.lenOf, Builtin.firstCells, Try.sizeOf87, ← hn, hld, hst]
end Go.Proofs.Ytkcngkcfcokboaa

namespace Go.Proofs.Ytkcngkcfcokboaa
open Go.RowKit Go.Lib Go.Sort

attribute [local go_sem ↓] Go.wp_at_zero Go.wp_at_succ

set_option maxHeartbeats 400000 in
theorem far_any (n : Int) (w : World) : Calls Try.prog 83 #[.int .i64 n] w fun e w' => e = .returned (.bool (farI n)) ∧ w' = w := by
  by_cases h1 : n ≤ -1099511627776
  · have hd : decide (n ≤ -1099511627776) = true := by simpa using h1
    go_enter Try.func83, Try.ntmps83
    go_wp2
    go_ret
    refine ⟨?_, rfl⟩
    simp [farI, h1]
  · have hd : decide (n ≤ -1099511627776) = false := by simpa using h1
    go_enter Try.func83, Try.ntmps83
    go_wp2
    go_ret
    refine ⟨?_, rfl⟩
    unfold farI
    rw [hd, Bool.false_or]
    rfl

/-- a cell comes ahead of another, as a Bool -/
def aheadB (p q : Int × Int) : Bool := decide (p.2 < q.2) || (decide (p.2 = q.2) && decide (p.1 < q.1))
theorem aheadB_iff (p q : Int × Int) : aheadB p q = true ↔ ahead p q := by simp [aheadB, ahead]
theorem aheadB_not (p q : Int × Int) : aheadB p q = false ↔ ¬ ahead p q := by rw [← aheadB_iff, Bool.not_eq_true]

set_option maxHeartbeats 1000000 in
theorem ahead_any (p q : Int × Int) (w : World) : Calls Try.prog 125 #[.agg #[.int .i64 p.1, .int .i64 p.2], .agg #[.int .i64 q.1, .int .i64 q.2]] w fun e w' => e = .returned (.bool (aheadB p q)) ∧ w' = (w.alloc (.cells #[.int .i64 p.1, .int .i64 p.2] 87)).alloc (.cells #[.int .i64 q.1, .int .i64 q.2] 87) := by
  obtain ⟨px, py⟩ := p
  obtain ⟨qx, qy⟩ := q
  by_cases h1 : py < qy
  · have hd : decide (py < qy) = true := by simpa using h1
    go_enter Try.func125, Try.ntmps125
    go_wp2
    go_ret
    refine ⟨?_, rfl⟩
    simp [aheadB, h1]
  · have hd : decide (py < qy) = false := by simpa using h1
    by_cases h2 : py = qy
    · have he : (py == qy) = true := by simpa using h2
      go_enter Try.func125, Try.ntmps125
      go_wp2
      go_ret
      refine ⟨?_, rfl⟩
      simp [aheadB]
    · have he : (py == qy) = false := by simpa using h2
      go_enter Try.func125, Try.ntmps125
      go_wp2
      go_ret
      refine ⟨?_, rfl⟩
      simp [aheadB, h1, h2]

/-- the search's place -/
structure Found (zs : List (Int × Int)) (c : Int × Int) (l h : Nat) : Prop where
  le : l ≤ h
  top : h ≤ zs.length
  lo : ∀ j, j < l → ahead zs[j]! c
  hi : ∀ j, h ≤ j → j < zs.length → ¬ ahead zs[j]! c
theorem Found.up {zs : List (Int × Int)} {c : Int × Int} {l h m : Nat} (hf : Found zs c l h) (hT : Tidy zs) (hm : m < h) (ha : ahead zs[m]! c) : Found zs c (m + 1) h := by
  have ht := hf.top
  refine ⟨by omega, hf.top, fun j hj => ?_, hf.hi⟩
  by_cases e : j = m
  · rw [e]; exact ha
  · exact ahead_trans (tidy_get hT (show j < m by omega) (by omega)) ha
theorem Found.down {zs : List (Int × Int)} {c : Int × Int} {l h m : Nat} (hf : Found zs c l h) (hT : Tidy zs) (hl : l ≤ m) (hm : m < h) (ha : ¬ ahead zs[m]! c) : Found zs c l m := by
  have ht := hf.top
  refine ⟨hl, by omega, hf.lo, fun j hj hjl => ?_⟩
  by_cases e : j = m
  · rw [e]; exact ha
  · intro hc
    exact ha (ahead_trans (tidy_get hT (show m < j by omega) hjl) hc)

theorem owns_of_block {w w' : World} {base : Nat} {v : Value} {n : Nat} {xs : List Value} (h : w.ownsRow base 87 2 v n xs) (hb : ∀ g, v.ownBlock = some g → w'.heap[g]? = w.heap[g]?) : w'.ownsRow base 87 2 v n xs := by
  refine ⟨h.1, ?_⟩
  rcases h.2 with h2 | ⟨g, cap, cur, hv, hg, hh, r⟩
  · exact Or.inl h2
  · exact Or.inr ⟨g, cap, cur, hv, hg, by rw [hb g (by rw [hv]; rfl)]; exact hh, r⟩

theorem owns_block {w : World} {base g n cap : Nat} {xs : List Value} (h : w.ownsRow base 87 2 (.slice (some ⟨g, 0, none⟩) n cap) n xs) : ∃ L : List Value, w.heap[g]? = some (.cells L.toArray 87 (0, 0)) ∧ L.length = cap * 2 ∧ L.take (n * 2) = xs := by
  rcases h.2 with ⟨e, _⟩ | ⟨g', cap', cur, e, _, hh, _, _, hs, ht⟩
  · cases e
  · injection e with e1 _ e3
    injection e1 with e1
    injection e1 with e1 _ _
    subst e1 e3
    exact ⟨cur.toList, by rw [Array.toArray_toList]; exact hh, by simpa using hs, ht⟩

theorem heap_setCell_same (w : World) (g o : Nat) (v : Value) (L : List Value) (h : w.heap[g]? = some (.cells L.toArray 87 (0, 0))) : (w.setCell ⟨g, o, none⟩ v).heap[g]? = some (.cells (L.set o v).toArray 87 (0, 0)) := by
  rw [setCell_eq]
  simp only [mapBlock, Array.getElem?_modify, if_pos, h, Option.map_some, onCells]
  simp
theorem cell_of_block (w : World) (g o : Nat) (L : List Value) (h : w.heap[g]? = some (.cells L.toArray 87 (0, 0))) : w.cell? ⟨g, o, none⟩ = L[o]? := by
  simp [World.cell?, h]
theorem free_of_block (w : World) (g o : Nat) (L : List Value) (h : w.heap[g]? = some (.cells L.toArray 87 (0, 0))) : w.frozen? ⟨g, o, none⟩ = false := by
  simp [World.frozen?, h]

/-- the row, when the cell is stored at its place -/
theorem put_final {w : World} {base g l n cap : Nat} {zs : List (Int × Int)} {c : Int × Int} {x y : Value} {R : List Value} (hb : base ≤ g) (hl : l ≤ n) (hn : zs.length = n) (hcap : n + 1 ≤ cap) (hcm : cap ≤ maxLen)
    (hblk : w.heap[g]? = some (.cells (cellsL (zs.take l) ++ x :: y :: (cellsL (zs.drop l) ++ R)).toArray 87 (0, 0))) (hlen : (cellsL (zs.take l) ++ x :: y :: (cellsL (zs.drop l) ++ R)).length = cap * 2) :
    ((w.setCell ⟨g, l * 2, none⟩ (.int .i64 c.1)).setCell ⟨g, l * 2 + 1, none⟩ (.int .i64 c.2)).ownsRow base 87 2 (.slice (some ⟨g, 0, none⟩) (n + 1) cap) (zs.take l ++ c :: zs.drop l).length (cellsL (zs.take l ++ c :: zs.drop l)) := by
  have hA : (cellsL (zs.take l)).length = l * 2 := by rw [cellsL_length, List.length_take]; congr 1; omega
  have hlen' : (zs.take l ++ c :: zs.drop l).length = n + 1 := by simp; omega
  have h1 := heap_setCell_same _ g (l * 2) (.int .i64 c.1) _ hblk
  have h2 := heap_setCell_same _ g (l * 2 + 1) (.int .i64 c.2) _ h1
  have hset : ((cellsL (zs.take l) ++ x :: y :: (cellsL (zs.drop l) ++ R)).set (l * 2) (.int .i64 c.1)).set (l * 2 + 1) (.int .i64 c.2) = cellsL (zs.take l ++ c :: zs.drop l) ++ R := by
    rw [List.set_append_right _ _ (by omega), List.set_append_right _ _ (by rw [hA]; omega), hA, Nat.sub_self, show l * 2 + 1 - l * 2 = 1 by omega, cellsL_append, cellsL_cons]
    simp
  rw [hset] at h2
  refine ⟨by rw [cellsL_length], Or.inr ⟨g, cap, _, by rw [hlen'], hb, h2, by rw [hlen']; exact hcap, hcm, ?_, ?_⟩⟩
  · rw [← hset]
    simpa using hlen
  · simp only
    rw [← cellsL_length, List.take_left']
    rfl

/-- the row behind the copy -/
def movedL (L : List Value) (zs : List (Int × Int)) (l : Nat) : List Value := L.take ((l + 1) * 2) ++ cellsL (zs.drop l) ++ L.drop ((l + 1) * 2 + (cellsL (zs.drop l)).length)

theorem take_of {L xs ys : List Value} {m k : Nat} (h : L.take m = xs ++ ys) (hk : k ≤ xs.length) (hm : k ≤ m) : L.take k = xs.take k := by
  have := congrArg (List.take k) h
  rwa [List.take_take, Nat.min_eq_left hm, List.take_append_of_le_length hk] at this
theorem moved_form {L : List Value} {zs : List (Int × Int)} {l : Nat} {ys : List Value} (hl : l < zs.length) (ht : L.take ((zs.length + 1) * 2) = cellsL zs ++ ys) :
    movedL L zs l = cellsL (zs.take l) ++ .int .i64 (zs[l]!).1 :: .int .i64 (zs[l]!).2 :: (cellsL (zs.drop l) ++ L.drop ((l + 1) * 2 + (cellsL (zs.drop l)).length)) := by
  have h1 : L.take ((l + 1) * 2) = cellsL (zs.take (l + 1)) := by
    rw [take_of ht (by rw [cellsL_length]; omega) (by omega), cellsL_take]
  have h2 : zs.take (l + 1) = zs.take l ++ [zs[l]!] := by
    rw [List.take_succ_eq_append_getElem hl, getElem!_pos zs l hl]
  unfold movedL
  rw [h1, h2, cellsL_append, cellsL_cons]
  simp [cellsL]
theorem copy_src {L : List Value} {zs : List (Int × Int)} {l : Nat} {ys : List Value} (ht : L.take ((zs.length + 1) * 2) = cellsL zs ++ ys) (j : Nat) (v : Value) (h : (cellsL (zs.drop l))[j]? = some v) : L[l * 2 + j]? = some v := by
  rw [cellsL_drop, List.getElem?_drop] at h
  have hlt : l * 2 + j < (cellsL zs).length := (List.getElem?_eq_some_iff.1 h).1
  have h1 : (L.take ((zs.length + 1) * 2))[l * 2 + j]? = some v := by rw [ht, List.getElem?_append_left hlt]; exact h
  rw [cellsL_length] at hlt
  rwa [List.getElem?_take, if_pos (by omega)] at h1

theorem copy_zero (w : World) (ty : TypeId) (da : Option Addr) (dc : Nat) (ad : Addr) (sl sc : Nat) : (Builtin.copy_ #[69, 69] ty #[.slice da 0 dc, .slice (some ad) sl sc]).run Try.prog w = .ok (goInt 0) w := by
  have hl := run_loadCells_list (P := Try.prog) w ad [] (by simp)
  simp only [List.length_nil] at hl
  cases da <;> simp [Builtin.copy_, run_underlying Try.underlying69, Builtin.lenOf, Builtin.firstCells, Try.sizeOf87, hl, storeCells]

/-- what put answers -/
def PutOut (base : Nat) (zs : List (Int × Int)) (c : Int × Int) (w : World) (e : Ending) (w' : World) : Prop :=
  ∃ u ys, e = .returned u ∧ Tidy ys ∧ (∀ p, p ∈ ys ↔ p = c ∨ p ∈ zs) ∧ ys ≠ [] ∧ ys.length ≤ zs.length + 1 ∧ w'.ownsRow base 87 2 u ys.length (cellsL ys) ∧ Below base w w'

set_option maxHeartbeats 2000000 in
theorem put_some (g cap base : Nat) (zs : List (Int × Int)) (c : Int × Int) (w : World) (hown : w.ownsRow base 87 2 (.slice (some ⟨g, 0, none⟩) zs.length cap) zs.length (cellsL zs)) (hT : Tidy zs) (hn : zs.length ≤ 100000) :
    Calls Try.prog 84 #[.slice (some ⟨g, 0, none⟩) zs.length cap, .agg #[.int .i64 c.1, .int .i64 c.2]] w fun e w' => PutOut base zs c w e w' := by
  have hH := holdsR_of_owns hown
  have hglt := hown.lt g rfl
  have OW : Hid (w.ownsRow base 87 2 (.slice (some ⟨g, 0, none⟩) zs.length cap) zs.length (cellsL zs)) := hown
  have HH : Hid (HoldsR w g 0 zs) := hH
  have HT : Hid (Tidy zs) := hT
  have HG : Hid (base ≤ g ∧ g < w.heap.size) := hglt
  clear hown hH hT hglt
  generalize hl : zs.length = n at *
  have HL : Hid (zs.length = n) := hl
  clear hl
  go_enter Try.func84, Try.ntmps84
  go_wp2
  go_loopg [5, 6] n (fun gk s5 s6 wr => ∃ l h : Nat, s5 = .int .i64 l ∧ s6 = .int .i64 h ∧ h - l ≤ gk ∧ Found zs c l h ∧ Below (w.heap.size + 1) (w.alloc (.cells #[.int .i64 c.1, .int .i64 c.2] 87)) wr)
  case atStart => exact ⟨0, n, rfl, rfl, by omega, ⟨Nat.zero_le _, by rw [HL.out]; exact Nat.le_refl _, fun j hj => by omega, fun j hj hjl => by rw [HL.out] at hjl; omega⟩, Below.refl _ _⟩
  case round =>
    obtain ⟨l, h, rfl, rfl, hgk, hf, hb⟩ := hrel
    have hle := hf.le
    have htop := hf.top
    rw [HL.out] at htop
    have HF : Hid (Found zs c l h) := hf
    have GK : Hid (h - l ≤ gk) := hgk
    clear hf hgk
    have hws : w.heap.size < wr.heap.size := by have := hb.size; simp at this; omega
    have cb0 : wr.cell? ⟨w.heap.size, 0, none⟩ = some (.int .i64 c.1) := by rw [hb.cell (p := ⟨w.heap.size, 0, none⟩) (by simp), World.cell?_alloc_new]; rfl
    have cb1 : wr.cell? ⟨w.heap.size, 1, none⟩ = some (.int .i64 c.2) := by rw [hb.cell (p := ⟨w.heap.size, 1, none⟩) (by simp), World.cell?_alloc_new]; rfl
    by_cases hlt : l < h
    · obtain ⟨m, hm⟩ : ∃ m, m = (l + h) / 2 := ⟨_, rfl⟩
      have hm1 : l ≤ m := by omega
      have hm2 : m < h := by omega
      have hmI : ((l : Int) + (h : Int)) / 2 = (m : Int) := by omega
      have hi1 : (0 : Int) ≤ (m : Int) := by omega
      have hi2 : (m : Int) < (n : Int) := by omega
      clear hm
      obtain ⟨e0, e1⟩ := HH.out m (by rw [HL.out]; omega)
      have gl := HG.out.2
      have c0 : wr.cell? ⟨g, 0 + m * 2, none⟩ = some (.int .i64 (zs[m]!).1) := by rw [hb.cell (p := ⟨g, 0 + m * 2, none⟩) (show g < w.heap.size + 1 by omega), World.cell?_alloc_past _ _ _ gl]; exact e0
      have c1 : wr.cell? ⟨g, 0 + m * 2 + 1, none⟩ = some (.int .i64 (zs[m]!).2) := by rw [hb.cell (p := ⟨g, 0 + m * 2 + 1, none⟩) (show g < w.heap.size + 1 by omega), World.cell?_alloc_past _ _ _ gl]; exact e1
      rw [Nat.zero_add] at c0 c1
      clear e0 e1
      have hcall := fun W => ahead_any zs[m]! c W
      cases ha : aheadB zs[m]! c
      · rw [ha] at hcall
        generalize hz : zs[m]! = z at *
        have HZ : Hid (zs[m]! = z) := hz
        clear hz
        have hgw : g < wr.heap.size := by omega
        have HA : Hid (aheadB z c = false) := ha
        clear ha
        go_wp2
        rw [hmI]
        go_region_held3 (fun w' => w'.cell? ⟨g, m * 2, none⟩ = some (.int .i64 z.1) ∧ w'.cell? ⟨g, m * 2 + 1, none⟩ = some (.int .i64 z.2) ∧ w'.cell? ⟨w.heap.size, 0, none⟩ = some (.int .i64 c.1) ∧ w'.cell? ⟨w.heap.size, 1, none⟩ = some (.int .i64 c.2)) (go_keep)
          (first | (go_at_call 125; refine (hcall _).mono ?_; rintro e w' ⟨rfl, rfl⟩))
        go_wp2
        go_roundg (m - l)
        case measure => have := GK.out; omega
        case rel => exact ⟨l, m, rfl, rfl, Nat.le_refl _, HF.out.down HT.out hm1 hm2 (by rw [HZ.out]; exact (aheadB_not z c).1 HA.out), ((hb.alloc (by omega) _).alloc (by simp; omega) _).drew⟩
      · rw [ha] at hcall
        generalize hz : zs[m]! = z at *
        have HZ : Hid (zs[m]! = z) := hz
        clear hz
        have hgw : g < wr.heap.size := by omega
        have HA : Hid (aheadB z c = true) := ha
        clear ha
        go_wp2
        rw [hmI]
        go_region_held3 (fun w' => w'.cell? ⟨g, m * 2, none⟩ = some (.int .i64 z.1) ∧ w'.cell? ⟨g, m * 2 + 1, none⟩ = some (.int .i64 z.2) ∧ w'.cell? ⟨w.heap.size, 0, none⟩ = some (.int .i64 c.1) ∧ w'.cell? ⟨w.heap.size, 1, none⟩ = some (.int .i64 c.2)) (go_keep)
          (first | (go_at_call 125; refine (hcall _).mono ?_; rintro e w' ⟨rfl, rfl⟩))
        go_wp2
        go_roundg (h - (m + 1))
        case measure => have := GK.out; omega
        case rel => exact ⟨m + 1, h, by go_num, rfl, Nat.le_refl _, HF.out.up HT.out hm2 (by rw [HZ.out]; exact (aheadB_iff z c).1 HA.out), ((hb.alloc (by omega) _).alloc (by simp; omega) _).drew⟩
    · have hlh : l = h := by omega
      subst hlh
      have gl := HG.out.2
      have gb := HG.out.1
      have hgw : g < wr.heap.size := by omega
      have bel : Below base w wr := ((Below.refl _ _).alloc (by omega) _).trans (hb.mono (by omega))
      have OW2 : Hid (wr.ownsRow base 87 2 (.slice (some ⟨g, 0, none⟩) n cap) n (cellsL zs)) := owns_of_block OW.out (fun k hk => by simp [Value.ownBlock] at hk; subst hk; rw [hb.block g (by omega), Below.heap_alloc _ _ _ gl])
      have OW3 : Hid (∀ o, (wr.alloc o).drew.ownsRow base 87 2 (.slice (some ⟨g, 0, none⟩) n cap) n (cellsL zs)) := fun o => owns_of_block OW2.out (fun k hk => by simp [Value.ownBlock] at hk; subst hk; exact Below.heap_alloc _ _ _ hgw)
      obtain ⟨i0, hi, hz0, hz1, hz2⟩ := info_parts Try.info87
      have hcellI : ∀ o, wr.cell? ⟨g, o, none⟩ = w.cell? ⟨g, o, none⟩ := fun o => by rw [hb.cell (p := ⟨g, o, none⟩) (show g < w.heap.size + 1 by omega), World.cell?_alloc_past _ _ _ gl]
      by_cases hln : l < n
      · obtain ⟨e0, e1⟩ := HH.out l (by rw [HL.out]; omega)
        rw [Nat.zero_add, ← hcellI] at e0 e1
        have CI : Hid (∀ o, wr.cell? ⟨g, o, none⟩ = w.cell? ⟨g, o, none⟩) := hcellI
        clear hcellI
        have hi1 : (0 : Int) ≤ (l : Int) := by omega
        have hi2 : (l : Int) < (n : Int) := by omega
        generalize hz : zs[l]! = z at *
        have HZ : Hid (zs[l]! = z) := hz
        clear hz
        by_cases hzc : z = c
        · subst hzc
          have heq : ∀ w, (binOp .eql 87 (.agg #[.int .i64 z.1, .int .i64 z.2]) (.agg #[.int .i64 z.1, .int .i64 z.2])).run Try.prog w = .ok (.bool true) w := fun w => by rw [eqP_run]; simp
          go_wp2
          go_region
          go_wp2
          go_ret
          refine ⟨_, zs, rfl, HT.out, fun p => ⟨Or.inr, fun hp => ?_⟩, ?_, by rw [HL.out]; omega, ?_, bel.drew⟩
          · rcases hp with rfl | hp
            · rw [← HZ.out, getElem!_pos zs l (by rw [HL.out]; exact hln)]
              exact List.getElem_mem _
            · exact hp
          · intro e
            have := HL.out
            rw [e] at this
            simp at this
            omega
          · rw [HL.out]
            exact OW2.out
        · have heq : ∀ w, (binOp .eql 87 (.agg #[.int .i64 z.1, .int .i64 z.2]) (.agg #[.int .i64 c.1, .int .i64 c.2])).run Try.prog w = .ok (.bool false) w := fun w => by rw [eqP_run]; simp [hzc]
          have HC : Hid (¬ z = c) := hzc
          clear hzc
          go_wp2
          go_region
          have hbase : base ≤ wr.heap.size := by omega
          go_wp2_with (at_builtin; refine wpList_append_lies _ rfl _ _ 69 rfl base 87 i0 (.agg #[.int .i64 0, .int .i64 0]) 2 16 Try.underlying69 hi hz0 hz1 hz2 rfl (by decide) (.slice (some ⟨g, 0, none⟩) n cap) n (cellsL zs) rfl (by exact OW3.out _) ⟨wr.heap.size, 0, none⟩ 1 1 [.int .i64 c.1, .int .i64 c.2] rfl rfl (by exact cell_two_new _ _ _ _) (by intro u hu; simp at hu; rcases hu with rfl | rfl <;> rfl) (by omega) (by unfold maxLen; omega) (by omega) (by simp; omega) (wr.heap.size + 1) (by simp) ?_; intro g2 cap2 w1 hown2 hgrow hat hlt2)
          have hcap2 : n + 1 ≤ cap2 := by
            rcases hown2.2 with ⟨e, _⟩ | ⟨g', cap', cur, e, _, _, hle', _⟩
            · cases e
            · injection e with _ _ e3
              omega
          have hcm2 : cap2 ≤ 9223372036854775807 := by
            rcases hown2.2 with ⟨e, _⟩ | ⟨g', cap', cur, e, _, _, _, hmx, _⟩
            · cases e
            · injection e with _ _ e3
              unfold maxLen at hmx
              omega
          have hat' : g2 = g ∨ g2 = wr.heap.size + 1 := by
            rcases hat with h | h
            · left
              simp [Value.ownBlock] at h
              omega
            · right
              exact h
          clear hat
          have hj1 : (l : Int) + 1 ≤ (n : Int) + 1 := by omega
          have hj2 : (n : Int) + 1 ≤ (cap2 : Int) := by omega
          have O2 : Hid (w1.ownsRow base 87 2 (.slice (some ⟨g2, 0, none⟩) (n + 1) cap2) (n + 1) (cellsL zs ++ [.int .i64 c.1, .int .i64 c.2])) := hown2
          obtain ⟨curL, hblk, hcl, htake⟩ := owns_block hown2
          clear hown2 heq
          have hwl : IntKind.i64.wrap ((l : Int) + 1) = (l : Int) + 1 := by rw [IntKind.wrap_i64]; omega
          have hk1 : (0 : Int) ≤ (l : Int) + 1 := by omega
          have hk3 : ¬ cap2 = l + 1 := by omega
          have hk4 : ¬ cap2 = l := by omega
          have hcp : ∀ ty, (Builtin.copy_ #[69, 69] ty #[.slice (some ⟨g2, (l + 1) * 2, none⟩) (n - l) (cap2 - (l + 1)), .slice (some ⟨g2, l * 2, none⟩) (n + 1 - l) (cap2 - l)]).run Try.prog w1.drew =
              .ok (goInt ((n - l : Nat) : Int)) (w1.drew.setRow g2 (movedL curL zs l).toArray) := by
            intro ty
            have hlen : (cellsL (zs.drop l)).length = (n - l) * 2 := by rw [cellsL_length, List.length_drop, HL.out]
            have ht' : curL.take ((zs.length + 1) * 2) = cellsL zs ++ [.int .i64 c.1, .int .i64 c.2] := by rw [HL.out]; exact htake
            have := copy_run w1.drew ty g2 ((l + 1) * 2) (n - l) (cap2 - (l + 1)) ⟨g2, l * 2, none⟩ (n + 1 - l) (cap2 - l) curL.toArray 87 (cellsL (zs.drop l)) (n - l) hblk (by show n - l = min (n + 1 - l) (n - l); omega) hlen
              (fun j v hj => by rw [addP, cell_of_block w1.drew g2 _ curL hblk]; exact copy_src ht' j v hj) (by rw [hlen]; simp; omega) (cellsL_one _)
            exact this
          have hM := moved_form (L := curL) (zs := zs) (l := l) (ys := [.int .i64 c.1, .int .i64 c.2]) (by rw [HL.out]; exact hln) (by rw [HL.out]; exact htake)
          have hMl : (movedL curL zs l).length = cap2 * 2 := by
            unfold movedL
            simp only [List.length_append, List.length_take, List.length_drop, cellsL_length, HL.out]
            omega
          have hne2 : w.heap.size ≠ g2 := by omega
          have hbx0 : w1.cell? ⟨w.heap.size, 0, none⟩ = some (.int .i64 c.1) := hgrow.cell (a := ⟨w.heap.size, 0, none⟩) (by show (wr.alloc _).cell? _ = _; rw [World.cell?_alloc_past _ _ _ hws]; exact cb0) (by simp [Value.ownBlock]; omega)
          have hbx1 : w1.cell? ⟨w.heap.size, 1, none⟩ = some (.int .i64 c.2) := hgrow.cell (a := ⟨w.heap.size, 1, none⟩) (by show (wr.alloc _).cell? _ = _; rw [World.cell?_alloc_past _ _ _ hws]; exact cb1) (by simp [Value.ownBlock]; omega)
          have FIN : Hid (∃ w2, w2 = w1.drew.setRow g2 (movedL curL zs l).toArray ∧ w2.heap[g2]? = some (.cells (movedL curL zs l).toArray 87 (0, 0)) ∧ (∀ o, w2.cell? ⟨w.heap.size, o, none⟩ = w1.cell? ⟨w.heap.size, o, none⟩) ∧ Below base w w2) :=
            ⟨_, rfl, setRow_heap _ _ _ _ _ _ hblk, fun o => cell_setRow_other _ _ _ _ hne2, below_setRow (((bel.alloc hbase _).drew.grown hgrow (by simp; omega) (by intro k hk; simp [Value.ownBlock] at hk; omega)).drew) (by omega) _⟩
          have KM : Hid (movedL curL zs l = cellsL (zs.take l) ++ .int .i64 (zs[l]!).1 :: .int .i64 (zs[l]!).2 :: (cellsL (zs.drop l) ++ curL.drop ((l + 1) * 2 + (cellsL (zs.drop l)).length)) ∧ (movedL curL zs l).length = cap2 * 2) := ⟨hM, hMl⟩
          clear hM hMl
          clear cb0 cb1 e0 e1 hblk htake hcl
          go_region
          obtain ⟨w2, hw2, hblk2, hcell2, hbel2⟩ := FIN.out
          rw [← hw2]
          clear hcp
          rw [KM.out.1] at hblk2
          have s0 := cell_of_block w2 g2 (l * 2) _ hblk2
          have s1 := cell_of_block w2 g2 (l * 2 + 1) _ hblk2
          have t0 := free_of_block w2 g2 (l * 2) _ hblk2
          have t1 := free_of_block w2 g2 (l * 2 + 1) _ hblk2
          have hA : (cellsL (zs.take l)).length = l * 2 := by rw [cellsL_length, List.length_take, HL.out, Nat.min_eq_left (by omega)]
          rw [List.getElem?_append_right (by omega), hA, Nat.sub_self] at s0
          rw [List.getElem?_append_right (by omega), hA, show l * 2 + 1 - l * 2 = 1 by omega] at s1
          simp only [List.getElem?_cons_zero, List.getElem?_cons_succ] at s0 s1
          have b0 := (hcell2 0).trans hbx0
          have b1 := (hcell2 1).trans hbx1
          have PF := @put_final w2 base g2 l n cap2 zs c _ _ _ (by omega) (by omega) HL.out hcap2 hcm2 hblk2 (by rw [← KM.out.1]; exact KM.out.2)
          have PF' : Hid _ := PF
          have HB2 : Hid (Below base w w2 ∧ base ≤ g2) := ⟨hbel2, by omega⟩
          clear PF hbel2 hblk2 hcell2 hbx0 hbx1 hA hw2
          go_wp2
          go_ret
          obtain ⟨pt, pm⟩ := put_tidy (c := c) (k := l) HT.out (by rw [HL.out]; omega) HF.out.lo HF.out.hi (fun _ => by rw [HZ.out]; exact HC.out)
          refine ⟨_, _, rfl, pt, pm, by simp, by rw [List.length_append, List.length_cons, List.length_take, List.length_drop, HL.out]; omega, PF'.out, (HB2.out.1.setCell HB2.out.2 _).setCell HB2.out.2 _⟩
      · have hle' : l = n := by omega
        subst hle'
        clear hcellI
        have hd : decide ((l : Int) < (l : Int)) = false := by simp
        have hbase : base ≤ wr.heap.size := by omega
        go_wp2
        go_region
        go_wp2_with (at_builtin; refine wpList_append_lies _ rfl _ _ 69 rfl base 87 i0 (.agg #[.int .i64 0, .int .i64 0]) 2 16 Try.underlying69 hi hz0 hz1 hz2 rfl (by decide) (.slice (some ⟨g, 0, none⟩) l cap) l (cellsL zs) rfl (by exact OW3.out _) ⟨wr.heap.size, 0, none⟩ 1 1 [.int .i64 c.1, .int .i64 c.2] rfl rfl (by exact cell_two_new _ _ _ _) (by intro u hu; simp at hu; rcases hu with rfl | rfl <;> rfl) (by omega) (by unfold maxLen; omega) (by omega) (by simp; omega) (wr.heap.size + 1) (by simp) ?_; intro g2 cap2 w1 hown2 hgrow hat hlt2)
        have hcap2 : l + 1 ≤ cap2 := by
          rcases hown2.2 with ⟨e, _⟩ | ⟨g', cap', cur, e, _, _, hle', _⟩
          · cases e
          · injection e with _ _ e3
            omega
        have hcm2 : cap2 ≤ 9223372036854775807 := by
          rcases hown2.2 with ⟨e, _⟩ | ⟨g', cap', cur, e, _, _, _, hmx, _⟩
          · cases e
          · injection e with _ _ e3
            unfold maxLen at hmx
            omega
        have hat' : g2 = g ∨ g2 = wr.heap.size + 1 := by
          rcases hat with h | h
          · left
            simp [Value.ownBlock] at h
            omega
          · right
            exact h
        clear hat
        have hj2 : (l : Int) + 1 ≤ (cap2 : Int) := by omega
        obtain ⟨curL, hblk, hcl, htake⟩ := owns_block hown2
        clear hown2
        have hwl : IntKind.i64.wrap ((l : Int) + 1) = (l : Int) + 1 := by rw [IntKind.wrap_i64]; omega
        have hk1 : (0 : Int) ≤ (l : Int) + 1 := by omega
        have hk4 : ¬ cap2 = l := by omega
        have hcp := copy_zero
        have hne2 : w.heap.size ≠ g2 := by omega
        have b0 : w1.cell? ⟨w.heap.size, 0, none⟩ = some (.int .i64 c.1) := hgrow.cell (a := ⟨w.heap.size, 0, none⟩) (by show (wr.alloc _).cell? _ = _; rw [World.cell?_alloc_past _ _ _ hws]; exact cb0) (by simp [Value.ownBlock]; omega)
        have b1 : w1.cell? ⟨w.heap.size, 1, none⟩ = some (.int .i64 c.2) := hgrow.cell (a := ⟨w.heap.size, 1, none⟩) (by show (wr.alloc _).cell? _ = _; rw [World.cell?_alloc_past _ _ _ hws]; exact cb1) (by simp [Value.ownBlock]; omega)
        have hform : curL = cellsL (zs.take l) ++ .int .i64 c.1 :: .int .i64 c.2 :: (cellsL (zs.drop l) ++ curL.drop ((l + 1) * 2)) := by
          rw [List.take_of_length_le (by rw [HL.out]; exact Nat.le_refl _), List.drop_of_length_le (by rw [HL.out]; exact Nat.le_refl _)]
          have := List.take_append_drop ((l + 1) * 2) curL
          rw [htake] at this
          simpa [cellsL] using this.symm
        have hblk2 : w1.heap[g2]? = some (.cells (cellsL (zs.take l) ++ .int .i64 c.1 :: .int .i64 c.2 :: (cellsL (zs.drop l) ++ curL.drop ((l + 1) * 2))).toArray 87 (0, 0)) := by rw [← hform]; exact hblk
        have s0 := cell_of_block w1 g2 (l * 2) _ hblk2
        have s1 := cell_of_block w1 g2 (l * 2 + 1) _ hblk2
        have t0 := free_of_block w1 g2 (l * 2) _ hblk2
        have t1 := free_of_block w1 g2 (l * 2 + 1) _ hblk2
        have hA : (cellsL (zs.take l)).length = l * 2 := by rw [cellsL_length, List.length_take, HL.out, Nat.min_eq_left (by omega)]
        rw [List.getElem?_append_right (by omega), hA, Nat.sub_self] at s0
        rw [List.getElem?_append_right (by omega), hA, show l * 2 + 1 - l * 2 = 1 by omega] at s1
        simp only [List.getElem?_cons_zero, List.getElem?_cons_succ] at s0 s1
        have PF := @put_final w1 base g2 l l cap2 zs c _ _ _ (by omega) (by omega) HL.out hcap2 hcm2 hblk2 (by rw [← hform]; exact hcl)
        have PF' : Hid _ := PF
        have HB2 : Hid (Below base w w1 ∧ base ≤ g2) := ⟨(bel.alloc hbase _).drew.grown hgrow (by simp; omega) (by intro k hk; simp [Value.ownBlock] at hk; omega), by omega⟩
        clear PF hblk2 hA hblk hform htake hcl cb0 cb1
        obtain ⟨pt, pm⟩ := put_tidy (c := c) (k := l) HT.out (by rw [HL.out]; omega) HF.out.lo HF.out.hi (fun h => by rw [HL.out] at h; omega)
        have LAST : Hid (PutOut base zs c w (.returned (.slice (some ⟨g2, 0, none⟩) (l + 1) cap2)) (((w1.setCell ⟨g2, l * 2, none⟩ (.int .i64 c.1)).setCell ⟨g2, l * 2 + 1, none⟩ (.int .i64 c.2)).drew)) :=
          ⟨_, _, rfl, pt, pm, by simp, by rw [List.length_append, List.length_cons, List.length_take, List.length_drop, HL.out]; omega, PF'.out, ((HB2.out.1.setCell HB2.out.2 _).setCell HB2.out.2 _).drew⟩
        clear pt pm
        by_cases hce : cap2 = l + 1
        · subst hce
          go_region
          go_wp2
          go_ret
          exact LAST.out
        · go_region
          go_wp2
          go_ret
          exact LAST.out
end Go.Proofs.Ytkcngkcfcokboaa

namespace Go.Proofs.Ytkcngkcfcokboaa
open Go.RowKit Go.Lib Go.Sort

set_option maxHeartbeats 2000000 in
theorem put_nil (base : Nat) (c : Int × Int) (w : World) (hbase : base ≤ w.heap.size) :
    Calls Try.prog 84 #[.slice none 0 0, .agg #[.int .i64 c.1, .int .i64 c.2]] w fun e w' => PutOut base [] c w e w' := by
  obtain ⟨i0, hi, hz0, hz1, hz2⟩ := info_parts Try.info87
  go_enter Try.func84, Try.ntmps84
  go_wp2
  refine wp_loop_rounds 1 ?_
  rw [rounds_succ]
  go_wp2
  go_region
  go_wp2_with (at_builtin; refine wpList_append_lies _ rfl _ _ 69 rfl base 87 i0 (.agg #[.int .i64 0, .int .i64 0]) 2 16 Try.underlying69 hi hz0 hz1 hz2 rfl (by decide) (.slice none 0 0) 0 [] rfl (by exact World.ownsRow_nil _ _ _ _) ⟨w.heap.size + 1, 0, none⟩ 1 1 [.int .i64 c.1, .int .i64 c.2] rfl rfl (by intro j u hj; rw [addP]; match j, hj with | 0, hj => simp at hj; rw [← hj]; exact (World.cell?_alloc_at _ _ _ _ (by simp)).trans rfl | 1, hj => simp at hj; rw [← hj]; exact (World.cell?_alloc_at _ _ _ _ (by simp)).trans rfl) (by intro u hu; simp at hu; rcases hu with rfl | rfl <;> rfl) (by omega) (by unfold maxLen; omega) (by omega) (by simp; omega) (w.heap.size + 1 + 1) (by simp) ?_; intro g2 cap2 w1 hown2 hgrow hat hlt2)
  have hcap2 : 1 ≤ cap2 := by
    rcases hown2.2 with ⟨e, _⟩ | ⟨g', cap', cur, e, _, _, hle', _⟩
    · cases e
    · injection e with _ _ e3
      omega
  have hcm2 : cap2 ≤ 9223372036854775807 := by
    rcases hown2.2 with ⟨e, _⟩ | ⟨g', cap', cur, e, _, _, _, hmx, _⟩
    · cases e
    · injection e with _ _ e3
      unfold maxLen at hmx
      omega
  have hat' : g2 = w.heap.size + 1 + 1 := by
    rcases hat with h | h
    · simp [Value.ownBlock] at h
    · exact h
  clear hat
  have hj2 : (1 : Int) ≤ (cap2 : Int) := by omega
  obtain ⟨curL, hblk, hcl, htake⟩ := owns_block hown2
  clear hown2
  have hcp := copy_zero
  have b0 : w1.cell? ⟨w.heap.size, 0, none⟩ = some (.int .i64 c.1) := hgrow.cell (a := ⟨w.heap.size, 0, none⟩) (by show ((w.alloc _).alloc _).cell? _ = _; rw [World.cell?_alloc2_first]; rfl) (by simp [Value.ownBlock])
  have b1 : w1.cell? ⟨w.heap.size, 1, none⟩ = some (.int .i64 c.2) := hgrow.cell (a := ⟨w.heap.size, 1, none⟩) (by show ((w.alloc _).alloc _).cell? _ = _; rw [World.cell?_alloc2_first]; rfl) (by simp [Value.ownBlock])
  have hform : curL = cellsL (([] : List (Int × Int)).take 0) ++ .int .i64 c.1 :: .int .i64 c.2 :: (cellsL (([] : List (Int × Int)).drop 0) ++ curL.drop 2) := by
    have := List.take_append_drop 2 curL
    rw [show (2 : Nat) = (0 + 1) * 2 from rfl, htake] at this
    simpa [cellsL] using this.symm
  have hblk2 : w1.heap[g2]? = some (.cells (cellsL (([] : List (Int × Int)).take 0) ++ .int .i64 c.1 :: .int .i64 c.2 :: (cellsL (([] : List (Int × Int)).drop 0) ++ curL.drop 2)).toArray 87 (0, 0)) := by rw [← hform]; exact hblk
  have s0 : w1.cell? ⟨g2, 0, none⟩ = some (.int .i64 c.1) := cell_of_block w1 g2 0 _ hblk2
  have s1 : w1.cell? ⟨g2, 1, none⟩ = some (.int .i64 c.2) := cell_of_block w1 g2 1 _ hblk2
  have t0 := free_of_block w1 g2 0 _ hblk2
  have t1 := free_of_block w1 g2 1 _ hblk2
  have PF := @put_final w1 base g2 0 0 cap2 [] c _ _ _ (by omega) (by omega) rfl hcap2 hcm2 hblk2 (by rw [← hform]; exact hcl)
  have hB2 : Below base w w1 ∧ base ≤ g2 := ⟨(((Below.refl _ _).alloc (by omega) _).alloc (by simp; omega) _).drew.grown hgrow (by simp; omega) (by intro k hk; simp [Value.ownBlock] at hk), by omega⟩
  have LAST : Hid (PutOut base [] c w (.returned (.slice (some ⟨g2, 0, none⟩) 1 cap2)) (((w1.setCell ⟨g2, 0, none⟩ (.int .i64 c.1)).setCell ⟨g2, 1, none⟩ (.int .i64 c.2)).drew)) :=
    ⟨_, [c], rfl, List.pairwise_singleton _ _, fun p => by simp, by simp, by simp, PF, ((hB2.1.setCell hB2.2 _).setCell hB2.2 _).drew⟩
  have hne2 : w.heap.size < g2 := by omega
  clear PF hblk2 hblk hform htake hcl hB2 hgrow hat'
  by_cases hce : cap2 = 1
  · subst hce
    go_region
    go_wp2
    go_ret
    exact LAST.out
  · go_region
    go_wp2
    go_ret
    exact LAST.out

/-- a list in order in a row of its own: nil if there is none -/
def Kept (w : World) (base : Nat) (v : Value) (ys : List (Int × Int)) : Prop := (ys = [] ∧ v = .slice none 0 0) ∨ (ys ≠ [] ∧ w.ownsRow base 87 2 v ys.length (cellsL ys))

theorem put_any (v : Value) (base : Nat) (ys : List (Int × Int)) (c : Int × Int) (w : World) (hbase : base ≤ w.heap.size) (h : Kept w base v ys) (hT : Tidy ys) (hn : ys.length ≤ 100000) :
    Calls Try.prog 84 #[v, .agg #[.int .i64 c.1, .int .i64 c.2]] w fun e w' => PutOut base ys c w e w' := by
  rcases h with ⟨rfl, rfl⟩ | ⟨hz, hown⟩
  · exact put_nil base c w hbase
  · rcases id hown with ⟨_, ⟨_, h0⟩ | ⟨g, cap, cur, hv, _⟩⟩
    · exact absurd (List.length_eq_zero_iff.1 h0) hz
    · subst hv
      exact put_some g cap base ys c w hown hT hn
theorem Kept.row {w : World} {base : Nat} {v : Value} {ys : List (Int × Int)} (h : Kept w base v ys) : Row w v ys := by
  rcases h with ⟨rfl, rfl⟩ | ⟨hz, hown⟩
  · exact Or.inl ⟨rfl, rfl⟩
  · rcases id hown with ⟨_, ⟨_, h0⟩ | ⟨g, cap, cur, hv, _, _, hc, hm, _⟩⟩
    · exact absurd (List.length_eq_zero_iff.1 h0) hz
    · subst hv
      exact Or.inr ⟨hz, g, 0, cap, rfl, (hown.lt g rfl).2, hc, hm, holdsR_of_owns hown⟩
theorem Kept.block {w w' : World} {base : Nat} {v : Value} {ys : List (Int × Int)} (h : Kept w base v ys) (hb : ∀ g, g < w.heap.size → w'.heap[g]? = w.heap[g]?) : Kept w' base v ys := by
  rcases h with h | ⟨hz, hown⟩
  · exact Or.inl h
  · exact Or.inr ⟨hz, owns_of_block hown (fun g hg => hb g (hown.lt g hg).2)⟩
end Go.Proofs.Ytkcngkcfcokboaa

namespace Go.Proofs.Ytkcngkcfcokboaa
open Go.RowKit Go.Lib Go.Sort

/-- a slice's value that reads as a list of cells, wherever it lies -/
def RRow (w : World) (v : Value) (zs : List (Int × Int)) : Prop := IsRow w v zs.length (fun j => (zs[j]!).1) (fun j => (zs[j]!).2)

/-- what Tidy answers of a list -/
def TidyOutR (zs : List (Int × Int)) (w : World) (e : Ending) (w' : World) : Prop :=
  ∃ u code, e = .returned (.tuple #[u, .int .i64 code]) ∧ Below w.heap.size w w' ∧
    ((4096 < zs.length ∧ code = 5 ∧ u = .slice none 0 0) ∨ (zs.length ≤ 4096 ∧ zs.any farP = true ∧ code = 3 ∧ u = .slice none 0 0) ∨
    (zs.length ≤ 4096 ∧ zs.any farP = false ∧ code = 0 ∧ ∃ ys, Tidy ys ∧ (∀ p, p ∈ ys ↔ p ∈ zs) ∧ Row w' u ys))

theorem any_true_of {zs : List (Int × Int)} {k : Nat} (hk : k < zs.length) (h : farP zs[k]! = true) : zs.any farP = true := by
  rw [List.any_eq_true]
  exact ⟨zs[k]!, by rw [getElem!_pos zs k hk]; exact List.getElem_mem hk, h⟩
theorem any_false_of {zs : List (Int × Int)} (h : ∀ j, j < zs.length → farP zs[j]! = false) : zs.any farP = false := by
  rw [List.any_eq_false]
  intro p hp
  obtain ⟨j, hj, e⟩ := List.getElem_of_mem hp
  have := h j hj
  rw [getElem!_pos zs j hj, e] at this
  simp [this]

set_option maxHeartbeats 2000000 in
theorem refTidy_many (a : Option Addr) (c : Nat) (zs : List (Int × Int)) (w : World) (hbig : 4096 < zs.length) (hm : zs.length ≤ 9223372036854775807) :
    Calls Try.prog 40 #[.slice a zs.length c] w fun e w' => TidyOutR zs w e w' := by
  have hd : (4096 : Int) < (zs.length : Int) := by omega
  go_enter Try.func40, Try.ntmps40
  go_wp2
  go_ret2
  exact ⟨_, _, rfl, Below.refl _ _, Or.inl ⟨hbig, rfl, rfl⟩⟩

set_option maxHeartbeats 2000000 in
theorem refTidy_none (a : Option Addr) (c : Nat) (w : World) :
    Calls Try.prog 40 #[.slice a 0 c] w fun e w' => TidyOutR [] w e w' := by
  go_enter Try.func40, Try.ntmps40
  go_wp2
  refine wp_loop_rounds 1 ?_
  rw [rounds_succ]
  go_wp2
  refine wp_loop_rounds 1 ?_
  rw [rounds_succ]
  go_wp2
  go_ret2
  exact ⟨_, _, rfl, Below.refl _ _, Or.inr (Or.inr ⟨by simp, rfl, rfl, [], List.Pairwise.nil, fun p => Iff.rfl, Or.inl ⟨rfl, rfl⟩⟩)⟩

set_option maxHeartbeats 2000000 in
theorem refTidy_some (b off c : Nat) (zs : List (Int × Int)) (w : World) (hb : b < w.heap.size) (hn : zs.length ≤ 4096) (hH : HoldsR w b off zs) :
    Calls Try.prog 40 #[.slice (some ⟨b, off, none⟩) zs.length c] w fun e w' => TidyOutR zs w e w' := by
  have HH : Hid (HoldsR w b off zs) := hH
  clear hH
  generalize hl : zs.length = n at *
  have HL : Hid (zs.length = n) := hl
  clear hl
  have hd : ¬ (4096 : Int) < (n : Int) := by omega
  go_enter Try.func40, Try.ntmps40
  go_wp2
  go_loopg [13] n (fun g s wr => ∃ k : Nat, k + g = n ∧ s = .int .i64 k ∧ wr = w ∧ ∀ j, j < k → farP zs[j]! = false)
  case atStart => exact ⟨0, by omega, rfl, rfl, fun j hj => by omega⟩
  case round =>
    obtain ⟨k, hk, rfl, hw, hfar⟩ := hrel
    have hw' := hw.symm
    subst hw'
    clear hw
    have HK : Hid (k + gk = n) := hk
    have HF : Hid (∀ j, j < k → farP zs[j]! = false) := hfar
    have hkn : k ≤ n := by omega
    clear hk hfar
    by_cases hlt : k < n
    · obtain ⟨c0, c1⟩ := HH.out k (by rw [HL.out]; exact hlt)
      generalize hz : zs[k]! = z at c0 c1
      have HZ : Hid (zs[k]! = z) := hz
      clear hz
      obtain ⟨x, y⟩ := z
      have hcx := far_any x
      have hcy := far_any y
      have hi2 : (k : Int) < (n : Int) := by omega
      cases hx : farI x
      · rw [hx] at hcx
        cases hy : farI y
        · rw [hy] at hcy
          have HXY : Hid (farI x = false ∧ farI y = false) := ⟨hx, hy⟩
          clear hx hy
          go_wp2_with (first | (go_at_call_of 83 x; refine (hcx _).mono ?_; rintro e w' ⟨rfl, rfl⟩) | (go_at_call_of 83 y; refine (hcy _).mono ?_; rintro e w' ⟨rfl, rfl⟩))
          go_roundg (gk - 1)
          case measure => have := HK.out; omega
          case rel =>
            have := HK.out
            refine ⟨k + 1, by omega, by go_num, rfl, fun j hj => ?_⟩
            by_cases e : j = k
            · rw [e, HZ.out]; simp [farP, HXY.out.1, HXY.out.2]
            · exact HF.out j (by omega)
        · rw [hy] at hcy
          have HXY : Hid (farI y = true) := hy
          clear hx hy
          go_wp2_with (first | (go_at_call_of 83 x; refine (hcx _).mono ?_; rintro e w' ⟨rfl, rfl⟩) | (go_at_call_of 83 y; refine (hcy _).mono ?_; rintro e w' ⟨rfl, rfl⟩))
          go_ret2
          exact ⟨_, _, rfl, Below.refl _ _, Or.inr (Or.inl ⟨by rw [HL.out]; exact hn, any_true_of (k := k) (by rw [HL.out]; exact hlt) (by rw [HZ.out]; simp [farP, HXY.out]), rfl, rfl⟩)⟩
      · rw [hx] at hcx
        have HXY : Hid (farI x = true) := hx
        clear hx
        go_wp2_with (first | (go_at_call_of 83 x; refine (hcx _).mono ?_; rintro e w' ⟨rfl, rfl⟩))
        go_ret2
        exact ⟨_, _, rfl, Below.refl _ _, Or.inr (Or.inl ⟨by rw [HL.out]; exact hn, any_true_of (k := k) (by rw [HL.out]; exact hlt) (by rw [HZ.out]; simp [farP, HXY.out]), rfl, rfl⟩)⟩
    · have hke : k = n := by omega
      subst hke
      go_wp2
      go_loopg [5, 33] k (fun g s5 s33 wq => ∃ (m : Nat) (ys : List (Int × Int)), m + g = k ∧ s33 = .int .i64 m ∧ Kept wq w.heap.size s5 ys ∧ Tidy ys ∧ (∀ p, p ∈ ys ↔ ∃ j, j < m ∧ zs[j]! = p) ∧ ys.length ≤ m ∧ Below w.heap.size w wq)
      case atStart => exact ⟨0, [], by omega, rfl, Or.inl ⟨rfl, rfl⟩, List.Pairwise.nil, fun p => by simp, Nat.le_refl _, Below.refl _ _⟩
      case round =>
        obtain ⟨m, ys, hm, rfl, hkept, hty, hmem, hyl, hbel⟩ := hrel
        have HM : Hid (m + gk = k) := hm
        have HQ : Hid (Tidy ys ∧ (∀ p, p ∈ ys ↔ ∃ j, j < m ∧ zs[j]! = p) ∧ ys.length ≤ m) := ⟨hty, hmem, hyl⟩
        have KP : Hid (Kept wr w.heap.size u5 ys) := hkept
        have hmk : m ≤ k := by omega
        have hsz := hbel.size
        clear hm hty hmem hyl hkept
        by_cases hlt2 : m < k
        · obtain ⟨c0, c1⟩ := HH.out m (by rw [HL.out]; exact hlt2)
          rw [← hbel.cell (p := ⟨b, off + m * 2, none⟩) hb] at c0
          rw [← hbel.cell (p := ⟨b, off + m * 2 + 1, none⟩) hb] at c1
          generalize hz : zs[m]! = z at c0 c1
          have HZ : Hid (zs[m]! = z) := hz
          clear hz
          have hi2 : (m : Int) < (k : Int) := by omega
          go_wp2_with fail
          refine (put_any u5 w.heap.size ys z _ (by simp; omega) (KP.out.block (fun g hg => Below.heap_alloc _ _ _ hg)) HQ.out.1 (by have := HQ.out.2.2; omega)).mono ?_
          rintro e w1 ⟨u, ts, rfl, ht1, ht2, ht3, ht4, ht5, ht6⟩
          have hb1 : Below w.heap.size w w1 := (hbel.alloc hsz _).trans ht6
          have HN : Hid (Tidy ts ∧ (∀ p, p ∈ ts ↔ p = z ∨ p ∈ ys) ∧ ts ≠ [] ∧ ts.length ≤ ys.length + 1 ∧ w1.ownsRow w.heap.size 87 2 u ts.length (cellsL ts)) := ⟨ht1, ht2, ht3, ht4, ht5⟩
          clear ht1 ht2 ht3 ht4 ht5 ht6
          go_wp2
          go_roundg (gk - 1)
          case measure => have := HM.out; omega
          case rel =>
            have h1 := HM.out
            obtain ⟨q1, q2, q3⟩ := HQ.out
            obtain ⟨n1, n2, n3, n4, n5⟩ := HN.out
            refine ⟨m + 1, ts, by omega, by go_num, Or.inr ⟨n3, n5⟩, n1, fun p => ?_, by omega, hb1⟩
            rw [n2 p, q2 p]
            constructor
            · rintro (h | ⟨j, hj, e⟩)
              · exact ⟨m, by omega, by rw [HZ.out]; exact h.symm⟩
              · exact ⟨j, by omega, e⟩
            · rintro ⟨j, hj, e⟩
              by_cases h : j = m
              · left; rw [← e, h]; exact HZ.out
              · right; exact ⟨j, by omega, e⟩
        · go_wp2
          go_ret2
          obtain ⟨q1, q2, q3⟩ := HQ.out
          have hme : m = k := by omega
          refine ⟨_, _, rfl, hbel, Or.inr (Or.inr ⟨by rw [HL.out]; exact hn, any_false_of (fun j hj => HF.out j (by rw [HL.out] at hj; exact hj)), rfl, ys, q1, fun p => ?_, KP.out.row⟩)⟩
          rw [q2 p, hme]
          constructor
          · rintro ⟨j, hj, e⟩
            rw [← e, getElem!_pos zs j (by rw [HL.out]; exact hj)]
            exact List.getElem_mem _
          · intro hp
            obtain ⟨j, hj, e⟩ := List.getElem_of_mem hp
            exact ⟨j, by rw [← HL.out]; exact hj, by rw [getElem!_pos zs j hj]; exact e⟩

theorem refTidy_any (v : Value) (zs : List (Int × Int)) (w : World) (h : RRow w v zs) : Calls Try.prog 40 #[v] w fun e w' => TidyOutR zs w e w' := by
  obtain ⟨a, c, rfl, hc, hm, _, h⟩ := h
  unfold maxLen at hm
  by_cases hbig : 4096 < zs.length
  · exact refTidy_many a c zs w hbig (by omega)
  · rcases h with h | ⟨b, off, rfl, hb, hp⟩
    · have hz := List.length_eq_zero_iff.1 h
      subst hz
      exact refTidy_none a c w
    · exact refTidy_some b off c zs w hb (by omega) hp
end Go.Proofs.Ytkcngkcfcokboaa

namespace Go.Proofs.Ytkcngkcfcokboaa
open Go.RowKit Go.Lib Go.Sort

/-- the error's number that Tidy tells of a list -/
def tcode (zs : List (Int × Int)) : Int := if 4096 < zs.length then 5 else if zs.any farP = true then 3 else 0
/-- the list that Tidy answers -/
def Tidied (zs ys : List (Int × Int)) : Prop := Tidy ys ∧ ∀ p, p ∈ ys ↔ p ∈ zs ∧ tcode zs = 0
theorem Tidied.unique {zs ys ts : List (Int × Int)} (h : Tidied zs ys) (k : Tidied zs ts) : ys = ts := tidy_unique _ _ h.1 k.1 fun p => (h.2 p).trans (k.2 p).symm

theorem tidyOut_row {zs : List (Int × Int)} {w : World} {base : Nat} {u : Value} {code : Int} (h : TidyOut zs w base u code) : code = tcode zs ∧ ∃ ys, Tidied zs ys ∧ ORow w base u ys := by
  rcases h with ⟨h1, rfl, rfl⟩ | ⟨h1, h2, rfl, rfl⟩ | ⟨h1, h2, rfl, ys, h3, h4, h5⟩
  · have e : tcode zs = 5 := by simp [tcode, h1]
    exact ⟨e.symm, [], ⟨List.Pairwise.nil, fun p => by simp [e]⟩, Or.inl ⟨rfl, rfl⟩⟩
  · have e : tcode zs = 3 := by rw [tcode, if_neg (by omega), if_pos h2]
    exact ⟨e.symm, [], ⟨List.Pairwise.nil, fun p => by simp [e]⟩, Or.inl ⟨rfl, rfl⟩⟩
  · have e : tcode zs = 0 := by rw [tcode, if_neg (by omega), if_neg (by rw [h2]; simp)]
    exact ⟨e.symm, ys, ⟨h3, fun p => by rw [h4 p, e]; simp⟩, h5⟩
theorem tidyOutR_row {zs : List (Int × Int)} {w w' : World} {e : Ending} (h : TidyOutR zs w e w') : ∃ u, e = .returned (.tuple #[u, .int .i64 (tcode zs)]) ∧ Below w.heap.size w w' ∧ ∃ ys, Tidied zs ys ∧ Row w' u ys := by
  obtain ⟨u, code, he, hb, h⟩ := h
  rcases h with ⟨h1, rfl, rfl⟩ | ⟨h1, h2, rfl, rfl⟩ | ⟨h1, h2, rfl, ys, h3, h4, h5⟩
  · have e : tcode zs = 5 := by simp [tcode, h1]
    exact ⟨_, by rw [he, e], hb, [], ⟨List.Pairwise.nil, fun p => by simp [e]⟩, Or.inl ⟨rfl, rfl⟩⟩
  · have e : tcode zs = 3 := by rw [tcode, if_neg (by omega), if_pos h2]
    exact ⟨_, by rw [he, e], hb, [], ⟨List.Pairwise.nil, fun p => by simp [e]⟩, Or.inl ⟨rfl, rfl⟩⟩
  · have e : tcode zs = 0 := by rw [tcode, if_neg (by omega), if_neg (by rw [h2]; simp)]
    exact ⟨_, by rw [he, e], hb, ys, ⟨h3, fun p => by rw [h4 p, e]; simp⟩, h5⟩

/-- plane.Tidy, told in one form -/
theorem tidy_told (v : Value) (zs : List (Int × Int)) (w : World) (h : Row w v zs) :
    Calls Try.prog 57 #[v] w fun e w' => ∃ u ys, e = .returned (.tuple #[u, .int .i64 (tcode zs)]) ∧ Below w.heap.size w w' ∧ Tidied zs ys ∧ ORow w' w.heap.size u ys :=
  (tidy_any v zs w h).mono fun e w' ⟨u, code, he, hb, ho⟩ => by
    obtain ⟨hc, ys, ht, hr⟩ := tidyOut_row ho
    exact ⟨u, ys, by rw [he, hc], hb, ht, hr⟩
theorem refTidy_told (v : Value) (zs : List (Int × Int)) (w : World) (h : RRow w v zs) :
    Calls Try.prog 40 #[v] w fun e w' => ∃ u ys, e = .returned (.tuple #[u, .int .i64 (tcode zs)]) ∧ Below w.heap.size w w' ∧ Tidied zs ys ∧ Row w' u ys :=
  (refTidy_any v zs w h).mono fun e w' ho => by
    obtain ⟨u, he, hb, ys, ht, hr⟩ := tidyOutR_row ho
    exact ⟨u, ys, he, hb, ht, hr⟩

theorem RRow.below {w w' : World} {v : Value} {zs : List (Int × Int)} (h : RRow w v zs) (hb : Below w.heap.size w w') : RRow w' v zs := IsRow.below h hb

theorem cells_row (v : Value) (zs : List (Int × Int)) (w : World) (hn : zs.length * 16 ≤ 140737488355328) (h : RRow w v zs) :
    Calls Try.prog 82 #[v] w fun e w' => ∃ u, e = .returned u ∧ Below w.heap.size w w' ∧ Row w' u zs := by
  obtain ⟨a, c, rfl, hc, hm, ha, h⟩ := h
  by_cases h0 : zs.length = 0
  · have hz := List.length_eq_zero_iff.1 h0
    subst hz
    cases a with
    | none =>
      have h0 := ha rfl
      subst h0
      refine (cells_nil w).mono ?_
      rintro e w' ⟨rfl, rfl⟩
      exact ⟨_, rfl, Below.refl _ _, Or.inl ⟨rfl, rfl⟩⟩
    | some ad =>
      refine (cells_zero ad c w).mono ?_
      rintro e w' ⟨rfl, hb⟩
      exact ⟨_, rfl, hb, Or.inl ⟨rfl, rfl⟩⟩
  · rcases h with h | ⟨b, off, rfl, hb, hp⟩
    · exact absurd h h0
    refine (cells_some b off zs.length c _ _ w hn hp).mono ?_
    rintro e w' ⟨u, rfl, hb', hu⟩
    refine ⟨u, rfl, hb', ?_⟩
    rcases hu with ⟨h1, rfl⟩ | ⟨g, cap, rfl, _, hg, hcap, hmx, hP⟩
    · exact absurd h1 h0
    · exact Or.inr ⟨fun e => h0 (by rw [e]; rfl), g, 0, cap, rfl, hg, hcap, hmx, hP⟩

/-- a list of one cell, made by the law itself -/
theorem one_row (w : World) (x y : Int) : Row (w.alloc (.cells #[.int .i64 x, .int .i64 y] 87)) (.slice (some ⟨w.heap.size, 0, none⟩) 1 1) [(x, y)] := by
  refine Or.inr ⟨by simp, w.heap.size, 0, 1, rfl, by simp, by simp, by unfold maxLen; simp, fun j hj => ?_⟩
  have : j = 0 := by simpa using hj
  subst this
  simp
theorem tidied_one (ys : List (Int × Int)) (h : Tidied [(1, 0)] ys) : ys = [(1, 0)] :=
  h.unique ⟨List.pairwise_singleton _ _, fun p => by
    have : tcode [(1, 0)] = 0 := by decide
    rw [this]; simp⟩

end Go.Proofs.Ytkcngkcfcokboaa
