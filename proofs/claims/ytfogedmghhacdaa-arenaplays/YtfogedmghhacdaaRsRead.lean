/- The plain store: what only reads. -/
import Derived.Test.YtfogedmghhacdaaArLive
namespace Go.Proofs.Ytfogedmghhacdaa.A
open Go.RowKit

/-- a thing of the plain store: number, kind, level, value, four parts, mask -/
structure Rt where
  id : Int
  k : Int
  lv : Int
  va : Int
  p0 : Int
  p1 : Int
  p2 : Int
  p3 : Int
  mask : Nat
def Rt.cells (x : Rt) : List Value := [.int .i64 x.id, .int .i64 x.k, .int .i64 x.lv, .int .i64 x.va, .int .i64 x.p0, .int .i64 x.p1, .int .i64 x.p2, .int .i64 x.p3, .int .u64 x.mask]
def Rt.val (x : Rt) : Value := .agg #[.int .i64 x.id, .int .i64 x.k, .int .i64 x.lv, .int .i64 x.va, .int .i64 x.p0, .int .i64 x.p1, .int .i64 x.p2, .int .i64 x.p3, .int .u64 x.mask]
def noRt : Rt := ⟨0, 0, 0, 0, 0, 0, 0, 0, 0⟩
def rtL (l : List Rt) : List Value := l.flatMap Rt.cells
theorem rtL_nil : rtL [] = [] := rfl
theorem rtL_append (a b : List Rt) : rtL (a ++ b) = rtL a ++ rtL b := by simp [rtL]
theorem rtL_length (l : List Rt) : (rtL l).length = l.length * 9 := by
  induction l with
  | nil => rfl
  | cons x r ih => simp [rtL, Rt.cells] at *; omega
theorem rtL_at : ∀ (l : List Rt) (i : Nat) (x : Rt) (j : Nat), l[i]? = some x → j < 9 → (rtL l)[i * 9 + j]? = x.cells[j]?
  | [], i, x, j, h, _ => by simp at h
  | y :: r, 0, x, j, h, hj => by
    simp at h; subst h
    have : (rtL (y :: r)) = y.cells ++ rtL r := by simp [rtL]
    rw [this, List.getElem?_append_left (by simp [Rt.cells]; omega)]
    simp
  | y :: r, i + 1, x, j, h, hj => by
    have : (rtL (y :: r)) = y.cells ++ rtL r := by simp [rtL]
    rw [this, List.getElem?_append_right (by simp [Rt.cells]; omega)]
    rw [← rtL_at r i x j (by simpa using h) hj]
    congr 1
    simp [Rt.cells]; omega
theorem rtL_set : ∀ (l : List Rt) (i : Nat) (x : Rt) (m : Nat), l[i]? = some x → rtL (l.set i { x with mask := m }) = (rtL l).set (i * 9 + 8) (.int .u64 m)
  | [], i, x, m, h => by simp at h
  | y :: r, 0, x, m, h => by
    simp at h; subst h
    simp [rtL, Rt.cells]
  | y :: r, i + 1, x, m, h => by
    have e : ∀ l, (rtL (y :: l)) = y.cells ++ rtL l := fun l => by simp [rtL]
    rw [List.set_cons_succ, e, e, rtL_set r i x m (by simpa using h), List.set_append_right _ _ (by simp [Rt.cells]; omega)]
    congr 2
    simp [Rt.cells]; omega
/-- the things' slice -/
def RtRow (w : World) (v : Value) (l : List Rt) : Prop := w.ownsRow 0 84 9 v l.length (rtL l)
theorem RtRow.shape {w : World} {v : Value} {l : List Rt} (h : RtRow w v l) : ∃ a c, v = .slice a l.length c := by
  rcases h.2 with ⟨h1, h2⟩ | ⟨g, cap, cur, h1, _⟩
  · exact ⟨none, 0, by rw [h1, h2]⟩
  · exact ⟨_, _, h1⟩
theorem RtRow.shape' {w : World} {v : Value} {l : List Rt} (h : RtRow w v l) (h0 : 0 < l.length) : ∃ g c, v = .slice (some ⟨g, 0, none⟩) l.length c := by
  rcases h.2 with ⟨h1, h2⟩ | ⟨g, cap, cur, h1, _⟩
  · omega
  · exact ⟨_, _, h1⟩
theorem RtRow.cells {w : World} {g c i : Nat} {l : List Rt} {x : Rt} (h : RtRow w (.slice (some ⟨g, 0, none⟩) l.length c) l) (hi : l[i]? = some x) :
    w.cell? ⟨g, i * 9, none⟩ = some (.int .i64 x.id) ∧ w.cell? ⟨g, i * 9 + 1, none⟩ = some (.int .i64 x.k) ∧ w.cell? ⟨g, i * 9 + 2, none⟩ = some (.int .i64 x.lv) ∧ w.cell? ⟨g, i * 9 + 3, none⟩ = some (.int .i64 x.va) ∧ w.cell? ⟨g, i * 9 + 4, none⟩ = some (.int .i64 x.p0) ∧ w.cell? ⟨g, i * 9 + 5, none⟩ = some (.int .i64 x.p1) ∧ w.cell? ⟨g, i * 9 + 6, none⟩ = some (.int .i64 x.p2) ∧ w.cell? ⟨g, i * 9 + 7, none⟩ = some (.int .i64 x.p3) ∧ w.cell? ⟨g, i * 9 + 8, none⟩ = some (.int .u64 x.mask) := by
  have hlt : i < l.length := (List.getElem?_eq_some_iff.1 hi).1
  have key : ∀ j, j < 9 → w.cell? ⟨g, i * 9 + j, none⟩ = x.cells[j]? := fun j hj => by
    rw [h.cellAt (i * 9 + j) (by omega), rtL_at l i x j hi hj]
  exact ⟨key 0 (by omega), key 1 (by omega), key 2 (by omega), key 3 (by omega), key 4 (by omega), key 5 (by omega), key 6 (by omega), key 7 (by omega), key 8 (by omega)⟩

/-- what a store's block holds -/
structure Sr where
  room : Int
  vth : Value
  quota : Nat → Int
  since : Nat → Value
def Sr.cell (r : Sr) (i : Nat) : Value := if i = 0 then .int .i64 r.room else if i = 1 then r.vth else if i < 66 then .int .i64 (r.quota (i - 2)) else r.since (i - 66)
def SrAt (w : World) (b : Nat) (r : Sr) : Prop := ∃ C, w.heap[b]? = some (.cells C 43 (0, 0)) ∧ C.size = 130 ∧ ∀ i, i < 130 → C[i]? = some (r.cell i)
theorem SrAt.lt {w : World} {b : Nat} {r : Sr} (h : SrAt w b r) : b < w.heap.size := by
  obtain ⟨C, h1, _⟩ := h
  exact (Array.getElem?_eq_some_iff.1 h1).1
theorem SrAt.at {w : World} {b : Nat} {r : Sr} (h : SrAt w b r) (i : Nat) (hi : i < 130) : w.cell? ⟨b, i, none⟩ = some (r.cell i) := by
  obtain ⟨C, h1, h2, h3⟩ := h
  rw [Lib.cell_of_heap h1]
  exact h3 i hi
theorem SrAt.frozen {w : World} {b : Nat} {r : Sr} (h : SrAt w b r) (i : Nat) : w.frozen? ⟨b, i, none⟩ = false := by
  obtain ⟨C, h1, h2, h3⟩ := h
  exact Lib.frozen_of_heap h1 i
theorem SrAt.go {w w' : World} {b : Nat} {r : Sr} (h : SrAt w b r) (hb : w'.heap[b]? = w.heap[b]?) : SrAt w' b r := by
  obtain ⟨C, h1, h2⟩ := h
  exact ⟨C, hb.trans h1, h2⟩
theorem SrAt.set {w : World} {b : Nat} {r r' : Sr} (h : SrAt w b r) (i : Nat) (v : Value) (hr : ∀ j, j < 130 → r'.cell j = if j = i then v else r.cell j) : SrAt (w.setCell ⟨b, i, none⟩ v) b r' := by
  obtain ⟨C, h1, h2, h3⟩ := h
  refine ⟨C.setIfInBounds i v, Go.Joins.block_setCell h1 v, by simpa using h2, fun j hj => ?_⟩
  rw [hr j hj, Array.getElem?_setIfInBounds]
  by_cases e : i = j
  · subst e; simp [h2, hj]
  · rw [if_neg e, if_neg (fun k => e k.symm)]; exact h3 j hj
theorem Sr.c0 (r : Sr) : r.cell 0 = .int .i64 r.room := rfl
theorem Sr.c1 (r : Sr) : r.cell 1 = r.vth := rfl
theorem Sr.cq (r : Sr) {t : Nat} (ht : t < 64) : r.cell (2 + t) = .int .i64 (r.quota t) := by
  unfold Sr.cell
  rw [if_neg (by omega), if_neg (by omega), if_pos (by omega), show 2 + t - 2 = t by omega]
theorem Sr.cs (r : Sr) (t : Nat) : r.cell (66 + t) = r.since t := by
  unfold Sr.cell
  rw [if_neg (by omega), if_neg (by omega), if_neg (by omega), show 66 + t - 66 = t by omega]
theorem SrAt.setQ {w : World} {b : Nat} {r : Sr} (h : SrAt w b r) {t : Nat} (ht : t < 64) (n : Int) : SrAt (w.setCell ⟨b, 2 + t, none⟩ (.int .i64 n)) b { r with quota := upd r.quota t n } :=
  h.set _ _ fun j hj => by
    unfold Sr.cell upd
    by_cases e : j = 2 + t
    · subst e
      rw [if_neg (by omega), if_neg (by omega), if_pos (by omega), if_pos rfl]
      simp only
      rw [if_pos (by omega)]
    · rw [if_neg e]
      simp only
      by_cases h0 : j = 0
      · rw [if_pos h0, if_pos h0]
      · rw [if_neg h0, if_neg h0]
        by_cases h1 : j = 1
        · rw [if_pos h1, if_pos h1]
        · rw [if_neg h1, if_neg h1, if_neg (show ¬ j - 2 = t by omega)]
theorem SrAt.setS {w : World} {b : Nat} {r : Sr} (h : SrAt w b r) {t : Nat} (_ht : t < 64) (v : Value) : SrAt (w.setCell ⟨b, 66 + t, none⟩ v) b { r with since := upd r.since t v } :=
  h.set _ _ fun j hj => by
    unfold Sr.cell upd
    by_cases e : j = 66 + t
    · subst e
      rw [if_neg (by omega), if_neg (by omega), if_neg (by omega), if_pos rfl]
      simp only
      rw [if_pos (by omega)]
    · rw [if_neg e]
      simp only
      by_cases h0 : j = 0
      · rw [if_pos h0, if_pos h0]
      · rw [if_neg h0, if_neg h0]
        by_cases h1 : j = 1
        · rw [if_pos h1, if_pos h1]
        · rw [if_neg h1, if_neg h1]
          by_cases h2 : j < 66
          · rw [if_pos h2, if_pos h2]
          · rw [if_neg h2, if_neg h2, if_neg (show ¬ j - 66 = t by omega)]
theorem SrAt.setTh {w : World} {b : Nat} {r : Sr} (h : SrAt w b r) (v : Value) : SrAt (w.setCell ⟨b, 1, none⟩ v) b { r with vth := v } :=
  h.set 1 v fun j _ => by
    by_cases e : j = 1
    · subst e; rfl
    · rw [if_neg e]
      unfold Sr.cell
      simp only [if_neg e]

/-- a store, in plain words -/
structure St where
  room : Int
  ths : List Rt
  quota : Nat → Int
  since : Nat → List Int
/-- a store in its blocks: G tells which they are -/
structure StRaw (w : World) (b : Nat) (G : Nat → Prop) (S : St) (r : Sr) : Prop where
  raw : SrAt w b r
  room : r.room = S.room
  ths : RtRow w r.vth S.ths
  quota : ∀ t, t < 64 → r.quota t = S.quota t
  since : ∀ t, t < 64 → IntRow w (r.since t) (S.since t)
  apt : ∀ t u, t < 64 → u < 64 → t ≠ u → ∀ k, (r.since t).ownBlock = some k → (r.since u).ownBlock ≠ some k
  fb : G b
  fv : ∀ k, r.vth.ownBlock = some k → G k
  ft : ∀ t, t < 64 → ∀ k, (r.since t).ownBlock = some k → G k
  flt : ∀ k, G k → k < w.heap.size
section
variable {w w' : World} {b : Nat} {G G' : Nat → Prop} {S : St} {r : Sr}
theorem StRaw.other (h : StRaw w b G S r) (hs : w.heap.size ≤ w'.heap.size) (hb : ∀ k, G k → w'.heap[k]? = w.heap[k]?) : StRaw w' b G S r :=
  ⟨h.raw.go (hb b h.fb), h.room, row_other h.ths fun k hk => hb k (h.fv k hk), h.quota, fun t ht => row_other (h.since t ht) fun k hk => hb k (h.ft t ht k hk), h.apt, h.fb, h.fv, h.ft, fun k hk => Nat.lt_of_lt_of_le (h.flt k hk) hs⟩
theorem StRaw.below (h : StRaw w b G S r) (hb : Below w.heap.size w w') : StRaw w' b G S r := h.other hb.size fun k hk => hb.block k (h.flt k hk)
theorem StRaw.kb (h : StRaw w b G S r) : ∃ c, w.heap[b]? = some (.cells c 43 (0, 0)) := by
  obtain ⟨C, h1, _⟩ := h.raw
  exact ⟨C, h1⟩
theorem StRaw.vb (h : StRaw w b G S r) : r.vth.ownBlock ≠ some b := fun e => by
  obtain ⟨c, h1⟩ := h.kb
  obtain ⟨c', h2⟩ := row_kind h.ths e
  rw [h1] at h2; simp at h2
theorem StRaw.vt (h : StRaw w b G S r) {k t : Nat} (ht : t < 64) (hk : r.vth.ownBlock = some k) : (r.since t).ownBlock ≠ some k := fun e => by
  obtain ⟨c, h1⟩ := row_kind h.ths hk
  obtain ⟨c', h2⟩ := row_kind (h.since t ht) e
  rw [h1] at h2; simp at h2
theorem StRaw.tb (h : StRaw w b G S r) {t : Nat} (ht : t < 64) : (r.since t).ownBlock ≠ some b := fun e => by
  obtain ⟨c, h1⟩ := h.kb
  obtain ⟨c', h2⟩ := row_kind (h.since t ht) e
  rw [h1] at h2; simp at h2
end
/-- a store in block b -/
def StAt (w : World) (b : Nat) (G : Nat → Prop) (S : St) : Prop := ∃ r, StRaw w b G S r
/-- a call has led from one store to another -/
def LedS (w : World) (b : Nat) (G : Nat → Prop) (S : St) (w' : World) : Prop := ∃ G', (∀ k, G' k → G k ∨ w.heap.size ≤ k) ∧ StAt w' b G' S ∧ Apart G w w'
section
variable {w w' : World} {b : Nat} {G G' : Nat → Prop} {S : St} {r : Sr}
theorem StAt.other (h : StAt w b G S) (hs : w.heap.size ≤ w'.heap.size) (hb : ∀ k, G k → w'.heap[k]? = w.heap[k]?) : StAt w' b G S :=
  let ⟨r, h⟩ := h; ⟨r, h.other hs hb⟩
theorem StAt.below (h : StAt w b G S) (hb : Below w.heap.size w w') : StAt w' b G S := let ⟨r, h⟩ := h; ⟨r, h.below hb⟩
theorem StAt.flt (h : StAt w b G S) {k : Nat} (hk : G k) : k < w.heap.size := let ⟨_, h⟩ := h; h.flt k hk
theorem LedS.of_below (h : StAt w b G S) (hb : Below w.heap.size w w') : LedS w b G S w' := ⟨G, fun _ hk => .inl hk, h.below hb, Apart.of hb⟩
end
end Go.Proofs.Ytfogedmghhacdaa.A

namespace Go.Proofs.Ytfogedmghhacdaa.A
open Go.RowKit

theorem person_any (t : Int) (w : World) : Calls Try.prog 50 #[.int .i64 t] w fun e w' => e = .returned (.bool (decide (0 ≤ t ∧ t < 64))) ∧ w' = w := by
  by_cases h : 0 ≤ t
  · go_enter Try.func50, Try.ntmps50
    go_wp2
    go_ret
    refine ⟨?_, rfl⟩
    have : decide (t ≤ 63) = decide (0 ≤ t ∧ t < 64) := by
      by_cases h2 : t ≤ 63
      · rw [decide_eq_true h2, decide_eq_true (by omega)]
      · rw [decide_eq_false h2, decide_eq_false (by omega)]
    rw [this]
    rfl
  · go_enter Try.func50, Try.ntmps50
    go_wp2
    go_ret
    refine ⟨?_, rfl⟩
    simp
    omega
theorem person_yes (t : Nat) (ht : t < 64) (w : World) : Calls Try.prog 50 #[.int .i64 t] w fun e w' => e = .returned (.bool true) ∧ w' = w := by
  have h := person_any t w
  rw [show decide ((0 : Int) ≤ (t : Int) ∧ (t : Int) < 64) = true by simp; omega] at h
  exact h
theorem person_no (t : Int) (ht : ¬ (0 ≤ t ∧ t < 64)) (w : World) : Calls Try.prog 50 #[.int .i64 t] w fun e w' => e = .returned (.bool false) ∧ w' = w := by
  have h := person_any t w
  rw [decide_eq_false ht] at h
  exact h

/-- where the thing of a number stands -/
def atF (l : List Rt) (id : Int) : Option Nat := l.findIdx? (fun x => x.id == id)
theorem atF_some {l : List Rt} {id : Int} {i : Nat} {x : Rt} (hx : l[i]? = some x) (he : x.id = id) (hn : ∀ (j : Nat) y, j < i → l[j]? = some y → y.id ≠ id) : atF l id = some i := by
  unfold atF
  obtain ⟨hlt, hx'⟩ := List.getElem?_eq_some_iff.1 hx
  rw [List.findIdx?_eq_some_iff_getElem]
  refine ⟨hlt, by rw [hx']; simpa using he, fun j hj => ?_⟩
  have := hn j _ hj (List.getElem?_eq_getElem (by omega))
  simpa using this
theorem atF_none {l : List Rt} {id : Int} (hn : ∀ (j : Nat) y, l[j]? = some y → y.id ≠ id) : atF l id = none := by
  unfold atF
  rw [List.findIdx?_eq_none_iff]
  intro x hx
  obtain ⟨j, hj⟩ := List.mem_iff_getElem?.1 hx
  simpa using hn j x hj
def ptrOf (v : Value) : Option Nat → Value
  | some i => match v with | .slice (some a) _ _ => .pointer (some ⟨a.block, i * 9, none⟩) | _ => .pointer none
  | none => .pointer none

set_option maxHeartbeats 2000000 in
theorem at_any (b : Nat) (id : Int) (r : Sr) (l : List Rt) (w : World) (h : SrAt w b r) (hl : RtRow w r.vth l) (hn : l.length < 1000000) :
    Calls Try.prog 61 #[.pointer (some ⟨b, 0, none⟩), .int .i64 id] w fun e w' => e = .returned (ptrOf r.vth (atF l id)) ∧ w' = w := by
  have c1 := h.at 1 (by omega)
  rw [Sr.c1] at c1
  obtain ⟨a, c, hv⟩ := hl.shape
  have HL : Hid (RtRow w r.vth l) := hl
  have HV : Hid (r.vth = .slice a l.length c) := hv
  rw [hv] at c1
  clear hv hl h
  obtain ⟨n, hnn⟩ : ∃ n, n = l.length := ⟨_, rfl⟩
  rw [← hnn] at hn c1
  have HN : Hid (n = l.length) := hnn
  clear hnn
  go_enter Try.func61, Try.ntmps61
  go_wp2_with fail
  go_loopg [11] n (fun gh s11 wr => ∃ i : Nat, i + gh = n ∧ s11 = .int .i64 i ∧ wr = w ∧ ∀ (j : Nat) y, j < i → l[j]? = some y → y.id ≠ id)
  case atStart => exact ⟨0, by omega, rfl, rfl, fun j y hj => by omega⟩
  case round =>
    obtain ⟨i, hig, rfl, rfl, hno⟩ := hrel
    have HNO : Hid (∀ (j : Nat) y, j < i → l[j]? = some y → y.id ≠ id) := hno
    have HIG : Hid (i + gk = n) := hig
    clear hno hig
    by_cases hlt : i < n
    · obtain ⟨g, c', hg⟩ := HL.out.shape' (by rw [← HN.out]; omega)
      obtain ⟨x, hx⟩ : ∃ x, l[i]? = some x := ⟨_, List.getElem?_eq_getElem (by rw [← HN.out]; exact hlt)⟩
      have hl2 := HL.out
      rw [hg] at hl2
      have hcx := (hl2.cells hx).1
      have hgv := HV.out
      rw [hg] at hgv
      simp only [Value.slice.injEq] at hgv
      obtain ⟨hga, _, hgc⟩ := hgv
      subst hga
      have HG : Hid (r.vth = .slice (some ⟨g, 0, none⟩) l.length c') := hg
      have HX : Hid (l[i]? = some x) := hx
      have k0 : (0 : Int) ≤ (i : Int) := by omega
      have k1 : (i : Int) < (n : Int) := by omega
      clear hl2 hx hg hgc
      by_cases he : x.id = id
      · have he' : (x.id == id) = true := by simpa using he
        have HE : Hid (x.id = id) := he
        clear he
        go_wp2_with fail
        go_ret
        refine ⟨?_, rfl⟩
        rw [atF_some HX.out HE.out HNO.out, HG.out]
        rfl
      · have he' : (x.id == id) = false := by simpa using he
        have HE : Hid (x.id ≠ id) := he
        clear he
        go_wp2_with fail
        go_roundg (gk - 1)
        case measure => have := HIG.out; omega
        case rel => exact ⟨i + 1, by have := HIG.out; omega, by go_num, rfl, fun j y hj hy => by
            by_cases e : j = i
            · subst e
              rw [HX.out] at hy
              cases hy
              exact HE.out
            · exact HNO.out j y (by omega) hy⟩
    · have k1 : ¬ (i : Int) < (n : Int) := by omega
      go_wp2_with fail
      go_ret
      refine ⟨?_, rfl⟩
      rw [atF_none fun j y hy => HNO.out j y (by have := (List.getElem?_eq_some_iff.1 hy).1; have := HN.out; omega) hy]
      rfl
end Go.Proofs.Ytfogedmghhacdaa.A
