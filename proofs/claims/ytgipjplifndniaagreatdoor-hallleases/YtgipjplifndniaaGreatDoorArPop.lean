/- heap.Pop of the free numbers: what a heap is; Swap. -/
import Derived.Test.YtgipjplifndniaaGreatDoorArTake
import Derived.Test.YtgipjplifndniaaGreatDoorArLay
namespace Go.Proofs.YtgipjplifndniaaGreatDoor.A
open Go.RowKit Go.Maps

theorem RawAt.setFree {w : World} {b : Nat} {r : Raw} (h : RawAt w b r) (v : Value) : RawAt (w.setCell ⟨b, 3, none⟩ v) b { r with vfr := v } :=
  h.set 3 v fun j _ => by
    by_cases e : j = 3
    · subst e; rfl
    · rw [if_neg e]
      unfold Raw.cell
      simp only [if_neg e]

section
variable {w w1 : World} {b n : Nat} {F F' : Nat → Prop} {A : Ar} {r : Raw} {D : DataW Unit}
theorem ArRaw.setFree (h : ArRaw w b F n A r D) {v : Value} {l : List Int} (hrow : IntRow w1 v l) (hb1 : ∀ k, F k → r.vfr.ownBlock ≠ some k → w1.heap[k]? = w.heap[k]?)
    (hv : ∀ k, v.ownBlock = some k → r.vfr.ownBlock = some k ∨ w.heap.size ≤ k) (hF : ∀ k, F k → F' k) (hF' : ∀ k, v.ownBlock = some k → F' k) (hl : ∀ k, F' k → k < w1.heap.size) :
    ArRaw (w1.setCell ⟨b, 3, none⟩ v) b F' n { A with free := l } { r with vfr := v } D := by
  have hbb : w1.heap[b]? = w.heap[b]? := hb1 b h.fb h.fb'
  have hbv : v.ownBlock ≠ some b := fun e => by
    rcases hv b e with h1 | h1
    · exact h.fb' h1
    · have := h.flt b h.fb; omega
  refine ⟨(h.raw.go hbb).setFree v, h.room, ?_, ?_, h.num, ?_, h.lim, h.cnt, fun t ht => ?_, fun t ht k hk e => ?_, h.apt, hF _ h.fb, hF _ h.fm, fun k hk => hF k (h.fv k hk), hF', fun t ht k hk => hF k (h.ft t ht k hk), fun k hk => by rw [size_set]; exact hl k hk⟩
  · exact row_other (w := w) h.ths fun k hk => (heap_set fun e => h.vb (by rw [← e]; exact hk)).trans (hb1 k (h.fv k hk) (h.vf hk))
  · exact map_other (w := w) h.map ((heap_set h.mb).trans (hb1 _ h.fm h.fm'))
  · exact row_other (w := w1) hrow fun k hk => heap_set fun e => hbv (by rw [hk, e])
  · exact row_other (w := w) (h.fresh t ht) fun k hk => (heap_set fun e' => h.tb ht (by rw [hk, e'])).trans (hb1 k (h.ft t ht k hk) (fun e' => h.apf t ht k hk e'))
  · rcases hv k e with h1 | h1
    · exact h.apf t ht k hk h1
    · have := h.flt k (h.ft t ht k hk); omega
end

set_option maxHeartbeats 1000000 in
theorem less_any (g n c i j : Nat) (L : List Int) (w : World) (h : IntRow w (.slice (some ⟨g, 0, none⟩) n c) L) (hi : i < L.length) (hj : j < L.length) :
    Calls Tryz.prog 215 #[.slice (some ⟨g, 0, none⟩) n c, .int .i64 i, .int .i64 j] w fun e w' => e = .returned (.bool (decide (L[i]! < L[j]!))) ∧ ∃ q, w' = w.drewN q := by
  have ci := h.get i hi
  have cj := h.get j hj
  have hn : n = L.length := by
    obtain ⟨a, c', e⟩ := h.shape
    simp only [Value.slice.injEq] at e
    exact e.2.1
  rw [← hn] at hi hj
  have h0 : (0 : Int) ≤ (i : Int) := by omega
  have h1 : (i : Int) < (n : Int) := by omega
  have h2 : (0 : Int) ≤ (j : Int) := by omega
  have h3 : (j : Int) < (n : Int) := by omega
  generalize L[i]! = x at *
  generalize L[j]! = y at *
  clear hn h
  go_enter Tryz.func215, Tryz.ntmps215
  go_wp2_with fail
  go_region
  all_goals
    go_wp2_with fail
    go_ret
    exact ⟨rfl, _, rfl⟩

set_option maxHeartbeats 1000000 in
theorem len_any (a : Option Addr) (n c : Nat) (w : World) : Calls Tryz.prog 214 #[.slice a n c] w fun e w' => e = .returned (.int .i64 (n : Int)) ∧ w' = w := by
  go_enter Tryz.func214, Tryz.ntmps214
  go_wp2_with fail
  go_ret
  exact ⟨rfl, rfl⟩

theorem Tryz.mPush (a : Addr) (w : World) : (method 379 189 (.pointer (some a)) "Push").run Tryz.prog w = .ok (218, .pointer (some a)) w := by kernel_rfl
theorem Tryz.mLen (a : Addr) (w : World) : (method 379 189 (.pointer (some a)) "Len").run Tryz.prog w = (do let v ← loadVar 74 a; pure (214, v) : Sem (FuncId × Value)).run Tryz.prog w := by kernel_rfl
theorem Tryz.mLess (a : Addr) (w : World) : (method 379 189 (.pointer (some a)) "Less").run Tryz.prog w = (do let v ← loadVar 74 a; pure (215, v) : Sem (FuncId × Value)).run Tryz.prog w := by kernel_rfl
theorem Tryz.ldFree (a : Addr) (v : Value) (w : World) (h : w.cell? a = some v) : (loadVar 74 a).run Tryz.prog w = .ok v w := by
  simp [go_sem, h]
theorem Tryz.mLen' (a : Addr) (v : Value) (w : World) (h : w.cell? a = some v) : (method 379 189 (.pointer (some a)) "Len").run Tryz.prog w = .ok (214, v) w := by
  rw [Tryz.mLen]
  have := Tryz.ldFree a v w h
  simp [go_sem, h]
theorem Tryz.mLess' (a : Addr) (v : Value) (w : World) (h : w.cell? a = some v) : (method 379 189 (.pointer (some a)) "Less").run Tryz.prog w = .ok (215, v) w := by
  rw [Tryz.mLess]
  have := Tryz.ldFree a v w h
  simp [go_sem, h]

theorem free_end {w w5 : World} {b n g5 cap5 : Nat} {F : Nat → Prop} {A : Ar} {r : Raw} {D : DataW Unit} {o : Obj} {id : Int} (H4 : ArRaw w b F n A r D)
    (hgrow5 : (w.alloc o).drew.grownBy w5 r.vfr.ownBlock) (hat5 : r.vfr.ownBlock = some g5 ∨ g5 = (w.alloc o).drew.heap.size)
    (hown5 : w5.ownsRow 0 3 1 (.slice (some ⟨g5, 0, none⟩) (A.free.length + 1) cap5) (A.free.length + 1) (A.free.map (Value.int .i64) ++ [.int .i64 id])) (hlt5 : g5 < w5.heap.size) :
    ArRaw (w5.setCell ⟨b, 3, none⟩ (.slice (some ⟨g5, 0, none⟩) (A.free.length + 1) cap5)) b (More F w (w5.setCell ⟨b, 3, none⟩ (.slice (some ⟨g5, 0, none⟩) (A.free.length + 1) cap5))) n { A with free := A.free ++ [id] } { r with vfr := .slice (some ⟨g5, 0, none⟩) (A.free.length + 1) cap5 } D ∧
      Apart F w (w5.setCell ⟨b, 3, none⟩ (.slice (some ⟨g5, 0, none⟩) (A.free.length + 1) cap5)) := by
  have hsz : (w.alloc o).drew.heap.size = w.heap.size + 1 := by simp
  have hs5 := hgrow5.size
  rw [hsz] at hs5 hat5
  have hrow : IntRow w5 (.slice (some ⟨g5, 0, none⟩) (A.free.length + 1) cap5) (A.free ++ [id]) := by
    unfold IntRow
    rw [List.length_append, List.map_append]
    exact hown5
  refine ⟨H4.setFree hrow (fun k hk hne => grown_blk hgrow5 (H4.flt k hk) hne) (fun k hk => ?_) (fun k hk => Or.inl hk) (fun k hk => ?_) (fun k hk => ?_), ?_⟩
  · simp only [Value.ownBlock, Option.some.injEq] at hk
    subst hk
    rcases hat5 with h1 | h1
    · exact Or.inl h1
    · exact Or.inr (by omega)
  · simp only [Value.ownBlock, Option.some.injEq] at hk
    subst hk
    rcases hat5 with h1 | h1
    · exact Or.inl (H4.ff _ h1)
    · exact Or.inr ⟨by omega, by rw [size_set]; exact hlt5⟩
  · rcases hk with h1 | h1
    · have := H4.flt k h1; omega
    · rw [size_set] at h1; exact h1.2
  · have a1 : Apart F w (w.alloc o).drew := ⟨rfl, rfl, rfl, by omega, fun k hk _ => by show (w.heap.push o)[k]? = _; rw [Array.getElem?_push, if_neg (by omega)]⟩
    have a2 : Apart F (w.alloc o).drew w5 := Apart.grown hgrow5 fun k hk => H4.ff k hk
    have a3 : Apart F w5 (w5.setCell ⟨b, 3, none⟩ (.slice (some ⟨g5, 0, none⟩) (A.free.length + 1) cap5)) := Apart.set w5 _ H4.fb
    exact (a1.trans a2 fun k hk => Or.inl hk).trans a3 fun k hk => Or.inl hk

set_option maxRecDepth 20000 in
set_option maxHeartbeats 4000000 in
theorem lpush_any (b n : Nat) (F : Nat → Prop) (id : Int) (A : Ar) (r : Raw) (D : DataW Unit) (w : World) (h : ArRaw w b F n A r D) (hlf : A.free.length < 10000000) :
    Calls Tryz.prog 218 #[.pointer (some ⟨b, 3, none⟩), .iface 3 (.int .i64 id)] w fun e w' => e = .returned (.tuple #[]) ∧ (∃ g c, ArRaw w' b (More F w w') n { A with free := A.free ++ [id] } { r with vfr := .slice (some ⟨g, 0, none⟩) (A.free.length + 1) c } D) ∧ Apart F w w' := by
  have cf := h.raw.at 3 (by omega)
  rw [Raw.c3] at cf
  have z2 := h.raw.frozen 3
  have hblt := h.raw.lt
  have hbt := h.fb'
  obtain ⟨i0, hi, hz0, hz1, hz2⟩ := info_parts Tryz.info3
  have OW : Hid (∀ o, (w.alloc o).drew.ownsRow 0 3 1 r.vfr A.free.length (A.free.map (Value.int .i64))) := fun o => World.ownsRow.alloc h.free o
  generalize hfr : r.vfr = v at *
  have hta : ∀ w, (Instr.typeAssert (.iface 3 (.int .i64 id)) 20 3 false).run Tryz.prog w = .ok (.int .i64 id) w := fun _ => by kernel_rfl
  generalize hln : A.free.length = ln at *
  go_enter Tryz.func218, Tryz.ntmps218
  go_wp2_with fail
  go_region_law (refine step_append_lies _ (by rfl) _ _ 74 (by rfl) 0 3 i0 (.int .i64 0) 1 8 Tryz.underlying74 hi hz0 hz1 hz2 rfl (by decide) v ln (A.free.map (Value.int .i64)) (by rfl) (OW.out _) ⟨w.heap.size, 0, none⟩ 1 1 [.int .i64 id] (by rfl) rfl (cell_one_new _ _ _) (by intro u hu; simp at hu; subst hu; rfl) (by omega) (by unfold maxLen; omega) (by omega) (by omega) _ rfl ?_; intro g5 cap5 w5 hown5 hgrow5 hat5 hlt5; have R5 := h.raw.go (grown_blk hgrow5 hblt hbt); have q4 := R5.at 3 (by omega); rw [Raw.c3] at q4; have q5 := R5.frozen 3)
  all_goals
    go_wp2_with fail
    go_end0
    subst hln
    have hE := free_end h (hfr ▸ hgrow5) (hfr ▸ hat5) hown5 hlt5
    exact ⟨rfl, ⟨_, _, hE.1⟩, hE.2⟩

end Go.Proofs.YtgipjplifndniaaGreatDoor.A

namespace Go.Proofs.YtgipjplifndniaaGreatDoor.A
open Go.RowKit Go.Maps Go.ChangeMaps Go.WideElems

def gone (x : Th) : Bool := x.k != 0 && x.mask == 0
def sw (l : List Th) (i : Nat) : List Th := (l.take i).map (fun x => if gone x then noTh else x) ++ l.drop i
def fr (l : List Th) (i : Nat) : List Int := ((List.range i).filter (fun j => gone l[j]!)).map (fun j : Nat => (j : Int) + 2)
theorem sw_zero (l : List Th) : sw l 0 = l := by simp [sw]
theorem sw_len (l : List Th) (i : Nat) : (sw l i).length = l.length := by simp [sw]; omega
theorem sw_get (l : List Th) (i j : Nat) : (sw l i)[j]? = (l[j]?).map fun x => if j < i ∧ gone x = true then noTh else x := by
  unfold sw
  by_cases h : j < i
  · by_cases hl : j < l.length
    · rw [List.getElem?_append_left (by simp; omega), List.getElem?_map, List.getElem?_take_of_lt h]
      congr 1
      funext x
      simp [h]
    · rw [List.getElem?_eq_none (by simp; omega), List.getElem?_eq_none (by omega)]
      rfl
  · by_cases hl : i ≤ l.length
    · rw [List.getElem?_append_right (by simp; omega), List.getElem?_drop]
      have : i + (j - ((l.take i).map (fun x => if gone x then noTh else x)).length) = j := by simp; omega
      rw [this]
      simp [h]
    · rw [List.getElem?_eq_none (by simp; omega), List.getElem?_eq_none (by omega)]
      rfl
theorem sw_gone {l : List Th} {i : Nat} {x : Th} (hx : l[i]? = some x) (hg : gone x = true) : sw l (i + 1) = (sw l i).set i noTh := by
  have hi : i < l.length := (List.getElem?_eq_some_iff.1 hx).1
  refine List.ext_getElem? fun j => ?_
  rw [List.getElem?_set, sw_get, sw_get, sw_len]
  by_cases e : i = j
  · subst e
    rw [hx, if_pos rfl, if_pos hi, Option.map_some, if_pos ⟨Nat.lt_succ_self i, hg⟩]
  · rw [if_neg e]
    congr 1
    funext y
    have : j < i + 1 ↔ j < i := by omega
    simp only [this]
theorem sw_keep {l : List Th} {i : Nat} {x : Th} (hx : l[i]? = some x) (hg : gone x = false) : sw l (i + 1) = sw l i := by
  refine List.ext_getElem? fun j => ?_
  rw [sw_get, sw_get]
  by_cases e : i = j
  · subst e
    simp [hx, hg]
  · congr 1
    funext y
    have : j < i + 1 ↔ j < i := by omega
    simp only [this]
theorem sw_now {l : List Th} {i : Nat} {x : Th} (hx : l[i]? = some x) : (sw l i)[i]? = some x := by
  rw [sw_get, hx]; simp
theorem fr_gone {l : List Th} {i : Nat} {x : Th} (hx : l[i]? = some x) (hg : gone x = true) : fr l (i + 1) = fr l i ++ [(i : Int) + 2] := by
  have e : l[i]! = x := by rw [List.getElem!_eq_getElem?_getD, hx]; rfl
  unfold fr
  have e2 : [i].filter (fun j => gone l[j]!) = [i] := by rw [List.filter_cons_of_pos (by rw [e]; exact hg)]; rfl
  rw [List.range_succ, List.filter_append, List.map_append, e2]
  rfl
theorem fr_keep {l : List Th} {i : Nat} {x : Th} (hx : l[i]? = some x) (hg : gone x = false) : fr l (i + 1) = fr l i := by
  have e : l[i]! = x := by rw [List.getElem!_eq_getElem?_getD, hx]; rfl
  unfold fr
  have e2 : [i].filter (fun j => gone l[j]!) = [] := by rw [List.filter_cons_of_neg (by rw [e, hg]; decide)]; rfl
  rw [List.range_succ, List.filter_append, List.map_append, e2]
  exact List.append_nil _
theorem fr_len (l : List Th) (i : Nat) : (fr l i).length ≤ i := by
  unfold fr
  rw [List.length_map]
  refine Nat.le_trans (List.length_filter_le _ _) ?_
  simp

theorem NumIs.drop {D : DataW Unit} {l : List Th} (h : NumIs D l) (hU : Uniq l) {i : Nat} {x : Th} (hx : l[i]? = some x) (hk : x.k ≠ 0) (hf : x.key.Fit) : NumIs (D.del (kl x.key)) (l.set i noTh) := by
  intro q hq hqk
  obtain ⟨h1, h2⟩ := h q hq hqk
  have hi : i < l.length := (List.getElem?_eq_some_iff.1 hx).1
  have hget : ∀ j, (l.set i noTh)[j]? = if i = j then some noTh else l[j]? := fun j => by
    rw [List.getElem?_set]
    by_cases e : i = j
    · subst e; simp [hi]
    · simp [e]
  have hno : noTh.key ≠ q := fun e => hqk (by rw [← e]; rfl)
  by_cases e : x.key = q
  · subst e
    have : spotF (l.set i noTh) x.key = none := by
      unfold spotF
      rw [List.findIdx?_eq_none_iff]
      intro y hy
      obtain ⟨j, hj⟩ := List.getElem?_of_mem hy
      rw [hget] at hj
      by_cases ej : i = j
      · rw [if_pos ej] at hj
        obtain rfl := Option.some.inj hj
        simp only [decide_eq_false_iff_not]
        exact hno
      · rw [if_neg ej] at hj
        simp only [decide_eq_false_iff_not]
        exact fun ek => ej (hU i j x y hx hj hk ek.symm)
    unfold numF
    rw [this]
    exact ⟨has_del_same, atKey_del_same _⟩
  · have hne : kl q ≠ kl x.key := fun k => e (kl_inj hq hf k).symm
    have : spotF (l.set i noTh) q = spotF l q := by
      unfold spotF
      clear h1 h2 hget hU h
      induction l generalizing i with
      | nil => simp at hx
      | cons y l ih =>
        cases i with
        | zero =>
          simp at hx; subst hx
          rw [List.set_cons_zero, List.findIdx?_cons, List.findIdx?_cons]
          rw [decide_eq_false hno, decide_eq_false e]
        | succ i =>
          rw [List.set_cons_succ, List.findIdx?_cons, List.findIdx?_cons, ih (by simpa using hx) (by simpa using hi)]
    unfold numF at *
    rw [this, has_del_other hne, atKey_del_other hne]
    exact ⟨h1, h2⟩

def set8At (w : World) (g o : Nat) (y : Th) : World := (((((((w.setCell ⟨g, o, none⟩ (.int .i64 y.k)).setCell ⟨g, o + 1, none⟩ (.int .i64 y.p0)).setCell ⟨g, o + 2, none⟩ (.int .i64 y.p1)).setCell ⟨g, o + 3, none⟩ (.int .i64 y.p2)).setCell ⟨g, o + 4, none⟩ (.int .i64 y.p3)).setCell ⟨g, o + 5, none⟩ (.int .i64 y.lv)).setCell ⟨g, o + 6, none⟩ (.int .i64 y.va)).setCell ⟨g, o + 7, none⟩ (.int .u64 y.mask)
theorem set8At_heap {w : World} {g o k : Nat} {y : Th} (h : k ≠ g) : (set8At w g o y).heap[k]? = w.heap[k]? := by
  unfold set8At
  rw [heap_set h, heap_set h, heap_set h, heap_set h, heap_set h, heap_set h, heap_set h, heap_set h]
theorem set8At_size {w : World} {g o : Nat} {y : Th} : (set8At w g o y).heap.size = w.heap.size := by
  unfold set8At
  rw [size_set, size_set, size_set, size_set, size_set, size_set, size_set, size_set]
theorem set8At_apart {F : Nat → Prop} (w : World) {g o : Nat} {y : Th} (h : F g) : Apart F w (set8At w g o y) := by
  unfold set8At
  exact (((((((Apart.set w _ h).trans (Apart.set _ _ h) (fun k hk => Or.inl hk)).trans (Apart.set _ _ h) (fun k hk => Or.inl hk)).trans (Apart.set _ _ h) (fun k hk => Or.inl hk)).trans (Apart.set _ _ h) (fun k hk => Or.inl hk)).trans (Apart.set _ _ h) (fun k hk => Or.inl hk)).trans (Apart.set _ _ h) (fun k hk => Or.inl hk)).trans (Apart.set _ _ h) (fun k hk => Or.inl hk)
theorem thsL_set8 : ∀ (l : List Th) (i : Nat) (y : Th), i < l.length → thsL (l.set i y) = ((((((((thsL l).set (i * 8) (.int .i64 y.k)).set (i * 8 + 1) (.int .i64 y.p0)).set (i * 8 + 2) (.int .i64 y.p1)).set (i * 8 + 3) (.int .i64 y.p2)).set (i * 8 + 4) (.int .i64 y.p3)).set (i * 8 + 5) (.int .i64 y.lv)).set (i * 8 + 6) (.int .i64 y.va)).set (i * 8 + 7) (.int .u64 y.mask)
  | [], i, y, h => by simp at h
  | z :: l, 0, y, h => by simp [thsL, Th.cells]
  | z :: l, i + 1, y, h => by
    have ih := thsL_set8 l i y (by simpa using h)
    have e : ∀ z : Th, ∀ m : List Th, thsL (z :: m) = z.cells ++ thsL m := fun z m => by simp [thsL]
    have e8 : z.cells.length = 8 := by simp [Th.cells]
    rw [List.set_cons_succ, e, e, ih]
    have ad : ∀ (L : List Value) (j : Nat) (v : Value), (z.cells ++ L).set ((i + 1) * 8 + j) v = z.cells ++ L.set (i * 8 + j) v := fun L j v => by
      rw [List.set_append_right _ _ (by rw [e8]; omega)]
      congr 2
      rw [e8]; omega
    have ad0 := fun L v => ad L 0 v
    simp only [Nat.add_zero] at ad0
    rw [ad0, ad, ad, ad, ad, ad, ad, ad]
theorem ThRow.set8 {w : World} {g c i : Nat} {l : List Th} (h : ThRow w 0 (.slice (some ⟨g, 0, none⟩) l.length c) l) (hi : i < l.length) (y : Th) : ThRow (set8At w g (i * 8) y) 0 (.slice (some ⟨g, 0, none⟩) l.length c) (l.set i y) := by
  unfold ThRow
  rw [thsL_set8 l i y hi, List.length_set]
  have s0 := (World.ownsRow.stored h (i * 8) (.int .i64 y.k)).1
  have s1 := (World.ownsRow.stored s0 (i * 8 + 1) (.int .i64 y.p0)).1
  have s2 := (World.ownsRow.stored s1 (i * 8 + 2) (.int .i64 y.p1)).1
  have s3 := (World.ownsRow.stored s2 (i * 8 + 3) (.int .i64 y.p2)).1
  have s4 := (World.ownsRow.stored s3 (i * 8 + 4) (.int .i64 y.p3)).1
  have s5 := (World.ownsRow.stored s4 (i * 8 + 5) (.int .i64 y.lv)).1
  have s6 := (World.ownsRow.stored s5 (i * 8 + 6) (.int .i64 y.va)).1
  exact (World.ownsRow.stored s6 (i * 8 + 7) (.int .u64 y.mask)).1

theorem ArRaw.unlay {w w1 : World} {b n : Nat} {F : Nat → Prop} {A : Ar} {r : Raw} {D : DataW Unit} (h : ArRaw w b F n A r D) (hU : Uniq A.ths) {g c i : Nat} {x : Th} (hv : r.vth = .slice (some ⟨g, 0, none⟩) A.ths.length c) (hx : A.ths[i]? = some x) (hk : x.k ≠ 0) (hf : x.key.Fit)
    (hm : w1.ownsMap Tryz.prog 97 (plainElem Tryz.prog 3) r.mp n (D.del (kl x.key))) (ht : w.mapTurned w1 r.mp) :
    ArRaw (set8At w1 g (i * 8) noTh) b F n { A with ths := A.ths.set i noTh } r (D.del (kl x.key)) ∧ Apart F w (set8At w1 g (i * 8) noTh) := by
  have hg : r.vth.ownBlock = some g := by rw [hv]; rfl
  have hgb : b ≠ g := fun e => h.vb (by rw [hg, e])
  have hgm : r.mp ≠ g := fun e => h.vm (by rw [hg, e])
  have hs := size_of_turned ht
  have hgr := grown_of_turned ht
  have hb1 : ∀ k, F k → k ≠ r.mp → w1.heap[k]? = w.heap[k]? := fun k hk hne => hgr.block k (h.flt k hk) (fun e => hne (Option.some.inj e))
  have hi : i < A.ths.length := (List.getElem?_eq_some_iff.1 hx).1
  have hFg : F g := h.fv g hg
  refine ⟨⟨h.raw.go ((set8At_heap hgb).trans (hb1 b h.fb h.mb.symm)), h.room, ?_, map_other hm (set8At_heap hgm), h.num.drop hU hx hk hf, ?_, h.lim, h.cnt, fun t ht => ?_, h.apf, h.apt, h.fb, h.fm, h.fv, h.ff, h.ft, fun k hk => by rw [set8At_size, hs]; exact h.flt k hk⟩, ?_⟩
  · have h1 : ThRow w1 0 r.vth A.ths := row_other h.ths fun k hk => hb1 k (h.fv k hk) (fun e => h.vm (by rw [← e]; exact hk))
    rw [hv] at h1 ⊢
    exact h1.set8 hi noTh
  · exact row_other h.free fun k hk => (set8At_heap fun e => h.vf hg (by rw [hk, e])).trans (hb1 k (h.ff k hk) (fun e => h.fm' (by rw [← e]; exact hk)))
  · exact row_other (h.fresh t ht) fun k hk => (set8At_heap fun e => h.vt ht hg (by rw [hk, e])).trans (hb1 k (h.ft t ht k hk) (fun e => h.tm ht (by rw [← e]; exact hk)))
  · have a1 : Apart F w w1 := Apart.grown hgr fun k hk => by cases hk; exact h.fm
    exact a1.trans (set8At_apart w1 hFg) fun k hk => Or.inl hk
end Go.Proofs.YtgipjplifndniaaGreatDoor.A

namespace Go.Proofs.YtgipjplifndniaaGreatDoor.A
open Go.RowKit Go.Maps

def swapL (L : List Int) (i j : Nat) : List Int := (L.set i L[j]!).set j L[i]!
theorem swap_len (L : List Int) (i j : Nat) : (swapL L i j).length = L.length := by simp [swapL]
theorem swap_get (L : List Int) (i j k : Nat) (hk : k < L.length) : (swapL L i j)[k]! = if k = j then L[i]! else if k = i then L[j]! else L[k]! := by
  have e0 : (swapL L i j)[k]! = ((L.set i L[j]!).set j L[i]!)[k]! := rfl
  rw [e0, getElem!_pos _ k (by rw [List.length_set, List.length_set]; exact hk), List.getElem_set, List.getElem_set]
  by_cases e : j = k
  · rw [if_pos e, if_pos e.symm]
  · rw [if_neg e, if_neg (show ¬ k = j from fun h => e h.symm)]
    by_cases e2 : i = k
    · rw [if_pos e2, if_pos e2.symm]
    · rw [if_neg e2, if_neg (show ¬ k = i from fun h => e2 h.symm), getElem!_pos L k hk]
theorem swap_mem (L : List Int) (i j : Nat) (hi : i < L.length) (hj : j < L.length) : (swapL L i j).Perm L := by
  unfold swapL
  rw [getElem!_pos L i hi, getElem!_pos L j hj]
  exact List.set_set_perm hi hj

def HeapEx (L : List Int) (n i : Nat) : Prop := (∀ k, 0 < k → k < n → (k - 1) / 2 ≠ i → L[(k - 1) / 2]! ≤ L[k]!) ∧ (∀ k, 0 < k → k < n → (k - 1) / 2 = i → 0 < i → L[(i - 1) / 2]! ≤ L[k]!)
def Heap (L : List Int) (n : Nat) : Prop := ∀ k, 0 < k → k < n → L[(k - 1) / 2]! ≤ L[k]!
theorem heap_min {L : List Int} {n : Nat} (h : Heap L n) : ∀ k, k < n → L[0]! ≤ L[k]! := by
  intro k
  induction k using Nat.strongRecOn with
  | ind k ih =>
    intro hk
    rcases Nat.eq_zero_or_pos k with e | e
    · rw [e]; exact Int.le_refl _
    · exact Int.le_trans (ih ((k - 1) / 2) (by omega) (by omega)) (h k e hk)
theorem heap_down {L : List Int} {n i j : Nat} (h : HeapEx L n i) (hn : n ≤ L.length) (hj : j < n) (hj0 : 0 < j) (hp : (j - 1) / 2 = i) (hle : L[j]! < L[i]!) (hs : ∀ k, 0 < k → k < n → (k - 1) / 2 = i → L[j]! ≤ L[k]!) : HeapEx (swapL L i j) n j := by
  have hi : i < j := by omega
  have g := fun k (hk : k < L.length) => swap_get L i j k hk
  refine ⟨fun k hk0 hk hne => ?_, fun k hk0 hk he _ => ?_⟩
  · rw [g k (by omega), g ((k - 1) / 2) (by omega)]
    by_cases e1 : k = j
    · subst e1
      rw [if_pos rfl, hp, if_neg (by omega), if_pos rfl]
      omega
    · rw [if_neg e1, if_neg hne]
      by_cases e2 : (k - 1) / 2 = i
      · rw [if_pos e2, if_neg (by omega)]
        exact hs k hk0 hk e2
      · rw [if_neg e2]
        by_cases e3 : k = i
        · subst e3
          rw [if_pos rfl]
          exact h.2 j hj0 hj hp hk0
        · rw [if_neg e3]
          exact h.1 k hk0 hk e2
  · rw [g k (by omega), g ((j - 1) / 2) (by omega), hp, if_neg (show ¬ i = j by omega), if_pos rfl, if_neg (show ¬ k = j by omega), if_neg (show ¬ k = i by omega)]
    have := h.1 k hk0 hk (by omega)
    rw [he] at this
    exact this

section
variable {w : World} {b n : Nat} {F : Nat → Prop} {A : Ar} {r : Raw} {D : DataW Unit}
theorem ArRaw.setFreeAt (h : ArRaw w b F n A r D) {g c : Nat} (hv : r.vfr = .slice (some ⟨g, 0, none⟩) A.free.length c) (i : Nat) (z : Int) :
    ArRaw (w.setCell ⟨g, i, none⟩ (.int .i64 z)) b F n { A with free := A.free.set i z } r D := by
  have hg : r.vfr.ownBlock = some g := by rw [hv]; rfl
  have hgb : b ≠ g := fun e => h.fb' (by rw [hg, e])
  have hgm : r.mp ≠ g := fun e => h.fm' (by rw [hg, e])
  refine ⟨h.raw.go (heap_set hgb), h.room, row_other h.ths fun k hk => heap_set fun e => h.vf (by rw [hk, e]) hg, map_other h.map (heap_set hgm), h.num, ?_, h.lim, h.cnt,
    fun t ht => row_other (h.fresh t ht) fun k hk => heap_set fun e => h.apf t ht k hk (by rw [hg, e]), h.apf, h.apt, h.fb, h.fm, h.fv, h.ff, h.ft, fun k hk => by rw [size_set]; exact h.flt k hk⟩
  have hf := h.free
  unfold IntRow at hf ⊢
  rw [hv] at hf ⊢
  have := (World.ownsRow.stored hf i (.int .i64 z)).1
  rw [List.length_set, List.map_set]
  exact this
end

set_option maxRecDepth 20000 in
set_option maxHeartbeats 2000000 in
theorem lswap_any (b n g c i j : Nat) (F : Nat → Prop) (A : Ar) (r : Raw) (D : DataW Unit) (w : World) (h : ArRaw w b F n A r D) (hv : r.vfr = .slice (some ⟨g, 0, none⟩) A.free.length c) (hi : i < A.free.length) (hj : j < A.free.length) :
    Calls Tryz.prog 216 #[.slice (some ⟨g, 0, none⟩) A.free.length c, .int .i64 i, .int .i64 j] w fun e w' => e = .returned (.tuple #[]) ∧ ArRaw w' b F n { A with free := swapL A.free i j } r D ∧ Apart F w w' := by
  have hrow := h.free
  rw [hv] at hrow
  have ci := hrow.get i hi
  have cj := hrow.get j hj
  have zi := World.ownsRow.frozenAt hrow i
  have zj := World.ownsRow.frozenAt hrow j
  have h0 : (0 : Int) ≤ (i : Int) := by omega
  have h1 : (i : Int) < (A.free.length : Int) := by omega
  have h2 : (0 : Int) ≤ (j : Int) := by omega
  have h3 : (j : Int) < (A.free.length : Int) := by omega
  have H1 := h.setFreeAt hv i A.free[j]!
  have H2 := H1.setFreeAt (by show r.vfr = .slice (some ⟨g, 0, none⟩) (A.free.set i A.free[j]!).length c; rw [List.length_set]; exact hv) j A.free[i]!
  have hFg : F g := h.ff g (by rw [hv]; rfl)
  have HP : Hid (Apart F w ((w.setCell ⟨g, i, none⟩ (.int .i64 A.free[j]!)).setCell ⟨g, j, none⟩ (.int .i64 A.free[i]!))) := (Apart.set w _ hFg).trans (Apart.set _ _ hFg) fun k hk => Or.inl hk
  have HH : Hid (ArRaw ((w.setCell ⟨g, i, none⟩ (.int .i64 A.free[j]!)).setCell ⟨g, j, none⟩ (.int .i64 A.free[i]!)) b F n { A with free := swapL A.free i j } r D) := H2
  have hrow1 := H1.free
  rw [show r.vfr = .slice (some ⟨g, 0, none⟩) A.free.length c from hv] at hrow1
  have c3 := hrow1.get j (by show j < (A.free.set i A.free[j]!).length; rw [List.length_set]; exact hj)
  have z3 := World.ownsRow.frozenAt (n := A.free.length) (by have := hrow1; unfold IntRow at this; rw [show (A.free.set i A.free[j]!).length = A.free.length from List.length_set] at this; exact this) j
  generalize (A.free.set i A.free[j]!)[j]! = zz at c3
  clear H1 H2 h hrow hi hj hrow1
  generalize A.free[i]! = x at *
  generalize A.free[j]! = y at *
  generalize A.free.length = ln at *
  go_enter Tryz.func216, Tryz.ntmps216
  go_wp2_with fail
  go_region
  all_goals
    go_wp2_with fail
    go_end0
    exact ⟨rfl, HH.out.drew, HP.out.drew⟩
end Go.Proofs.YtgipjplifndniaaGreatDoor.A
