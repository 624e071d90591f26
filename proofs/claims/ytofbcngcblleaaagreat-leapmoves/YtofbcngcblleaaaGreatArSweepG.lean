/- Sweep's walk, whatever numbers are free. -/
import Derived.Test.YtofbcngcblleaaaGreatArTake
import Derived.Test.YtofbcngcblleaaaGreatArLay
namespace Go.Proofs.YtofbcngcblleaaaGreat.A
open Go.RowKit Go.Maps

theorem RawAt.setFree {w : World} {b : Nat} {r : Raw} (h : RawAt w b r) (v : Value) : RawAt (w.setCell ⟨b, 3, none⟩ v) b { r with vfr := v } :=
  h.set 3 v fun j _ => by
    by_cases e : j = 3
    · subst e; rfl
    · rw [if_neg e]
      unfold Raw.cell
      simp only [if_neg e]

section
variable {w w1 : World} {b n : Nat} {F F' : Nat → Prop} {A : Ar} {r : Raw} {D : DataW Unit}
/-- the free numbers turned: by a slice that lies apart -/
theorem ArRaw.setFree (h : ArRaw w b F n A r D) {v : Value} {l : List Int} (hrow : IntRow w1 v l) (hb1 : ∀ k, F k → r.vfr.ownBlock ≠ some k → w1.heap[k]? = w.heap[k]?)
    (hv : ∀ k, v.ownBlock = some k → r.vfr.ownBlock = some k ∨ w.heap.size ≤ k) (hF : ∀ k, F k → F' k) (hF' : ∀ k, v.ownBlock = some k → F' k) (hl : ∀ k, F' k → k < w1.heap.size) :
    ArRaw (w1.setCell ⟨b, 3, none⟩ v) b F' n { A with free := l } { r with vfr := v } D := by
  have hbb : w1.heap[b]? = w.heap[b]? := hb1 b h.fb h.fb'
  have hbv : v.ownBlock ≠ some b := fun e => by
    rcases hv b e with h1 | h1
    · exact h.fb' h1
    · have := h.flt b h.fb; omega
  refine ⟨(h.raw.go hbb).setFree v, h.room, ?_, ?_, h.num, ?_, h.lim, h.cnt, fun t ht => ?_, fun t ht k hk e => ?_, h.apt, hF _ h.fb, hF _ h.fm, fun k hk => hF k (h.fv k hk), hF', fun t ht k hk => hF k (h.ft t ht k hk), fun k hk => by rw [size_set]; exact hl k hk⟩
  · exact row_other (w := w) h.ths fun k hk => (heap_set fun e => h.vb (by rw [← e]; exact hk)).trans (hb1 k (h.fv k hk) (h.vf hk))
  · exact map_other (w := w) h.map ((heap_set h.mb).trans (hb1 _ h.fm h.fm'))
  · exact row_other (w := w1) hrow fun k hk => heap_set fun e => hbv (by rw [hk, e])
  · exact row_other (w := w) (h.fresh t ht) fun k hk => (heap_set fun e' => h.tb ht (by rw [hk, e'])).trans (hb1 k (h.ft t ht k hk) (fun e' => h.apf t ht k hk e'))
  · rcases hv k e with h1 | h1
    · exact h.apf t ht k hk h1
    · have := h.flt k (h.ft t ht k hk); omega
end

set_option maxHeartbeats 1000000 in
theorem less_any (g n c i j : Nat) (L : List Int) (w : World) (h : IntRow w (.slice (some ⟨g, 0, none⟩) n c) L) (hi : i < L.length) (hj : j < L.length) :
    Calls Tryz.prog 151 #[.slice (some ⟨g, 0, none⟩) n c, .int .i64 i, .int .i64 j] w fun e w' => e = .returned (.bool (decide (L[i]! < L[j]!))) ∧ ∃ q, w' = w.drewN q := by
  have ci := h.get i hi
  have cj := h.get j hj
  have hn : n = L.length := by
    obtain ⟨a, c', e⟩ := h.shape
    simp only [Value.slice.injEq] at e
    exact e.2.1
  rw [← hn] at hi hj
  have h0 : (0 : Int) ≤ (i : Int) := by omega
  have h1 : (i : Int) < (n : Int) := by omega
  have h2 : (0 : Int) ≤ (j : Int) := by omega
  have h3 : (j : Int) < (n : Int) := by omega
  generalize L[i]! = x at *
  generalize L[j]! = y at *
  clear hn h
  go_enter Tryz.func151, Tryz.ntmps151
  go_wp2_with fail
  go_region
  all_goals
    go_wp2_with fail
    go_ret
    exact ⟨rfl, _, rfl⟩

set_option maxHeartbeats 1000000 in
theorem len_any (a : Option Addr) (n c : Nat) (w : World) : Calls Tryz.prog 150 #[.slice a n c] w fun e w' => e = .returned (.int .i64 (n : Int)) ∧ w' = w := by
  go_enter Tryz.func150, Tryz.ntmps150
  go_wp2_with fail
  go_ret
  exact ⟨rfl, rfl⟩

theorem Tryz.mPush (a : Addr) (w : World) : (method 298 157 (.pointer (some a)) "Push").run Tryz.prog w = .ok (154, .pointer (some a)) w := by kernel_rfl
theorem Tryz.mLen (a : Addr) (w : World) : (method 298 157 (.pointer (some a)) "Len").run Tryz.prog w = (do let v ← loadVar 96 a; pure (150, v) : Sem (FuncId × Value)).run Tryz.prog w := by kernel_rfl
theorem Tryz.mLess (a : Addr) (w : World) : (method 298 157 (.pointer (some a)) "Less").run Tryz.prog w = (do let v ← loadVar 96 a; pure (151, v) : Sem (FuncId × Value)).run Tryz.prog w := by kernel_rfl
theorem Tryz.ldFree (a : Addr) (v : Value) (w : World) (h : w.cell? a = some v) : (loadVar 96 a).run Tryz.prog w = .ok v w := by
  simp [go_sem, h]
theorem Tryz.mLen' (a : Addr) (v : Value) (w : World) (h : w.cell? a = some v) : (method 298 157 (.pointer (some a)) "Len").run Tryz.prog w = .ok (150, v) w := by
  rw [Tryz.mLen]
  have := Tryz.ldFree a v w h
  simp [go_sem, h]
theorem Tryz.mLess' (a : Addr) (v : Value) (w : World) (h : w.cell? a = some v) : (method 298 157 (.pointer (some a)) "Less").run Tryz.prog w = .ok (151, v) w := by
  rw [Tryz.mLess]
  have := Tryz.ldFree a v w h
  simp [go_sem, h]

/-- the free numbers have grown by one -/
theorem free_end {w w5 : World} {b n g5 cap5 : Nat} {F : Nat → Prop} {A : Ar} {r : Raw} {D : DataW Unit} {o : Obj} {id : Int} (H4 : ArRaw w b F n A r D)
    (hgrow5 : (w.alloc o).drew.grownBy w5 r.vfr.ownBlock) (hat5 : r.vfr.ownBlock = some g5 ∨ g5 = (w.alloc o).drew.heap.size)
    (hown5 : w5.ownsRow 0 3 1 (.slice (some ⟨g5, 0, none⟩) (A.free.length + 1) cap5) (A.free.length + 1) (A.free.map (Value.int .i64) ++ [.int .i64 id])) (hlt5 : g5 < w5.heap.size) :
    ArRaw (w5.setCell ⟨b, 3, none⟩ (.slice (some ⟨g5, 0, none⟩) (A.free.length + 1) cap5)) b (More F w (w5.setCell ⟨b, 3, none⟩ (.slice (some ⟨g5, 0, none⟩) (A.free.length + 1) cap5))) n { A with free := A.free ++ [id] } { r with vfr := .slice (some ⟨g5, 0, none⟩) (A.free.length + 1) cap5 } D ∧
      Apart F w (w5.setCell ⟨b, 3, none⟩ (.slice (some ⟨g5, 0, none⟩) (A.free.length + 1) cap5)) := by
  have hsz : (w.alloc o).drew.heap.size = w.heap.size + 1 := by simp
  have hs5 := hgrow5.size
  rw [hsz] at hs5 hat5
  have hrow : IntRow w5 (.slice (some ⟨g5, 0, none⟩) (A.free.length + 1) cap5) (A.free ++ [id]) := by
    unfold IntRow
    rw [List.length_append, List.map_append]
    exact hown5
  refine ⟨H4.setFree hrow (fun k hk hne => grown_blk hgrow5 (H4.flt k hk) hne) (fun k hk => ?_) (fun k hk => Or.inl hk) (fun k hk => ?_) (fun k hk => ?_), ?_⟩
  · simp only [Value.ownBlock, Option.some.injEq] at hk
    subst hk
    rcases hat5 with h1 | h1
    · exact Or.inl h1
    · exact Or.inr (by omega)
  · simp only [Value.ownBlock, Option.some.injEq] at hk
    subst hk
    rcases hat5 with h1 | h1
    · exact Or.inl (H4.ff _ h1)
    · exact Or.inr ⟨by omega, by rw [size_set]; exact hlt5⟩
  · rcases hk with h1 | h1
    · have := H4.flt k h1; omega
    · rw [size_set] at h1; exact h1.2
  · have a1 : Apart F w (w.alloc o).drew := ⟨rfl, rfl, rfl, by omega, fun k hk _ => by show (w.heap.push o)[k]? = _; rw [Array.getElem?_push, if_neg (by omega)]⟩
    have a2 : Apart F (w.alloc o).drew w5 := Apart.grown hgrow5 fun k hk => H4.ff k hk
    have a3 : Apart F w5 (w5.setCell ⟨b, 3, none⟩ (.slice (some ⟨g5, 0, none⟩) (A.free.length + 1) cap5)) := Apart.set w5 _ H4.fb
    exact (a1.trans a2 fun k hk => Or.inl hk).trans a3 fun k hk => Or.inl hk

set_option maxRecDepth 20000 in
set_option maxHeartbeats 4000000 in
theorem lpush_any (b n : Nat) (F : Nat → Prop) (id : Int) (A : Ar) (r : Raw) (D : DataW Unit) (w : World) (h : ArRaw w b F n A r D) (hlf : A.free.length < 10000000) :
    Calls Tryz.prog 154 #[.pointer (some ⟨b, 3, none⟩), .iface 3 (.int .i64 id)] w fun e w' => e = .returned (.tuple #[]) ∧ (∃ g c, ArRaw w' b (More F w w') n { A with free := A.free ++ [id] } { r with vfr := .slice (some ⟨g, 0, none⟩) (A.free.length + 1) c } D) ∧ Apart F w w' := by
  have cf := h.raw.at 3 (by omega)
  rw [Raw.c3] at cf
  have z2 := h.raw.frozen 3
  have hblt := h.raw.lt
  have hbt := h.fb'
  obtain ⟨i0, hi, hz0, hz1, hz2⟩ := info_parts Tryz.info3
  have OW : Hid (∀ o, (w.alloc o).drew.ownsRow 0 3 1 r.vfr A.free.length (A.free.map (Value.int .i64))) := fun o => World.ownsRow.alloc h.free o
  generalize hfr : r.vfr = v at *
  have hta : ∀ w, (Instr.typeAssert (.iface 3 (.int .i64 id)) 20 3 false).run Tryz.prog w = .ok (.int .i64 id) w := fun _ => by kernel_rfl
  generalize hln : A.free.length = ln at *
  go_enter Tryz.func154, Tryz.ntmps154
  go_wp2_with fail
  go_region_law (refine step_append_lies _ (by rfl) _ _ 96 (by rfl) 0 3 i0 (.int .i64 0) 1 8 Tryz.underlying96 hi hz0 hz1 hz2 rfl (by decide) v ln (A.free.map (Value.int .i64)) (by rfl) (OW.out _) ⟨w.heap.size, 0, none⟩ 1 1 [.int .i64 id] (by rfl) rfl (cell_one_new _ _ _) (by intro u hu; simp at hu; subst hu; rfl) (by omega) (by unfold maxLen; omega) (by omega) (by omega) _ rfl ?_; intro g5 cap5 w5 hown5 hgrow5 hat5 hlt5; have R5 := h.raw.go (grown_blk hgrow5 hblt hbt); have q4 := R5.at 3 (by omega); rw [Raw.c3] at q4; have q5 := R5.frozen 3)
  all_goals
    go_wp2_with fail
    go_end0
    subst hln
    have hE := free_end h (hfr ▸ hgrow5) (hfr ▸ hat5) hown5 hlt5
    exact ⟨rfl, ⟨_, _, hE.1⟩, hE.2⟩

end Go.Proofs.YtofbcngcblleaaaGreat.A

namespace Go.Proofs.YtofbcngcblleaaaGreat.A
open Go.RowKit Go.Maps Go.ChangeMaps Go.WideElems

/-- nobody's -/
def gone (x : Th) : Bool := x.k != 0 && x.mask == 0
def sw (l : List Th) (i : Nat) : List Th := (l.take i).map (fun x => if gone x then noTh else x) ++ l.drop i
def fr (l : List Th) (i : Nat) : List Int := ((List.range i).filter (fun j => gone l[j]!)).map (fun j : Nat => (j : Int) + 2)
theorem sw_zero (l : List Th) : sw l 0 = l := by simp [sw]
theorem sw_len (l : List Th) (i : Nat) : (sw l i).length = l.length := by simp [sw]; omega
theorem sw_get (l : List Th) (i j : Nat) : (sw l i)[j]? = (l[j]?).map fun x => if j < i ∧ gone x = true then noTh else x := by
  unfold sw
  by_cases h : j < i
  · by_cases hl : j < l.length
    · rw [List.getElem?_append_left (by simp; omega), List.getElem?_map, List.getElem?_take_of_lt h]
      congr 1
      funext x
      simp [h]
    · rw [List.getElem?_eq_none (by simp; omega), List.getElem?_eq_none (by omega)]
      rfl
  · by_cases hl : i ≤ l.length
    · rw [List.getElem?_append_right (by simp; omega), List.getElem?_drop]
      have : i + (j - ((l.take i).map (fun x => if gone x then noTh else x)).length) = j := by simp; omega
      rw [this]
      simp [h]
    · rw [List.getElem?_eq_none (by simp; omega), List.getElem?_eq_none (by omega)]
      rfl
theorem sw_gone {l : List Th} {i : Nat} {x : Th} (hx : l[i]? = some x) (hg : gone x = true) : sw l (i + 1) = (sw l i).set i noTh := by
  have hi : i < l.length := (List.getElem?_eq_some_iff.1 hx).1
  refine List.ext_getElem? fun j => ?_
  rw [List.getElem?_set, sw_get, sw_get, sw_len]
  by_cases e : i = j
  · subst e
    rw [hx, if_pos rfl, if_pos hi, Option.map_some, if_pos ⟨Nat.lt_succ_self i, hg⟩]
  · rw [if_neg e]
    congr 1
    funext y
    have : j < i + 1 ↔ j < i := by omega
    simp only [this]
theorem sw_keep {l : List Th} {i : Nat} {x : Th} (hx : l[i]? = some x) (hg : gone x = false) : sw l (i + 1) = sw l i := by
  refine List.ext_getElem? fun j => ?_
  rw [sw_get, sw_get]
  by_cases e : i = j
  · subst e
    simp [hx, hg]
  · congr 1
    funext y
    have : j < i + 1 ↔ j < i := by omega
    simp only [this]
theorem sw_now {l : List Th} {i : Nat} {x : Th} (hx : l[i]? = some x) : (sw l i)[i]? = some x := by
  rw [sw_get, hx]; simp
theorem fr_gone {l : List Th} {i : Nat} {x : Th} (hx : l[i]? = some x) (hg : gone x = true) : fr l (i + 1) = fr l i ++ [(i : Int) + 2] := by
  have e : l[i]! = x := by rw [List.getElem!_eq_getElem?_getD, hx]; rfl
  unfold fr
  have e2 : [i].filter (fun j => gone l[j]!) = [i] := by rw [List.filter_cons_of_pos (by rw [e]; exact hg)]; rfl
  rw [List.range_succ, List.filter_append, List.map_append, e2]
  rfl
theorem fr_keep {l : List Th} {i : Nat} {x : Th} (hx : l[i]? = some x) (hg : gone x = false) : fr l (i + 1) = fr l i := by
  have e : l[i]! = x := by rw [List.getElem!_eq_getElem?_getD, hx]; rfl
  unfold fr
  have e2 : [i].filter (fun j => gone l[j]!) = [] := by rw [List.filter_cons_of_neg (by rw [e, hg]; decide)]; rfl
  rw [List.range_succ, List.filter_append, List.map_append, e2]
  exact List.append_nil _
theorem fr_len (l : List Th) (i : Nat) : (fr l i).length ≤ i := by
  unfold fr
  rw [List.length_map]
  refine Nat.le_trans (List.length_filter_le _ _) ?_
  simp

/-- a thing out of the map -/
theorem NumIs.drop {D : DataW Unit} {l : List Th} (h : NumIs D l) (hU : Uniq l) {i : Nat} {x : Th} (hx : l[i]? = some x) (hk : x.k ≠ 0) (hf : x.key.Fit) : NumIs (D.del (kl x.key)) (l.set i noTh) := by
  intro q hq hqk
  obtain ⟨h1, h2⟩ := h q hq hqk
  have hi : i < l.length := (List.getElem?_eq_some_iff.1 hx).1
  have hget : ∀ j, (l.set i noTh)[j]? = if i = j then some noTh else l[j]? := fun j => by
    rw [List.getElem?_set]
    by_cases e : i = j
    · subst e; simp [hi]
    · simp [e]
  have hno : noTh.key ≠ q := fun e => hqk (by rw [← e]; rfl)
  by_cases e : x.key = q
  · subst e
    have : spotF (l.set i noTh) x.key = none := by
      unfold spotF
      rw [List.findIdx?_eq_none_iff]
      intro y hy
      obtain ⟨j, hj⟩ := List.getElem?_of_mem hy
      rw [hget] at hj
      by_cases ej : i = j
      · rw [if_pos ej] at hj
        obtain rfl := Option.some.inj hj
        simp only [decide_eq_false_iff_not]
        exact hno
      · rw [if_neg ej] at hj
        simp only [decide_eq_false_iff_not]
        exact fun ek => ej (hU i j x y hx hj hk ek.symm)
    unfold numF
    rw [this]
    exact ⟨has_del_same, atKey_del_same _⟩
  · have hne : kl q ≠ kl x.key := fun k => e (kl_inj hq hf k).symm
    have : spotF (l.set i noTh) q = spotF l q := by
      unfold spotF
      clear h1 h2 hget hU h
      induction l generalizing i with
      | nil => simp at hx
      | cons y l ih =>
        cases i with
        | zero =>
          simp at hx; subst hx
          rw [List.set_cons_zero, List.findIdx?_cons, List.findIdx?_cons]
          rw [decide_eq_false hno, decide_eq_false e]
        | succ i =>
          rw [List.set_cons_succ, List.findIdx?_cons, List.findIdx?_cons, ih (by simpa using hx) (by simpa using hi)]
    unfold numF at *
    rw [this, has_del_other hne, atKey_del_other hne]
    exact ⟨h1, h2⟩

/-- eight cells of a row turned -/
def set8At (w : World) (g o : Nat) (y : Th) : World := (((((((w.setCell ⟨g, o, none⟩ (.int .i64 y.k)).setCell ⟨g, o + 1, none⟩ (.int .i64 y.p0)).setCell ⟨g, o + 2, none⟩ (.int .i64 y.p1)).setCell ⟨g, o + 3, none⟩ (.int .i64 y.p2)).setCell ⟨g, o + 4, none⟩ (.int .i64 y.p3)).setCell ⟨g, o + 5, none⟩ (.int .i64 y.lv)).setCell ⟨g, o + 6, none⟩ (.int .i64 y.va)).setCell ⟨g, o + 7, none⟩ (.int .u64 y.mask)
theorem set8At_heap {w : World} {g o k : Nat} {y : Th} (h : k ≠ g) : (set8At w g o y).heap[k]? = w.heap[k]? := by
  unfold set8At
  rw [heap_set h, heap_set h, heap_set h, heap_set h, heap_set h, heap_set h, heap_set h, heap_set h]
theorem set8At_size {w : World} {g o : Nat} {y : Th} : (set8At w g o y).heap.size = w.heap.size := by
  unfold set8At
  rw [size_set, size_set, size_set, size_set, size_set, size_set, size_set, size_set]
theorem set8At_apart {F : Nat → Prop} (w : World) {g o : Nat} {y : Th} (h : F g) : Apart F w (set8At w g o y) := by
  unfold set8At
  exact (((((((Apart.set w _ h).trans (Apart.set _ _ h) (fun k hk => Or.inl hk)).trans (Apart.set _ _ h) (fun k hk => Or.inl hk)).trans (Apart.set _ _ h) (fun k hk => Or.inl hk)).trans (Apart.set _ _ h) (fun k hk => Or.inl hk)).trans (Apart.set _ _ h) (fun k hk => Or.inl hk)).trans (Apart.set _ _ h) (fun k hk => Or.inl hk)).trans (Apart.set _ _ h) (fun k hk => Or.inl hk)
theorem thsL_set8 : ∀ (l : List Th) (i : Nat) (y : Th), i < l.length → thsL (l.set i y) = ((((((((thsL l).set (i * 8) (.int .i64 y.k)).set (i * 8 + 1) (.int .i64 y.p0)).set (i * 8 + 2) (.int .i64 y.p1)).set (i * 8 + 3) (.int .i64 y.p2)).set (i * 8 + 4) (.int .i64 y.p3)).set (i * 8 + 5) (.int .i64 y.lv)).set (i * 8 + 6) (.int .i64 y.va)).set (i * 8 + 7) (.int .u64 y.mask)
  | [], i, y, h => by simp at h
  | z :: l, 0, y, h => by simp [thsL, Th.cells]
  | z :: l, i + 1, y, h => by
    have ih := thsL_set8 l i y (by simpa using h)
    have e : ∀ z : Th, ∀ m : List Th, thsL (z :: m) = z.cells ++ thsL m := fun z m => by simp [thsL]
    have e8 : z.cells.length = 8 := by simp [Th.cells]
    rw [List.set_cons_succ, e, e, ih]
    have ad : ∀ (L : List Value) (j : Nat) (v : Value), (z.cells ++ L).set ((i + 1) * 8 + j) v = z.cells ++ L.set (i * 8 + j) v := fun L j v => by
      rw [List.set_append_right _ _ (by rw [e8]; omega)]
      congr 2
      rw [e8]; omega
    have ad0 := fun L v => ad L 0 v
    simp only [Nat.add_zero] at ad0
    rw [ad0, ad, ad, ad, ad, ad, ad, ad]
theorem ThRow.set8 {w : World} {g c i : Nat} {l : List Th} (h : ThRow w 0 (.slice (some ⟨g, 0, none⟩) l.length c) l) (hi : i < l.length) (y : Th) : ThRow (set8At w g (i * 8) y) 0 (.slice (some ⟨g, 0, none⟩) l.length c) (l.set i y) := by
  unfold ThRow
  rw [thsL_set8 l i y hi, List.length_set]
  have s0 := (World.ownsRow.stored h (i * 8) (.int .i64 y.k)).1
  have s1 := (World.ownsRow.stored s0 (i * 8 + 1) (.int .i64 y.p0)).1
  have s2 := (World.ownsRow.stored s1 (i * 8 + 2) (.int .i64 y.p1)).1
  have s3 := (World.ownsRow.stored s2 (i * 8 + 3) (.int .i64 y.p2)).1
  have s4 := (World.ownsRow.stored s3 (i * 8 + 4) (.int .i64 y.p3)).1
  have s5 := (World.ownsRow.stored s4 (i * 8 + 5) (.int .i64 y.lv)).1
  have s6 := (World.ownsRow.stored s5 (i * 8 + 6) (.int .i64 y.va)).1
  exact (World.ownsRow.stored s6 (i * 8 + 7) (.int .u64 y.mask)).1

/-- a thing gone: out of the map, and out of its place -/
theorem ArRaw.unlay {w w1 : World} {b n : Nat} {F : Nat → Prop} {A : Ar} {r : Raw} {D : DataW Unit} (h : ArRaw w b F n A r D) (hU : Uniq A.ths) {g c i : Nat} {x : Th} (hv : r.vth = .slice (some ⟨g, 0, none⟩) A.ths.length c) (hx : A.ths[i]? = some x) (hk : x.k ≠ 0) (hf : x.key.Fit)
    (hm : w1.ownsMap Tryz.prog 120 (plainElem Tryz.prog 3) r.mp n (D.del (kl x.key))) (ht : w.mapTurned w1 r.mp) :
    ArRaw (set8At w1 g (i * 8) noTh) b F n { A with ths := A.ths.set i noTh } r (D.del (kl x.key)) ∧ Apart F w (set8At w1 g (i * 8) noTh) := by
  have hg : r.vth.ownBlock = some g := by rw [hv]; rfl
  have hgb : b ≠ g := fun e => h.vb (by rw [hg, e])
  have hgm : r.mp ≠ g := fun e => h.vm (by rw [hg, e])
  have hs := size_of_turned ht
  have hgr := grown_of_turned ht
  have hb1 : ∀ k, F k → k ≠ r.mp → w1.heap[k]? = w.heap[k]? := fun k hk hne => hgr.block k (h.flt k hk) (fun e => hne (Option.some.inj e))
  have hi : i < A.ths.length := (List.getElem?_eq_some_iff.1 hx).1
  have hFg : F g := h.fv g hg
  refine ⟨⟨h.raw.go ((set8At_heap hgb).trans (hb1 b h.fb h.mb.symm)), h.room, ?_, map_other hm (set8At_heap hgm), h.num.drop hU hx hk hf, ?_, h.lim, h.cnt, fun t ht => ?_, h.apf, h.apt, h.fb, h.fm, h.fv, h.ff, h.ft, fun k hk => by rw [set8At_size, hs]; exact h.flt k hk⟩, ?_⟩
  · have h1 : ThRow w1 0 r.vth A.ths := row_other h.ths fun k hk => hb1 k (h.fv k hk) (fun e => h.vm (by rw [← e]; exact hk))
    rw [hv] at h1 ⊢
    exact h1.set8 hi noTh
  · exact row_other h.free fun k hk => (set8At_heap fun e => h.vf hg (by rw [hk, e])).trans (hb1 k (h.ff k hk) (fun e => h.fm' (by rw [← e]; exact hk)))
  · exact row_other (h.fresh t ht) fun k hk => (set8At_heap fun e => h.vt ht hg (by rw [hk, e])).trans (hb1 k (h.ft t ht k hk) (fun e => h.tm ht (by rw [← e]; exact hk)))
  · have a1 : Apart F w w1 := Apart.grown hgr fun k hk => by cases hk; exact h.fm
    exact a1.trans (set8At_apart w1 hFg) fun k hk => Or.inl hk
end Go.Proofs.YtofbcngcblleaaaGreat.A

namespace Go.Proofs.YtofbcngcblleaaaGreat.A
open Go.RowKit Go.Maps

def swapL (L : List Int) (i j : Nat) : List Int := (L.set i L[j]!).set j L[i]!
theorem swap_len (L : List Int) (i j : Nat) : (swapL L i j).length = L.length := by simp [swapL]
theorem swap_get (L : List Int) (i j k : Nat) (hk : k < L.length) : (swapL L i j)[k]! = if k = j then L[i]! else if k = i then L[j]! else L[k]! := by
  have e0 : (swapL L i j)[k]! = ((L.set i L[j]!).set j L[i]!)[k]! := rfl
  rw [e0, getElem!_pos _ k (by rw [List.length_set, List.length_set]; exact hk), List.getElem_set, List.getElem_set]
  by_cases e : j = k
  · rw [if_pos e, if_pos e.symm]
  · rw [if_neg e, if_neg (show ¬ k = j from fun h => e h.symm)]
    by_cases e2 : i = k
    · rw [if_pos e2, if_pos e2.symm]
    · rw [if_neg e2, if_neg (show ¬ k = i from fun h => e2 h.symm), getElem!_pos L k hk]
theorem swap_mem (L : List Int) (i j : Nat) (hi : i < L.length) (hj : j < L.length) : (swapL L i j).Perm L := by
  unfold swapL
  rw [getElem!_pos L i hi, getElem!_pos L j hj]
  exact List.set_set_perm hi hj

/-- a heap: none is below its parent; but for one place -/
def HeapEx (L : List Int) (n i : Nat) : Prop := (∀ k, 0 < k → k < n → (k - 1) / 2 ≠ i → L[(k - 1) / 2]! ≤ L[k]!) ∧ (∀ k, 0 < k → k < n → (k - 1) / 2 = i → 0 < i → L[(i - 1) / 2]! ≤ L[k]!)
def Heap (L : List Int) (n : Nat) : Prop := ∀ k, 0 < k → k < n → L[(k - 1) / 2]! ≤ L[k]!
theorem heap_min {L : List Int} {n : Nat} (h : Heap L n) : ∀ k, k < n → L[0]! ≤ L[k]! := by
  intro k
  induction k using Nat.strongRecOn with
  | ind k ih =>
    intro hk
    rcases Nat.eq_zero_or_pos k with e | e
    · rw [e]; exact Int.le_refl _
    · exact Int.le_trans (ih ((k - 1) / 2) (by omega) (by omega)) (h k e hk)
theorem heap_down {L : List Int} {n i j : Nat} (h : HeapEx L n i) (hn : n ≤ L.length) (hj : j < n) (hj0 : 0 < j) (hp : (j - 1) / 2 = i) (hle : L[j]! < L[i]!) (hs : ∀ k, 0 < k → k < n → (k - 1) / 2 = i → L[j]! ≤ L[k]!) : HeapEx (swapL L i j) n j := by
  have hi : i < j := by omega
  have g := fun k (hk : k < L.length) => swap_get L i j k hk
  refine ⟨fun k hk0 hk hne => ?_, fun k hk0 hk he _ => ?_⟩
  · rw [g k (by omega), g ((k - 1) / 2) (by omega)]
    by_cases e1 : k = j
    · subst e1
      rw [if_pos rfl, hp, if_neg (by omega), if_pos rfl]
      omega
    · rw [if_neg e1, if_neg hne]
      by_cases e2 : (k - 1) / 2 = i
      · rw [if_pos e2, if_neg (by omega)]
        exact hs k hk0 hk e2
      · rw [if_neg e2]
        by_cases e3 : k = i
        · subst e3
          rw [if_pos rfl]
          exact h.2 j hj0 hj hp hk0
        · rw [if_neg e3]
          exact h.1 k hk0 hk e2
  · rw [g k (by omega), g ((j - 1) / 2) (by omega), hp, if_neg (show ¬ i = j by omega), if_pos rfl, if_neg (show ¬ k = j by omega), if_neg (show ¬ k = i by omega)]
    have := h.1 k hk0 hk (by omega)
    rw [he] at this
    exact this

section
variable {w : World} {b n : Nat} {F : Nat → Prop} {A : Ar} {r : Raw} {D : DataW Unit}
/-- a free number turned -/
theorem ArRaw.setFreeAt (h : ArRaw w b F n A r D) {g c : Nat} (hv : r.vfr = .slice (some ⟨g, 0, none⟩) A.free.length c) (i : Nat) (z : Int) :
    ArRaw (w.setCell ⟨g, i, none⟩ (.int .i64 z)) b F n { A with free := A.free.set i z } r D := by
  have hg : r.vfr.ownBlock = some g := by rw [hv]; rfl
  have hgb : b ≠ g := fun e => h.fb' (by rw [hg, e])
  have hgm : r.mp ≠ g := fun e => h.fm' (by rw [hg, e])
  refine ⟨h.raw.go (heap_set hgb), h.room, row_other h.ths fun k hk => heap_set fun e => h.vf (by rw [hk, e]) hg, map_other h.map (heap_set hgm), h.num, ?_, h.lim, h.cnt,
    fun t ht => row_other (h.fresh t ht) fun k hk => heap_set fun e => h.apf t ht k hk (by rw [hg, e]), h.apf, h.apt, h.fb, h.fm, h.fv, h.ff, h.ft, fun k hk => by rw [size_set]; exact h.flt k hk⟩
  have hf := h.free
  unfold IntRow at hf ⊢
  rw [hv] at hf ⊢
  have := (World.ownsRow.stored hf i (.int .i64 z)).1
  rw [List.length_set, List.map_set]
  exact this
end

set_option maxRecDepth 20000 in
set_option maxHeartbeats 2000000 in
theorem lswap_any (b n g c i j : Nat) (F : Nat → Prop) (A : Ar) (r : Raw) (D : DataW Unit) (w : World) (h : ArRaw w b F n A r D) (hv : r.vfr = .slice (some ⟨g, 0, none⟩) A.free.length c) (hi : i < A.free.length) (hj : j < A.free.length) :
    Calls Tryz.prog 152 #[.slice (some ⟨g, 0, none⟩) A.free.length c, .int .i64 i, .int .i64 j] w fun e w' => e = .returned (.tuple #[]) ∧ ArRaw w' b F n { A with free := swapL A.free i j } r D ∧ Apart F w w' := by
  have hrow := h.free
  rw [hv] at hrow
  have ci := hrow.get i hi
  have cj := hrow.get j hj
  have zi := World.ownsRow.frozenAt hrow i
  have zj := World.ownsRow.frozenAt hrow j
  have h0 : (0 : Int) ≤ (i : Int) := by omega
  have h1 : (i : Int) < (A.free.length : Int) := by omega
  have h2 : (0 : Int) ≤ (j : Int) := by omega
  have h3 : (j : Int) < (A.free.length : Int) := by omega
  have H1 := h.setFreeAt hv i A.free[j]!
  have H2 := H1.setFreeAt (by show r.vfr = .slice (some ⟨g, 0, none⟩) (A.free.set i A.free[j]!).length c; rw [List.length_set]; exact hv) j A.free[i]!
  have hFg : F g := h.ff g (by rw [hv]; rfl)
  have HP : Hid (Apart F w ((w.setCell ⟨g, i, none⟩ (.int .i64 A.free[j]!)).setCell ⟨g, j, none⟩ (.int .i64 A.free[i]!))) := (Apart.set w _ hFg).trans (Apart.set _ _ hFg) fun k hk => Or.inl hk
  have HH : Hid (ArRaw ((w.setCell ⟨g, i, none⟩ (.int .i64 A.free[j]!)).setCell ⟨g, j, none⟩ (.int .i64 A.free[i]!)) b F n { A with free := swapL A.free i j } r D) := H2
  have hrow1 := H1.free
  rw [show r.vfr = .slice (some ⟨g, 0, none⟩) A.free.length c from hv] at hrow1
  have c3 := hrow1.get j (by show j < (A.free.set i A.free[j]!).length; rw [List.length_set]; exact hj)
  have z3 := World.ownsRow.frozenAt (n := A.free.length) (by have := hrow1; unfold IntRow at this; rw [show (A.free.set i A.free[j]!).length = A.free.length from List.length_set] at this; exact this) j
  generalize (A.free.set i A.free[j]!)[j]! = zz at c3
  clear H1 H2 h hrow hi hj hrow1
  generalize A.free[i]! = x at *
  generalize A.free[j]! = y at *
  generalize A.free.length = ln at *
  go_enter Tryz.func152, Tryz.ntmps152
  go_wp2_with fail
  go_region
  all_goals
    go_wp2_with fail
    go_end0
    exact ⟨rfl, HH.out.drew, HP.out.drew⟩
end Go.Proofs.YtofbcngcblleaaaGreat.A

namespace Go.Proofs.YtofbcngcblleaaaGreat.A
open Go.RowKit Go.Maps

theorem Tryz.mPop (a : Addr) (w : World) : (method 298 157 (.pointer (some a)) "Pop").run Tryz.prog w = .ok (153, .pointer (some a)) w := by kernel_rfl
theorem Tryz.mSwap (a : Addr) (w : World) : (method 298 157 (.pointer (some a)) "Swap").run Tryz.prog w = (do let v ← loadVar 96 a; pure (152, v) : Sem (FuncId × Value)).run Tryz.prog w := by kernel_rfl
theorem Tryz.mSwap' (a : Addr) (v : Value) (w : World) (h : w.cell? a = some v) : (method 298 157 (.pointer (some a)) "Swap").run Tryz.prog w = .ok (152, v) w := by
  rw [Tryz.mSwap]
  have := Tryz.ldFree a v w h
  simp [go_sem, h]
theorem IntRow.cutTo {w : World} {g n c : Nat} {l : List Int} (h : IntRow w (.slice (some ⟨g, 0, none⟩) n c) l) (m : Nat) (hm : m ≤ l.length) : IntRow w (.slice (some ⟨g, 0, none⟩) m c) (l.take m) := by
  rcases h.2 with ⟨h1, _⟩ | ⟨g', cap, cur, hv, hB, hg, h1, h2, h3, h4⟩
  · simp at h1
  · simp only [Value.slice.injEq, Option.some.injEq, Addr.mk.injEq] at hv
    obtain ⟨⟨rfl, _, _⟩, _, rfl⟩ := hv
    have hl : (l.take m).length = m := by rw [List.length_take]; omega
    refine ⟨by simp, Or.inr ⟨g, c, cur, by rw [hl], hB, hg, by rw [hl]; omega, h2, h3, ?_⟩⟩
    rw [hl, List.map_take, ← h4, List.take_take]
    congr 1
    omega

set_option maxRecDepth 20000 in
set_option maxHeartbeats 2000000 in
theorem lpop_any (b n g c m : Nat) (F : Nat → Prop) (A : Ar) (r : Raw) (D : DataW Unit) (w : World) (h : ArRaw w b F n A r D) (hv : r.vfr = .slice (some ⟨g, 0, none⟩) (m + 1) c) (hm : A.free.length = m + 1) (hb : m < 10000000) (hc : m + 1 ≤ c) :
    Calls Tryz.prog 153 #[.pointer (some ⟨b, 3, none⟩)] w fun e w' => e = .returned (.iface 3 (.int .i64 A.free[m]!)) ∧ ArRaw w' b F n { A with free := A.free.take m } { r with vfr := .slice (some ⟨g, 0, none⟩) m c } D ∧ Apart F w w' := by
  have hrow := h.free
  rw [hv] at hrow
  have c3 := h.raw.at 3 (by omega)
  rw [Raw.c3, hv] at c3
  have z3 := h.raw.frozen 3
  have cm := hrow.get m (by omega)
  have hg : r.vfr.ownBlock = some g := by rw [hv]; rfl
  have H1 := h.setFree (F' := F) (w1 := w) (v := .slice (some ⟨g, 0, none⟩) m c) (hrow.cutTo m (by omega)) (fun _ _ _ => rfl) (fun k hk => Or.inl (by rw [hg]; exact hk)) (fun _ h => h) (fun k hk => h.ff k (by rw [hg]; exact hk)) h.flt
  have hF := h.fb
  have k0 : (0 : Int) ≤ (m : Int) := by omega
  have k1 : (m : Int) < ((m + 1 : Nat) : Int) := by omega
  have k2 : (m : Int) ≤ (c : Int) := by omega
  have hw1 : IntKind.i64.wrap (((m + 1 : Nat) : Int) - 1) = (m : Int) := by rw [IntKind.wrap_i64]; omega
  generalize A.free[m]! = x at *
  clear hrow h hg hv hm
  go_enter Tryz.func153, Tryz.ntmps153
  go_wp2_with fail
  go_ret
  exact ⟨rfl, H1, Apart.set _ _ hF⟩

theorem less_raw (b n g c i j : Nat) (F : Nat → Prop) (A : Ar) (r : Raw) (D : DataW Unit) (w : World) (h : ArRaw w b F n A r D) (hv : r.vfr = .slice (some ⟨g, 0, none⟩) A.free.length c) (hi : i < A.free.length) (hj : j < A.free.length) :
    Calls Tryz.prog 151 #[.slice (some ⟨g, 0, none⟩) A.free.length c, .int .i64 i, .int .i64 j] w fun e w' => e = .returned (.bool (decide (A.free[i]! < A.free[j]!))) ∧ ArRaw w' b F n A r D ∧ Apart F w w' := by
  have hrow := h.free
  rw [hv] at hrow
  refine (less_any g A.free.length c i j A.free w hrow hi hj).mono ?_
  rintro e w' ⟨rfl, q, rfl⟩
  exact ⟨rfl, h.drewN q, (Apart.refl F w).drewN q⟩
theorem free_cell {w : World} {b n g c : Nat} {F : Nat → Prop} {A : Ar} {r : Raw} {D : DataW Unit} (h : ArRaw w b F n A r D) (hv : r.vfr = .slice (some ⟨g, 0, none⟩) A.free.length c) : w.cell? ⟨b, 3, none⟩ = some (.slice (some ⟨g, 0, none⟩) A.free.length c) := by
  have c3 := h.raw.at 3 (by omega)
  rw [Raw.c3, hv] at c3
  exact c3

/-- between two steps down -/
def DownSt (w : World) (b n nn : Nat) (F : Nat → Prop) (A : Ar) (r : Raw) (D : DataW Unit) (L : List Int) (i : Nat) (w' : World) : Prop :=
  ∃ L' : List Int, ArRaw w' b F n { A with free := L' } r D ∧ L'.Perm L ∧ HeapEx L' nn i ∧ (∀ k, nn ≤ k → L'[k]! = L[k]!) ∧ Apart F w w'

def DownOut (w : World) (b n nn : Nat) (F : Nat → Prop) (A : Ar) (r : Raw) (D : DataW Unit) (e : Ending) (w' : World) : Prop :=
  ∃ (bb : Bool) (L' : List Int), e = .returned (.bool bb) ∧ ArRaw w' b F n { A with free := L' } r D ∧ L'.Perm A.free ∧ Heap L' nn ∧ (∀ k, nn ≤ k → L'[k]! = A.free[k]!) ∧ Apart F w w'

set_option maxRecDepth 20000 in
set_option maxHeartbeats 4000000 in
theorem down_any (b n nn g c : Nat) (F : Nat → Prop) (A : Ar) (r : Raw) (D : DataW Unit) (w : World) (h : ArRaw w b F n A r D) (hv : r.vfr = .slice (some ⟨g, 0, none⟩) A.free.length c) (hnn : nn ≤ A.free.length) (hb : A.free.length < 1000000) (hH : HeapEx A.free nn 0) :
    Calls Tryz.prog 130 #[.iface 157 (.pointer (some ⟨b, 3, none⟩)), .int .i64 0, .int .i64 nn] w fun e w' => DownOut w b n nn F A r D e w' := by
  have HST : Hid (DownSt w b n nn F A r D A.free 0 w) := ⟨A.free, h, List.Perm.refl _, hH, fun _ _ => rfl, Apart.refl _ _⟩
  have HV : Hid (r.vfr = .slice (some ⟨g, 0, none⟩) A.free.length c) := hv
  obtain ⟨ln, hln⟩ : ∃ x, x = A.free.length := ⟨_, rfl⟩
  rw [← hln] at hnn hb
  have HLN : Hid (ln = A.free.length) := hln
  clear h hv hH hln
  go_enter Tryz.func130, Tryz.ntmps130
  go_wp2_with fail
  go_loopg [7] ln (fun g' s7 wr => ∃ i : Nat, i + g' = ln ∧ s7 = .int .i64 i ∧ DownSt w b n nn F A r D A.free i wr)
  case atStart => exact ⟨0, by omega, rfl, HST.out⟩
  case round =>
    obtain ⟨i, hi', rfl, L', hr, hp, hx, hs, P⟩ := hrel
    have HI : Hid (i + gk = ln) := hi'
    have hin : i ≤ ln := by omega
    have hlen : L'.length = ln := by rw [hp.length_eq, HLN.out]
    have HX : Hid (HeapEx L' nn i ∧ L'.length = ln) := ⟨hx, hlen⟩
    have HP : Hid (L'.Perm A.free ∧ (∀ k, nn ≤ k → L'[k]! = A.free[k]!) ∧ Apart F w wr) := ⟨hp, hs, P⟩
    have HR : Hid (ArRaw wr b F n { A with free := L' } r D) := hr
    have hw1 : IntKind.i64.wrap (2 * (i : Int)) = ((2 * i : Nat) : Int) := by rw [IntKind.wrap_i64]; omega
    have hw2 : IntKind.i64.wrap (((2 * i : Nat) : Int) + 1) = ((2 * i + 1 : Nat) : Int) := by rw [IntKind.wrap_i64]; omega
    clear hi' hx hp hs P HST
    by_cases hc : nn ≤ 2 * i + 1
    · have hc1 : (nn : Int) ≤ ((2 * i + 1 : Nat) : Int) := by omega
      clear hr
      go_wp2_with fail
      go_ret
      exact ⟨_, L', rfl, HR.out, HP.out.1, fun k h1 h2 => HX.out.1.1 k h1 h2 (by omega), HP.out.2.1, HP.out.2.2⟩
    · have hc1 : ¬ (nn : Int) ≤ ((2 * i + 1 : Nat) : Int) := by omega
      have hc2 : ¬ ((2 * i + 1 : Nat) : Int) < 0 := by omega
      have hw3 : IntKind.i64.wrap (((2 * i + 1 : Nat) : Int) + 1) = ((2 * i + 2 : Nat) : Int) := by rw [IntKind.wrap_i64]; omega
      have hv' : r.vfr = .slice (some ⟨g, 0, none⟩) L'.length c := by rw [hlen, HLN.out]; exact HV.out
      have hml := fun W (hW : ArRaw W b F n { A with free := L' } r D) => Tryz.mLess' ⟨b, 3, none⟩ _ W (free_cell hW hv')
      have hms := fun W (hW : ArRaw W b F n { A with free := L' } r D) => Tryz.mSwap' ⟨b, 3, none⟩ _ W (free_cell hW hv')
      have hless := fun W (hW : ArRaw W b F n { A with free := L' } r D) (a a' : Nat) (ha : a < ln) (ha' : a' < ln) => less_raw b n g c a a' F { A with free := L' } r D W hW hv' (by show a < L'.length; omega) (by show a' < L'.length; omega)
      have hswp := fun W (hW : ArRaw W b F n { A with free := L' } r D) (a a' : Nat) (ha : a < ln) (ha' : a' < ln) => lswap_any b n g c a a' F { A with free := L' } r D W hW hv' (by show a < L'.length; omega) (by show a' < L'.length; omega)
      rw [show ({ A with free := L' } : Ar).free.length = ln from hlen] at hml hms hless hswp
      have HLE : Hid _ := hless
      have HSW : Hid _ := hswp
      clear hv' hless hswp
      by_cases hd : 2 * i + 2 < nn
      · have hd1 : ((2 * i + 2 : Nat) : Int) < (nn : Int) := by omega
        have hL2 := HLE.out wr hr (2 * i + 2) (2 * i + 1) (by omega) (by omega)
        rw [show ((2 * i + 2 : Nat) : Int) = 2 * (i : Int) + 1 + 1 by omega, show ((2 * i + 1 : Nat) : Int) = 2 * (i : Int) + 1 by omega] at hL2
        cases hdec : decide (L'[2 * i + 2]! < L'[2 * i + 1]!) with
        | true =>
          rw [show (({ A with free := L' } : Ar).free) = L' from rfl, hdec] at hL2
          have hd' := of_decide_eq_true hdec
          have HD : Hid (∀ k, 0 < k → k < nn → (k - 1) / 2 = i → L'[2 * i + 2]! ≤ L'[k]!) := fun k h1 h2 h3 => by
            rcases (show k = 2 * i + 1 ∨ k = 2 * i + 2 by omega) with rfl | rfl
            · omega
            · omega
          clear hdec hd'
          have hm0 := hml wr hr
          go_wp2_with fail
          refine hL2.mono ?_
          rintro e w5 ⟨rfl, hr5, P5⟩
          have HP5 : Hid (Apart F w w5) := HP.out.2.2.trans P5 fun k hk => Or.inl hk
          clear hL2 hm0 P5 hr
          have hL3 := HLE.out w5 hr5 (2 * i + 2) i (by omega) (by omega)
          rw [show ((2 * i + 2 : Nat) : Int) = 2 * (i : Int) + 1 + 1 by omega] at hL3
          have hmq := hml w5 hr5
          cases hdec3 : decide (L'[2 * i + 2]! < L'[i]!) with
          | false =>
            first | rw [hdec3] at hL3 | rw [show (({ A with free := L' } : Ar).free) = L' from rfl, hdec3] at hL3
            have hd3 := of_decide_eq_false hdec3
            have HD3 : Hid (L'[i]! ≤ L'[2 * i + 2]!) := by show L'[i]! ≤ L'[2 * i + 2]!; omega
            clear hdec3 hd3 hml hms
            go_wp2_with fail
            refine hL3.mono ?_
            rintro e w6 ⟨rfl, hr6, P6⟩
            have HR6 : Hid (ArRaw w6 b F n { A with free := L' } r D ∧ Apart F w w6) := ⟨hr6, (HP5.out).trans P6 fun k hk => Or.inl hk⟩
            clear hr6 P6 hL3 hmq
            go_wp2_with fail
            go_ret
            refine ⟨_, L', rfl, HR6.out.1, HP.out.1, fun k h1 h2 => ?_, HP.out.2.1, HR6.out.2⟩
            by_cases e : (k - 1) / 2 = i
            · rw [e]
              exact Int.le_trans HD3.out (HD.out k h1 h2 e)
            · exact HX.out.1.1 k h1 h2 e
          | true =>
            first | rw [hdec3] at hL3 | rw [show (({ A with free := L' } : Ar).free) = L' from rfl, hdec3] at hL3
            have hd3 := of_decide_eq_true hdec3
            have HD3 : Hid (HeapEx (swapL L' i (2 * i + 2)) nn (2 * i + 2)) := heap_down HX.out.1 (by rw [HX.out.2]; exact hnn) (by omega) (by omega) (by omega) hd3 HD.out
            have HS3 : Hid (∀ k, nn ≤ k → (swapL L' i (2 * i + 2))[k]! = A.free[k]!) := fun k hk => by
              rw [← HP.out.2.1 k hk]
              by_cases e : k < L'.length
              · rw [swap_get L' i (2 * i + 2) k e, if_neg (by omega), if_neg (by omega)]
              · rw [List.getElem!_eq_getElem?_getD, List.getElem!_eq_getElem?_getD, List.getElem?_eq_none (by rw [swap_len]; omega), List.getElem?_eq_none (by omega)]
            clear hdec3 hd3 hml
            go_wp2_with fail
            refine hL3.mono ?_
            rintro e w6 ⟨rfl, hr6, P6⟩
            have hms' := hms w6 hr6
            have hsw := HSW.out w6 hr6 i (2 * i + 2) (by omega) (by omega)
            rw [show ((2 * i + 2 : Nat) : Int) = 2 * (i : Int) + 1 + 1 by omega] at hsw
            have HP6 : Hid (Apart F w w6) := (HP5.out).trans P6 fun k hk => Or.inl hk
            clear hms hr6 P6 hL3 hmq
            go_wp2_with fail
            refine hsw.mono ?_
            rintro e w7 ⟨rfl, H7, P7⟩
            have HR7 : Hid (ArRaw w7 b F n { A with free := swapL L' i (2 * i + 2) } r D ∧ Apart F w w7) := ⟨H7, HP6.out.trans P7 fun k hk => Or.inl hk⟩
            clear H7 P7 hsw hms'
            go_wp2_with fail
            go_roundg (ln - (2 * i + 2))
            case measure => have := HI.out; omega
            case rel => exact ⟨2 * i + 2, by omega, by rw [show ((2 * i + 2 : Nat) : Int) = 2 * (i : Int) + 1 + 1 by omega], swapL L' i (2 * i + 2), HR7.out.1, (swap_mem L' i (2 * i + 2) (by omega) (by omega)).trans HP.out.1, HD3.out, HS3.out, HR7.out.2⟩

        | false =>
          rw [show (({ A with free := L' } : Ar).free) = L' from rfl, hdec] at hL2
          have hd' := of_decide_eq_false hdec
          have HD : Hid (∀ k, 0 < k → k < nn → (k - 1) / 2 = i → L'[2 * i + 1]! ≤ L'[k]!) := fun k h1 h2 h3 => by
            rcases (show k = 2 * i + 1 ∨ k = 2 * i + 2 by omega) with rfl | rfl
            · omega
            · omega
          clear hdec hd'
          have hm0 := hml wr hr
          go_wp2_with fail
          refine hL2.mono ?_
          rintro e w5 ⟨rfl, hr5, P5⟩
          have HP5 : Hid (Apart F w w5) := HP.out.2.2.trans P5 fun k hk => Or.inl hk
          clear hL2 hm0 P5 hr
          have hL3 := HLE.out w5 hr5 (2 * i + 1) i (by omega) (by omega)
          rw [show ((2 * i + 1 : Nat) : Int) = 2 * (i : Int) + 1 by omega] at hL3
          have hmq := hml w5 hr5
          cases hdec3 : decide (L'[2 * i + 1]! < L'[i]!) with
          | false =>
            first | rw [hdec3] at hL3 | rw [show (({ A with free := L' } : Ar).free) = L' from rfl, hdec3] at hL3
            have hd3 := of_decide_eq_false hdec3
            have HD3 : Hid (L'[i]! ≤ L'[2 * i + 1]!) := by show L'[i]! ≤ L'[2 * i + 1]!; omega
            clear hdec3 hd3 hml hms
            go_wp2_with fail
            refine hL3.mono ?_
            rintro e w6 ⟨rfl, hr6, P6⟩
            have HR6 : Hid (ArRaw w6 b F n { A with free := L' } r D ∧ Apart F w w6) := ⟨hr6, (HP5.out).trans P6 fun k hk => Or.inl hk⟩
            clear hr6 P6 hL3 hmq
            go_wp2_with fail
            go_ret
            refine ⟨_, L', rfl, HR6.out.1, HP.out.1, fun k h1 h2 => ?_, HP.out.2.1, HR6.out.2⟩
            by_cases e : (k - 1) / 2 = i
            · rw [e]
              exact Int.le_trans HD3.out (HD.out k h1 h2 e)
            · exact HX.out.1.1 k h1 h2 e
          | true =>
            first | rw [hdec3] at hL3 | rw [show (({ A with free := L' } : Ar).free) = L' from rfl, hdec3] at hL3
            have hd3 := of_decide_eq_true hdec3
            have HD3 : Hid (HeapEx (swapL L' i (2 * i + 1)) nn (2 * i + 1)) := heap_down HX.out.1 (by rw [HX.out.2]; exact hnn) (by omega) (by omega) (by omega) hd3 HD.out
            have HS3 : Hid (∀ k, nn ≤ k → (swapL L' i (2 * i + 1))[k]! = A.free[k]!) := fun k hk => by
              rw [← HP.out.2.1 k hk]
              by_cases e : k < L'.length
              · rw [swap_get L' i (2 * i + 1) k e, if_neg (by omega), if_neg (by omega)]
              · rw [List.getElem!_eq_getElem?_getD, List.getElem!_eq_getElem?_getD, List.getElem?_eq_none (by rw [swap_len]; omega), List.getElem?_eq_none (by omega)]
            clear hdec3 hd3 hml
            go_wp2_with fail
            refine hL3.mono ?_
            rintro e w6 ⟨rfl, hr6, P6⟩
            have hms' := hms w6 hr6
            have hsw := HSW.out w6 hr6 i (2 * i + 1) (by omega) (by omega)
            rw [show ((2 * i + 1 : Nat) : Int) = 2 * (i : Int) + 1 by omega] at hsw
            have HP6 : Hid (Apart F w w6) := (HP5.out).trans P6 fun k hk => Or.inl hk
            clear hms hr6 P6 hL3 hmq
            go_wp2_with fail
            refine hsw.mono ?_
            rintro e w7 ⟨rfl, H7, P7⟩
            have HR7 : Hid (ArRaw w7 b F n { A with free := swapL L' i (2 * i + 1) } r D ∧ Apart F w w7) := ⟨H7, HP6.out.trans P7 fun k hk => Or.inl hk⟩
            clear H7 P7 hsw hms'
            go_wp2_with fail
            go_roundg (ln - (2 * i + 1))
            case measure => have := HI.out; omega
            case rel => exact ⟨2 * i + 1, by omega, by rw [show ((2 * i + 1 : Nat) : Int) = 2 * (i : Int) + 1 by omega], swapL L' i (2 * i + 1), HR7.out.1, (swap_mem L' i (2 * i + 1) (by omega) (by omega)).trans HP.out.1, HD3.out, HS3.out, HR7.out.2⟩

      · have hd1 : ¬ ((2 * i + 2 : Nat) : Int) < (nn : Int) := by omega
        have HD : Hid (∀ k, 0 < k → k < nn → (k - 1) / 2 = i → L'[2 * i + 1]! ≤ L'[k]!) := fun k h1 h2 h3 => by
          obtain rfl : k = 2 * i + 1 := by omega
          exact Int.le_refl _
        have hL3 := HLE.out wr hr (2 * i + 1) i (by omega) (by omega)
        rw [show ((2 * i + 1 : Nat) : Int) = 2 * (i : Int) + 1 by omega] at hL3
        have hmq := hml wr hr
        cases hdec3 : decide (L'[2 * i + 1]! < L'[i]!) with
        | false =>
          first | rw [hdec3] at hL3 | rw [show (({ A with free := L' } : Ar).free) = L' from rfl, hdec3] at hL3
          have hd3 := of_decide_eq_false hdec3
          have HD3 : Hid (L'[i]! ≤ L'[2 * i + 1]!) := by show L'[i]! ≤ L'[2 * i + 1]!; omega
          clear hdec3 hd3 hml hms
          go_wp2_with fail
          refine hL3.mono ?_
          rintro e w6 ⟨rfl, hr6, P6⟩
          have HR6 : Hid (ArRaw w6 b F n { A with free := L' } r D ∧ Apart F w w6) := ⟨hr6, (HP.out.2.2).trans P6 fun k hk => Or.inl hk⟩
          clear hr6 P6 hL3 hmq
          go_wp2_with fail
          go_ret
          refine ⟨_, L', rfl, HR6.out.1, HP.out.1, fun k h1 h2 => ?_, HP.out.2.1, HR6.out.2⟩
          by_cases e : (k - 1) / 2 = i
          · rw [e]
            exact Int.le_trans HD3.out (HD.out k h1 h2 e)
          · exact HX.out.1.1 k h1 h2 e
        | true =>
          first | rw [hdec3] at hL3 | rw [show (({ A with free := L' } : Ar).free) = L' from rfl, hdec3] at hL3
          have hd3 := of_decide_eq_true hdec3
          have HD3 : Hid (HeapEx (swapL L' i (2 * i + 1)) nn (2 * i + 1)) := heap_down HX.out.1 (by rw [HX.out.2]; exact hnn) (by omega) (by omega) (by omega) hd3 HD.out
          have HS3 : Hid (∀ k, nn ≤ k → (swapL L' i (2 * i + 1))[k]! = A.free[k]!) := fun k hk => by
            rw [← HP.out.2.1 k hk]
            by_cases e : k < L'.length
            · rw [swap_get L' i (2 * i + 1) k e, if_neg (by omega), if_neg (by omega)]
            · rw [List.getElem!_eq_getElem?_getD, List.getElem!_eq_getElem?_getD, List.getElem?_eq_none (by rw [swap_len]; omega), List.getElem?_eq_none (by omega)]
          clear hdec3 hd3 hml
          go_wp2_with fail
          refine hL3.mono ?_
          rintro e w6 ⟨rfl, hr6, P6⟩
          have hms' := hms w6 hr6
          have hsw := HSW.out w6 hr6 i (2 * i + 1) (by omega) (by omega)
          rw [show ((2 * i + 1 : Nat) : Int) = 2 * (i : Int) + 1 by omega] at hsw
          have HP6 : Hid (Apart F w w6) := (HP.out.2.2).trans P6 fun k hk => Or.inl hk
          clear hms hr6 P6 hL3 hmq
          go_wp2_with fail
          refine hsw.mono ?_
          rintro e w7 ⟨rfl, H7, P7⟩
          have HR7 : Hid (ArRaw w7 b F n { A with free := swapL L' i (2 * i + 1) } r D ∧ Apart F w w7) := ⟨H7, HP6.out.trans P7 fun k hk => Or.inl hk⟩
          clear H7 P7 hsw hms'
          go_wp2_with fail
          go_roundg (ln - (2 * i + 1))
          case measure => have := HI.out; omega
          case rel => exact ⟨2 * i + 1, by omega, by rw [show ((2 * i + 1 : Nat) : Int) = 2 * (i : Int) + 1 by omega], swapL L' i (2 * i + 1), HR7.out.1, (swap_mem L' i (2 * i + 1) (by omega) (by omega)).trans HP.out.1, HD3.out, HS3.out, HR7.out.2⟩

end Go.Proofs.YtofbcngcblleaaaGreat.A

namespace Go.Proofs.YtofbcngcblleaaaGreat.A
open Go.RowKit Go.Maps

/-- a heap, but for what may be below its parent at one place -/
def UpOk (L : List Int) (n j : Nat) : Prop := (∀ k, 0 < k → k < n → k ≠ j → L[(k - 1) / 2]! ≤ L[k]!) ∧ (∀ k, 0 < k → k < n → (k - 1) / 2 = j → 0 < j → L[(j - 1) / 2]! ≤ L[k]!)
theorem heap_up {L : List Int} {n i j : Nat} (h : UpOk L n j) (hn : n ≤ L.length) (hj : j < n) (hj0 : 0 < j) (hp : (j - 1) / 2 = i) (hle : L[j]! < L[i]!) : UpOk (swapL L i j) n i := by
  have hi : i < j := by omega
  have g := fun k (hk : k < L.length) => swap_get L i j k hk
  refine ⟨fun k hk0 hk hne => ?_, fun k hk0 hk he hi0 => ?_⟩
  · rw [g k (by omega), g ((k - 1) / 2) (by omega)]
    by_cases e1 : k = j
    · subst e1
      rw [if_pos rfl, hp, if_neg (by omega), if_pos rfl]
      omega
    · rw [if_neg e1, if_neg hne]
      by_cases e2 : (k - 1) / 2 = j
      · rw [if_pos e2]
        have := h.2 k hk0 hk e2 hj0
        rw [hp] at this
        exact this
      · rw [if_neg e2]
        by_cases e3 : (k - 1) / 2 = i
        · rw [if_pos e3]
          have := h.1 k hk0 hk e1
          rw [e3] at this
          omega
        · rw [if_neg e3]
          exact h.1 k hk0 hk e1
  · have hpi := h.1 i hi0 (by omega) (by omega)
    rw [g k (by omega), g ((i - 1) / 2) (by omega), if_neg (show ¬ (i - 1) / 2 = j by omega), if_neg (show ¬ (i - 1) / 2 = i by omega)]
    by_cases e1 : k = j
    · rw [if_pos e1]; exact hpi
    · rw [if_neg e1, if_neg (show ¬ k = i by omega)]
      have := h.1 k hk0 hk e1
      rw [he] at this
      omega
theorem up_done {L : List Int} {n j : Nat} (h : UpOk L n j) (hd : j = 0 ∨ L[(j - 1) / 2]! ≤ L[j]!) : Heap L n := fun k h0 hk => by
  by_cases e : k = j
  · subst e
    rcases hd with h1 | h1
    · omega
    · exact h1
  · exact h.1 k h0 hk e

def UpSt (w : World) (b n : Nat) (F : Nat → Prop) (A : Ar) (r : Raw) (D : DataW Unit) (i : Nat) (w' : World) : Prop :=
  ∃ L' : List Int, ArRaw w' b F n { A with free := L' } r D ∧ L'.Perm A.free ∧ UpOk L' A.free.length i ∧ Apart F w w'
def UpOut (w : World) (b n : Nat) (F : Nat → Prop) (A : Ar) (r : Raw) (D : DataW Unit) (e : Ending) (w' : World) : Prop :=
  ∃ L' : List Int, e = .returned (.tuple #[]) ∧ ArRaw w' b F n { A with free := L' } r D ∧ L'.Perm A.free ∧ Heap L' A.free.length ∧ Apart F w w'

set_option maxRecDepth 20000 in
set_option maxHeartbeats 4000000 in
theorem ups_any (b n g c j : Nat) (F : Nat → Prop) (A : Ar) (r : Raw) (D : DataW Unit) (w : World) (h : ArRaw w b F n A r D) (hv : r.vfr = .slice (some ⟨g, 0, none⟩) A.free.length c) (hj : j < A.free.length) (hb : A.free.length < 1000000) (hH : UpOk A.free A.free.length j) :
    Calls Tryz.prog 129 #[.iface 157 (.pointer (some ⟨b, 3, none⟩)), .int .i64 j] w fun e w' => UpOut w b n F A r D e w' := by
  have HST : Hid (UpSt w b n F A r D j w) := ⟨A.free, h, List.Perm.refl _, hH, Apart.refl _ _⟩
  have HV : Hid (r.vfr = .slice (some ⟨g, 0, none⟩) A.free.length c) := hv
  obtain ⟨ln, hln⟩ : ∃ x, x = A.free.length := ⟨_, rfl⟩
  rw [← hln] at hb hj
  have HLN : Hid (ln = A.free.length) := hln
  clear h hv hH hln
  go_enter Tryz.func129, Tryz.ntmps129
  go_wp2_with fail
  go_loopg [1] j (fun g' s1 wr => s1 = .int .i64 g' ∧ g' ≤ j ∧ UpSt w b n F A r D g' wr)
  case atStart => exact ⟨rfl, Nat.le_refl _, HST.out⟩
  case round =>
    obtain ⟨rfl, hi', L', hr, hp, hx, P⟩ := hrel
    have hgl : gk < ln := by omega
    have hlen : L'.length = ln := by rw [hp.length_eq, HLN.out]
    rw [← HLN.out] at hx
    have HX : Hid (UpOk L' ln gk ∧ L'.length = ln) := ⟨hx, hlen⟩
    have HP : Hid (L'.Perm A.free ∧ Apart F w wr) := ⟨hp, P⟩
    have HR : Hid (ArRaw wr b F n { A with free := L' } r D) := hr
    clear hx hp P HST
    by_cases h0 : gk = 0
    · subst h0
      have hq : Int.tdiv ((0 : Int) - 1) 2 = 0 := by decide
      clear hr
      go_wp2_with fail
      go_end0
      exact ⟨L', rfl, HR.out, HP.out.1, by rw [← HLN.out]; exact up_done HX.out.1 (.inl rfl), HP.out.2⟩
    · obtain ⟨k, hk⟩ : ∃ k, k = (gk - 1) / 2 := ⟨_, rfl⟩
      have hkm : k < gk := by omega
      have hq : Int.tdiv ((gk : Int) - 1) 2 = (k : Int) := by
        rw [hk, show (gk : Int) - 1 = ((gk - 1 : Nat) : Int) by omega]
        rfl
      have hw1 : IntKind.i64.wrap ((gk : Int) - 1) = (gk : Int) - 1 := by rw [IntKind.wrap_i64]; omega
      have hw2 : IntKind.i64.wrap (k : Int) = (k : Int) := by rw [IntKind.wrap_i64]; omega
      have hne : ¬ (k : Int) = (gk : Int) := by omega
      have HK : Hid (k = (gk - 1) / 2) := hk
      clear hk h0
      have hv' : r.vfr = .slice (some ⟨g, 0, none⟩) L'.length c := by rw [hlen, HLN.out]; exact HV.out
      have hml := fun W (hW : ArRaw W b F n { A with free := L' } r D) => Tryz.mLess' ⟨b, 3, none⟩ _ W (free_cell hW hv')
      have hms := fun W (hW : ArRaw W b F n { A with free := L' } r D) => Tryz.mSwap' ⟨b, 3, none⟩ _ W (free_cell hW hv')
      have hless := less_raw b n g c gk k F { A with free := L' } r D wr hr hv' (by show gk < L'.length; omega) (by show k < L'.length; omega)
      have hswp := fun W (hW : ArRaw W b F n { A with free := L' } r D) => lswap_any b n g c k gk F { A with free := L' } r D W hW hv' (by show k < L'.length; omega) (by show gk < L'.length; omega)
      rw [show ({ A with free := L' } : Ar).free.length = ln from hlen] at hml hms hless hswp
      have hm0 := hml wr hr
      have HSW : Hid _ := hswp
      clear hv' hswp hr hml
      cases hdec : decide (L'[gk]! < L'[k]!) with
      | false =>
        first | rw [hdec] at hless | rw [show (({ A with free := L' } : Ar).free) = L' from rfl, hdec] at hless
        have HD : Hid (L'[(gk - 1) / 2]! ≤ L'[gk]!) := by
          have := of_decide_eq_false hdec
          rw [HK.out] at this
          show L'[(gk - 1) / 2]! ≤ L'[gk]!
          omega
        clear hdec hms
        go_wp2_with fail
        refine hless.mono ?_
        rintro e w6 ⟨rfl, hr6, P6⟩
        have HR6 : Hid (ArRaw w6 b F n { A with free := L' } r D ∧ Apart F w w6) := ⟨hr6, HP.out.2.trans P6 fun k hk => Or.inl hk⟩
        clear hr6 P6 hless hm0
        go_wp2_with fail
        go_end0
        exact ⟨L', rfl, HR6.out.1, HP.out.1, by rw [← HLN.out]; exact up_done HX.out.1 (.inr HD.out), HR6.out.2⟩
      | true =>
        first | rw [hdec] at hless | rw [show (({ A with free := L' } : Ar).free) = L' from rfl, hdec] at hless
        have HD : Hid (UpOk (swapL L' k gk) ln k) := heap_up HX.out.1 (by rw [HX.out.2]; omega) (by omega) (by omega) HK.out.symm (of_decide_eq_true hdec)
        clear hdec
        go_wp2_with fail
        refine hless.mono ?_
        rintro e w6 ⟨rfl, hr6, P6⟩
        have hms' := hms w6 hr6
        have hsw := HSW.out w6 hr6
        have HP6 : Hid (Apart F w w6) := HP.out.2.trans P6 fun k hk => Or.inl hk
        clear hms hr6 P6 hless hm0
        go_wp2_with fail
        refine hsw.mono ?_
        rintro e w7 ⟨rfl, H7, P7⟩
        have HR7 : Hid (ArRaw w7 b F n { A with free := swapL L' k gk } r D ∧ Apart F w w7) := ⟨H7, HP6.out.trans P7 fun k hk => Or.inl hk⟩
        clear H7 P7 hsw hms'
        go_wp2_with fail
        go_roundg k
        case measure => omega
        case rel => exact ⟨rfl, by omega, swapL L' k gk, HR7.out.1, (swap_mem L' k gk (by omega) (by omega)).trans HP.out.1, by rw [← HLN.out]; exact HD.out, HR7.out.2⟩

theorem upOk_snoc {L : List Int} {x : Int} (h : Heap L L.length) : UpOk (L ++ [x]) (L.length + 1) L.length := by
  have g : ∀ k, k < L.length → (L ++ [x])[k]! = L[k]! := fun k hk => by
    rw [getElem!_pos (L ++ [x]) k (by simp; omega), getElem!_pos L k hk, List.getElem_append_left hk]
  refine ⟨fun k h0 hk hne => ?_, fun k h0 hk he hp => by omega⟩
  rw [g k (by omega), g ((k - 1) / 2) (by omega)]
  exact h k h0 (by omega)
def PushOut (w : World) (b n : Nat) (F : Nat → Prop) (id : Int) (A : Ar) (r : Raw) (D : DataW Unit) (e : Ending) (w' : World) : Prop :=
  ∃ (L' : List Int) (r' : Raw), e = .returned (.tuple #[]) ∧ ArRaw w' b (More F w w') n { A with free := L' } r' D ∧ r'.vth = r.vth ∧ L'.Perm (id :: A.free) ∧ Heap L' L'.length ∧ Apart F w w'

set_option maxRecDepth 20000 in
set_option maxHeartbeats 4000000 in
theorem pushs_any (b n : Nat) (F : Nat → Prop) (id : Int) (A : Ar) (r : Raw) (D : DataW Unit) (w : World) (h : ArRaw w b F n A r D) (hlf : A.free.length < 900000) (hH : Heap A.free A.free.length) :
    Calls Tryz.prog 115 #[.iface 157 (.pointer (some ⟨b, 3, none⟩)), .iface 3 (.int .i64 id)] w fun e w' => PushOut w b n F id A r D e w' := by
  have hm := fun W => Tryz.mPush ⟨b, 3, none⟩ W
  have hp := lpush_any b n F id A r D w h (by omega)
  have hml := fun W v (hW : W.cell? ⟨b, 3, none⟩ = some v) => Tryz.mLen' ⟨b, 3, none⟩ v W hW
  have HH := upOk_snoc (x := id) hH
  go_enter Tryz.func115, Tryz.ntmps115
  go_wp2_with fail
  refine hp.mono ?_
  rintro e w1 ⟨rfl, ⟨g, c, H1⟩, P1⟩
  have c3 := H1.raw.at 3 (by omega)
  rw [Raw.c3] at c3
  simp only at c3
  have hml' := hml w1 _ c3
  have hup := ups_any b n g c A.free.length _ _ _ _ w1 H1 (by simp) (by simp) (by simp; omega) (by simpa using HH)
  have HP1 : Hid (Apart F w w1 ∧ ∀ k, More F w w1 k → k < w1.heap.size) := ⟨P1, H1.flt⟩

  generalize hln : A.free.length = ln at *
  have hlen := len_any (some ⟨g, 0, none⟩) (ln + 1) c w1
  have hw1 : IntKind.i64.wrap (((ln + 1 : Nat) : Int) - 1) = (ln : Int) := by rw [IntKind.wrap_i64]; omega
  clear hml hp hm HH H1 P1 c3 hH h
  go_wp2_with fail
  refine hlen.mono ?_
  rintro e w1' ⟨rfl, hw⟩
  have hw' := hw.symm
  subst hw'
  clear hlen hw
  go_wp2_with fail
  refine hup.mono ?_
  rintro e w2 ⟨L', rfl, H2, hpm, hhp, P2⟩
  go_wp2_with fail
  go_end0
  have hsz := P2.size
  refine ⟨L', _, rfl, H2.wider (fun k hk => ?_) (fun k hk => ?_), rfl, hpm.trans (List.perm_append_comm.trans (List.Perm.refl _)), ?_, HP1.out.1.trans P2 fun k hk => ?_⟩
  · rcases hk with h1 | h1
    · exact .inl h1
    · exact .inr ⟨h1.1, by omega⟩
  · rcases hk with h1 | h1
    · have := HP1.out.2 k (.inl h1); omega
    · exact h1.2
  · rw [hpm.length_eq]; exact hhp
  · rcases hk with h1 | h1
    · exact .inl h1
    · exact .inr h1
end Go.Proofs.YtofbcngcblleaaaGreat.A

namespace Go.Proofs.YtofbcngcblleaaaGreat.A
open Go.RowKit Go.Maps Go.ChangeMaps Go.WideElems

/-- swept as far as a thing -/
def Ar.swq (A : Ar) (i : Nat) (L : List Int) : Ar := { A with ths := sw A.ths i, free := L }
theorem sw_uniq {l : List Th} (h : Uniq l) (i : Nat) : Uniq (sw l i) := fun a b x y hx hy hk he => by
  rw [sw_get] at hx hy
  cases ha : l[a]? with
  | none => rw [ha] at hx; cases hx
  | some x0 =>
    cases hb : l[b]? with
    | none => rw [hb] at hy; cases hy
    | some y0 =>
      rw [ha, Option.map_some] at hx
      rw [hb, Option.map_some] at hy
      have hx := Option.some.inj hx
      have hy := Option.some.inj hy
      split at hx
      · rw [← hx] at hk; exact absurd rfl hk
      · split at hy
        · rw [← hy] at he
          exact absurd (key_k he) hk
        · subst hx; subst hy
          exact h a b _ _ ha hb hk he

def SweepOut (w : World) (b n : Nat) (F : Nat → Prop) (A : Ar) (L : List Int) (D : DataW Unit) (e : Ending) (w' : World) : Prop :=
  e = .returned (.int .i64 ((fr A.ths A.ths.length).length : Int)) ∧ ∃ (F' : Nat → Prop) (L' : List Int) (r' : Raw) (D' : DataW Unit), (∀ k, F' k → F k ∨ w.heap.size ≤ k) ∧ ArRaw w' b F' n (A.swq A.ths.length L') r' D' ∧ L'.Perm (L ++ fr A.ths A.ths.length) ∧ Heap L' L'.length ∧ size D' + (fr A.ths A.ths.length).length = size D ∧ Apart F w w'
theorem ownsMap_size {w : World} {P : Program} {k : TypeId} {R : Value → Option (DataW Unit × List MemPlace)} {b n : Nat} {D : DataW Unit} (h : w.ownsMap P k R b n D) : w.ownsMap P k R b (size D) D ∧ size D ≤ n := by
  obtain ⟨es, clock, hb, F, hs, rfl⟩ := h
  have e1 : es.size = ((es.toList.map (rg P k R)).foldr DataW.insert []).length := by rw [length_sorted]; simp
  refine ⟨⟨es, clock, hb, F, ?_, rfl⟩, ?_⟩
  · rw [size_eq, ← e1]; exact Nat.le_refl _
  · rw [size_eq, ← e1]; exact hs
theorem NumIs.has {D : DataW Unit} {l : List Th} (h : NumIs D l) {i : Nat} {x : Th} (hx : l[i]? = some x) (hk : x.k ≠ 0) (hf : x.key.Fit) : has D (kl x.key) = true := by
  rw [(h x.key hf hk).1]
  cases hs : spotF l x.key with
  | some j => rfl
  | none => exact absurd rfl (spot_none hs x (List.mem_of_getElem? hx))

set_option maxRecDepth 20000 in
set_option maxHeartbeats 4000000 in
theorem sweepq_any (b n : Nat) (F : Nat → Prop) (A : Ar) (L : List Int) (r : Raw) (D : DataW Unit) (w : World) (h : ArRaw w b F n { A with free := L } r D) (hH : Heap L L.length) (hlen : A.ths.length < 400000) (hpos : 0 < A.ths.length) (hU : Uniq A.ths) (hfit : ∀ x ∈ A.ths, x.k ≠ 0 → x.key.Fit) (hfl : L.length + A.ths.length < 900000) :
    Calls Tryz.prog 93 #[.pointer (some ⟨b, 0, none⟩)] w fun e w' => SweepOut w b n F A L D e w' := by
  have HH0 : Hid (Heap L L.length) := hH
  clear hH
  obtain ⟨g, c, hv⟩ := h.ths.shape' hpos
  have hv : r.vth = .slice (some ⟨g, 0, none⟩) A.ths.length c := hv
  have c1 := h.raw.at 1 (by omega)
  rw [Raw.c1, hv] at c1
  obtain ⟨len, hl⟩ : ∃ n, n = A.ths.length := ⟨_, rfl⟩
  rw [← hl] at hlen hpos hv c1 hfl
  have HL : Hid (len = A.ths.length) := hl
  have HH : Hid (ArRaw w b F n (A.swq 0 L) r D) := by
    show ArRaw w b F n (A.swq 0 L) r D
    unfold Ar.swq
    rw [sw_zero]
    exact h
  have HV : Hid (r.vth = .slice (some ⟨g, 0, none⟩) len c) := hv
  have HU : Hid (Uniq A.ths) := hU
  have HFIT : Hid (∀ x ∈ A.ths, x.k ≠ 0 → x.key.Fit) := hfit
  clear hv hl hU hfit h
  go_enter Tryz.func93, Tryz.ntmps93
  go_wp2_with fail
  go_loopg [3, 13] len (fun gh s3 s13 wr => ∃ (i : Nat) (r' : Raw) (D' : DataW Unit) (F' : Nat → Prop) (L' : List Int), i + gh = len ∧ s3 = .int .i64 ((fr A.ths i).length : Int) ∧ s13 = .int .i64 i ∧ ArRaw wr b F' n (A.swq i L') r' D' ∧ r'.vth = .slice (some ⟨g, 0, none⟩) len c ∧ (L'.Perm (L ++ fr A.ths i) ∧ Heap L' L'.length ∧ size D' + (fr A.ths i).length = size D) ∧ (∀ k, F' k → F k ∨ w.heap.size ≤ k) ∧ Apart F w wr)
  case atStart => exact ⟨0, r, D, F, L, by omega, rfl, rfl, HH.out, HV.out, ⟨by rw [show fr A.ths 0 = [] from rfl, List.append_nil], HH0.out, rfl⟩, fun k hk => Or.inl hk, Apart.refl _ _⟩
  case round =>
    obtain ⟨i, r', D', F', L', hi', rfl, rfl, hr, hfr, hq, hF', P⟩ := hrel
    have HQ : Hid (L'.Perm (L ++ fr A.ths i) ∧ Heap L' L'.length ∧ size D' + (fr A.ths i).length = size D) := hq
    clear hq
    have HI : Hid (i + gk = len) := hi'
    have hin : i ≤ len := by omega
    clear hi' c1
    by_cases hlt : i < len
    · have k0 : (0 : Int) ≤ (i : Int) := by omega
      have k1 : (i : Int) < (len : Int) := by omega
      have hlS : (A.swq i L').ths.length = len := by rw [HL.out]; exact sw_len _ _
      have hx : A.ths[i]? = some A.ths[i]! := by rw [getElem!_pos A.ths i (by rw [← HL.out]; exact hlt)]; exact List.getElem?_eq_getElem _
      have hxS : (A.swq i L').ths[i]? = some A.ths[i]! := sw_now hx
      have hth := hr.ths
      rw [hfr] at hth
      rw [← hlS] at hth
      obtain ⟨d0, d1, d2, d3, d4, d5, d6, d7⟩ := hth.cells hxS
      have hfl2 := fr_len A.ths i
      have HX : Hid (A.ths[i]? = some A.ths[i]!) := hx
      have HXS : Hid ((A.swq i L').ths[i]? = some A.ths[i]!) := hxS
      have HLS : Hid ((A.swq i L').ths.length = len) := hlS
      generalize A.ths[i]! = x at *
      obtain ⟨fl, hfl3⟩ : ∃ n, n = (fr A.ths i).length := ⟨_, rfl⟩
      rw [← hfl3] at hfl2 ⊢
      have HFL : Hid (fl = (fr A.ths i).length) := hfl3
      clear hx hxS hth hlS hfl3
      have hbx : Below wr.heap.size wr (wr.alloc (.cells #[.int .i64 x.k, .int .i64 x.p0, .int .i64 x.p1, .int .i64 x.p2, .int .i64 x.p3, .int .i64 x.lv, .int .i64 x.va, .int .u64 x.mask] 123)) := (Below.refl _ _).alloc (Nat.le_refl _) _
      have HB : Hid _ := hbx
      clear hbx
      cases hg : gone x with
      | false =>
        have hA : A.swq (i + 1) L' = A.swq i L' := by
          unfold Ar.swq
          rw [sw_keep HX.out hg]
        have HA : Hid (A.swq (i + 1) L' = A.swq i L') := hA
        have HF2 : Hid (fr A.ths (i + 1) = fr A.ths i) := fr_keep HX.out hg
        have hc : (x.k != 0) = false ∨ ((x.k != 0) = true ∧ ((x.mask : Int) == 0) = false) := by
          unfold gone at hg
          cases h1 : (x.k != 0) with
          | false => exact Or.inl rfl
          | true =>
            rw [h1, Bool.true_and] at hg
            refine Or.inr ⟨rfl, ?_⟩
            simp only [beq_eq_false_iff_ne] at hg ⊢
            omega
        have HREL : Hid (∃ (i' : Nat) (r0 : Raw) (D0 : DataW Unit) (F0 : Nat → Prop) (L0 : List Int), i' + (gk - 1) = len ∧ Value.int .i64 (fl : Int) = .int .i64 ((fr A.ths i').length : Int) ∧ Value.int .i64 ((i : Int) + 1) = .int .i64 (i' : Int) ∧ ArRaw (wr.alloc (.cells #[.int .i64 x.k, .int .i64 x.p0, .int .i64 x.p1, .int .i64 x.p2, .int .i64 x.p3, .int .i64 x.lv, .int .i64 x.va, .int .u64 x.mask] 123)) b F0 n (A.swq i' L0) r0 D0 ∧ r0.vth = .slice (some ⟨g, 0, none⟩) len c ∧ (L0.Perm (L ++ fr A.ths i') ∧ Heap L0 L0.length ∧ size D0 + (fr A.ths i').length = size D) ∧ (∀ k, F0 k → F k ∨ w.heap.size ≤ k) ∧ Apart F w (wr.alloc (.cells #[.int .i64 x.k, .int .i64 x.p0, .int .i64 x.p1, .int .i64 x.p2, .int .i64 x.p3, .int .i64 x.lv, .int .i64 x.va, .int .u64 x.mask] 123))) :=
          ⟨i + 1, r', D', F', L', by have := HI.out; omega, by rw [HF2.out, HFL.out], by go_num, by rw [HA.out]; exact hr.below HB.out, hfr, by rw [HF2.out]; exact HQ.out, hF', P.trans (Apart.of (F := F) HB.out) fun k hk => Or.inl hk⟩
        clear hg hA
        rcases hc with hk | ⟨hk, hm⟩
        · go_wp2_with fail
          go_roundg (gk - 1)
          case measure => have := HI.out; omega
          case rel => exact HREL.out
        · go_wp2_with fail
          go_roundg (gk - 1)
          case measure => have := HI.out; omega
          case rel => exact HREL.out
      | true =>
        have HG : Hid (gone x = true) := hg
        have hk : ¬ x.k = 0 ∧ x.mask = 0 := by
          unfold gone at hg
          simpa using hg
        have hb1 : (x.k != 0) = true := by simpa using hk.1
        have HK : Hid (x.k ≠ 0 ∧ x.mask = 0 ∧ x.key.Fit) := ⟨hk.1, hk.2, HFIT.out x (List.mem_of_getElem? HX.out) hk.1⟩
        have hb2 : ((x.mask : Int) == 0) = true := by rw [hk.2]; rfl
        clear hg hk
        go_wp2_with fail
        have hX : (wr.alloc (.cells #[.int .i64 x.k, .int .i64 x.p0, .int .i64 x.p1, .int .i64 x.p2, .int .i64 x.p3, .int .i64 x.lv, .int .i64 x.va, .int .u64 x.mask] 123)).heap[wr.heap.size]? = some (.cells #[.int .i64 x.k, .int .i64 x.p0, .int .i64 x.p1, .int .i64 x.p2, .int .i64 x.p3, .int .i64 x.lv, .int .i64 x.va, .int .u64 x.mask] 123 (0, 0)) := heap_alloc_new wr _
        have H1 := hr.below HB.out
        have P1 := P.trans (Apart.of (F := F) HB.out) fun k hk => Or.inl hk
        have hszW : (wr.alloc (.cells #[.int .i64 x.k, .int .i64 x.p0, .int .i64 x.p1, .int .i64 x.p2, .int .i64 x.p3, .int .i64 x.lv, .int .i64 x.va, .int .u64 x.mask] 123)).heap.size = wr.heap.size + 1 := by simp
        clear HB d0 d1 d2 d3 d4 d5 d6 d7
        generalize wr.alloc (.cells #[.int .i64 x.k, .int .i64 x.p0, .int .i64 x.p1, .int .i64 x.p2, .int .i64 x.p3, .int .i64 x.lv, .int .i64 x.va, .int .u64 x.mask] 123) = W1 at *
        obtain ⟨d0, d1, d2, d3, d4, d5, d6, d7⟩ := cells8 hX
        have c2 := H1.raw.at 2 (by omega)
        rw [Raw.c2] at c2
        obtain ⟨w6, hrun, hown6, hturn⟩ := World.ownsMap.drop (w := W1.drew) H1.map thLaw Tryz.underlying95 (key_ky HK.out.2.2) 0
        unfold Ky.val Th.key at hrun
        simp only at hrun
        have HM : Hid (w6.ownsMap Tryz.prog 120 (plainElem Tryz.prog 3) r'.mp n (D'.del (kl x.key)) ∧ W1.drew.mapTurned w6 r'.mp) := ⟨hown6, hturn⟩
        clear hX hown6 hturn
        go_cut [] from 27 to 32 (fun wc => wc = w6)
        case first =>
          go_region
          all_goals
            go_wp2_with fail
            go_meet
            case rel => exact rfl
        case rest =>
        subst hcut
        clear hrun c2 d0 d1 d2 d3 d4 d5 d6 d7
        have hgr := grown_of_turned HM.out.2
        have hsz := size_of_turned HM.out.2
        have hlk : ∀ k, F' k → k ≠ r'.mp → wc.heap[k]? = W1.heap[k]? := fun k hk hne => hgr.block k (H1.flt k hk) (fun e => hne (Option.some.inj e))
        have hR := H1.raw.go (hlk b H1.fb H1.mb.symm)
        have c1 := hR.at 1 (by omega)
        rw [Raw.c1, hfr] at c1
        have hv' : r'.vth = .slice (some ⟨g, 0, none⟩) (A.swq i L').ths.length c := by rw [HLS.out]; exact hfr
        have hth : ThRow wc 0 r'.vth (A.swq i L').ths := row_other H1.ths fun k hk => hlk k (H1.fv k hk) (fun e => H1.vm (by rw [← e]; exact hk))
        rw [hv'] at hth
        obtain ⟨d0, d1, d2, d3, d4, d5, d6, d7⟩ := hth.cells HXS.out
        have z0 := hth.frozenAt (i * 8)
        have z1 := hth.frozenAt (i * 8 + 1)
        have z2 := hth.frozenAt (i * 8 + 2)
        have z3 := hth.frozenAt (i * 8 + 3)
        have z4 := hth.frozenAt (i * 8 + 4)
        have z5 := hth.frozenAt (i * 8 + 5)
        have z6 := hth.frozenAt (i * 8 + 6)
        have z7 := hth.frozenAt (i * 8 + 7)
        obtain ⟨HU1, PU1⟩ := H1.drew.unlay (sw_uniq HU.out i) hv' HXS.out HK.out.1 HK.out.2.2 HM.out.1 HM.out.2
        have hA : ∀ l : List Int, ({ ({ A.swq i L' with ths := (A.swq i L').ths.set i noTh } : Ar) with free := l } : Ar) = A.swq (i + 1) l := fun l => by
          unfold Ar.swq
          rw [sw_gone HX.out HG.out]
        have HSZ : Hid (size (D'.del (kl x.key)) + (fr A.ths (i + 1)).length = size D) := by
          have e1 := size_del (k := kl x.key) (H1.map.tidy thLaw)
          rw [if_pos (H1.num.has HXS.out HK.out.1 HK.out.2.2)] at e1
          have e2 := HQ.out.2.2
          show size (D'.del (kl x.key)) + (fr A.ths (i + 1)).length = size D
          rw [fr_gone HX.out HG.out, List.length_append, List.length_singleton]
          omega
        have c9 := pushs_any b n F' ((i : Int) + 2) _ r' _ _ HU1 (by
          show L'.length < 900000
          rw [HQ.out.1.length_eq, List.length_append, ← HFL.out]
          omega) HQ.out.2.1
        have HP : Hid (Apart F w (set8At wc g (i * 8) noTh)) := (P1.drew).trans PU1 fun k hk => by
          rcases hF' k hk with h1 | h1
          · exact Or.inl h1
          · exact Or.inr ⟨h1, H1.flt k hk⟩
        have HFLT : Hid (∀ k, F' k → k < (set8At wc g (i * 8) noTh).heap.size) := HU1.flt
        clear HU1 PU1 hth hR hlk hgr H1 hr P1
        go_wp2_with fail
        refine c9.mono ?_
        rintro e w9 ⟨L9, r9, rfl, H9, hv9, hp9, hh9, P9⟩
        rw [hA] at H9
        have HP9 : Hid (L9.Perm (L ++ fr A.ths (i + 1)) ∧ Heap L9 L9.length) := ⟨by
          rw [fr_gone HX.out HG.out, ← List.append_assoc]
          exact hp9.trans ((List.Perm.cons _ HQ.out.1).trans (List.perm_append_singleton _ _).symm), hh9⟩
        clear hp9 hh9 hA
        go_wp2_with fail
        go_roundg (gk - 1)
        case measure => have := HI.out; omega
        case rel =>
          have h1 := HP.out.size
          have h2 := P9.size
          refine ⟨i + 1, r9, _, _, L9, by have := HI.out; omega, ?_, by go_num, H9, by rw [hv9]; exact hfr, ⟨HP9.out.1, HP9.out.2, HSZ.out⟩, fun k hk => ?_, HP.out.trans P9 fun k hk => ?_⟩
          · rw [fr_gone HX.out HG.out, List.length_append, ← HFL.out]
            go_num
          · rcases hk with h | h
            · exact hF' k h
            · exact Or.inr (by omega)
          · rcases hF' k hk with h | h
            · exact Or.inl h
            · exact Or.inr ⟨h, HFLT.out k hk⟩
    · have k1 : ¬ (i : Int) < (len : Int) := by omega
      obtain rfl : i = len := by omega
      go_wp2_with fail
      go_ret
      have e := HL.out
      subst e
      exact ⟨rfl, F', L', r', D', hF', hr, HQ.out.1, HQ.out.2.1, HQ.out.2.2, P⟩
end Go.Proofs.YtofbcngcblleaaaGreat.A
