/- Sweep: what is nobody's is no more. -/
import Derived.Test.YtfogedmghhacdaaArPop
import Derived.Test.YtfogedmghhacdaaArLay
namespace Go.Proofs.Ytfogedmghhacdaa.A
open Go.RowKit Go.Maps Go.ChangeMaps Go.WideElems

/-- nobody's -/
def gone (x : Th) : Bool := x.k != 0 && x.mask == 0
def sw (l : List Th) (i : Nat) : List Th := (l.take i).map (fun x => if gone x then noTh else x) ++ l.drop i
def fr (l : List Th) (i : Nat) : List Int := ((List.range i).filter (fun j => gone l[j]!)).map (fun j : Nat => (j : Int) + 2)
theorem sw_zero (l : List Th) : sw l 0 = l := by simp [sw]
theorem sw_len (l : List Th) (i : Nat) : (sw l i).length = l.length := by simp [sw]; omega
theorem sw_get (l : List Th) (i j : Nat) : (sw l i)[j]? = (l[j]?).map fun x => if j < i ∧ gone x = true then noTh else x := by
  unfold sw
  by_cases h : j < i
  · by_cases hl : j < l.length
    · rw [List.getElem?_append_left (by simp; omega), List.getElem?_map, List.getElem?_take_of_lt h]
      congr 1
      funext x
      simp [h]
    · rw [List.getElem?_eq_none (by simp; omega), List.getElem?_eq_none (by omega)]
      rfl
  · by_cases hl : i ≤ l.length
    · rw [List.getElem?_append_right (by simp; omega), List.getElem?_drop]
      have : i + (j - ((l.take i).map (fun x => if gone x then noTh else x)).length) = j := by simp; omega
      rw [this]
      simp [h]
    · rw [List.getElem?_eq_none (by simp; omega), List.getElem?_eq_none (by omega)]
      rfl
theorem sw_gone {l : List Th} {i : Nat} {x : Th} (hx : l[i]? = some x) (hg : gone x = true) : sw l (i + 1) = (sw l i).set i noTh := by
  have hi : i < l.length := (List.getElem?_eq_some_iff.1 hx).1
  refine List.ext_getElem? fun j => ?_
  rw [List.getElem?_set, sw_get, sw_get, sw_len]
  by_cases e : i = j
  · subst e
    rw [hx, if_pos rfl, if_pos hi, Option.map_some, if_pos ⟨Nat.lt_succ_self i, hg⟩]
  · rw [if_neg e]
    congr 1
    funext y
    have : j < i + 1 ↔ j < i := by omega
    simp only [this]
theorem sw_keep {l : List Th} {i : Nat} {x : Th} (hx : l[i]? = some x) (hg : gone x = false) : sw l (i + 1) = sw l i := by
  refine List.ext_getElem? fun j => ?_
  rw [sw_get, sw_get]
  by_cases e : i = j
  · subst e
    simp [hx, hg]
  · congr 1
    funext y
    have : j < i + 1 ↔ j < i := by omega
    simp only [this]
theorem sw_now {l : List Th} {i : Nat} {x : Th} (hx : l[i]? = some x) : (sw l i)[i]? = some x := by
  rw [sw_get, hx]; simp
theorem fr_gone {l : List Th} {i : Nat} {x : Th} (hx : l[i]? = some x) (hg : gone x = true) : fr l (i + 1) = fr l i ++ [(i : Int) + 2] := by
  have e : l[i]! = x := by rw [List.getElem!_eq_getElem?_getD, hx]; rfl
  unfold fr
  have e2 : [i].filter (fun j => gone l[j]!) = [i] := by rw [List.filter_cons_of_pos (by rw [e]; exact hg)]; rfl
  rw [List.range_succ, List.filter_append, List.map_append, e2]
  rfl
theorem fr_keep {l : List Th} {i : Nat} {x : Th} (hx : l[i]? = some x) (hg : gone x = false) : fr l (i + 1) = fr l i := by
  have e : l[i]! = x := by rw [List.getElem!_eq_getElem?_getD, hx]; rfl
  unfold fr
  have e2 : [i].filter (fun j => gone l[j]!) = [] := by rw [List.filter_cons_of_neg (by rw [e, hg]; decide)]; rfl
  rw [List.range_succ, List.filter_append, List.map_append, e2]
  exact List.append_nil _
theorem fr_lt (l : List Th) (i : Nat) : ∀ x ∈ fr l i, x < (i : Int) + 2 := by
  intro x hx
  unfold fr at hx
  simp only [List.mem_map, List.mem_filter, List.mem_range] at hx
  obtain ⟨j, ⟨h, _⟩, rfl⟩ := hx
  omega
theorem fr_len (l : List Th) (i : Nat) : (fr l i).length ≤ i := by
  unfold fr
  rw [List.length_map]
  refine Nat.le_trans (List.length_filter_le _ _) ?_
  simp

/-- a thing out of the map -/
theorem NumIs.drop {D : DataW Unit} {l : List Th} (h : NumIs D l) (hU : Uniq l) {i : Nat} {x : Th} (hx : l[i]? = some x) (hk : x.k ≠ 0) (hf : x.key.Fit) : NumIs (D.del (kl x.key)) (l.set i noTh) := by
  intro q hq hqk
  obtain ⟨h1, h2⟩ := h q hq hqk
  have hi : i < l.length := (List.getElem?_eq_some_iff.1 hx).1
  have hget : ∀ j, (l.set i noTh)[j]? = if i = j then some noTh else l[j]? := fun j => by
    rw [List.getElem?_set]
    by_cases e : i = j
    · subst e; simp [hi]
    · simp [e]
  have hno : noTh.key ≠ q := fun e => hqk (by rw [← e]; rfl)
  by_cases e : x.key = q
  · subst e
    have : spotF (l.set i noTh) x.key = none := by
      unfold spotF
      rw [List.findIdx?_eq_none_iff]
      intro y hy
      obtain ⟨j, hj⟩ := List.getElem?_of_mem hy
      rw [hget] at hj
      by_cases ej : i = j
      · rw [if_pos ej] at hj
        obtain rfl := Option.some.inj hj
        simp only [decide_eq_false_iff_not]
        exact hno
      · rw [if_neg ej] at hj
        simp only [decide_eq_false_iff_not]
        exact fun ek => ej (hU i j x y hx hj hk ek.symm)
    unfold numF
    rw [this]
    exact ⟨has_del_same, atKey_del_same _⟩
  · have hne : kl q ≠ kl x.key := fun k => e (kl_inj hq hf k).symm
    have : spotF (l.set i noTh) q = spotF l q := by
      unfold spotF
      clear h1 h2 hget hU h
      induction l generalizing i with
      | nil => simp at hx
      | cons y l ih =>
        cases i with
        | zero =>
          simp at hx; subst hx
          rw [List.set_cons_zero, List.findIdx?_cons, List.findIdx?_cons]
          rw [decide_eq_false hno, decide_eq_false e]
        | succ i =>
          rw [List.set_cons_succ, List.findIdx?_cons, List.findIdx?_cons, ih (by simpa using hx) (by simpa using hi)]
    unfold numF at *
    rw [this, has_del_other hne, atKey_del_other hne]
    exact ⟨h1, h2⟩

/-- eight cells of a row turned -/
def set8At (w : World) (g o : Nat) (y : Th) : World := (((((((w.setCell ⟨g, o, none⟩ (.int .i64 y.k)).setCell ⟨g, o + 1, none⟩ (.int .i64 y.p0)).setCell ⟨g, o + 2, none⟩ (.int .i64 y.p1)).setCell ⟨g, o + 3, none⟩ (.int .i64 y.p2)).setCell ⟨g, o + 4, none⟩ (.int .i64 y.p3)).setCell ⟨g, o + 5, none⟩ (.int .i64 y.lv)).setCell ⟨g, o + 6, none⟩ (.int .i64 y.va)).setCell ⟨g, o + 7, none⟩ (.int .u64 y.mask)
theorem set8At_heap {w : World} {g o k : Nat} {y : Th} (h : k ≠ g) : (set8At w g o y).heap[k]? = w.heap[k]? := by
  unfold set8At
  rw [heap_set h, heap_set h, heap_set h, heap_set h, heap_set h, heap_set h, heap_set h, heap_set h]
theorem set8At_size {w : World} {g o : Nat} {y : Th} : (set8At w g o y).heap.size = w.heap.size := by
  unfold set8At
  rw [size_set, size_set, size_set, size_set, size_set, size_set, size_set, size_set]
theorem set8At_apart {F : Nat → Prop} (w : World) {g o : Nat} {y : Th} (h : F g) : Apart F w (set8At w g o y) := by
  unfold set8At
  exact (((((((Apart.set w _ h).trans (Apart.set _ _ h) (fun k hk => Or.inl hk)).trans (Apart.set _ _ h) (fun k hk => Or.inl hk)).trans (Apart.set _ _ h) (fun k hk => Or.inl hk)).trans (Apart.set _ _ h) (fun k hk => Or.inl hk)).trans (Apart.set _ _ h) (fun k hk => Or.inl hk)).trans (Apart.set _ _ h) (fun k hk => Or.inl hk)).trans (Apart.set _ _ h) (fun k hk => Or.inl hk)
theorem thsL_set8 : ∀ (l : List Th) (i : Nat) (y : Th), i < l.length → thsL (l.set i y) = ((((((((thsL l).set (i * 8) (.int .i64 y.k)).set (i * 8 + 1) (.int .i64 y.p0)).set (i * 8 + 2) (.int .i64 y.p1)).set (i * 8 + 3) (.int .i64 y.p2)).set (i * 8 + 4) (.int .i64 y.p3)).set (i * 8 + 5) (.int .i64 y.lv)).set (i * 8 + 6) (.int .i64 y.va)).set (i * 8 + 7) (.int .u64 y.mask)
  | [], i, y, h => by simp at h
  | z :: l, 0, y, h => by simp [thsL, Th.cells]
  | z :: l, i + 1, y, h => by
    have ih := thsL_set8 l i y (by simpa using h)
    have e : ∀ z : Th, ∀ m : List Th, thsL (z :: m) = z.cells ++ thsL m := fun z m => by simp [thsL]
    have e8 : z.cells.length = 8 := by simp [Th.cells]
    rw [List.set_cons_succ, e, e, ih]
    have ad : ∀ (L : List Value) (j : Nat) (v : Value), (z.cells ++ L).set ((i + 1) * 8 + j) v = z.cells ++ L.set (i * 8 + j) v := fun L j v => by
      rw [List.set_append_right _ _ (by rw [e8]; omega)]
      congr 2
      rw [e8]; omega
    have ad0 := fun L v => ad L 0 v
    simp only [Nat.add_zero] at ad0
    rw [ad0, ad, ad, ad, ad, ad, ad, ad]
theorem ThRow.set8 {w : World} {g c i : Nat} {l : List Th} (h : ThRow w 0 (.slice (some ⟨g, 0, none⟩) l.length c) l) (hi : i < l.length) (y : Th) : ThRow (set8At w g (i * 8) y) 0 (.slice (some ⟨g, 0, none⟩) l.length c) (l.set i y) := by
  unfold ThRow
  rw [thsL_set8 l i y hi, List.length_set]
  have s0 := (World.ownsRow.stored h (i * 8) (.int .i64 y.k)).1
  have s1 := (World.ownsRow.stored s0 (i * 8 + 1) (.int .i64 y.p0)).1
  have s2 := (World.ownsRow.stored s1 (i * 8 + 2) (.int .i64 y.p1)).1
  have s3 := (World.ownsRow.stored s2 (i * 8 + 3) (.int .i64 y.p2)).1
  have s4 := (World.ownsRow.stored s3 (i * 8 + 4) (.int .i64 y.p3)).1
  have s5 := (World.ownsRow.stored s4 (i * 8 + 5) (.int .i64 y.lv)).1
  have s6 := (World.ownsRow.stored s5 (i * 8 + 6) (.int .i64 y.va)).1
  exact (World.ownsRow.stored s6 (i * 8 + 7) (.int .u64 y.mask)).1

/-- a thing gone: out of the map, and out of its place -/
theorem ArRaw.unlay {w w1 : World} {b n : Nat} {F : Nat → Prop} {A : Ar} {r : Raw} {D : DataW Unit} (h : ArRaw w b F n A r D) (hU : Uniq A.ths) {g c i : Nat} {x : Th} (hv : r.vth = .slice (some ⟨g, 0, none⟩) A.ths.length c) (hx : A.ths[i]? = some x) (hk : x.k ≠ 0) (hf : x.key.Fit)
    (hm : w1.ownsMap Try.prog 80 (plainElem Try.prog 3) r.mp n (D.del (kl x.key))) (ht : w.mapTurned w1 r.mp) :
    ArRaw (set8At w1 g (i * 8) noTh) b F n { A with ths := A.ths.set i noTh } r (D.del (kl x.key)) ∧ Apart F w (set8At w1 g (i * 8) noTh) := by
  have hg : r.vth.ownBlock = some g := by rw [hv]; rfl
  have hgb : b ≠ g := fun e => h.vb (by rw [hg, e])
  have hgm : r.mp ≠ g := fun e => h.vm (by rw [hg, e])
  have hs := size_of_turned ht
  have hgr := grown_of_turned ht
  have hb1 : ∀ k, F k → k ≠ r.mp → w1.heap[k]? = w.heap[k]? := fun k hk hne => hgr.block k (h.flt k hk) (fun e => hne (Option.some.inj e))
  have hi : i < A.ths.length := (List.getElem?_eq_some_iff.1 hx).1
  have hFg : F g := h.fv g hg
  refine ⟨⟨h.raw.go ((set8At_heap hgb).trans (hb1 b h.fb h.mb.symm)), h.room, ?_, map_other hm (set8At_heap hgm), h.num.drop hU hx hk hf, ?_, h.lim, h.cnt, fun t ht => ?_, h.apf, h.apt, h.fb, h.fm, h.fv, h.ff, h.ft, fun k hk => by rw [set8At_size, hs]; exact h.flt k hk⟩, ?_⟩
  · have h1 : ThRow w1 0 r.vth A.ths := row_other h.ths fun k hk => hb1 k (h.fv k hk) (fun e => h.vm (by rw [← e]; exact hk))
    rw [hv] at h1 ⊢
    exact h1.set8 hi noTh
  · exact row_other h.free fun k hk => (set8At_heap fun e => h.vf hg (by rw [hk, e])).trans (hb1 k (h.ff k hk) (fun e => h.fm' (by rw [← e]; exact hk)))
  · exact row_other (h.fresh t ht) fun k hk => (set8At_heap fun e => h.vt ht hg (by rw [hk, e])).trans (hb1 k (h.ft t ht k hk) (fun e => h.tm ht (by rw [← e]; exact hk)))
  · have a1 : Apart F w w1 := Apart.grown hgr fun k hk => by cases hk; exact h.fm
    exact a1.trans (set8At_apart w1 hFg) fun k hk => Or.inl hk
end Go.Proofs.Ytfogedmghhacdaa.A
