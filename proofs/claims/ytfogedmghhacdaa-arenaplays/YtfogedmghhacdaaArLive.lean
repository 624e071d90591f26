/- An arena in memory, whatever numbers are free: what holds between calls. -/
import Derived.Test.YtfogedmghhacdaaArSweepG
import Derived.Test.YtfogedmghhacdaaArLayG
namespace Go.Proofs.Ytfogedmghhacdaa.A
open Go.RowKit Go.Maps

/-- the numbers of those that are such -/
def selFrom (p : Th → Bool) : Nat → List Th → List Int
  | _, [] => []
  | o, x :: r => if p x then ((o : Int) + 2) :: selFrom p (o + 1) r else selFrom p (o + 1) r
theorem sel_append (p : Th → Bool) : ∀ (o : Nat) (l m : List Th), selFrom p o (l ++ m) = selFrom p o l ++ selFrom p (o + l.length) m
  | o, [], m => by simp [selFrom]
  | o, x :: r, m => by
    have ih := sel_append p (o + 1) r m
    have e : o + 1 + r.length = o + (x :: r).length := by simp; omega
    rw [e] at ih
    simp only [List.cons_append, selFrom]
    split
    · rw [ih]; rfl
    · exact ih
theorem sel_length (p : Th → Bool) : ∀ (o : Nat) (l : List Th), (selFrom p o l).length = l.countP p
  | o, [] => rfl
  | o, x :: r => by
    have ih := sel_length p (o + 1) r
    simp only [selFrom]
    by_cases h : p x = true
    · rw [if_pos h, List.length_cons, ih, List.countP_cons_of_pos h]
    · rw [if_neg h, ih, List.countP_cons_of_neg h]
theorem mem_sel {p : Th → Bool} {id : Int} : ∀ {o : Nat} {l : List Th}, id ∈ selFrom p o l ↔ ∃ (j : Nat) (x : Th), l[j]? = some x ∧ p x = true ∧ id = ((o + j : Nat) : Int) + 2
  | o, [] => by simp [selFrom]
  | o, x :: r => by
    have ih := mem_sel (p := p) (id := id) (o := o + 1) (l := r)
    have key : (∃ (j : Nat) (y : Th), (x :: r)[j]? = some y ∧ p y = true ∧ id = ((o + j : Nat) : Int) + 2) ↔ (p x = true ∧ id = (o : Int) + 2) ∨ id ∈ selFrom p (o + 1) r := by
      rw [ih]
      constructor
      · rintro ⟨j, y, h1, h2, h3⟩
        cases j with
        | zero => simp at h1; subst h1; exact .inl ⟨h2, by simpa using h3⟩
        | succ j => exact .inr ⟨j, y, by simpa using h1, h2, by rw [h3]; congr 2; omega⟩
      · rintro (⟨h1, h2⟩ | ⟨j, y, h1, h2, h3⟩)
        · exact ⟨0, x, rfl, h1, by simpa using h2⟩
        · exact ⟨j + 1, y, by simpa using h1, h2, by rw [h3]; congr 2; omega⟩
    rw [key]
    simp only [selFrom]
    by_cases h : p x = true
    · rw [if_pos h, List.mem_cons]; simp [h]
    · rw [if_neg h]; simp [h]
theorem sel_first {p : Th → Bool} {x : Th} (hx : p x = false) : ∀ {o : Nat} {l : List Th} {i : Nat}, l.findIdx? p = some i → selFrom p o l = (((o + i : Nat) : Int) + 2) :: selFrom p o (l.set i x)
  | o, [], i, h => by simp at h
  | o, y :: r, i, h => by
    rw [List.findIdx?_cons] at h
    by_cases hy : p y = true
    · rw [if_pos hy] at h
      obtain rfl := Option.some.inj h
      simp [selFrom, hy, hx]
    · rw [if_neg hy] at h
      cases hr : r.findIdx? p with
      | none => rw [hr] at h; simp at h
      | some k =>
        rw [hr] at h
        obtain rfl := Option.some.inj h
        have ih := sel_first (p := p) hx (o := o + 1) hr
        simp only [List.set_cons_succ, selFrom, if_neg hy]
        rw [ih]
        congr 3
        omega
theorem sel_none {p : Th → Bool} {o : Nat} {l : List Th} (h : l.findIdx? p = none) : selFrom p o l = [] := by
  cases hs : selFrom p o l with
  | nil => rfl
  | cons a r =>
    have : a ∈ selFrom p o l := by rw [hs]; simp
    obtain ⟨j, x, h1, h2, _⟩ := mem_sel.1 this
    rw [List.findIdx?_eq_none_iff] at h
    rw [h x (List.mem_of_getElem? h1)] at h2
    cases h2
theorem sel_map {p p' q : Th → Bool} {f : Th → Th} (h : ∀ x, p' (f x) = (p x || q x)) (hd : ∀ x, p x = true → q x = false) : ∀ (o : Nat) (l : List Th), (selFrom p' o (l.map f)).Perm (selFrom p o l ++ selFrom q o l)
  | o, [] => by simp [selFrom]
  | o, x :: r => by
    have ih := sel_map h hd (o + 1) r
    have hx := h x
    have hdx := hd x
    simp only [List.map_cons, selFrom]
    cases hp : p x with
    | true =>
      rw [hp, hdx hp] at hx
      rw [hx, hdx hp]
      exact List.Perm.cons _ ih
    | false =>
      cases hq : q x with
      | true =>
        rw [hp, hq] at hx
        rw [hx]
        exact (List.Perm.cons _ ih).trans List.perm_middle.symm
      | false =>
        rw [hp, hq] at hx
        rw [hx]
        exact ih
theorem sel_congr {p : Th → Bool} : ∀ (o : Nat) (l m : List Th), l.length = m.length → (∀ (j : Nat) x y, l[j]? = some x → m[j]? = some y → p x = p y) → selFrom p o l = selFrom p o m
  | o, [], [], _, _ => rfl
  | o, [], y :: m, h, _ => by simp at h
  | o, x :: l, [], h, _ => by simp at h
  | o, x :: l, y :: m, h, hp => by
    have ih := sel_congr (p := p) (o + 1) l m (by simpa using h) fun j a b ha hb => hp (j + 1) a b (by simpa using ha) (by simpa using hb)
    have e := hp 0 x y rfl rfl
    simp only [selFrom, e, ih]
theorem fr_sel (l : List Th) : ∀ i, i ≤ l.length → fr l i = selFrom gone 0 (l.take i)
  | 0, _ => rfl
  | i + 1, h => by
    have ih := fr_sel l i (by omega)
    have hx : l[i]? = some (l[i]'(by omega)) := List.getElem?_eq_getElem _
    rw [List.take_add_one, hx, sel_append, ← ih]
    simp only [Option.toList_some, selFrom, List.length_take, Nat.zero_add]
    cases hg : gone (l[i]'(by omega)) with
    | true => rw [fr_gone hx hg, Nat.min_eq_left (by omega)]; rfl
    | false => rw [fr_keep hx hg]; simp
theorem fr_all (l : List Th) : fr l l.length = selFrom gone 0 l := by rw [fr_sel l l.length (Nat.le_refl _), List.take_length]
def clrT (x : Th) : Th := if gone x then noTh else x
/-- all that is nobody's is no more -/
def swL (l : List Th) : List Th := l.map clrT
theorem sw_all (l : List Th) : sw l l.length = swL l := by
  unfold sw swL clrT
  rw [List.take_length, List.drop_length, List.append_nil]
def isNo (x : Th) : Bool := x.k == 0
def freeIds (l : List Th) : List Int := selFrom isNo 0 l
theorem free_swept (l : List Th) : (freeIds (swL l)).Perm (freeIds l ++ fr l l.length) := by
  rw [fr_all]
  refine sel_map (fun x => ?_) (fun x h => ?_) 0 l
  · unfold isNo clrT gone
    by_cases h1 : x.k = 0
    · simp [h1]
    · by_cases h2 : x.mask = 0
      · simp [h1, h2, noTh]
      · simp [h1, h2]
  · unfold isNo at h
    unfold gone
    simp at h
    simp [h]
theorem free_live (l : List Th) : (freeIds l).length + liveN l = l.length := by
  unfold freeIds liveN
  rw [sel_length]
  induction l with
  | nil => rfl
  | cons x r ih =>
    by_cases h : x.k = 0
    · rw [List.countP_cons_of_pos (by simp [isNo, h]), List.countP_cons_of_neg (by simp [h]), List.length_cons]; omega
    · rw [List.countP_cons_of_neg (by simp [isNo, h]), List.countP_cons_of_pos (by simp [h]), List.length_cons]; omega
theorem live_swept (l : List Th) : liveN (swL l) + (fr l l.length).length = liveN l := by
  have h1 := free_live (swL l)
  have h2 := free_live l
  have h3 := (free_swept l).length_eq
  rw [List.length_append] at h3
  have h4 : (swL l).length = l.length := by simp [swL]
  omega
theorem live_append (l : List Th) (x : Th) (hx : x.k ≠ 0) : liveN (l ++ [x]) = liveN l + 1 := by
  unfold liveN
  rw [List.countP_append, List.countP_cons_of_pos (by simpa using hx)]
  rfl
theorem live_set {l : List Th} {i : Nat} {x y : Th} (h : l[i]? = some x) (e : x.k = y.k) : liveN (l.set i y) = liveN l := by
  have hi := (List.getElem?_eq_some_iff.1 h).1
  have hx := (List.getElem?_eq_some_iff.1 h).2
  have a := free_live (l.set i y)
  have b := free_live l
  have c : freeIds (l.set i y) = freeIds l := sel_congr 0 _ _ (by simp) fun j u v hu hv => by
    rw [List.getElem?_set] at hu
    by_cases ej : i = j
    · subst ej
      rw [if_pos rfl, if_pos hi] at hu
      rw [h] at hv
      obtain rfl := Option.some.inj hu
      obtain rfl := Option.some.inj hv
      simp [isNo, e]
    · rw [if_neg ej] at hu
      rw [hu] at hv
      obtain rfl := Option.some.inj hv
      rfl
  rw [c, List.length_set] at a
  omega
theorem free_set {l : List Th} {i : Nat} {x y : Th} (h : l[i]? = some x) (e : x.k = y.k) : freeIds (l.set i y) = freeIds l := by
  have hi := (List.getElem?_eq_some_iff.1 h).1
  refine sel_congr 0 _ _ (by simp) fun j u v hu hv => ?_
  rw [List.getElem?_set] at hu
  by_cases ej : i = j
  · subst ej
    rw [if_pos rfl, if_pos hi] at hu
    rw [h] at hv
    obtain rfl := Option.some.inj hu
    obtain rfl := Option.some.inj hv
    simp [isNo, e]
  · rw [if_neg ej] at hu
    rw [hu] at hv
    obtain rfl := Option.some.inj hv
    rfl

/-- what every arena keeps, whatever is done to it -/
structure Sound (A : Ar) : Prop where
  free : A.free = []
  room0 : 0 ≤ A.room
  room1 : A.room ≤ 200000
  len : (A.ths.length : Int) ≤ A.room
  mask : ∀ x ∈ A.ths, x.mask < 18446744073709551616
  zero : ∀ x ∈ A.ths, x.k = 0 → x = noTh
  fit : ∀ x ∈ A.ths, x.key.Fit
  lv : ∀ x ∈ A.ths, 0 ≤ x.lv ∧ x.lv ≤ 44
  va : ∀ x ∈ A.ths, Fits x.va
  uniq : Uniq A.ths
  lim : ∀ t, t < 64 → 0 ≤ A.lim t ∧ A.lim t ≤ A.room
  cnt : ∀ t, t < 64 → A.cnt t = (ownN A.ths t : Int)
  fresh : ∀ t, t < 64 → (A.fresh t).Nodup ∧ ∀ id ∈ A.fresh t, 2 ≤ id ∧ ∃ x, A.ths[(id - 2).toNat]? = some x ∧ x.mask.testBit t = true
/-- an arena in block b; F: the blocks that it owns -/
def AtP (w : World) (b : Nat) (F : Nat → Prop) (A : Ar) : Prop :=
  ∃ (L : List Int) (r : Raw) (D : DataW Unit), ArRaw w b F (liveN A.ths) { A with free := L } r D ∧ L.Perm (freeIds A.ths) ∧ Heap L L.length
/-- a call has led from one arena to another -/
def Led (w : World) (b : Nat) (F : Nat → Prop) (A : Ar) (w' : World) : Prop := ∃ F', (∀ k, F' k → F k ∨ w.heap.size ≤ k) ∧ AtP w' b F' A ∧ Apart F w w'
theorem AtP.other {w w' : World} {b : Nat} {F : Nat → Prop} {A : Ar} (h : AtP w b F A) (hs : w.heap.size ≤ w'.heap.size) (hb : ∀ k, F k → w'.heap[k]? = w.heap[k]?) : AtP w' b F A :=
  let ⟨L, r, D, h1, h2⟩ := h
  ⟨L, r, D, h1.other hs hb, h2⟩
theorem AtP.flt {w : World} {b : Nat} {F : Nat → Prop} {A : Ar} (h : AtP w b F A) : ∀ k, F k → k < w.heap.size := let ⟨_, _, _, h1, _⟩ := h; h1.flt
theorem AtP.below {w w' : World} {b : Nat} {F : Nat → Prop} {A : Ar} (h : AtP w b F A) (hb : Below w.heap.size w w') : AtP w' b F A := h.other hb.size fun k hk => hb.block k (h.flt k hk)
theorem AtP.led {w : World} {b : Nat} {F : Nat → Prop} {A : Ar} (h : AtP w b F A) : Led w b F A w := ⟨F, fun _ h => .inl h, h, Apart.refl _ _⟩
theorem AtP.ledB {w w' : World} {b : Nat} {F : Nat → Prop} {A : Ar} (h : AtP w b F A) (hb : Below w.heap.size w w') : Led w b F A w' := ⟨F, fun _ h => .inl h, h.below hb, Apart.of hb⟩
theorem Led.trans {w w1 w2 : World} {b : Nat} {F : Nat → Prop} {A1 A2 : Ar} (h : Led w b F A1 w1) (k : ∀ F1, AtP w1 b F1 A1 → (∀ k, F1 k → F k ∨ w.heap.size ≤ k) → Led w1 b F1 A2 w2) : Led w b F A2 w2 := by
  obtain ⟨F1, h1, h2, h3⟩ := h
  obtain ⟨F2, k1, k2, k3⟩ := k F1 h2 h1
  refine ⟨F2, fun j hj => ?_, k2, h3.trans k3 fun j hj => ?_⟩
  · rcases k1 j hj with e | e
    · exact h1 j e
    · exact .inr (Nat.le_trans h3.size e)
  · rcases h1 j hj with e | e
    · exact .inl e
    · exact .inr ⟨e, h2.flt j hj⟩
theorem Led.drew {w w' : World} {b : Nat} {F : Nat → Prop} {A : Ar} (h : Led w b F A w') : Led w b F A w'.drew :=
  let ⟨F', h1, h2, h3⟩ := h
  ⟨F', h1, h2.other (Nat.le_refl _) fun _ _ => rfl, h3.drew⟩
end Go.Proofs.Ytfogedmghhacdaa.A
