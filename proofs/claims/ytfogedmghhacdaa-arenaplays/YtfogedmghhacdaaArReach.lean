/- What is kept: all of a tenant's own squares that can be reached. -/
import Derived.Test.YtfogedmghhacdaaArView
namespace Go.Proofs.Ytfogedmghhacdaa.A
open Go.RowKit Go.Maps

/-- what a thing is made of, or speaks of -/
def refsV (f : Ky × Int × Int) : List Int := if f.1.k = 1 then [f.1.p0, f.1.p1, f.1.p2, f.1.p3] else [f.1.p0, f.2.2]
def partsT (x : Th) : List Int := [x.p0, x.p1, x.p2, x.p3]
/-- what can be reached from some numbers, over own squares -/
inductive Rch (V : Int → Option (Ky × Int × Int)) (rs : List Int) : Int → Prop
  | root {id : Int} {f : Ky × Int × Int} : id ∈ rs → V id = some f → f.1.k = 1 → Rch V rs id
  | part {id r : Int} {f g : Ky × Int × Int} : Rch V rs id → V id = some f → r ∈ refsV f → V r = some g → g.1.k = 1 → Rch V rs r
theorem Rch.own {V : Int → Option (Ky × Int × Int)} {rs : List Int} {id : Int} (h : Rch V rs id) : ∃ f, V id = some f ∧ f.1.k = 1 := by
  cases h with
  | root _ h1 h2 => exact ⟨_, h1, h2⟩
  | part _ _ _ h1 h2 => exact ⟨_, h1, h2⟩
theorem Rch.mono {V : Int → Option (Ky × Int × Int)} {rs rs' : List Int} (hs : ∀ x ∈ rs, x ∈ rs') {id : Int} (h : Rch V rs id) : Rch V rs' id := by
  induction h with
  | root h1 h2 h3 => exact .root (hs _ h1) h2 h3
  | part _ h2 h3 h4 h5 ih => exact .part ih h2 h3 h4 h5
theorem ownSq_V {l : List Th} {t : Nat} {id : Int} {x : Th} (h : ownSq l t id = some x) : ownV l t id = some x.face ∧ x.face.1.k = 1 ∧ refsV x.face = partsT x := by
  obtain ⟨h1, h2, h3, h4, h5⟩ := ownSq_some h
  refine ⟨ownV_iff.2 ⟨h3, x, h4, h5, rfl⟩, h2, ?_⟩
  unfold refsV
  rw [if_pos (show x.face.1.k = 1 from h2)]
  rfl
theorem ownSq_of {l : List Th} {t : Nat} {id : Int} {f : Ky × Int × Int} (h : ownV l t id = some f) (hk : f.1.k = 1) : ∃ x, ownSq l t id = some x ∧ x.face = f := by
  obtain ⟨h1, x, h2, h3, h4⟩ := ownV_iff.1 h
  refine ⟨x, ?_, h4⟩
  unfold ownSq
  have hk' : x.k = 1 := by rw [← h4] at hk; exact hk
  rw [ownF_iff.2 ⟨h1, h2, h3⟩, Option.filter_some, if_pos (by simpa using hk')]
/-- marked, and all that it is made of, but for G -/
def KC (l : List Th) (t : Nat) (K : List Bool) (G : List Nat) : Prop := ∀ (j : Nat) (x : Th), Mk K j → j ∉ G → ownSq l t ((j : Int) + 2) = some x → ∀ r ∈ partsT x, (ownSq l t r).isSome = true → Mk K (r - 2).toNat
theorem mk_set_iff {K : List Bool} {i j : Nat} (hi : i < K.length) : Mk (K.set i true) j ↔ j = i ∨ Mk K j := by
  unfold Mk
  rw [List.getElem?_set]
  by_cases e : i = j
  · subst e; simp [hi]
  · rw [if_neg e]
    constructor
    · exact .inr
    · rintro (h | h)
      · exact absurd h.symm e
      · exact h
theorem mk_of {K : List Bool} {i : Nat} (hi : i < K.length) (h : K[i]! = true) : Mk K i := by unfold Mk; rw [at_len hi, h]
theorem un_zero {K : List Bool} (h : unN K = 0) {i : Nat} (hi : i < K.length) : Mk K i := by
  refine mk_of hi ?_
  cases hk : K[i]! with
  | true => rfl
  | false => have := un_set hi hk; omega
theorem keepF_kc (l : List Th) (t : Nat) : ∀ (n : Nat) (id : Int) (K : List Bool) (G : List Nat), unN K ≤ n → K.length = l.length → KC l t K G → KC l t (keepF l t n id K) G ∧ ((ownSq l t id).isSome = true → Mk (keepF l t n id K) (id - 2).toNat)
  | 0, id, K, G, hu, hl, hK => ⟨hK, fun ho => by
    obtain ⟨x, hx⟩ := Option.isSome_iff_exists.1 ho
    obtain ⟨_, _, _, h4, _⟩ := ownSq_some hx
    show Mk K _
    exact un_zero (by omega) (by rw [hl]; exact (List.getElem?_eq_some_iff.1 h4).1)⟩
  | n + 1, id, K, G, hu, hl, hK => by
    cases hq : ownSq l t id with
    | none => rw [keep_none hq]; exact ⟨hK, fun h => by cases h⟩
    | some x =>
      obtain ⟨_, _, h3, h4, _⟩ := ownSq_some hq
      have hi : (id - 2).toNat < K.length := by rw [hl]; exact (List.getElem?_eq_some_iff.1 h4).1
      cases hk : K[(id - 2).toNat]! with
      | true => rw [keep_marked hq hk]; exact ⟨hK, fun _ => mk_of hi hk⟩
      | false =>
        rw [keep_go hq hk]
        have hu1 := un_set hi hk
        have hl1 : (K.set (id - 2).toNat true).length = l.length := by rw [List.length_set]; exact hl
        have k1 : KC l t (K.set (id - 2).toNat true) ((id - 2).toNat :: G) := fun j y hj hG hy r hr ho => by
          simp only [List.mem_cons, not_or] at hG
          rcases (mk_set_iff hi).1 hj with e | e
          · exact absurd e hG.1
          · exact mk_set (hK j y e hG.2 hy r hr ho)
        have mi : Mk (K.set (id - 2).toNat true) (id - 2).toNat := (mk_set_iff hi).2 (.inl rfl)
        generalize K.set (id - 2).toNat true = K1 at *
        obtain ⟨k2, m2⟩ := keepF_kc l t n x.p0 K1 _ (by omega) hl1 k1
        have l2 := (keepF_len l t n x.p0 K1).trans hl1
        have u2 := keepF_un l t n x.p0 K1
        obtain ⟨k3, m3⟩ := keepF_kc l t n x.p1 _ _ (by omega) l2 k2
        have l3 := (keepF_len l t n x.p1 (keepF l t n x.p0 K1)).trans l2
        have u3 := keepF_un l t n x.p1 (keepF l t n x.p0 K1)
        obtain ⟨k4, m4⟩ := keepF_kc l t n x.p2 _ _ (by omega) l3 k3
        have l4 := (keepF_len l t n x.p2 (keepF l t n x.p1 (keepF l t n x.p0 K1))).trans l3
        have u4 := keepF_un l t n x.p2 (keepF l t n x.p1 (keepF l t n x.p0 K1))
        obtain ⟨k5, m5⟩ := keepF_kc l t n x.p3 _ _ (by omega) l4 k4
        have mono := fun q K' j => keepF_mono l t n q K' j
        refine ⟨fun j y hj hG hy r hr ho => ?_, fun _ => ?_⟩
        · by_cases e : j = (id - 2).toNat
          · have e2 : ((j : Int) + 2) = id := by omega
            rw [e2, hq] at hy
            obtain rfl := Option.some.inj hy
            simp only [partsT, List.mem_cons, List.not_mem_nil, or_false] at hr
            rcases hr with rfl | rfl | rfl | rfl
            · exact mono _ _ _ (mono _ _ _ (mono _ _ _ (m2 ho)))
            · exact mono _ _ _ (mono _ _ _ (m3 ho))
            · exact mono _ _ _ (m4 ho)
            · exact m5 ho
          · exact k5 j y hj (by simp only [List.mem_cons, not_or]; exact ⟨e, hG⟩) hy r hr ho
        · exact mono _ _ _ (mono _ _ _ (mono _ _ _ (mono _ _ _ mi)))
/-- what is marked can be reached -/
theorem keepF_rch (l : List Th) (t : Nat) (rs : List Int) : ∀ (n : Nat) (id : Int) (K : List Bool), (∀ j, Mk K j → Rch (ownV l t) rs ((j : Int) + 2)) → ((ownSq l t id).isSome = true → Rch (ownV l t) rs id) → K.length = l.length → ∀ j, Mk (keepF l t n id K) j → Rch (ownV l t) rs ((j : Int) + 2)
  | 0, _, _, h, _, _, j, hj => h j hj
  | n + 1, id, K, h, hr, hl, j, hj => by
    cases hq : ownSq l t id with
    | none => rw [keep_none hq] at hj; exact h j hj
    | some x =>
      obtain ⟨_, _, h3, h4, _⟩ := ownSq_some hq
      have hi : (id - 2).toNat < K.length := by rw [hl]; exact (List.getElem?_eq_some_iff.1 h4).1
      cases hk : K[(id - 2).toNat]! with
      | true => rw [keep_marked hq hk] at hj; exact h j hj
      | false =>
        rw [keep_go hq hk] at hj
        have hid := hr (by rw [hq]; rfl)
        obtain ⟨v1, v2, v3⟩ := ownSq_V hq
        have k1 : ∀ j, Mk (K.set (id - 2).toNat true) j → Rch (ownV l t) rs ((j : Int) + 2) := fun j hj => by
          rcases (mk_set_iff hi).1 hj with e | e
          · rw [show ((j : Int) + 2) = id by omega]; exact hid
          · exact h j e
        have hp : ∀ r ∈ partsT x, (ownSq l t r).isSome = true → Rch (ownV l t) rs r := fun r hr' ho => by
          obtain ⟨y, hy⟩ := Option.isSome_iff_exists.1 ho
          obtain ⟨w1, w2, _⟩ := ownSq_V hy
          exact .part hid v1 (by rw [v3]; exact hr') w1 w2
        have hl1 : (K.set (id - 2).toNat true).length = l.length := by rw [List.length_set]; exact hl
        exact keepF_rch l t rs n x.p3 _ (keepF_rch l t rs n x.p2 _ (keepF_rch l t rs n x.p1 _ (keepF_rch l t rs n x.p0 _ k1 (hp _ (by simp [partsT])) hl1) (hp _ (by simp [partsT])) (by rw [keepF_len]; exact hl1)) (hp _ (by simp [partsT])) (by rw [keepF_len, keepF_len]; exact hl1)) (hp _ (by simp [partsT])) (by rw [keepF_len, keepF_len, keepF_len]; exact hl1) j hj
theorem snoc_ind {P : List Int → Prop} (h0 : P []) (hs : ∀ l x, P l → P (l ++ [x])) (l : List Int) : P l := by
  have : ∀ m : List Int, P m.reverse := fun m => by
    induction m with
    | nil => exact h0
    | cons a m ih => rw [List.reverse_cons]; exact hs _ _ ih
  have := this l.reverse
  rw [List.reverse_reverse] at this
  exact this
/-- what is kept is just what can be reached -/
theorem keepAll_iff (l : List Th) (t : Nat) (rs : List Int) (j : Nat) : Mk (keepAll l t rs) j ↔ Rch (ownV l t) rs ((j : Int) + 2) := by
  have main : ∀ (pre : List Int), (KC l t (keepAll l t pre) [] ∧ ∀ id ∈ pre, (ownSq l t id).isSome = true → Mk (keepAll l t pre) (id - 2).toNat) ∧ (∀ j, Mk (keepAll l t pre) j → Rch (ownV l t) pre ((j : Int) + 2)) := fun pre => by
    refine snoc_ind (P := fun pre => (KC l t (keepAll l t pre) [] ∧ ∀ id ∈ pre, (ownSq l t id).isSome = true → Mk (keepAll l t pre) (id - 2).toNat) ∧ (∀ j, Mk (keepAll l t pre) j → Rch (ownV l t) pre ((j : Int) + 2))) ?_ (fun pre id ih => ?_) pre
    · have no : ∀ j, ¬ Mk (keepAll l t []) j := fun j h => by
        unfold Mk keepAll at h
        simp only [List.foldl_nil, List.getElem?_replicate] at h
        split at h
        · cases h
        · cases h
      exact ⟨⟨fun j x hj => absurd hj (no j), fun _ h => by cases h⟩, fun j hj => absurd hj (no j)⟩
    · obtain ⟨⟨h1, h2⟩, h3⟩ := ih
      have hl := keepAll_len l t pre
      rw [keepAll_snoc]
      obtain ⟨g1, g2⟩ := keepF_kc l t l.length id (keepAll l t pre) [] (by have := un_all (keepAll l t pre); omega) hl h1
      refine ⟨⟨g1, fun k hk ho => ?_⟩, keepF_rch l t _ l.length id _ (fun j hj => (h3 j hj).mono fun x hx => by simp [hx]) (fun ho => ?_) hl⟩
      · rcases List.mem_append.1 hk with e | e
        · exact keepF_mono l t _ _ _ _ (h2 k e ho)
        · simp at e; subst e; exact g2 ho
      · obtain ⟨y, hy⟩ := Option.isSome_iff_exists.1 ho
        obtain ⟨w1, w2, _⟩ := ownSq_V hy
        exact .root (by simp) w1 w2
  obtain ⟨⟨m1, m2⟩, m3⟩ := main rs
  refine ⟨m3 j, fun h => ?_⟩
  have all : ∀ id, Rch (ownV l t) rs id → Mk (keepAll l t rs) (id - 2).toNat := fun id hr => by
    induction hr with
    | root h1 h2 h3 =>
      obtain ⟨x, hx, _⟩ := ownSq_of h2 h3
      exact m2 _ h1 (by rw [hx]; rfl)
    | @part id r f g hr h2 h3 h4 h5 ih =>
      obtain ⟨f', hf', hk'⟩ := hr.own
      rw [h2] at hf'
      obtain rfl := Option.some.inj hf'
      obtain ⟨x, hx, hxf⟩ := ownSq_of h2 hk'
      obtain ⟨y, hy, _⟩ := ownSq_of h4 h5
      obtain ⟨_, _, q3, _, _⟩ := ownSq_some hx
      obtain ⟨_, _, v3⟩ := ownSq_V hx
      rw [← hxf, v3] at h3
      exact m1 _ x ih (by simp) (by rw [show (((id - 2).toNat : Nat) : Int) + 2 = id by omega]; exact hx) r h3 (by rw [hy]; rfl)
  have := all _ h
  rw [show (((j : Int) + 2 - 2).toNat) = j by omega] at this
  exact this
end Go.Proofs.Ytfogedmghhacdaa.A
