/- What holds of all things of an arena, and of what each tenant sees. -/
import Derived.Test.YtgipjplifndniaaGreatDoorArReach
namespace Go.Proofs.YtgipjplifndniaaGreatDoor.A
open Go.RowKit Go.Maps

def glev (l : List Th) (id : Int) : Option Int := if id = 0 ∨ id = 1 then some 0 else if 2 ≤ id then (match l[(id - 2).toNat]? with | some x => if x.k = 1 then some x.lv else none | none => none) else none
theorem glev_iff {l : List Th} {id a : Int} : glev l id = some a ↔ (id = 0 ∨ id = 1) ∧ a = 0 ∨ 2 ≤ id ∧ ∃ x, l[(id - 2).toNat]? = some x ∧ x.k = 1 ∧ x.lv = a := by
  unfold glev
  by_cases h : id = 0 ∨ id = 1
  · rw [if_pos h]
    constructor
    · intro e; exact .inl ⟨h, (Option.some.inj e).symm⟩
    · rintro (⟨_, e⟩ | ⟨e, _⟩)
      · rw [e]
      · omega
  · rw [if_neg h]
    by_cases h2 : 2 ≤ id
    · rw [if_pos h2]
      constructor
      · intro e
        split at e
        · rename_i x hx
          split at e
          · exact .inr ⟨h2, x, hx, by assumption, Option.some.inj e⟩
          · cases e
        · cases e
      · rintro (⟨e, _⟩ | ⟨_, x, hx, hk, e⟩)
        · exact absurd e h
        · rw [hx]; simp only; rw [if_pos hk, e]
    · rw [if_neg h2]
      constructor
      · intro e; cases e
      · rintro (⟨e, _⟩ | ⟨e, _⟩)
        · exact absurd e h
        · exact absurd e h2
theorem levV_iff {V : Int → Option (Ky × Int × Int)} {id a : Int} : levV V id = some a ↔ (id = 0 ∨ id = 1) ∧ a = 0 ∨ ¬ (id = 0 ∨ id = 1) ∧ ∃ f, V id = some f ∧ f.1.k = 1 ∧ f.2.1 = a := by
  unfold levV
  by_cases h : id = 0 ∨ id = 1
  · rw [if_pos h]
    constructor
    · intro e; exact .inl ⟨h, (Option.some.inj e).symm⟩
    · rintro (⟨_, e⟩ | ⟨e, _⟩)
      · rw [e]
      · exact absurd h e
  · rw [if_neg h]
    constructor
    · intro e
      split at e
      · rename_i f hf
        split at e
        · exact .inr ⟨h, f, hf, by assumption, Option.some.inj e⟩
        · cases e
      · cases e
    · rintro (⟨e, _⟩ | ⟨_, f, hf, hk, e⟩)
      · exact absurd e h
      · rw [hf]; simp only; rw [if_pos hk, e]
theorem level_own {l : List Th} {u : Nat} {id a : Int} (h : levV (ownV l u) id = some a) : (id = 0 ∨ id = 1) ∧ a = 0 ∨ 2 ≤ id ∧ ∃ x, l[(id - 2).toNat]? = some x ∧ x.mask.testBit u = true ∧ x.k = 1 ∧ x.lv = a := by
  rcases levV_iff.1 h with e | ⟨_, f, hf, hk, e⟩
  · exact .inl e
  · obtain ⟨h1, x, h2, h3, h4⟩ := ownV_iff.1 hf
    subst h4
    exact .inr ⟨h1, x, h2, h3, hk, e⟩
theorem level_glev {l : List Th} {u : Nat} {id a : Int} (h : levV (ownV l u) id = some a) : glev l id = some a := by
  rcases level_own h with e | ⟨h1, x, h2, _, h4, h5⟩
  · exact glev_iff.2 (.inl e)
  · exact glev_iff.2 (.inr ⟨h1, x, h2, h4, h5⟩)
structure GL (l : List Th) : Prop where
  sq : ∀ x ∈ l, x.k = 1 → ∀ r ∈ partsT x, glev l r = some (x.lv - 1)
  va : ∀ x ∈ l, x.k = 1 → x.va = 0
  lv : ∀ x ∈ l, x.k ≠ 1 → x.lv = 0
structure Wel (v : Vw) : Prop where
  two : ∀ id f, v.V id = some f → 2 ≤ id
  clo : ∀ id f, v.V id = some f → ∀ r ∈ refsV f, (levV v.V r).isSome = true
  lev : ∀ id f, v.V id = some f → f.1.k = 1 → ∀ r ∈ refsV f, levV v.V r = some (f.2.1 - 1)
  fr : ∀ n id f, v.V id = some f → id ∉ v.fresh.drop n → ∀ r ∈ refsV f, r ∉ v.fresh.drop n
  fo : ∀ id ∈ v.fresh, ∃ f, v.V id = some f
theorem levV_more {v : Vw} {id r : Int} {f : Ky × Int × Int} (hn : v.V id = none) (h : (levV v.V r).isSome = true) : levV (v.more id f).V r = levV v.V r := by
  obtain ⟨a, ha⟩ := Option.isSome_iff_exists.1 h
  rw [ha]
  rcases levV_iff.1 ha with e | ⟨h1, g, hg, hk, e⟩
  · exact levV_iff.2 (.inl e)
  · refine levV_iff.2 (.inr ⟨h1, g, ?_, hk, e⟩)
    show (if r = id then some f else v.V r) = _
    rw [if_neg fun e => by rw [e, hn] at hg; cases hg]
    exact hg
theorem known_ne {v : Vw} {id r : Int} (hid : 2 ≤ id) (hn : v.V id = none) (hr : (levV v.V r).isSome = true) : r ≠ id := fun e => by
  obtain ⟨a, ha⟩ := Option.isSome_iff_exists.1 hr
  rcases levV_iff.1 ha with ⟨e', _⟩ | ⟨_, g, hg, _⟩
  · omega
  · rw [e, hn] at hg; cases hg
theorem Wel.more {v : Vw} (h : Wel v) {id : Int} {f : Ky × Int × Int} (hid : 2 ≤ id) (hn : v.V id = none) (hr : ∀ r ∈ refsV f, (levV v.V r).isSome = true) (hl : f.1.k = 1 → ∀ r ∈ refsV f, levV v.V r = some (f.2.1 - 1)) : Wel (v.more id f) := by
  have get : ∀ k g, (v.more id f).V k = some g → k = id ∧ g = f ∨ k ≠ id ∧ v.V k = some g := fun k g hk => by
    have hk : (if k = id then some f else v.V k) = some g := hk
    by_cases e : k = id
    · rw [if_pos e] at hk; exact .inl ⟨e, (Option.some.inj hk).symm⟩
    · rw [if_neg e] at hk; exact .inr ⟨e, hk⟩
  have hidf : id ∉ v.fresh := fun hm => by obtain ⟨g, hg⟩ := h.fo id hm; rw [hn] at hg; cases hg
  refine ⟨fun k g hk => ?_, fun k g hk r hr' => ?_, fun k g hk h1 r hr' => ?_, fun n k g hk hnf r hr' => ?_, fun k hk => ?_⟩
  · rcases get k g hk with ⟨e, _⟩ | ⟨_, e⟩
    · omega
    · exact h.two k g e
  · rcases get k g hk with ⟨_, e⟩ | ⟨_, e⟩
    · subst e; rw [levV_more hn (hr r hr')]; exact hr r hr'
    · have := h.clo k g e r hr'
      rw [levV_more hn this]; exact this
  · rcases get k g hk with ⟨_, e⟩ | ⟨_, e⟩
    · subst e; rw [levV_more hn (hr r hr')]; exact hl h1 r hr'
    · rw [levV_more hn (h.clo k g e r hr')]; exact h.lev k g e h1 r hr'
  · have hf : (v.more id f).fresh = v.fresh ++ [id] := rfl
    rw [hf] at hnf ⊢
    by_cases hle : n ≤ v.fresh.length
    · rw [List.drop_append_of_le_length hle, List.mem_append, not_or] at hnf ⊢
      rcases get k g hk with ⟨e, _⟩ | ⟨_, e⟩
      · exact absurd (by simpa using e) hnf.2
      · refine ⟨h.fr n k g e hnf.1 r hr', ?_⟩
        simp only [List.mem_singleton]
        exact known_ne hid hn (h.clo k g e r hr')
    · rw [List.drop_eq_nil_of_le (by simp; omega)]
      simp
  · rcases List.mem_append.1 (show k ∈ v.fresh ++ [id] from hk) with e | e
    · obtain ⟨g, hg⟩ := h.fo k e
      refine ⟨g, ?_⟩
      show (if k = id then some f else v.V k) = _
      rw [if_neg (show ¬ k = id from fun e' => hidf (by rw [← e']; exact e))]; exact hg
    · simp at e
      subst e
      exact ⟨f, if_pos rfl⟩
theorem levV_less {v : Vw} {ids f' : List Int} {r : Int} (h : (levV v.V r).isSome = true) (hr : r ∉ ids) : levV (v.less ids f').V r = levV v.V r := by
  obtain ⟨a, ha⟩ := Option.isSome_iff_exists.1 h
  rw [ha]
  rcases levV_iff.1 ha with e | ⟨h1, g, hg, hk, e⟩
  · exact levV_iff.2 (.inl e)
  · refine levV_iff.2 (.inr ⟨h1, g, ?_, hk, e⟩)
    show (if r ∈ ids then none else v.V r) = _
    rw [if_neg hr]; exact hg
theorem Wel.less {v : Vw} (h : Wel v) {ids f' : List Int} (hup : ∀ id f, v.V id = some f → id ∉ ids → ∀ r ∈ refsV f, r ∉ ids)
    (hf : ∀ n id f, v.V id = some f → id ∉ ids → id ∉ f'.drop n → ∀ r ∈ refsV f, r ∉ f'.drop n) (ho : ∀ id ∈ f', id ∉ ids ∧ ∃ f, v.V id = some f) : Wel (v.less ids f') := by
  have get : ∀ k g, (v.less ids f').V k = some g → k ∉ ids ∧ v.V k = some g := fun k g hk => by
    have hk : (if k ∈ ids then none else v.V k) = some g := hk
    by_cases e : k ∈ ids
    · rw [if_pos e] at hk; cases hk
    · rw [if_neg e] at hk; exact ⟨e, hk⟩
  refine ⟨fun k g hk => h.two k g (get k g hk).2, fun k g hk r hr => ?_, fun k g hk h1 r hr => ?_, fun n k g hk hn r hr => hf n k g (get k g hk).2 (get k g hk).1 hn r hr, fun k hk => ?_⟩
  · obtain ⟨e1, e2⟩ := get k g hk
    have := h.clo k g e2 r hr
    rw [levV_less this (hup k g e2 e1 r hr)]; exact this
  · obtain ⟨e1, e2⟩ := get k g hk
    rw [levV_less (h.clo k g e2 r hr) (hup k g e2 e1 r hr)]; exact h.lev k g e2 h1 r hr
  · obtain ⟨e1, g, hg⟩ := ho k hk
    refine ⟨g, ?_⟩
    show (if k ∈ ids then none else v.V k) = _
    rw [if_neg e1]; exact hg
structure Glob (A : Ar) : Prop where
  gl : GL A.ths
  wel : ∀ u, u < 64 → Wel (view A u)
theorem gl_masks {l l' : List Th} (h : GL l) (hb : ∀ (j : Nat) (y : Th), l'[j]? = some y → ∃ x, l[j]? = some x ∧ y.face = x.face) (hf : ∀ (j : Nat) (x : Th), l[j]? = some x → ∃ y, l'[j]? = some y ∧ y.face = x.face) : GL l' := by
  have back : ∀ y ∈ l', ∃ x ∈ l, y.face = x.face := fun y hy => by
    obtain ⟨j, hj⟩ := List.getElem?_of_mem hy
    obtain ⟨x, h1, h2⟩ := hb j y hj
    exact ⟨x, List.mem_of_getElem? h1, h2⟩
  have gl : ∀ id a, glev l id = some a → glev l' id = some a := fun id a ha => by
    rcases glev_iff.1 ha with e | ⟨h1, x, h2, h3, h4⟩
    · exact glev_iff.2 (.inl e)
    · obtain ⟨y, g1, g2⟩ := hf _ x h2
      simp only [Th.face, Prod.mk.injEq] at g2
      exact glev_iff.2 (.inr ⟨h1, y, g1, by rw [key_k g2.1]; exact h3, by rw [g2.2.1]; exact h4⟩)
  have parts : ∀ {x y : Th}, y.face = x.face → y.k = x.k ∧ y.lv = x.lv ∧ y.va = x.va ∧ partsT y = partsT x := fun {x y} e => by
    simp only [Th.face, Th.key, Prod.mk.injEq, Ky.mk.injEq] at e
    obtain ⟨⟨e0, e1, e2, e3, e4⟩, e5, e6⟩ := e
    exact ⟨e0, e5, e6, by unfold partsT; rw [e1, e2, e3, e4]⟩
  refine ⟨fun y hy hk r hr => ?_, fun y hy hk => ?_, fun y hy hk => ?_⟩
  · obtain ⟨x, hx, e⟩ := back y hy
    obtain ⟨e0, e5, _, e7⟩ := parts e
    rw [e7] at hr
    rw [e5]
    exact gl _ _ (h.sq x hx (by rw [← e0]; exact hk) r hr)
  · obtain ⟨x, hx, e⟩ := back y hy
    obtain ⟨e0, _, e6, _⟩ := parts e
    rw [e6]; exact h.va x hx (by rw [← e0]; exact hk)
  · obtain ⟨x, hx, e⟩ := back y hy
    obtain ⟨e0, e5, _, _⟩ := parts e
    rw [e5]; exact h.lv x hx (by rw [← e0]; exact hk)
theorem gl_give {A : Ar} {t i : Nat} {x : Th} (h : GL A.ths) (hx : A.ths[i]? = some x) : GL (A.give t i x).ths := by
  have hi := (List.getElem?_eq_some_iff.1 hx).1
  have hget : ∀ j : Nat, (A.give t i x).ths[j]? = if i = j then some { x with mask := x.mask ||| bitN t } else A.ths[j]? := fun j => by
    show (A.ths.set i _)[j]? = _
    rw [List.getElem?_set]
    by_cases e : i = j
    · subst e; simp [hi]
    · simp [e]
  refine gl_masks h (fun j y hy => ?_) (fun j z hz => ?_)
  · rw [hget] at hy
    by_cases e : i = j
    · rw [if_pos e] at hy
      obtain rfl := Option.some.inj hy
      exact ⟨x, e ▸ hx, rfl⟩
    · rw [if_neg e] at hy
      exact ⟨y, hy, rfl⟩
  · rw [hget]
    by_cases e : i = j
    · rw [if_pos e]
      subst e
      rw [hx] at hz
      obtain rfl := Option.some.inj hz
      exact ⟨_, rfl, rfl⟩
    · rw [if_neg e]
      exact ⟨z, hz, rfl⟩
theorem gl_lose {A : Ar} {t : Nat} {ids f : List Int} (h : GL A.ths) (hS : Sound A) (ht : t < 64) (ho : OwnIds A.ths t ids) : GL (A.lose t ids f).ths := by
  refine gl_masks h (fun j y hy => ?_) (fun j x hx => ?_)
  · obtain ⟨x, hx, e1, e2, e3, _⟩ := takes_back ht ho hS.mask hy
    exact ⟨x, hx, by unfold Th.face; rw [e1, e2, e3]⟩
  · obtain ⟨y, y1, e1, e2, e3, _⟩ := takes_get t ht ids A (fun k hk => by
      obtain ⟨a, z, hz, _⟩ := ho.2 k hk
      exact ⟨a, (List.getElem?_eq_some_iff.1 hz).1⟩) hS.mask j x hx
    exact ⟨y, y1, by unfold Th.face; rw [e1, e2, e3]⟩
theorem gl_swept {A : Ar} (h : Glob A) (hS : Sound A) : GL A.swept.ths := by
  have hl : ∀ u id a, levV (ownV A.ths u) id = some a → glev A.swept.ths id = some a := fun u id a ha => by
    rcases level_own ha with e | ⟨h1, x, h2, h3, h4, h5⟩
    · exact glev_iff.2 (.inl e)
    · refine glev_iff.2 (.inr ⟨h1, x, ?_, h4, h5⟩)
      show (swL A.ths)[_]? = _
      rw [swL_get, h2, Option.map_some, clrT_keep (own_not_gone h3)]
  refine ⟨fun x hx hk r hr => ?_, fun x hx hk => ?_, fun x hx hk => ?_⟩
  · obtain ⟨y, hy, rfl⟩ := List.mem_map.1 hx
    cases hg : gone y with
    | true => rw [clrT_gone hg] at hk; cases hk
    | false =>
      rw [clrT_keep hg] at hk hr ⊢
      have hm0 : y.mask ≠ 0 := fun e => by
        unfold gone at hg
        rw [e, hk] at hg
        simp at hg
      obtain ⟨u, hu, hb⟩ := mask_bit hm0 (hS.mask y hy)
      obtain ⟨j, hj⟩ := List.getElem?_of_mem hy
      have hV : (view A u).V ((j : Int) + 2) = some y.face := ownV_iff.2 ⟨by omega, y, by rw [show (((j : Int) + 2 - 2).toNat) = j by omega]; exact hj, hb, rfl⟩
      have hrf : refsV y.face = partsT y := by unfold refsV; rw [if_pos (show y.face.1.k = 1 from hk)]; rfl
      exact hl u r _ ((h.wel u hu).lev _ _ hV hk r (by rw [hrf]; exact hr))
  · obtain ⟨y, hy, rfl⟩ := List.mem_map.1 hx
    cases hg : gone y with
    | true => rw [clrT_gone hg] at hk; cases hk
    | false => rw [clrT_keep hg] at hk ⊢; exact h.gl.va y hy hk
  · obtain ⟨y, hy, rfl⟩ := List.mem_map.1 hx
    cases hg : gone y with
    | true => rw [clrT_gone hg]; rfl
    | false => rw [clrT_keep hg] at hk ⊢; exact h.gl.lv y hy hk
theorem gl_laid {A : Ar} {x : Th} {t : Nat} (h : GL A.ths) (hv : x.k = 1 → x.va = 0) (hl : x.k ≠ 1 → x.lv = 0) (hr : x.k = 1 → ∀ r ∈ partsT x, levV (ownV A.ths t) r = some (x.lv - 1)) : GL (A.laid x).1.ths := by
  have gl : ∀ id a, glev A.ths id = some a → glev (A.laid x).1.ths id = some a := fun id a ha => by
    rcases glev_iff.1 ha with e | ⟨h1, y, h2, h3, h4⟩
    · exact glev_iff.2 (.inl e)
    · exact glev_iff.2 (.inr ⟨h1, y, (laid_other A x _ y h2 (by rw [h3]; decide)).1, h3, h4⟩)
  have back : ∀ y ∈ (A.laid x).1.ths, y = x ∨ y ∈ A.ths := fun y hy => by
    obtain ⟨j, hj⟩ := List.getElem?_of_mem hy
    rcases laid_back A x j y hj with ⟨_, e⟩ | ⟨_, e⟩
    · exact .inl e
    · exact .inr (List.mem_of_getElem? e)
  refine ⟨fun y hy hk r hr' => ?_, fun y hy hk => ?_, fun y hy hk => ?_⟩
  · rcases back y hy with rfl | e
    · exact gl _ _ (level_glev (hr hk r hr'))
    · exact gl _ _ (h.sq y e hk r hr')
  · rcases back y hy with rfl | e
    · exact hv hk
    · exact h.va y e hk
  · rcases back y hy with rfl | e
    · exact hl hk
    · exact h.lv y e hk
theorem glob_swept {A : Ar} (h : Glob A) (hS : Sound A) : Glob A.swept := ⟨gl_swept h hS, fun u hu => by
  rw [show view A.swept u = view A u from view_ext (fun id => ownV_swept _ _ _) rfl rfl rfl]; exact h.wel u hu⟩
theorem glob_made {A : Ar} (h : Glob A) (hS : Sound A) : Glob A.made := by
  unfold Ar.made
  split
  · exact glob_swept h hS
  · exact h
theorem glob_beco {A : Ar} {t : Nat} {x : Th} (h : Glob A) (hS : Sound A) (ht : t < 64) (hk : x.k ≠ 0) (hx : x.mask = 0) (hfull : (A.beco t x).2.2 ≠ 5) (hface : ∀ (i : Nat) (y : Th), A.ths[i]? = some y → y.key = x.key → y.lv = x.lv ∧ y.va = x.va)
    (hv : x.k = 1 → x.va = 0) (hl : x.k ≠ 1 → x.lv = 0) (hr : ∀ r ∈ refsV x.face, (levV (ownV A.ths t) r).isSome = true) (hr1 : x.k = 1 → ∀ r ∈ partsT x, levV (ownV A.ths t) r = some (x.lv - 1)) : Glob (A.beco t x).1 := by
  refine ⟨?_, fun u hu => ?_⟩
  · unfold Ar.beco
    cases hs : spotF A.ths x.key with
    | some i =>
      obtain ⟨y, h1, _, h3⟩ := spot_at hs
      simp only
      split
      · exact h.gl
      · split
        · exact h.gl
        · rw [h3]; exact gl_give h.gl h1
    | none =>
      simp only
      split
      · exact h.gl
      · split
        · exact (glob_made h hS).gl
        · exact gl_give (gl_laid (t := t) (glob_made h hS).gl hv hl (fun e r hr' => by
            rw [show ownV A.made.ths t = ownV A.ths t from funext (ownV_made A t)]
            exact hr1 e r hr')) (laid_at _ _)
  · rcases beco_view hS ht hk hx hfull hface with ⟨id, _, e⟩ | ⟨_, ⟨_, e⟩ | ⟨_, id, h1, h2, _, h4, h5⟩⟩
    · rw [e]; exact h.wel u hu
    · rw [e]; exact h.wel u hu
    · by_cases e : u = t
      · subst e
        rw [h4]
        refine (h.wel u hu).more h1 h2 hr fun e r hr' => ?_
        refine hr1 e r ?_
        have : refsV x.face = partsT x := by unfold refsV; rw [if_pos e]; rfl
        rw [← this]; exact hr'
      · rw [h5 u e]; exact h.wel u hu
theorem square_face {A : Ar} (h : Glob A) {t : Nat} {q0 q1 q2 q3 a : Int} (h0 : levelF A.ths t q0 = some a) (i : Nat) (y : Th) (hy : A.ths[i]? = some y) (hk : y.key = (sqTh q0 q1 q2 q3 a).key) : y.lv = (sqTh q0 q1 q2 q3 a).lv ∧ y.va = (sqTh q0 q1 q2 q3 a).va := by
  have hm := List.mem_of_getElem? hy
  have hk1 : y.k = 1 := key_k hk
  have hp : y.p0 = q0 := congrArg Ky.p0 hk
  have g1 := h.gl.sq y hm hk1 y.p0 (by simp [partsT])
  rw [levelF_V] at h0
  rw [hp, level_glev h0] at g1
  have := Option.some.inj g1
  refine ⟨?_, h.gl.va y hm hk1⟩
  show y.lv = a + 1
  omega
theorem joinE_zero {A : Ar} {t : Nat} {q0 q1 q2 q3 : Int} (h : (joinE A t q0 q1 q2 q3).1 = 0) : ∃ a, joinE A t q0 q1 q2 q3 = (0, a) ∧ a < 44 ∧ levelF A.ths t q0 = some a ∧ levelF A.ths t q1 = some a ∧ levelF A.ths t q2 = some a ∧ levelF A.ths t q3 = some a := by
  unfold joinE at h ⊢
  cases h0 : levelF A.ths t q0 with
  | none => rw [h0, joinL0] at h; cases h
  | some a =>
    cases h1 : levelF A.ths t q1 with
    | none => rw [h1, joinL1] at h; cases h
    | some b =>
      cases h2 : levelF A.ths t q2 with
      | none => rw [h2, joinL2] at h; cases h
      | some c =>
        cases h3 : levelF A.ths t q3 with
        | none => rw [h3, joinL3] at h; cases h
        | some d =>
          rw [h0, h1, h2, h3, joinL4] at h
          rw [joinL4]
          by_cases hc : a < 44 ∧ b = a ∧ c = a ∧ d = a
          · obtain ⟨h4, rfl, rfl, rfl⟩ := hc
            exact ⟨_, by rw [if_pos ⟨h4, rfl, rfl, rfl⟩], h4, rfl, rfl, rfl, rfl⟩
          · rw [if_neg hc] at h; cases h
theorem glob_join {A : Ar} (h : Glob A) (hS : Sound A) {t : Nat} (ht : t < 64) {q0 q1 q2 q3 : Int} (hfull : (A.joinP t q0 q1 q2 q3).2.2 ≠ 5) : Glob (A.joinP t q0 q1 q2 q3).1 := by
  unfold Ar.joinP at hfull ⊢
  by_cases hj : (joinE A t q0 q1 q2 q3).1 = 0
  · rw [if_pos hj] at hfull ⊢
    obtain ⟨a, he, _, l0, l1, l2, l3⟩ := joinE_zero hj
    rw [he] at hfull ⊢
    have hp : ∀ r ∈ partsT (sqTh q0 q1 q2 q3 a), levV (ownV A.ths t) r = some ((sqTh q0 q1 q2 q3 a).lv - 1) := fun r hr => by
      have e : (sqTh q0 q1 q2 q3 a).lv - 1 = a := by show a + 1 - 1 = a; omega
      rw [e, ← levelF_V]
      simp only [partsT, sqTh, List.mem_cons, List.not_mem_nil, or_false] at hr
      rcases hr with rfl | rfl | rfl | rfl
      · exact l0
      · exact l1
      · exact l2
      · exact l3
    refine glob_beco h hS ht (by show (1 : Int) ≠ 0; decide) rfl hfull (square_face h l0) (fun _ => rfl) (fun e => absurd rfl e) (fun r hr => ?_) (fun _ => hp)
    have : r ∈ partsT (sqTh q0 q1 q2 q3 a) := hr
    rw [hp r this]; rfl
  · rw [if_neg hj]; exact h
theorem glob_mark {A : Ar} (h : Glob A) (hS : Sound A) {t : Nat} (ht : t < 64) : Glob (A.lose t [] []) := by
  refine ⟨gl_lose h.gl hS ht (own_nil _ _), fun u hu => ?_⟩
  obtain ⟨v1, v2⟩ := view_lose (f := []) hS ht (own_nil A.ths t)
  by_cases e : u = t
  · subst e
    rw [v1]
    exact (h.wel u hu).less (fun id f hf hn r _ => by simp) (fun n id f _ _ _ r _ => by simp) (fun id hid => by cases hid)
  · rw [v2 u e]; exact h.wel u hu
theorem glob_lim {A : Ar} (h : Glob A) (t : Nat) (n : Int) : Glob (A.limP t n) := ⟨h.gl, fun u hu => ⟨(h.wel u hu).two, (h.wel u hu).clo, (h.wel u hu).lev, (h.wel u hu).fr, (h.wel u hu).fo⟩⟩
theorem glob_new (room : Int) : Glob (arNew room) := by
  have no : ∀ u id, ownV (arNew room).ths u id = none := fun u id => by
    cases e : ownV (arNew room).ths u id with
    | none => rfl
    | some f => obtain ⟨_, x, hx, _⟩ := ownV_iff.1 e; cases hx
  have no' : ∀ u id f, (view (arNew room) u).V id = some f → False := fun u id f hf => by
    have := (no u id).symm.trans hf
    cases this
  exact ⟨⟨fun _ h => (by cases h), fun _ h => (by cases h), fun _ h => (by cases h)⟩, fun u _ => ⟨fun id f hf => (no' u id f hf).elim, fun id f hf => (no' u id f hf).elim, fun id f hf => (no' u id f hf).elim, fun n id f hf => (no' u id f hf).elim, fun id hid => (by cases hid)⟩⟩
end Go.Proofs.YtgipjplifndniaaGreatDoor.A
