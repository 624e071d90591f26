/- ArenaAlone: deeds, in plain words; what one is told does not hang on the others. -/
import Derived.Test.YtfogedmghhacdaaArSimOps
import Derived.Test.YtfogedmghhacdaaArRoomSt
namespace Go.Proofs.Ytfogedmghhacdaa.A
open Go.RowKit Go.Maps

/-- what a tenant still has of what it made -/
def still (A : Ar) (t : Nat) (M : List Int) : List Int := M.filter fun k => (levelF A.ths t k).isSome
def jnA (A : Ar) (M : List Int) (t : Nat) (d : Dd) : Ar × Int × Int := A.joinP t (idOf M d.a0) (idOf M d.a1) (idOf M d.a2) (idOf M d.a3)
def ntA (A : Ar) (M : List Int) (t : Nat) (d : Dd) : Ar × Int := A.noteP t (idOf M d.a0) t (spotI d.a1 3) (idOf M d.a0)
/-- a deed: the arena, what was made, the number told -/
def stepA (A : Ar) (M : List Int) (t : Nat) (d : Dd) : Ar × List Int × Int :=
  if d.k = 1 then ((jnA A M t d).1, if (jnA A M t d).2.2 = 0 then M ++ [(jnA A M t d).2.1] else M, (jnA A M t d).2.2)
  else if d.k = 2 then ((ntA A M t d).1, M, (ntA A M t d).2)
  else if d.k = 3 then (A.lose t [] [], M, -1)
  else if d.k = 4 then (A.lose t (A.fresh t) [], still (A.lose t (A.fresh t) []) t M, ((A.fresh t).length : Int))
  else if d.k = 5 then (A.cleanP t [idOf M d.a0], still (A.cleanP t [idOf M d.a0]) t M, ((idsF A.ths t (keepAll A.ths t [idOf M d.a0]) A.ths.length).length : Int))
  else if d.k = 6 then (A, M, if (recallF A.ths t (idOf M d.a0) t (spotI d.a1 3)).isSome = true then 1 else -1)
  else (A.swept, M, -1)
/-- a note tells of its own square -/
def NV (l : List Th) : Prop := ∀ x ∈ l, x.k = 2 → x.va = x.p0
def q30 : Nat → Int := fun u => if u < 4 then 30 else if u = 63 then 1 else 0
structure Fine (A : Ar) : Prop where
  s : Sound A
  g : Glob A
  r : Roomy A q30
  nv : NV A.ths
  lim : ∀ t, t < 4 → A.lim t = 30

theorem nv_face {l l' : List Th} (h : NV l) (hb : ∀ (j : Nat) (y : Th), l'[j]? = some y → ∃ x, l[j]? = some x ∧ y.face = x.face) : NV l' := fun y hy hk => by
  obtain ⟨j, hj⟩ := List.getElem?_of_mem hy
  obtain ⟨x, h1, e⟩ := hb j y hj
  simp only [Th.face, Th.key, Prod.mk.injEq, Ky.mk.injEq] at e
  obtain ⟨⟨e0, e1, _⟩, _, e6⟩ := e
  rw [e1, e6]
  exact h x (List.mem_of_getElem? h1) (by rw [← e0]; exact hk)
theorem nv_give {A : Ar} {t i : Nat} {x : Th} (h : NV A.ths) (hx : A.ths[i]? = some x) : NV (A.give t i x).ths := by
  have hi := (List.getElem?_eq_some_iff.1 hx).1
  refine nv_face h fun j y hy => ?_
  have hget : (A.give t i x).ths[j]? = if i = j then some { x with mask := x.mask ||| bitN t } else A.ths[j]? := by
    show (A.ths.set i _)[j]? = _
    rw [List.getElem?_set]
    by_cases e : i = j
    · subst e; simp [hi]
    · simp [e]
  rw [hget] at hy
  by_cases e : i = j
  · rw [if_pos e] at hy
    obtain rfl := Option.some.inj hy
    exact ⟨x, e ▸ hx, rfl⟩
  · rw [if_neg e] at hy
    exact ⟨y, hy, rfl⟩
theorem nv_lose {A : Ar} {t : Nat} {ids f : List Int} (h : NV A.ths) (hS : Sound A) (ht : t < 64) (ho : OwnIds A.ths t ids) : NV (A.lose t ids f).ths :=
  nv_face h fun j y hy => by
    obtain ⟨x, hx, e1, e2, e3, _⟩ := takes_back ht ho hS.mask hy
    exact ⟨x, hx, by unfold Th.face; rw [e1, e2, e3]⟩
theorem nv_swept {A : Ar} (h : NV A.ths) : NV A.swept.ths := fun x hx hk => by
  obtain ⟨y, hy, rfl⟩ := List.mem_map.1 hx
  cases hg : gone y with
  | true => rw [clrT_gone hg] at hk; cases hk
  | false => rw [clrT_keep hg] at hk ⊢; exact h y hy hk
theorem nv_beco {A : Ar} {t : Nat} {x : Th} (h : NV A.ths) (hx : x.k = 2 → x.va = x.p0) : NV (A.beco t x).1.ths := by
  have hm : NV A.made.ths := by
    unfold Ar.made
    split
    · exact nv_swept h
    · exact h
  unfold Ar.beco
  cases hs : spotF A.ths x.key with
  | some i =>
    obtain ⟨y, h1, _, h3⟩ := spot_at hs
    simp only
    split
    · exact h
    · split
      · exact h
      · rw [h3]; exact nv_give h h1
  | none =>
    simp only
    split
    · exact h
    · split
      · exact hm
      · refine nv_give (fun y hy => ?_) (laid_at _ _)
        obtain ⟨j, hj⟩ := List.getElem?_of_mem hy
        rcases laid_back _ _ j y hj with ⟨_, e⟩ | ⟨_, e⟩
        · rw [e]; exact hx
        · exact hm y (List.mem_of_getElem? e)
theorem nv_join {A : Ar} {t : Nat} {q0 q1 q2 q3 : Int} (h : NV A.ths) : NV (A.joinP t q0 q1 q2 q3).1.ths := by
  unfold Ar.joinP
  split
  · exact nv_beco h fun e => by cases e
  · exact h
theorem nv_note {A : Ar} {t : Nat} {s r j : Int} (h : NV A.ths) : NV (A.noteP t s r j s).1.ths := by
  unfold Ar.noteP
  split
  · split
    · exact h
    · exact nv_beco h fun _ => rfl
  · exact h
theorem nv_twice {l : List Th} (h : NV l) (s r j : Int) : twiceF l s r j s = false := by
  unfold twiceF
  cases hs : spotF l (nkey s r j) with
  | none => rfl
  | some i =>
    obtain ⟨y, h1, h2, h3⟩ := spot_at hs
    simp only
    rw [h3]
    have hk : y.k = 2 ∧ y.p0 = s := by
      unfold Th.key nkey at h2
      simp only [Ky.mk.injEq] at h2
      exact ⟨h2.1, h2.2.1⟩
    rw [h y (List.mem_of_getElem? h1) hk.1, hk.2]
    simp
theorem kn_zero (A : Ar) (t : Nat) : Kn A t 0 := Option.isSome_iff_exists.2 ⟨0, levV_iff.2 (.inl ⟨.inl rfl, rfl⟩)⟩
theorem kn_one (A : Ar) (t : Nat) : Kn A t 1 := Option.isSome_iff_exists.2 ⟨0, levV_iff.2 (.inl ⟨.inr rfl, rfl⟩)⟩
theorem kn_fits {A : Ar} {t : Nat} (hS : Sound A) {id : Int} (h : Kn A t id) : Fits id := by
  obtain ⟨a, ha⟩ := Option.isSome_iff_exists.1 h
  have h1 := hS.len
  have h2 := hS.room1
  rcases level_own (l := A.ths) (u := t) ha with ⟨e | e, _⟩ | ⟨e, x, hx, _⟩
  · subst e; exact fits_zero
  · subst e; exact ⟨by omega, by omega⟩
  · have := (List.getElem?_eq_some_iff.1 hx).1
    exact ⟨by omega, by omega⟩
theorem idOf_cases (M : List Int) (n : Int) : idOf M n = 0 ∨ idOf M n = 1 ∨ ∃ (k : Nat) (h : k < M.length), idOf M n = M[k] ∧ spotI n ((M.length : Int) + 2) = (k : Int) + 2 := by
  have hb := spotI_bound n ((M.length : Int) + 2) (by omega)
  unfold idOf
  by_cases h : spotI n ((M.length : Int) + 2) < 2
  · rw [if_pos h]; omega
  · rw [if_neg h]
    have hk : (spotI n ((M.length : Int) + 2) - 2).toNat < M.length := by omega
    exact .inr (.inr ⟨_, hk, getElem!_pos M _ hk, by omega⟩)
theorem kn_id {A : Ar} {t : Nat} {M : List Int} (h : ∀ x ∈ M, Kn A t x) (n : Int) : Kn A t (idOf M n) := by
  rcases idOf_cases M n with e | e | ⟨k, hk, e, _⟩
  · rw [e]; exact kn_zero A t
  · rw [e]; exact kn_one A t
  · rw [e]; exact h _ (List.getElem_mem hk)
theorem idOf_map {p : Int → Int} (h0 : p 0 = 0) (h1 : p 1 = 1) (M : List Int) (n : Int) : idOf (M.map p) n = p (idOf M n) := by
  have hb := spotI_bound n ((M.length : Int) + 2) (by omega)
  unfold idOf
  rw [List.length_map]
  by_cases h : spotI n ((M.length : Int) + 2) < 2
  · rw [if_pos h, if_pos h]
    rcases (show spotI n ((M.length : Int) + 2) = 0 ∨ spotI n ((M.length : Int) + 2) = 1 by omega) with e | e <;> rw [e] <;> simp [h0, h1]
  · rw [if_neg h, if_neg h]
    have hk : (spotI n ((M.length : Int) + 2) - 2).toNat < M.length := by omega
    rw [getElem!_pos M _ hk, getElem!_pos (M.map p) _ (by rw [List.length_map]; exact hk), List.getElem_map]
theorem spot_fits (v : Int) : Fits (spotI v 3) := by
  have := spotI_bound v 3 (by omega)
  exact ⟨by omega, by omega⟩
/-- what was known stays so, and others see nothing of it -/
def Stays (t : Nat) (A A' : Ar) : Prop := (∀ k, Kn A t k → Kn A' t k) ∧ ∀ u, u ≠ t → view A' u = view A u
theorem Stays.refl (t : Nat) (A : Ar) : Stays t A A := ⟨fun _ h => h, fun _ _ => rfl⟩
theorem beco_stays {A : Ar} {t : Nat} {x : Th} (hS : Sound A) (ht : t < 64) (hk : x.k ≠ 0) (hx : x.mask = 0) (hfull : (A.beco t x).2.2 ≠ 5) (hface : ∀ (i : Nat) (y : Th), A.ths[i]? = some y → y.key = x.key → y.lv = x.lv ∧ y.va = x.va) : Stays t A (A.beco t x).1 := by
  rcases beco_view hS ht hk hx hfull hface with ⟨id, _, e⟩ | ⟨_, ⟨_, e⟩ | ⟨_, id, h1, h2, _, h4, h5⟩⟩
  · rw [e]; exact Stays.refl t A
  · rw [e]; exact Stays.refl t A
  · refine ⟨fun k hk => ?_, h5⟩
    unfold Kn
    rw [h4, levV_more h2 hk]
    exact hk
theorem join_stays {A : Ar} {t : Nat} {q0 q1 q2 q3 : Int} (hF : Fine A) (ht : t < 64) (hfull : (A.joinP t q0 q1 q2 q3).2.2 ≠ 5) : Stays t A (A.joinP t q0 q1 q2 q3).1 := by
  unfold Ar.joinP at hfull ⊢
  by_cases hj : (joinE A t q0 q1 q2 q3).1 = 0
  · rw [if_pos hj] at hfull ⊢
    obtain ⟨a, he, _, l0, _⟩ := joinE_zero hj
    rw [he] at hfull ⊢
    exact beco_stays hF.s ht (by show (1 : Int) ≠ 0; decide) rfl hfull (square_face hF.g l0)
  · rw [if_neg hj]; exact Stays.refl t A
theorem note_stays {A : Ar} {t : Nat} {s r j : Int} (hF : Fine A) (ht : t < 64) (hfull : (A.noteP t s r j s).2 ≠ 5) : Stays t A (A.noteP t s r j s).1 := by
  have h2 := nv_twice hF.nv s r j
  unfold Ar.noteP at hfull ⊢
  split
  · rename_i hc
    rw [if_pos hc, if_neg (by rw [h2]; decide)] at hfull
    rw [if_neg (by rw [h2]; decide)]
    exact beco_stays hF.s ht (by show (2 : Int) ≠ 0; decide) rfl hfull (note_face hF.s hF.g h2)
  · exact Stays.refl t A
theorem ren_id (f : Ky × Int × Int) : ren id f = f := by
  unfold ren
  split <;> rfl
theorem sim_refl (A : Ar) (t : Nat) : Sim (view A t) (view A t) id := ⟨rfl, rfl, fun i f h => by rw [ren_id]; exact h, fun i g h => ⟨i, g, h, rfl⟩, fun _ _ _ _ _ _ e => e, rfl, rfl, by rw [List.map_id]⟩
theorem Fine.q {A : Ar} (h : Fine A) {t : Nat} (ht : t < 4) : A.lim t ≤ q30 t := by
  rw [h.lim t ht]
  unfold q30
  rw [if_pos ht]
  exact Int.le_refl _
/-- a deed keeps what always holds -/
theorem step_fine {A : Ar} {M : List Int} {t : Nat} (hF : Fine A) (ht : t < 4) (hM : ∀ x ∈ M, Kn A t x) (d : Dd) :
    Fine (stepA A M t d).1 ∧ (∀ x ∈ (stepA A M t d).2.1, Kn (stepA A M t d).1 t x) ∧ ∀ u, u ≠ t → view (stepA A M t d).1 u = view A u := by
  have ht' : t < 64 := by omega
  have hid := fun n => kn_id hM n
  have hfit := fun n => kn_fits hF.s (hid n)
  have hst : ∀ A' : Ar, ∀ x ∈ still A' t M, Kn A' t x := fun A' x hx => kn_level.2 (List.mem_filter.1 hx).2
  unfold stepA
  split
  · have hfull : (jnA A M t d).2.2 ≠ 5 := join_full hF.s hF.r ht' (hF.q ht)
    have hs : Stays t A (jnA A M t d).1 := join_stays hF ht' hfull
    refine ⟨⟨join_sound hF.s ht' (hfit _) (hfit _) (hfit _) (hfit _), glob_join hF.g hF.s ht' hfull, join_roomy hF.r (hF.q ht), nv_join hF.nv, fun u hu => ?_⟩, ?_, hs.2⟩
    · show (jnA A M t d).1.lim u = 30
      unfold jnA
      rw [(join_rest A t _ _ _ _).1]; exact hF.lim u hu
    · show ∀ x ∈ (if (jnA A M t d).2.2 = 0 then M ++ [(jnA A M t d).2.1] else M), Kn (jnA A M t d).1 t x
      by_cases e : (jnA A M t d).2.2 = 0
      · rw [if_pos e]
        intro x hx
        rcases List.mem_append.1 hx with h | h
        · exact hs.1 x (hM x h)
        · rw [List.mem_singleton] at h
          subst h
          obtain ⟨_, p', _, h3⟩ := sim_join (p := id) ⟨sim_refl A t, hF.s, hF.s, hF.g, hF.g⟩ ht' (hid d.a0) (hid d.a1) (hid d.a2) (hid d.a3) hfull hfull
          exact (h3 e).2
      · rw [if_neg e]
        exact fun x hx => hs.1 x (hM x hx)
  · split
    · have hfull : (ntA A M t d).2 ≠ 5 := note_full hF.s hF.r ht' (hF.q ht)
      have hs : Stays t A (ntA A M t d).1 := note_stays hF ht' hfull
      refine ⟨⟨note_sound hF.s ht' (hfit _) ⟨by omega, by omega⟩ (spot_fits _) (hfit _), glob_note hF.g hF.s ht' hfull, note_roomy hF.r (hF.q ht), nv_note hF.nv, fun u hu => ?_⟩, fun x hx => hs.1 x (hM x hx), hs.2⟩
      show (ntA A M t d).1.lim u = 30
      unfold ntA
      rw [(note_rest A t _ _ _ _).1]; exact hF.lim u hu
    · split
      · have hv := view_lose (f := []) hF.s ht' (own_nil A.ths t)
        refine ⟨⟨lose_sound hF.s ht' (own_nil _ _) (own_nil _ _) (fun _ h => by cases h), glob_mark hF.g hF.s ht', lose_roomy _ _ hF.r, nv_lose hF.nv hF.s ht' (own_nil _ _), fun u hu => by rw [(lose_rest A t [] []).1]; exact hF.lim u hu⟩, fun x hx => ?_, hv.2⟩
        show Kn (A.lose t [] []) t x
        unfold Kn
        rw [hv.1, levV_less (hM x hx) (by simp)]
        exact hM x hx
      · split
        · exact ⟨⟨undo_sound hF.s ht', glob_undo hF.g hF.s ht', lose_roomy _ _ hF.r, nv_lose hF.nv hF.s ht' (fresh_own hF.s ht'), fun u hu => by rw [(lose_rest A t _ []).1]; exact hF.lim u hu⟩, hst _, (view_lose (f := []) hF.s ht' (fresh_own hF.s ht')).2⟩
        · split
          · have ho := ids_own (l := A.ths) (t := t) (K := keepAll A.ths t [idOf M d.a0]) (Nat.le_refl A.ths.length)
            exact ⟨⟨clean_sound hF.s ht' _, glob_clean hF.g hF.s ht' _, lose_roomy _ _ hF.r, nv_lose hF.nv hF.s ht' ho, fun u hu => by unfold Ar.cleanP; rw [(lose_rest A t _ []).1]; exact hF.lim u hu⟩, hst _, (view_lose (f := []) hF.s ht' ho).2⟩
          · split
            · exact ⟨hF, hM, fun _ _ => rfl⟩
            · have hv : ∀ u, view A.swept u = view A u := fun u => view_ext (fun id => ownV_swept _ _ _) rfl rfl rfl
              refine ⟨⟨swept_sound hF.s, glob_swept hF.g hF.s, ⟨hF.r.le, hF.r.sum⟩, nv_swept hF.nv, hF.lim⟩, fun x hx => ?_, fun u _ => hv u⟩
              show Kn A.swept t x
              unfold Kn
              rw [hv]
              exact hM x hx
end Go.Proofs.Ytfogedmghhacdaa.A
