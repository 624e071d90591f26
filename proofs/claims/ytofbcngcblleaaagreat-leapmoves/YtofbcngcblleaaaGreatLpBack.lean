/- Fresh, and what Back leaves. -/
import Derived.Test.YtofbcngcblleaaaGreatLpStep
import Derived.Test.YtofbcngcblleaaaGreatArBackG
namespace Go.Proofs.YtofbcngcblleaaaGreat.A
open Go.RowKit Go.Proofs.YtofbcngcblleaaaGreat.L

theorem freshP_any (b t : Nat) (F : Nat → Prop) (A : Ar) (w : World) (h : AtP w b F A) (ht : t < 64) :
    Calls Tryz.prog 58 #[.pointer (some ⟨b, 0, none⟩), .int .i64 t] w fun e w' => e = .returned (.int .i64 ((A.fresh t).length : Int)) ∧ w' = w := by
  obtain ⟨L, r, D, h, _, _⟩ := h
  have hc := h.raw.at (4 + t * 3 + 2) (by omega)
  rw [Raw.cf] at hc
  obtain ⟨a, c, hv⟩ := (h.fresh t ht).shape
  have hL : (({ A with free := L } : Ar).fresh t) = A.fresh t := rfl
  rw [hL] at hv
  rw [hv] at hc
  generalize (A.fresh t).length = n at hc ⊢
  have hi := fun W => tenant_yes t ht W
  have h0 : (0 : Int) ≤ t := by omega
  have h1 : (t : Int) < 64 := by omega
  clear hv hL h
  go_enter Tryz.func58, Tryz.ntmps58
  go_wp2_with fail
  refine (hi _).mono ?_
  rintro e w1 ⟨rfl, rfl⟩
  go_wp2_with fail
  go_ret
  exact ⟨rfl, rfl⟩
theorem notes_lose {R : Bool → Nat → Bool} {rn : Int} {A : Ar} {t : Nat} {ids f : List Int} (h : NotesG R rn A.ths) (hg : GL A.ths) (hS : Sound A) (ht : t < 64) (ho : OwnIds A.ths t ids) : NotesG R rn (A.lose t ids f).ths := by
  have hl : (A.lose t ids f).ths = (A.takes t ids).ths := rfl
  have hlen := takes_len A t ids
  have hids : ∀ id ∈ ids, 2 ≤ id ∧ (id - 2).toNat < A.ths.length := fun id hid => by
    obtain ⟨h2, x, hx, _⟩ := ho.2 id hid
    exact ⟨h2, (List.getElem?_eq_some_iff.1 hx).1⟩
  have hget := takes_get t ht ids A hids hS.mask
  have hface : ∀ (j : Nat) (x : Th), A.ths[j]? = some x → ∃ y, (A.takes t ids).ths[j]? = some y ∧ y.face = x.face := fun j x hx => by
    obtain ⟨y, h1, h2, h3, h4, _⟩ := hget j x hx
    exact ⟨y, h1, by unfold Th.face; rw [h2, h3, h4]⟩
  have hi : Inc A.ths (A.takes t ids).ths := fun j x hx _ => hface j x hx
  rw [hl]
  intro y hy hk
  obtain ⟨j, hj⟩ := mem_get hy
  have hlt : j < A.ths.length := by rw [← hlen]; exact (List.getElem?_eq_some_iff.1 hj).1
  obtain ⟨y', h1, h2⟩ := hface j _ (List.getElem?_eq_getElem hlt)
  rw [hj] at h1
  cases h1
  have hk' := (face_all h2).1
  exact (h _ (List.getElem_mem hlt) (by rw [← hk']; exact hk)).inc h2 hi hg (lv0_of hS)
/-- what a tenant has come to is given back -/
theorem back_st {PR : (Bool → Nat → Bool) → Int → Prop} {t : Nat} {q : Nat → Int} {A A' : Ar} (hst0 : NxSt PR t q A) (ht : t < 64) (hst : NxSt PR t q A') (g : Goes1 t A A') :
    NxSt PR t q (A'.lose t ((A'.fresh t).drop (A.fresh t).length) ((A'.fresh t).take (A.fresh t).length)) ∧ (∀ u, view (A'.lose t ((A'.fresh t).drop (A.fresh t).length) ((A'.fresh t).take (A.fresh t).length)) u = view A u) ∧ backK (A.fresh t).length (A'.fresh t) = (A.fresh t).length := by
  obtain ⟨l, hl, ha, hb, hc⟩ := g.fresh
  have ho : OwnIds A'.ths t ((A'.fresh t).drop (A.fresh t).length) := by
    obtain ⟨h1, h2⟩ := fresh_own hst.s ht
    exact ⟨h1.sublist (List.drop_sublist _ _), fun id hid => h2 id (List.mem_of_mem_drop hid)⟩
  have hd : (A'.fresh t).drop (A.fresh t).length = l := by rw [hl, List.drop_left]
  have hk : (A'.fresh t).take (A.fresh t).length = A.fresh t := by rw [hl, List.take_left]
  obtain ⟨v1, v2⟩ := view_lose (f := (A'.fresh t).take (A.fresh t).length) hst.s ht ho
  have hv : view (A'.lose t ((A'.fresh t).drop (A.fresh t).length) ((A'.fresh t).take (A.fresh t).length)) t = view A t := by
    rw [v1]
    unfold Vw.less
    rw [hd, hk]
    have e1 : (fun k => if k ∈ l then none else (view A' t).V k) = (view A t).V := by
      funext id
      by_cases hi : id ∈ l
      · rw [if_pos hi, hb id hi]
      · rw [if_neg hi]
        cases hv : (view A' t).V id with
        | none =>
          cases hv0 : (view A t).V id with
          | none => rfl
          | some f => rw [g.sees id f hv0] at hv; cases hv
        | some f =>
          rcases ha id f hv with h | h
          · exact absurd h hi
          · exact h.symm
    rw [e1]
    have e2 : (view A' t).cnt - (l.length : Int) = (view A t).cnt := by show A'.cnt t - _ = A.cnt t; omega
    have e3 : (view A' t).lim = (view A t).lim := g.lim
    rw [e2, e3]
    rfl
  have hall : ∀ u, view (A'.lose t ((A'.fresh t).drop (A.fresh t).length) ((A'.fresh t).take (A.fresh t).length)) u = view A u := fun u => by
    by_cases hu : u = t
    · subst hu; exact hv
    · rw [v2 u hu]; exact g.oth u hu
  have hlim := (lose_rest A' t ((A'.fresh t).drop (A.fresh t).length) ((A'.fresh t).take (A.fresh t).length)).1
  refine ⟨⟨backN_sound hst.s ht _, glob_back hst.g hst.s ht _, ?_, fun R rn hP => notes_lose (hst.n R rn hP) hst.g.gl hst.s ht ho, hst.u, ?_⟩, hall, ?_⟩
  · rw [hv]; exact hst0.p
  · exact hst.r.same (lose_rest A' t _ _).2 fun u _ => (congrArg Vw.cnt (hall u)).trans (congrArg Vw.cnt (g.oth u ‹_›)).symm
  · unfold backK
    rw [hl, List.length_append]
    omega
end Go.Proofs.YtofbcngcblleaaaGreat.A
