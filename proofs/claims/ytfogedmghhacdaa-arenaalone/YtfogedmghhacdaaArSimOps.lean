/- What a tenant does in two arenas that are alike to it. -/
import Derived.Test.YtfogedmghhacdaaArSim
namespace Go.Proofs.Ytfogedmghhacdaa.A
open Go.RowKit Go.Maps

theorem own_one {A : Ar} (hS : Sound A) {t : Nat} {i j : Int} {f g : Ky × Int × Int} (hi : ownV A.ths t i = some f) (hj : ownV A.ths t j = some g) (hk : f.1.k ≠ 0) (e : f.1 = g.1) : i = j := by
  obtain ⟨h1, x, h2, _, h4⟩ := ownV_iff.1 hi
  obtain ⟨k1, y, k2, _, k4⟩ := ownV_iff.1 hj
  have ex : x.key = f.1 := by rw [← h4]; rfl
  have ey : y.key = g.1 := by rw [← k4]; rfl
  have := hS.uniq _ _ x y h2 k2 (by show x.key.k ≠ 0; rw [ex]; exact hk) (by rw [ex, ey, e])
  omega
/-- known to a tenant -/
def Kn (A : Ar) (t : Nat) (id : Int) : Prop := (levV (view A t).V id).isSome = true
/-- two arenas alike to a tenant, all well in both -/
structure Alike (t : Nat) (A B : Ar) (p : Int → Int) : Prop where
  sim : Sim (view A t) (view B t) p
  sA : Sound A
  sB : Sound B
  gA : Glob A
  gB : Glob B
/-- the second goes on as the first; p' is p on all that was known -/
def Goes (t : Nat) (A _B : Ar) (p : Int → Int) (A' B' : Ar) (p' : Int → Int) : Prop := Sim (view A' t) (view B' t) p' ∧ ∀ k, Kn A t k → p' k = p k
theorem sim_beco {A B : Ar} {t : Nat} {p : Int → Int} {x y : Th} (h : Alike t A B p) (ht : t < 64) (hk : x.k ≠ 0) (hky : y.k ≠ 0) (hx : x.mask = 0) (hy : y.mask = 0) (hf : y.face = ren p x.face) (fA : (A.beco t x).2.2 ≠ 5) (fB : (B.beco t y).2.2 ≠ 5)
    (cA : ∀ (i : Nat) (z : Th), A.ths[i]? = some z → z.key = x.key → z.lv = x.lv ∧ z.va = x.va) (cB : ∀ (i : Nat) (z : Th), B.ths[i]? = some z → z.key = y.key → z.lv = y.lv ∧ z.va = y.va) (hr : ∀ r ∈ refsV x.face, Kn A t r) :
    (A.beco t x).2.2 = (B.beco t y).2.2 ∧ ∃ p', Goes t A B p (A.beco t x).1 (B.beco t y).1 p' ∧ ((A.beco t x).2.2 = 0 → p' (A.beco t x).2.1 = (B.beco t y).2.1 ∧ ownV (A.beco t x).1.ths t (A.beco t x).2.1 = some x.face) := by
  have wA := h.gA.wel t ht
  have wB := h.gB.wel t ht
  rcases beco_view h.sA ht hk hx fA cA with ⟨a, a1, a2⟩ | ⟨a0, hA⟩
  · rcases beco_view h.sB ht hky hy fB cB with ⟨b, b1, b2⟩ | ⟨b0, _⟩
    · rw [a2, b2]
      refine ⟨rfl, p, ⟨h.sim, fun _ _ => rfl⟩, fun _ => ⟨?_, a1⟩⟩
      have := h.sim.fwd a _ a1
      rw [← hf] at this
      exact own_one h.sB this b1 hky rfl
    · have := h.sim.fwd a _ a1
      rw [← hf] at this
      exact absurd rfl (b0 _ _ this)
  · rcases beco_view h.sB ht hky hy fB cB with ⟨b, b1, b2⟩ | ⟨b0, hB⟩
    · obtain ⟨k, f, hk1, hk2⟩ := h.sim.bwd b _ b1
      have := h.sim.fwd k f hk1
      rw [hk2] at this
      have e : ren p f = ren p x.face := by rw [← hf]; exact Option.some.inj (this.symm.trans b1)
      exact absurd (h.sim.keyInj wB (wA.clo k f hk1) hr (by rw [e])) (a0 k f hk1)
    · rcases hA with ⟨q1, q2⟩ | ⟨q1, a, a1, a2, a3, a4, _⟩
      · rcases hB with ⟨_, r2⟩ | ⟨r1, _⟩
        · rw [q2, r2]
          exact ⟨rfl, p, ⟨h.sim, fun _ _ => rfl⟩, fun e => by cases e⟩
        · have c := h.sim.cnt; have l := h.sim.lim
          have c : B.cnt t = A.cnt t := c
          have l : B.lim t = A.lim t := l
          omega
      · rcases hB with ⟨r1, _⟩ | ⟨_, b, _, b2, b3, b4, _⟩
        · have c : B.cnt t = A.cnt t := h.sim.cnt
          have l : B.lim t = A.lim t := h.sim.lim
          omega
        · rw [a3, b3]
          refine ⟨rfl, fun k => if k = a then b else p k, ⟨?_, fun k hkn => if_neg (known_ne a1 a2 hkn)⟩, fun _ => ⟨if_pos rfl, ?_⟩⟩
          · rw [a4, b4, hf]
            exact h.sim.more wA a1 a2 b2 hr
          · have : (view (A.beco t x).1 t).V a = some x.face := by rw [a4]; exact if_pos rfl
            exact this
theorem kn_level {A : Ar} {t : Nat} {id : Int} : Kn A t id ↔ (levelF A.ths t id).isSome = true := by unfold Kn; rw [levelF_V]; exact Iff.rfl
theorem sim_level {A B : Ar} {t : Nat} {p : Int → Int} (h : Alike t A B p) (ht : t < 64) {id : Int} (hid : Kn A t id) : levelF B.ths t (p id) = levelF A.ths t id := by
  rw [levelF_V, levelF_V]
  exact h.sim.known (h.gB.wel t ht) hid
theorem sim_join {A B : Ar} {t : Nat} {p : Int → Int} (h : Alike t A B p) (ht : t < 64) {q0 q1 q2 q3 : Int} (h0 : Kn A t q0) (h1 : Kn A t q1) (h2 : Kn A t q2) (h3 : Kn A t q3) (fA : (A.joinP t q0 q1 q2 q3).2.2 ≠ 5) (fB : (B.joinP t (p q0) (p q1) (p q2) (p q3)).2.2 ≠ 5) :
    (A.joinP t q0 q1 q2 q3).2.2 = (B.joinP t (p q0) (p q1) (p q2) (p q3)).2.2 ∧ ∃ p', Goes t A B p (A.joinP t q0 q1 q2 q3).1 (B.joinP t (p q0) (p q1) (p q2) (p q3)).1 p' ∧ ((A.joinP t q0 q1 q2 q3).2.2 = 0 → p' (A.joinP t q0 q1 q2 q3).2.1 = (B.joinP t (p q0) (p q1) (p q2) (p q3)).2.1 ∧ Kn (A.joinP t q0 q1 q2 q3).1 t (A.joinP t q0 q1 q2 q3).2.1) := by
  have hE : joinE B t (p q0) (p q1) (p q2) (p q3) = joinE A t q0 q1 q2 q3 := by
    unfold joinE
    rw [sim_level h ht h0, sim_level h ht h1, sim_level h ht h2, sim_level h ht h3]
  unfold Ar.joinP at fA fB ⊢
  rw [hE] at fB ⊢
  by_cases hj : (joinE A t q0 q1 q2 q3).1 = 0
  · rw [if_pos hj] at fA fB ⊢
    rw [if_pos hj]
    obtain ⟨a, he, _, l0, l1, l2, l3⟩ := joinE_zero hj
    rw [he] at fA fB ⊢
    have lb : levelF B.ths t (p q0) = some a := by rw [sim_level h ht h0]; exact l0
    obtain ⟨e1, p', e2, e3⟩ := sim_beco h ht (x := sqTh q0 q1 q2 q3 a) (y := sqTh (p q0) (p q1) (p q2) (p q3) a) (by show (1 : Int) ≠ 0; decide) (by show (1 : Int) ≠ 0; decide) rfl rfl rfl fA fB (square_face h.gA l0) (square_face h.gB lb) (fun r hr => by
      have hr : r ∈ [q0, q1, q2, q3] := hr
      simp only [List.mem_cons, List.not_mem_nil, or_false] at hr
      rcases hr with rfl | rfl | rfl | rfl <;> assumption)
    refine ⟨e1, p', e2, fun e => ⟨(e3 e).1, ?_⟩⟩
    have hV := (e3 e).2
    have h2 : 2 ≤ (A.beco t (sqTh q0 q1 q2 q3 a)).2.1 := (ownV_iff.1 hV).1
    have hL := levV_iff.2 (.inr ⟨by omega, _, hV, rfl, rfl⟩)
    exact Option.isSome_iff_exists.2 ⟨_, hL⟩
  · rw [if_neg hj]
    rw [if_neg hj]
    exact ⟨rfl, p, ⟨h.sim, fun _ _ => rfl⟩, fun e => absurd e hj⟩
theorem sim_note {A B : Ar} {t : Nat} {p : Int → Int} (h : Alike t A B p) (ht : t < 64) {s r j v : Int} (hs : Kn A t s) (hv : Kn A t v) (tA : twiceF A.ths s r j v = false) (tB : twiceF B.ths (p s) r j (p v) = false) (fA : (A.noteP t s r j v).2 ≠ 5) (fB : (B.noteP t (p s) r j (p v)).2 ≠ 5) :
    (A.noteP t s r j v).2 = (B.noteP t (p s) r j (p v)).2 ∧ ∃ p', Goes t A B p (A.noteP t s r j v).1 (B.noteP t (p s) r j (p v)).1 p' := by
  unfold Ar.noteP at fA fB ⊢
  have c1 : (levelF A.ths t s).isSome = true ∧ (levelF A.ths t v).isSome = true := ⟨kn_level.1 hs, kn_level.1 hv⟩
  have c2 : (levelF B.ths t (p s)).isSome = true ∧ (levelF B.ths t (p v)).isSome = true := by rw [sim_level h ht hs, sim_level h ht hv]; exact c1
  rw [if_pos c1, if_neg (by rw [tA]; decide)] at fA ⊢
  rw [if_pos c2, if_neg (by rw [tB]; decide)] at fB ⊢
  obtain ⟨e1, p', e2, _⟩ := sim_beco h ht (x := noteTh s r j v) (y := noteTh (p s) r j (p v)) (by show (2 : Int) ≠ 0; decide) (by show (2 : Int) ≠ 0; decide) rfl rfl rfl fA fB (note_face h.sA h.gA tA) (note_face h.sB h.gB tB) (fun k hk => by
    have hk : k ∈ [s, v] := hk
    simp only [List.mem_cons, List.not_mem_nil, or_false] at hk
    rcases hk with rfl | rfl <;> assumption)
  exact ⟨e1, p', e2⟩
theorem recall_own {A : Ar} (hS : Sound A) {t : Nat} {s r j : Int} : (recallF A.ths t s r j).isSome = true ↔ ∃ id f, ownV A.ths t id = some f ∧ f.1 = nkey s r j := by
  unfold recallF
  cases hs : spotF A.ths (nkey s r j) with
  | none =>
    simp only [Option.isSome_none, Bool.false_eq_true, false_iff, not_exists, not_and]
    intro id f hf e
    obtain ⟨_, x, h2, _, h4⟩ := ownV_iff.1 hf
    exact spot_none hs x (List.mem_of_getElem? h2) (by rw [← e, ← h4]; rfl)
  | some i =>
    obtain ⟨y, h1, h2, h3⟩ := spot_at hs
    simp only
    rw [h3]
    constructor
    · intro h
      split at h
      · rename_i hb
        exact ⟨(i : Int) + 2, y.face, ownV_iff.2 ⟨by omega, y, by rw [show (((i : Int) + 2 - 2).toNat) = i by omega]; exact h1, hb, rfl⟩, h2⟩
      · cases h
    · rintro ⟨id, f, hf, e⟩
      obtain ⟨_, x, g2, g3, g4⟩ := ownV_iff.1 hf
      have ex : x.key = nkey s r j := by rw [← e, ← g4]; rfl
      have := hS.uniq _ i x y g2 h1 (by show x.key.k ≠ 0; rw [ex]; show (2 : Int) ≠ 0; decide) (ex.trans h2.symm)
      rw [this, h1] at g2
      obtain rfl := Option.some.inj g2
      rw [if_pos g3]; rfl
theorem sim_recall {A B : Ar} {t : Nat} {p : Int → Int} (h : Alike t A B p) (ht : t < 64) {s r j : Int} (hs : Kn A t s) : (recallF A.ths t s r j).isSome = (recallF B.ths t (p s) r j).isSome := by
  have wA := h.gA.wel t ht
  have wB := h.gB.wel t ht
  rw [Bool.eq_iff_iff, recall_own h.sA, recall_own h.sB]
  constructor
  · rintro ⟨id, f, hf, e⟩
    refine ⟨p id, ren p f, h.sim.fwd id f hf, ?_⟩
    unfold ren
    rw [if_neg (by rw [e]; show ¬ (2 : Int) = 1; decide), e]
    rfl
  · rintro ⟨id, g, hg, e⟩
    obtain ⟨k, f, hk1, hk2⟩ := h.sim.bwd id g hg
    have := h.sim.fwd k f hk1
    rw [hk2] at this
    have eg : g = ren p f := Option.some.inj (hg.symm.trans this)
    have hfk : f.1.k = 2 := by rw [← (ren_k p f).1, ← eg, e]; rfl
    refine ⟨k, f, hk1, ?_⟩
    rw [eg] at e
    unfold ren at e
    rw [if_neg (by rw [hfk]; decide)] at e
    simp only [nkey, Ky.mk.injEq] at e
    obtain ⟨e0, e1, e2, e3, e4⟩ := e
    have hp0 : Kn A t f.1.p0 := wA.clo k f hk1 f.1.p0 (by unfold refsV; rw [if_neg (by rw [hfk]; decide)]; simp)
    have := h.sim.injK wB hp0 hs e1
    obtain ⟨⟨a0, a1, a2, a3, a4⟩, _⟩ := f
    simp only at this e0 e2 e3 e4
    show (⟨a0, a1, a2, a3, a4⟩ : Ky) = ⟨2, s, r, j, 0⟩
    rw [e0, this, e2, e3, e4]
theorem subset_len : ∀ (l m : List Int), l.Nodup → (∀ x ∈ l, x ∈ m) → l.length ≤ m.length
  | [], _, _, _ => by simp
  | a :: l, m, hn, h => by
    have hnd := List.nodup_cons.1 hn
    have := subset_len l (m.erase a) hnd.2 fun x hx => by
      have hne : x ≠ a := fun e => hnd.1 (e ▸ hx)
      exact (List.mem_erase_of_ne hne).2 (h x (by simp [hx]))
    rw [List.length_erase_of_mem (h a (by simp))] at this
    have hpos : 0 < m.length := List.length_pos_of_mem (h a (by simp))
    rw [List.length_cons]
    omega
theorem sim_undo {A B : Ar} {t : Nat} {p : Int → Int} (h : Alike t A B p) (ht : t < 64) : (A.fresh t).length = (B.fresh t).length ∧ Sim (view (A.lose t (A.fresh t) []) t) (view (B.lose t (B.fresh t) []) t) p := by
  have hf : B.fresh t = (A.fresh t).map p := h.sim.fresh
  refine ⟨by rw [hf, List.length_map], ?_⟩
  rw [(view_lose h.sA ht (fresh_own h.sA ht)).1, (view_lose h.sB ht (fresh_own h.sB ht)).1, hf]
  refine h.sim.less (f' := []) (by rw [List.length_map]) fun id f hid => ⟨fun hm => List.mem_map_of_mem hm, fun hm => ?_⟩
  obtain ⟨k, hk1, hk2⟩ := List.mem_map.1 hm
  obtain ⟨g, hg⟩ := (h.gA.wel t ht).fo k hk1
  have := h.sim.inj k id g f hg hid hk2
  rw [← this]; exact hk1
theorem sim_mark {A B : Ar} {t : Nat} {p : Int → Int} (h : Alike t A B p) (ht : t < 64) : Sim (view (A.lose t [] []) t) (view (B.lose t [] []) t) p := by
  rw [(view_lose h.sA ht (own_nil _ _)).1, (view_lose h.sB ht (own_nil _ _)).1]
  exact h.sim.less (f' := []) rfl fun id f _ => by simp
theorem sim_clean {A B : Ar} {t : Nat} {p : Int → Int} (h : Alike t A B p) (ht : t < 64) {rs : List Int} (hrs : ∀ r ∈ rs, Kn A t r) :
    (idsF A.ths t (keepAll A.ths t rs) A.ths.length).length = (idsF B.ths t (keepAll B.ths t (rs.map p)) B.ths.length).length ∧ Sim (view (A.cleanP t rs) t) (view (B.cleanP t (rs.map p)) t) p := by
  have wA := h.gA.wel t ht
  have wB := h.gB.wel t ht
  have oA := ids_own (l := A.ths) (t := t) (K := keepAll A.ths t rs) (Nat.le_refl A.ths.length)
  have oB := ids_own (l := B.ths) (t := t) (K := keepAll B.ths t (rs.map p)) (Nat.le_refl B.ths.length)
  have hm : ∀ id f, (view A t).V id = some f → (id ∈ idsF A.ths t (keepAll A.ths t rs) A.ths.length ↔ p id ∈ idsF B.ths t (keepAll B.ths t (rs.map p)) B.ths.length) := fun id f hf => by
    rw [ids_iff, ids_iff]
    have hr := h.sim.rch wA hrs wB hf
    constructor
    · rintro ⟨_, k⟩
      exact ⟨⟨_, h.sim.fwd id f hf⟩, fun e => k (hr.2 e)⟩
    · rintro ⟨_, k⟩
      exact ⟨⟨f, hf⟩, fun e => k (hr.1 e)⟩
  have hlen : (idsF B.ths t (keepAll B.ths t (rs.map p)) B.ths.length).length = (idsF A.ths t (keepAll A.ths t rs) A.ths.length).length := by
    refine Nat.le_antisymm ?_ ?_
    · have := subset_len _ ((idsF A.ths t (keepAll A.ths t rs) A.ths.length).map p) oB.1 fun x hx => by
        obtain ⟨⟨g, hg⟩, _⟩ := ids_iff.1 hx
        obtain ⟨k, f, hk1, hk2⟩ := h.sim.bwd x g hg
        rw [← hk2] at hx ⊢
        exact List.mem_map_of_mem ((hm k f hk1).2 hx)
      rw [List.length_map] at this
      exact this
    · have hnd : ((idsF A.ths t (keepAll A.ths t rs) A.ths.length).map p).Nodup := by
        unfold List.Nodup
        rw [List.pairwise_map]
        refine List.Pairwise.imp_of_mem ?_ oA.1
        intro a b ha hb hne e
        obtain ⟨⟨f, hf⟩, _⟩ := ids_iff.1 ha
        obtain ⟨⟨g, hg⟩, _⟩ := ids_iff.1 hb
        exact hne (h.sim.inj a b f g hf hg e)
      have := subset_len _ (idsF B.ths t (keepAll B.ths t (rs.map p)) B.ths.length) hnd fun x hx => by
        obtain ⟨k, hk1, rfl⟩ := List.mem_map.1 hx
        obtain ⟨⟨f, hf⟩, _⟩ := ids_iff.1 hk1
        exact (hm k f hf).1 hk1
      rw [List.length_map] at this
      exact this
  refine ⟨hlen.symm, ?_⟩
  unfold Ar.cleanP
  rw [(view_lose h.sA ht oA).1, (view_lose h.sB ht oB).1]
  exact h.sim.less (f' := []) hlen hm
end Go.Proofs.Ytfogedmghhacdaa.A
