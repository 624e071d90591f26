/- Two arenas in which a tenant sees the same, but for numbers. -/
import Derived.Test.YtfogedmghhacdaaArGlob
namespace Go.Proofs.Ytfogedmghhacdaa.A
open Go.RowKit Go.Maps

/-- a thing, renamed -/
def ren (p : Int → Int) (f : Ky × Int × Int) : Ky × Int × Int :=
  if f.1.k = 1 then (⟨f.1.k, p f.1.p0, p f.1.p1, p f.1.p2, p f.1.p3⟩, f.2.1, f.2.2) else (⟨f.1.k, p f.1.p0, f.1.p1, f.1.p2, f.1.p3⟩, f.2.1, p f.2.2)
theorem ren_k (p : Int → Int) (f : Ky × Int × Int) : (ren p f).1.k = f.1.k ∧ (ren p f).2.1 = f.2.1 := by
  unfold ren
  split <;> exact ⟨rfl, rfl⟩
theorem ren_refs (p : Int → Int) (f : Ky × Int × Int) : refsV (ren p f) = (refsV f).map p := by
  unfold refsV
  rw [(ren_k p f).1]
  unfold ren
  by_cases h : f.1.k = 1
  · rw [if_pos h, if_pos h, if_pos h]; rfl
  · rw [if_neg h, if_neg h, if_neg h]; rfl
/-- what one sees is what the other sees, renamed -/
structure Sim (v w : Vw) (p : Int → Int) : Prop where
  r0 : p 0 = 0
  r1 : p 1 = 1
  fwd : ∀ id f, v.V id = some f → w.V (p id) = some (ren p f)
  bwd : ∀ id g, w.V id = some g → ∃ k f, v.V k = some f ∧ p k = id
  inj : ∀ i j f g, v.V i = some f → v.V j = some g → p i = p j → i = j
  cnt : w.cnt = v.cnt
  lim : w.lim = v.lim
  fresh : w.fresh = v.fresh.map p
section
variable {v w : Vw} {p : Int → Int}
theorem Sim.known (h : Sim v w p) (hw : Wel w) {i : Int} (hi : (levV v.V i).isSome = true) : levV w.V (p i) = levV v.V i := by
  obtain ⟨a, ha⟩ := Option.isSome_iff_exists.1 hi
  rw [ha]
  rcases levV_iff.1 ha with ⟨e | e, e2⟩ | ⟨h1, f, hf, hk, e⟩
  · subst e; rw [h.r0]; exact levV_iff.2 (.inl ⟨.inl rfl, e2⟩)
  · subst e; rw [h.r1]; exact levV_iff.2 (.inl ⟨.inr rfl, e2⟩)
  · have hp := h.fwd i f hf
    have h2 := hw.two _ _ hp
    exact levV_iff.2 (.inr ⟨by omega, _, hp, by rw [(ren_k p f).1]; exact hk, by rw [(ren_k p f).2]; exact e⟩)
theorem Sim.injK (h : Sim v w p) (hw : Wel w) {i j : Int} (hi : (levV v.V i).isSome = true) (hj : (levV v.V j).isSome = true) (e : p i = p j) : i = j := by
  have part : ∀ {i}, (levV v.V i).isSome = true → i = 0 ∨ i = 1 ∨ ∃ f, v.V i = some f := fun {i} hi => by
    obtain ⟨a, ha⟩ := Option.isSome_iff_exists.1 hi
    rcases levV_iff.1 ha with ⟨e | e, _⟩ | ⟨_, f, hf, _⟩
    · exact .inl e
    · exact .inr (.inl e)
    · exact .inr (.inr ⟨f, hf⟩)
  have r0 := h.r0
  have r1 := h.r1
  rcases part hi with rfl | rfl | ⟨f, hf⟩
  · rcases part hj with rfl | rfl | ⟨g, hg⟩
    · rfl
    · omega
    · have := hw.two _ _ (h.fwd j g hg); omega
  · rcases part hj with rfl | rfl | ⟨g, hg⟩
    · omega
    · rfl
    · have := hw.two _ _ (h.fwd j g hg); omega
  · have h2 := hw.two _ _ (h.fwd i f hf)
    rcases part hj with rfl | rfl | ⟨g, hg⟩
    · omega
    · omega
    · exact h.inj i j f g hf hg e
/-- two things that are one when renamed are one -/
theorem Sim.keyInj (h : Sim v w p) (hw : Wel w) {f g : Ky × Int × Int} (hf : ∀ r ∈ refsV f, (levV v.V r).isSome = true) (hg : ∀ r ∈ refsV g, (levV v.V r).isSome = true) (e : (ren p f).1 = (ren p g).1) : f.1 = g.1 := by
  have hk : f.1.k = g.1.k := by rw [← (ren_k p f).1, ← (ren_k p g).1, e]
  by_cases h1 : f.1.k = 1
  · have h2 : g.1.k = 1 := by omega
    unfold ren at e
    rw [if_pos h1, if_pos h2] at e
    simp only [Ky.mk.injEq] at e
    obtain ⟨_, e0, e1, e2, e3⟩ := e
    unfold refsV at hf hg
    rw [if_pos h1] at hf
    rw [if_pos h2] at hg
    have k0 := h.injK hw (hf _ (by simp)) (hg _ (by simp)) e0
    have k1 := h.injK hw (hf _ (by simp)) (hg _ (by simp)) e1
    have k2 := h.injK hw (hf _ (by simp)) (hg _ (by simp)) e2
    have k3 := h.injK hw (hf _ (by simp)) (hg _ (by simp)) e3
    obtain ⟨⟨a0, a1, a2, a3, a4⟩, _⟩ := f
    obtain ⟨⟨b0, b1, b2, b3, b4⟩, _⟩ := g
    simp only at k0 k1 k2 k3 hk
    rw [hk, k0, k1, k2, k3]
  · have h2 : ¬ g.1.k = 1 := by omega
    unfold ren at e
    rw [if_neg h1, if_neg h2] at e
    simp only [Ky.mk.injEq] at e
    obtain ⟨_, e0, e1, e2, e3⟩ := e
    unfold refsV at hf hg
    rw [if_neg h1] at hf
    rw [if_neg h2] at hg
    have k0 := h.injK hw (hf _ (by simp)) (hg _ (by simp)) e0
    obtain ⟨⟨a0, a1, a2, a3, a4⟩, _⟩ := f
    obtain ⟨⟨b0, b1, b2, b3, b4⟩, _⟩ := g
    simp only at k0 e1 e2 e3 hk
    rw [hk, k0, e1, e2, e3]
/-- a thing more in both -/
theorem Sim.more (h : Sim v w p) (hv : Wel v) {a b : Int} {f : Ky × Int × Int} (ha : 2 ≤ a) (na : v.V a = none) (nb : w.V b = none) (hr : ∀ r ∈ refsV f, (levV v.V r).isSome = true) : Sim (v.more a f) (w.more b (ren p f)) (fun k => if k = a then b else p k) := by
  have pk : ∀ r, (levV v.V r).isSome = true → (if r = a then b else p r) = p r := fun r hr => if_neg (known_ne ha na hr)
  have pr : ∀ g, (∀ r ∈ refsV g, (levV v.V r).isSome = true) → ren (fun k => if k = a then b else p k) g = ren p g := fun g hg => by
    unfold ren
    unfold refsV at hg
    by_cases h1 : g.1.k = 1
    · rw [if_pos h1] at hg
      rw [if_pos h1, if_pos h1]
      simp only [pk g.1.p0 (hg _ (by simp)), pk g.1.p1 (hg _ (by simp)), pk g.1.p2 (hg _ (by simp)), pk g.1.p3 (hg _ (by simp))]
    · rw [if_neg h1] at hg
      rw [if_neg h1, if_neg h1]
      simp only [pk g.1.p0 (hg _ (by simp)), pk g.2.2 (hg _ (by simp))]
  have get : ∀ k g, (v.more a f).V k = some g → k = a ∧ g = f ∨ k ≠ a ∧ v.V k = some g := fun k g hk => by
    have hk : (if k = a then some f else v.V k) = some g := hk
    by_cases e : k = a
    · rw [if_pos e] at hk; exact .inl ⟨e, (Option.some.inj hk).symm⟩
    · rw [if_neg e] at hk; exact .inr ⟨e, hk⟩
  have nbp : ∀ k g, v.V k = some g → p k ≠ b := fun k g hk e => by
    have := h.fwd k g hk
    rw [e, nb] at this; cases this
  refine ⟨?_, ?_, fun k g hk => ?_, fun k g hk => ?_, fun i j f1 g1 hi hj e => ?_, ?_, h.lim, ?_⟩
  · show (if (0 : Int) = a then b else p 0) = 0
    rw [if_neg (by omega)]; exact h.r0
  · show (if (1 : Int) = a then b else p 1) = 1
    rw [if_neg (by omega)]; exact h.r1
  · rcases get k g hk with ⟨e1, e2⟩ | ⟨e1, e2⟩
    · subst e1 e2
      rw [pr _ hr]
      show (if (if k = k then b else p k) = b then some (ren p g) else _) = _
      rw [if_pos rfl, if_pos rfl]
    · rw [pr _ (hv.clo k g e2)]
      show (if (if k = a then b else p k) = b then some (ren p f) else w.V (if k = a then b else p k)) = _
      rw [if_neg e1, if_neg (nbp k g e2)]
      exact h.fwd k g e2
  · have hk : (if k = b then some (ren p f) else w.V k) = some g := hk
    by_cases e : k = b
    · exact ⟨a, f, if_pos rfl, by show (if a = a then b else p a) = k; rw [if_pos rfl, e]⟩
    · rw [if_neg e] at hk
      obtain ⟨m, f1, h1, h2⟩ := h.bwd k g hk
      have hma : m ≠ a := fun e' => by rw [e', na] at h1; cases h1
      exact ⟨m, f1, by show (if m = a then some f else v.V m) = _; rw [if_neg hma]; exact h1, by show (if m = a then b else p m) = k; rw [if_neg hma]; exact h2⟩
  · have e : (if i = a then b else p i) = (if j = a then b else p j) := e
    rcases get i f1 hi with ⟨e1, _⟩ | ⟨e1, e2⟩
    · rcases get j g1 hj with ⟨k1, _⟩ | ⟨k1, k2⟩
      · rw [e1, k1]
      · rw [if_pos e1, if_neg k1] at e
        exact absurd e.symm (nbp j g1 k2)
    · rcases get j g1 hj with ⟨k1, _⟩ | ⟨k1, k2⟩
      · rw [if_neg e1, if_pos k1] at e
        exact absurd e (nbp i f1 e2)
      · rw [if_neg e1, if_neg k1] at e
        exact h.inj i j f1 g1 e2 k2 e
  · show w.cnt + 1 = v.cnt + 1
    rw [h.cnt]
  · show w.fresh ++ [b] = (v.fresh ++ [a]).map fun k => if k = a then b else p k
    rw [List.map_append, h.fresh]
    congr 1
    · refine List.map_congr_left fun k hk => ?_
      obtain ⟨g, hg⟩ := hv.fo k hk
      rw [if_neg fun e => by rw [e, na] at hg; cases hg]
    · simp
/-- things less in both -/
theorem Sim.less (h : Sim v w p) {ids ids' f' : List Int} (hl : ids'.length = ids.length) (hm : ∀ id f, v.V id = some f → (id ∈ ids ↔ p id ∈ ids')) : Sim (v.less ids f') (w.less ids' (f'.map p)) p := by
  have get : ∀ k g, (v.less ids f').V k = some g → k ∉ ids ∧ v.V k = some g := fun k g hk => by
    have hk : (if k ∈ ids then none else v.V k) = some g := hk
    by_cases e : k ∈ ids
    · rw [if_pos e] at hk; cases hk
    · rw [if_neg e] at hk; exact ⟨e, hk⟩
  refine ⟨h.r0, h.r1, fun k g hk => ?_, fun k g hk => ?_, fun i j f1 g1 hi hj e => h.inj i j f1 g1 (get i f1 hi).2 (get j g1 hj).2 e, ?_, h.lim, rfl⟩
  · obtain ⟨e1, e2⟩ := get k g hk
    show (if p k ∈ ids' then none else w.V (p k)) = _
    rw [if_neg fun e => e1 ((hm k g e2).2 e)]
    exact h.fwd k g e2
  · have hk : (if k ∈ ids' then none else w.V k) = some g := hk
    by_cases e : k ∈ ids'
    · rw [if_pos e] at hk; cases hk
    · rw [if_neg e] at hk
      obtain ⟨m, f1, h1, h2⟩ := h.bwd k g hk
      refine ⟨m, f1, ?_, h2⟩
      show (if m ∈ ids then none else v.V m) = _
      rw [if_neg fun e' => e (by rw [← h2]; exact (hm m f1 h1).1 e')]
      exact h1
  · show w.cnt - (ids'.length : Int) = v.cnt - (ids.length : Int)
    rw [h.cnt, hl]
/-- what can be reached is the same -/
theorem Sim.rch (h : Sim v w p) (hv : Wel v) {rs : List Int} (hrs : ∀ r ∈ rs, (levV v.V r).isSome = true) (hw : Wel w) {id : Int} {f : Ky × Int × Int} (hf : v.V id = some f) : Rch v.V rs id ↔ Rch w.V (rs.map p) (p id) := by
  constructor
  · intro hr
    clear hf
    induction hr with
    | root h1 h2 h3 => exact .root (List.mem_map_of_mem h1) (h.fwd _ _ h2) (by rw [(ren_k p _).1]; exact h3)
    | part _ h2 h3 h4 h5 ih => exact .part ih (h.fwd _ _ h2) (by rw [ren_refs]; exact List.mem_map_of_mem h3) (h.fwd _ _ h4) (by rw [(ren_k p _).1]; exact h5)
  · intro hr
    have key : ∀ b, Rch w.V (rs.map p) b → ∀ a g, v.V a = some g → p a = b → Rch v.V rs a := fun b hb => by
      induction hb with
      | @root b g1 h1 h2 h3 =>
        intro a g hg e
        obtain ⟨r, hr1, hr2⟩ := List.mem_map.1 h1
        have hk : (levV v.V a).isSome = true := by
          have h6 := h.fwd a g hg
          rw [e, h2] at h6
          have h7 := Option.some.inj h6
          have h8 : g.1.k = 1 := by rw [← (ren_k p g).1, ← h7]; exact h3
          have h9 := hv.two a g hg
          rw [levV_iff.2 (.inr ⟨by omega, g, hg, h8, rfl⟩)]; rfl
        have ha : r = a := h.injK hw (hrs r hr1) hk (hr2.trans e.symm)
        subst ha
        refine .root hr1 hg ?_
        have h6 := h.fwd r g hg
        rw [e, h2] at h6
        rw [← (ren_k p g).1, ← Option.some.inj h6]; exact h3
      | @part b r f1 g1 hb h2 h3 h4 h5 ih =>
        intro a g hg e
        obtain ⟨k, fk, hk1, hk2⟩ := h.bwd b f1 h2
        have hrk := ih k fk hk1 hk2
        have h6 := h.fwd k fk hk1
        rw [hk2, h2] at h6
        have h7 := Option.some.inj h6
        rw [h7, ren_refs] at h3
        obtain ⟨r0, hr1, hr2⟩ := List.mem_map.1 h3
        have hg6 := h.fwd a g hg
        rw [e, h4] at hg6
        have hgk : g.1.k = 1 := by rw [← (ren_k p g).1, ← Option.some.inj hg6]; exact h5
        have h9 := hv.two a g hg
        have hka : (levV v.V a).isSome = true := by rw [levV_iff.2 (.inr ⟨by omega, g, hg, hgk, rfl⟩)]; rfl
        have ha : r0 = a := h.injK hw (hv.clo k fk hk1 r0 hr1) hka (hr2.trans e.symm)
        subst ha
        exact .part hrk hk1 hr1 hg hgk
    exact key _ hr id f hf rfl
end
end Go.Proofs.Ytfogedmghhacdaa.A
