/- ArenaAlone: two runs of deeds, with the others and without; what one is told is the same. -/
import Derived.Test.YtfogedmghhacdaaArAlone
namespace Go.Proofs.Ytfogedmghhacdaa.A
open Go.RowKit Go.Maps

theorem still_same {v w v' w' : Vw} {p : Int → Int} (h : Sim v w p) (h' : Sim v' w' p) (hw : Wel w) (hw' : Wel w') (sub : ∀ k f, v'.V k = some f → v.V k = some f) {x : Int} (hx : (levV v.V x).isSome = true) : (levV w'.V (p x)).isSome = (levV v'.V x).isSome := by
  cases hx' : (levV v'.V x).isSome with
  | true => rw [h'.known hw' hx']; exact hx'
  | false =>
    cases hp : (levV w'.V (p x)).isSome with
    | false => rfl
    | true =>
      exfalso
      obtain ⟨a, ha⟩ := Option.isSome_iff_exists.1 hp
      have key : ∀ k, (levV v.V k).isSome = true → p k = p x → (levV v'.V k).isSome = true → False := fun k hk e hk' => by
        have := h.injK hw hk hx e
        rw [this, hx'] at hk'
        cases hk'
      have z0 : ∀ (V : Int → Option (Ky × Int × Int)), (levV V 0).isSome = true := fun V => Option.isSome_iff_exists.2 ⟨0, levV_iff.2 (.inl ⟨.inl rfl, rfl⟩)⟩
      have z1 : ∀ (V : Int → Option (Ky × Int × Int)), (levV V 1).isSome = true := fun V => Option.isSome_iff_exists.2 ⟨0, levV_iff.2 (.inl ⟨.inr rfl, rfl⟩)⟩
      rcases levV_iff.1 ha with ⟨e | e, _⟩ | ⟨e, g, hg, hk, _⟩
      · exact key 0 (z0 _) (by rw [h.r0, e]) (z0 _)
      · exact key 1 (z1 _) (by rw [h.r1, e]) (z1 _)
      · obtain ⟨k, f, hf, hpk⟩ := h'.bwd _ g hg
        have hf' := h'.fwd k f hf
        rw [hpk] at hf'
        have hgf : ren p f = g := Option.some.inj (hf'.symm.trans hg)
        have hfk : f.1.k = 1 := by rw [← (ren_k p f).1, hgf]; exact hk
        have k01 : ¬ (k = 0 ∨ k = 1) := fun e' => by
          rcases e' with e' | e'
          · rw [e', h'.r0] at hpk; exact e (.inl hpk.symm)
          · rw [e', h'.r1] at hpk; exact e (.inr hpk.symm)
        exact key k (Option.isSome_iff_exists.2 ⟨_, levV_iff.2 (.inr ⟨k01, f, sub k f hf, hfk, rfl⟩)⟩) hpk (Option.isSome_iff_exists.2 ⟨_, levV_iff.2 (.inr ⟨k01, f, hf, hfk, rfl⟩)⟩)
theorem still_map {A B A' B' : Ar} {t : Nat} {p : Int → Int} {M : List Int} (h : Alike t A B p) (ht : t < 64) (h' : Sim (view A' t) (view B' t) p) (hw' : Wel (view B' t)) (sub : ∀ k f, (view A' t).V k = some f → (view A t).V k = some f) (hM : ∀ x ∈ M, Kn A t x) :
    still B' t (M.map p) = (still A' t M).map p := by
  unfold still
  rw [List.filter_map]
  congr 1
  refine List.filter_congr fun x hx => ?_
  show (levelF B'.ths t (p x)).isSome = (levelF A'.ths t x).isSome
  rw [levelF_V, levelF_V]
  exact still_same h.sim h' (h.gB.wel t ht) hw' sub (hM x hx)
theorem less_sub {A : Ar} {t : Nat} {ids f : List Int} (hS : Sound A) (ht : t < 64) (ho : OwnIds A.ths t ids) (k : Int) (g : Ky × Int × Int) (hg : (view (A.lose t ids f) t).V k = some g) : (view A t).V k = some g := by
  rw [(view_lose hS ht ho).1] at hg
  have hg : (if k ∈ ids then none else (view A t).V k) = some g := hg
  by_cases e : k ∈ ids
  · rw [if_pos e] at hg; cases hg
  · rw [if_neg e] at hg; exact hg
/-- a deed of one who sees the same in both -/
theorem step_sim {A B : Ar} {M : List Int} {t : Nat} {p : Int → Int} (h : Alike t A B p) (fA : Fine A) (fB : Fine B) (ht : t < 4) (hM : ∀ x ∈ M, Kn A t x) (d : Dd) :
    (stepA B (M.map p) t d).2.2 = (stepA A M t d).2.2 ∧ ∃ p', Sim (view (stepA A M t d).1 t) (view (stepA B (M.map p) t d).1 t) p' ∧ (stepA B (M.map p) t d).2.1 = (stepA A M t d).2.1.map p' := by
  have ht' : t < 64 := by omega
  have hid := fun n => kn_id hM n
  have him := fun n => idOf_map h.sim.r0 h.sim.r1 M n
  have hJ : jnA B (M.map p) t d = B.joinP t (p (idOf M d.a0)) (p (idOf M d.a1)) (p (idOf M d.a2)) (p (idOf M d.a3)) := by
    unfold jnA; rw [him, him, him, him]
  have hN : ntA B (M.map p) t d = B.noteP t (p (idOf M d.a0)) t (spotI d.a1 3) (p (idOf M d.a0)) := by
    unfold ntA; rw [him]
  unfold stepA
  by_cases e1 : d.k = 1
  · rw [if_pos e1, if_pos e1]
    obtain ⟨s1, p', ⟨s2, s3⟩, s4⟩ := sim_join h ht' (hid d.a0) (hid d.a1) (hid d.a2) (hid d.a3) (join_full fA.s fA.r ht' (fA.q ht)) (join_full fB.s fB.r ht' (fB.q ht))
    have hmap : M.map p = M.map p' := List.map_congr_left fun x hx => (s3 x (hM x hx)).symm
    rw [hJ]
    refine ⟨s1.symm, p', s2, ?_⟩
    show (if _ then _ else _) = (if (jnA A M t d).2.2 = 0 then M ++ [(jnA A M t d).2.1] else M).map p'
    have s1' : (B.joinP t (p (idOf M d.a0)) (p (idOf M d.a1)) (p (idOf M d.a2)) (p (idOf M d.a3))).2.2 = (jnA A M t d).2.2 := s1.symm
    by_cases e : (jnA A M t d).2.2 = 0
    · rw [if_pos e, if_pos (s1'.trans e), List.map_append, hmap]
      show _ ++ [_] = _ ++ [p' (jnA A M t d).2.1]
      rw [show p' (jnA A M t d).2.1 = _ from (s4 e).1]
    · rw [if_neg e, if_neg (fun e' => e (s1'.symm.trans e')), hmap]
  · rw [if_neg e1, if_neg e1]
    by_cases e2 : d.k = 2
    · rw [if_pos e2, if_pos e2, hN]
      obtain ⟨s1, p', s2, s3⟩ := sim_note (r := (t : Int)) (j := spotI d.a1 3) h ht' (hid d.a0) (hid d.a0) (nv_twice fA.nv _ _ _) (nv_twice fB.nv _ _ _) (note_full fA.s fA.r ht' (fA.q ht)) (note_full fB.s fB.r ht' (fB.q ht))
      exact ⟨s1.symm, p', s2, List.map_congr_left fun x hx => (s3 x (hM x hx)).symm⟩
    · rw [if_neg e2, if_neg e2]
      by_cases e3 : d.k = 3
      · rw [if_pos e3, if_pos e3]
        exact ⟨rfl, p, sim_mark h ht', rfl⟩
      · rw [if_neg e3, if_neg e3]
        by_cases e4 : d.k = 4
        · rw [if_pos e4, if_pos e4]
          obtain ⟨s1, s2⟩ := sim_undo h ht'
          refine ⟨by show ((B.fresh t).length : Int) = ((A.fresh t).length : Int); rw [s1], p, s2, ?_⟩
          exact still_map h ht' s2 ((glob_undo h.gB h.sB ht').wel t ht') (less_sub h.sA ht' (fresh_own h.sA ht')) hM
        · rw [if_neg e4, if_neg e4]
          by_cases e5 : d.k = 5
          · rw [if_pos e5, if_pos e5, him]
            obtain ⟨s1, s2⟩ := sim_clean h ht' (rs := [idOf M d.a0]) (fun r hr => by rw [List.mem_singleton] at hr; subst hr; exact hid _)
            have hl : [idOf M d.a0].map p = [p (idOf M d.a0)] := rfl
            rw [hl] at s1 s2
            refine ⟨by show ((List.length _ : Nat) : Int) = ((List.length _ : Nat) : Int); rw [s1], p, s2, ?_⟩
            exact still_map h ht' s2 ((glob_clean h.gB h.sB ht' _).wel t ht') (less_sub h.sA ht' (ids_own (Nat.le_refl _))) hM
          · rw [if_neg e5, if_neg e5]
            by_cases e6 : d.k = 6
            · rw [if_pos e6, if_pos e6, him]
              refine ⟨?_, p, h.sim, rfl⟩
              show (if _ then _ else _) = (if _ then _ else _)
              rw [sim_recall h ht' (hid d.a0)]
            · rw [if_neg e6, if_neg e6]
              have hv : ∀ (X : Ar) u, view X.swept u = view X u := fun X u => view_ext (fun id => ownV_swept _ _ _) rfl rfl rfl
              refine ⟨rfl, p, ?_, rfl⟩
              show Sim (view A.swept t) (view B.swept t) p
              rw [hv, hv]; exact h.sim

/-- a run's state: the arena, what each made, what one was told -/
structure Rn where
  A : Ar
  M : Nat → List Int
  T : List Int
def tenD (d : Dd) : Nat := (spotI d.t 4).toNat
theorem tenD_lt (d : Dd) : tenD d < 4 := by
  have := spotI_bound d.t 4 (by omega)
  unfold tenD
  omega
def Rn.deed (me : Nat) (S : Rn) (d : Dd) : Rn :=
  ⟨(stepA S.A (S.M (tenD d)) (tenD d) d).1, upd S.M (tenD d) (stepA S.A (S.M (tenD d)) (tenD d) d).2.1,
    if tenD d = me then S.T ++ [d.k, (stepA S.A (S.M (tenD d)) (tenD d) d).2.2, (stepA S.A (S.M (tenD d)) (tenD d) d).1.cnt (tenD d)] else S.T⟩
def Rn.go (me : Nat) (all : Bool) (S : Rn) (d : Dd) : Rn := if tenD d ≠ me ∧ all = false then S else S.deed me d
theorem Rn.go_all (me : Nat) (S : Rn) (d : Dd) : S.go me true d = S.deed me d := if_neg fun h => by cases h.2
theorem Rn.go_me {me : Nat} (S : Rn) {d : Dd} (all : Bool) (e : tenD d = me) : S.go me all d = S.deed me d := if_neg fun h => h.1 e
theorem Rn.go_not {me : Nat} (S : Rn) {d : Dd} (e : tenD d ≠ me) : S.go me false d = S := if_pos ⟨e, rfl⟩
/-- all is well in a run -/
structure Rn.Ok (S : Rn) : Prop where
  f : Fine S.A
  m : ∀ t, t < 4 → ∀ x ∈ S.M t, Kn S.A t x
theorem Rn.Ok.deed {S : Rn} (h : S.Ok) (me : Nat) (d : Dd) : (S.deed me d).Ok := by
  obtain ⟨h1, h2, h3⟩ := step_fine h.f (tenD_lt d) (h.m _ (tenD_lt d)) d
  refine ⟨h1, fun u hu x hx => ?_⟩
  have hx : x ∈ upd S.M (tenD d) (stepA S.A (S.M (tenD d)) (tenD d) d).2.1 u := hx
  unfold upd at hx
  by_cases e : u = tenD d
  · subst e
    rw [if_pos rfl] at hx
    exact h2 x hx
  · rw [if_neg e] at hx
    show Kn (stepA S.A (S.M (tenD d)) (tenD d) d).1 u x
    unfold Kn
    rw [h3 u e]
    exact h.m u hu x hx
theorem Rn.Ok.go {S : Rn} (h : S.Ok) (me : Nat) (all : Bool) (d : Dd) : (S.go me all d).Ok := by
  unfold Rn.go
  split
  · exact h
  · exact h.deed me d
/-- one run with the others and one without -/
structure Two (me : Nat) (S S' : Rn) : Prop where
  o : S.Ok
  o' : S'.Ok
  s : ∃ p, Sim (view S.A me) (view S'.A me) p ∧ S'.M me = (S.M me).map p
  t : S'.T = S.T
theorem Two.go {me : Nat} {S S' : Rn} (h : Two me S S') (hme : me < 4) (d : Dd) : Two me (S.go me true d) (S'.go me false d) := by
  obtain ⟨p, hp, hM⟩ := h.s
  refine ⟨h.o.go me true d, h.o'.go me false d, ?_, ?_⟩
  · rw [Rn.go_all]
    by_cases e : tenD d = me
    · rw [Rn.go_me S' false e]
      have ss := step_sim ⟨hp, h.o.f.s, h.o'.f.s, h.o.f.g, h.o'.f.g⟩ h.o.f h.o'.f hme (h.o.m me hme) d
      obtain ⟨_, p', q1, q2⟩ := ss
      refine ⟨p', ?_, ?_⟩
      · show Sim (view (stepA S.A (S.M (tenD d)) (tenD d) d).1 me) (view (stepA S'.A (S'.M (tenD d)) (tenD d) d).1 me) p'
        rw [e, hM]; exact q1
      · show upd S'.M (tenD d) (stepA S'.A (S'.M (tenD d)) (tenD d) d).2.1 me = (upd S.M (tenD d) (stepA S.A (S.M (tenD d)) (tenD d) d).2.1 me).map p'
        rw [e]
        unfold upd
        rw [if_pos rfl, if_pos rfl, hM]; exact q2
    · rw [Rn.go_not S' e]
      refine ⟨p, ?_, ?_⟩
      · show Sim (view (stepA S.A (S.M (tenD d)) (tenD d) d).1 me) _ p
        rw [(step_fine h.o.f (tenD_lt d) (h.o.m _ (tenD_lt d)) d).2.2 me (fun e' => e e'.symm)]
        exact hp
      · show _ = (upd S.M (tenD d) _ me).map p
        unfold upd
        rw [if_neg (fun e' => e e'.symm)]
        exact hM
  · rw [Rn.go_all]
    by_cases e : tenD d = me
    · rw [Rn.go_me S' false e]
      have ss := step_sim ⟨hp, h.o.f.s, h.o'.f.s, h.o.f.g, h.o'.f.g⟩ h.o.f h.o'.f hme (h.o.m me hme) d
      obtain ⟨q0, p', q1, _⟩ := ss
      show (if tenD d = me then _ else _) = (if tenD d = me then _ else _)
      rw [if_pos e, if_pos e, h.t, e, hM, q0]
      have hc : (stepA S'.A ((S.M me).map p) me d).1.cnt me = (stepA S.A (S.M me) me d).1.cnt me := q1.cnt
      rw [hc]
    · rw [Rn.go_not S' e]
      show _ = (if tenD d = me then _ else _)
      rw [if_neg e]
      exact h.t
theorem two_run {me : Nat} (hme : me < 4) : ∀ (ds : List Dd) {S S' : Rn}, Two me S S' → Two me (ds.foldl (Rn.go me true) S) (ds.foldl (Rn.go me false) S')
  | [], _, _, h => h
  | d :: ds, _, _, h => two_run hme ds (h.go hme d)
/-- how a run begins -/
def arBeg1 : Ar := ((arNew 200000).joinP 63 1 0 0 1).1
def arBeg : Ar := (((arBeg1.limP 0 30).limP 1 30).limP 2 30).limP 3 30
def Rn.start : Rn := ⟨arBeg, fun _ => [], []⟩
theorem beg1_cnt : arBeg1.cnt 63 = 1 := by decide +kernel
theorem beg1_full : ((arNew 200000).joinP 63 1 0 0 1).2 = (2, 0) := by decide +kernel
theorem beg1_other (u : Nat) (hu : u ≠ 63) : arBeg1.cnt u = 0 := by
  unfold arBeg1 Ar.joinP
  split
  · rw [(beco_rest _ _ _).2.2.1 u hu]; rfl
  · rfl
theorem beg1_room : arBeg1.room = 200000 := (join_rest (arNew 200000) 63 1 0 0 1).2
theorem one_fits : Fits 1 := ⟨by omega, by omega⟩
theorem sum_q30 : lsum tens q30 = 121 := by decide +kernel
theorem beg_fine : Fine arBeg := by
  have s1 : Sound arBeg1 := join_sound (new_sound (by omega) (by omega)) (by omega) one_fits fits_zero fits_zero one_fits
  have g1 : Glob arBeg1 := glob_join (glob_new 200000) (new_sound (by omega) (by omega)) (by omega) (by rw [beg1_full]; decide)
  have hr := beg1_room
  refine ⟨?_, glob_lim (glob_lim (glob_lim (glob_lim g1 _ _) _ _) _ _) _ _, ⟨fun u hu => ?_, ?_⟩, ?_, fun t ht => ?_⟩
  · exact lim_sound (lim_sound (lim_sound (lim_sound s1 (by omega) (by omega)) (by omega) (by show (30 : Int) ≤ arBeg1.room; omega)) (by omega) (by show (30 : Int) ≤ arBeg1.room; omega)) (by omega) (by show (30 : Int) ≤ arBeg1.room; omega)
  · show arBeg1.cnt u ≤ q30 u
    unfold q30
    by_cases e : u = 63
    · subst e; rw [beg1_cnt]; decide
    · rw [beg1_other u e]
      by_cases e4 : u < 4
      · rw [if_pos e4]; omega
      · rw [if_neg e4, if_neg e]; omega
  · rw [sum_q30]
    show (121 : Int) ≤ arBeg1.room
    omega
  · show NV arBeg1.ths
    exact nv_join fun x hx => by cases hx
  · match t, ht with
    | 0, _ => rfl
    | 1, _ => rfl
    | 2, _ => rfl
    | 3, _ => rfl
theorem start_ok : Rn.start.Ok := ⟨beg_fine, fun _ _ x hx => by cases hx⟩
/-- what one is told is the same as if the others did nothing -/
theorem alone_same {me : Nat} (hme : me < 4) (ds : List Dd) : (ds.foldl (Rn.go me false) Rn.start).T = (ds.foldl (Rn.go me true) Rn.start).T :=
  (two_run hme ds ⟨start_ok, start_ok, ⟨id, sim_refl _ _, rfl⟩, rfl⟩).t
end Go.Proofs.Ytfogedmghhacdaa.A
