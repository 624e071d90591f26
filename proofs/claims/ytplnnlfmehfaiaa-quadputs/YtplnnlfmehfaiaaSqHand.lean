/- A hand that makes squares: its purse, its empty squares. -/
import Derived.Test.YtplnnlfmehfaiaaSqGain
namespace Go.Proofs.Ytplnnlfmehfaiaa.A
open Go.RowKit Go.Maps

/-- room for k joins more, for a tenant -/
structure Pur (A : Ar) (t k nn : Nat) : Prop where
  bud : Bud A k
  quo : A.cnt t + (k : Int) ≤ A.lim t
  nn : nn + k < 900000000
theorem Pur.less {A : Ar} {t k k' nn : Nat} (h : Pur A t k nn) (hk : k' ≤ k) : Pur A t k' nn := ⟨h.bud.less hk, by have := h.quo; omega, by have := h.nn; omega⟩
theorem Pur.step {A A' : Ar} {t k nn : Nat} (h : Pur A t (k + 1) nn) (g : Grew t A A') (ht : t < 64) : Pur A' t k (nn + 1) :=
  ⟨h.bud.step g ht, by have := h.quo; have := g.cnt t; rw [g.lim]; omega, by have := h.nn; omega⟩

/-- what a square is made of -/
inductive Sub (l : List Th) : Int → Int → Prop
  | self (id : Int) : Sub l id id
  | p0 {id j : Int} : 2 ≤ id → Sub l (thAt l id).p0 j → Sub l id j
  | p1 {id j : Int} : 2 ≤ id → Sub l (thAt l id).p1 j → Sub l id j
  | p2 {id j : Int} : 2 ≤ id → Sub l (thAt l id).p2 j → Sub l id j
  | p3 {id j : Int} : 2 ≤ id → Sub l (thAt l id).p3 j → Sub l id j

/-- what one join makes, with its cells -/
structure Joins (t : Nat) (A : Ar) (q0 q1 q2 q3 : Int) (m : Nat) (A' : Ar) (id : Int) (N : List Int) : Prop where
  inv : Inv A'
  gain : Gain t A A' N
  only : ∀ j ∈ N, j = id
  lv : levelF A'.ths t id = some ((m + 1 : Nat) : Int)
  kids : (thAt A'.ths id).p0 = q0 ∧ (thAt A'.ths id).p1 = q1 ∧ (thAt A'.ths id).p2 = q2 ∧ (thAt A'.ths id).p3 = q3
  two : 2 ≤ id
  cells : cellsF A'.ths (m + 1) id = cellsF A.ths m q0 ++ shiftL ((2 ^ m : Nat) : Int) 0 (cellsF A.ths m q1) ++ shiftL 0 ((2 ^ m : Nat) : Int) (cellsF A.ths m q2) ++ shiftL ((2 ^ m : Nat) : Int) ((2 ^ m : Nat) : Int) (cellsF A.ths m q3)
  sq : ∃ y, ownF A'.ths t id = some y ∧ y.key = ⟨1, q0, q1, q2, q3⟩ ∧ y.lv = ((m + 1 : Nat) : Int)

theorem joins_any (A : Ar) (t k nn : Nat) (q0 q1 q2 q3 : Int) (m : Nat) (hI : Inv A) (ht : t < 64) (hP : Pur A t (k + 1) nn) (h0 : levelF A.ths t q0 = some (m : Int)) (h1 : levelF A.ths t q1 = some (m : Int)) (h2 : levelF A.ths t q2 = some (m : Int)) (h3 : levelF A.ths t q3 = some (m : Int)) (hm : m < 44) :
    ∃ N, Joins t A q0 q1 q2 q3 m (A.join t q0 q1 q2 q3).1 (A.join t q0 q1 q2 q3).2.1 N ∧ (A.join t q0 q1 q2 q3).2.2 = 0 ∧ Pur (A.join t q0 q1 q2 q3).1 t k (nn + 1) := by
  have hq := hP.quo
  obtain ⟨hJ, h0e⟩ := become_inv A t q0 q1 q2 q3 m hI ht h0 h1 h2 h3 (by omega) (by omega) (by omega)
  obtain ⟨N, hN, hone⟩ := hJ.gain
  obtain ⟨y, hy, hk, hl⟩ := hJ.own
  obtain ⟨h2i, hya, _⟩ := own_some hy
  have k0 : y.p0 = q0 := congrArg Ky.p0 hk
  have k1 : y.p1 = q1 := congrArg Ky.p1 hk
  have k2 : y.p2 = q2 := congrArg Ky.p2 hk
  have k3 : y.p3 = q3 := congrArg Ky.p3 hk
  have hth := thAt_eq hya
  refine ⟨N, ⟨hJ.inv, hN, hone, ?_, ?_, h2i, ?_, ⟨y, hy, hk, by rw [hl]; rfl⟩⟩, h0e, hP.step hJ.grew ht⟩
  · rw [level_of hy (congrArg Ky.k hk), hl]; rfl
  · rw [hth]; exact ⟨k0, k1, k2, k3⟩
  · simp only [cellsF]
    rw [hth, k0, k1, k2, k3, cells_ext hI.good hN.ext m _ (glevel_of h0), cells_ext hI.good hN.ext m _ (glevel_of h1), cells_ext hI.good hN.ext m _ (glevel_of h2), cells_ext hI.good hN.ext m _ (glevel_of h3)]

theorem Sub.ext {l l' : List Th} (he : Ext l l') : ∀ {id j : Int}, Sub l id j → (∀ n : Nat, ∀ i, glevel l i = some (n : Int) → True) → (∃ n : Nat, glevel l id = some (n : Int)) → Good l → Sub l' id j := by
  intro id j h
  induction h with
  | self id => intro _ _ _; exact Sub.self id
  | @p0 id j h2 _ ih =>
    rintro hh ⟨n, hn⟩ hG
    cases n with
    | zero => rcases glevel_zero hG hn with rfl | rfl <;> omega
    | succ n =>
      obtain ⟨x, hx, _, _, _, g0, g1, g2, g3⟩ := thing_of hG hn
      obtain ⟨x', hx', hk, _⟩ := he _ _ hx
      have e := (key_parts hk).1
      refine Sub.p0 h2 ?_
      rw [thAt_eq hx', e]
      rw [thAt_eq hx] at ih
      exact ih hh ⟨n, g0⟩ hG
  | @p1 id j h2 _ ih =>
    rintro hh ⟨n, hn⟩ hG
    cases n with
    | zero => rcases glevel_zero hG hn with rfl | rfl <;> omega
    | succ n =>
      obtain ⟨x, hx, _, _, _, g0, g1, g2, g3⟩ := thing_of hG hn
      obtain ⟨x', hx', hk, _⟩ := he _ _ hx
      have e := (key_parts hk).2.1
      refine Sub.p1 h2 ?_
      rw [thAt_eq hx', e]
      rw [thAt_eq hx] at ih
      exact ih hh ⟨n, g1⟩ hG
  | @p2 id j h2 _ ih =>
    rintro hh ⟨n, hn⟩ hG
    cases n with
    | zero => rcases glevel_zero hG hn with rfl | rfl <;> omega
    | succ n =>
      obtain ⟨x, hx, _, _, _, g0, g1, g2, g3⟩ := thing_of hG hn
      obtain ⟨x', hx', hk, _⟩ := he _ _ hx
      have e := (key_parts hk).2.2.1
      refine Sub.p2 h2 ?_
      rw [thAt_eq hx', e]
      rw [thAt_eq hx] at ih
      exact ih hh ⟨n, g2⟩ hG
  | @p3 id j h2 _ ih =>
    rintro hh ⟨n, hn⟩ hG
    cases n with
    | zero => rcases glevel_zero hG hn with rfl | rfl <;> omega
    | succ n =>
      obtain ⟨x, hx, _, _, _, g0, g1, g2, g3⟩ := thing_of hG hn
      obtain ⟨x', hx', hk, _⟩ := he _ _ hx
      have e := (key_parts hk).2.2.2
      refine Sub.p3 h2 ?_
      rw [thAt_eq hx', e]
      rw [thAt_eq hx] at ih
      exact ih hh ⟨n, g3⟩ hG
theorem Sub.later {l l' : List Th} {id j : Int} {n : Nat} (h : Sub l id j) (he : Ext l l') (hG : Good l) (hn : glevel l id = some (n : Int)) : Sub l' id j := h.ext he (fun _ _ _ => trivial) ⟨n, hn⟩ hG

/-- a hand between two of its steps, in plain words -/
structure PS (t : Nat) (A : Ar) (E : List Int) (k nn : Nat) : Prop where
  inv : Inv A
  emp : Emp A.ths t E
  len : E.length ≤ 45
  pur : Pur A t k nn
theorem PS.pos {t : Nat} {A : Ar} {E : List Int} {k nn : Nat} (h : PS t A E k nn) : 1 ≤ E.length := (List.getElem?_eq_some_iff.1 h.emp.zero).1
theorem PS.less {t : Nat} {A : Ar} {E : List Int} {k k' nn : Nat} (h : PS t A E k nn) (hk : k' ≤ k) : PS t A E k' nn := ⟨h.inv, h.emp, h.len, h.pur.less hk⟩
theorem emp_ext {l l' : List Th} {t : Nat} {E : List Int} (h : Emp l t E) (he : Ext l l') : Emp l' t E := by
  refine ⟨h.zero, fun i e hi => level_ext (h.lv i e hi) he, fun i e e' h1 h2 => ?_⟩
  obtain ⟨y, hy, hk⟩ := h.parts i e e' h1 h2
  obtain ⟨y', hy', hk', _⟩ := own_ext hy he
  exact ⟨y', hy', hk'.trans hk⟩
/-- nothing lives in an empty square -/
theorem emp_cells {l : List Th} {t : Nat} {E : List Int} (h : Emp l t E) : ∀ (n : Nat) (e : Int), E[n]? = some e → cellsF l n e = []
  | 0, e, he => by
    rw [h.zero] at he
    obtain rfl := Option.some.inj he
    rfl
  | n + 1, e, he => by
    have hlt := (List.getElem?_eq_some_iff.1 he).1
    have he0 : E[n]? = some E[n] := List.getElem?_eq_getElem (by omega)
    obtain ⟨y, hy, hk⟩ := h.parts n _ e he0 he
    obtain ⟨_, hya, _⟩ := own_some hy
    have hth := thAt_eq hya
    have k0 : y.p0 = E[n] := congrArg Ky.p0 hk
    have k1 : y.p1 = E[n] := congrArg Ky.p1 hk
    have k2 : y.p2 = E[n] := congrArg Ky.p2 hk
    have k3 : y.p3 = E[n] := congrArg Ky.p3 hk
    simp only [cellsF]
    rw [hth, k0, k1, k2, k3, emp_cells h n _ he0]
    rfl
/-- smaller empty squares are in greater ones -/
theorem emp_sub {l : List Th} {t : Nat} {E : List Int} (h : Emp l t E) {a : Int} {i : Nat} (ha : E[i]? = some a) : ∀ (d : Nat) (b : Int), E[i + d]? = some b → Sub l b a
  | 0, b, hb => by
    rw [Nat.add_zero, ha] at hb
    obtain rfl := Option.some.inj hb
    exact Sub.self _
  | d + 1, b, hb => by
    have hlt := (List.getElem?_eq_some_iff.1 hb).1
    have he0 : E[i + d]? = some E[i + d] := List.getElem?_eq_getElem (by omega)
    obtain ⟨y, hy, hk⟩ := h.parts (i + d) _ b he0 hb
    obtain ⟨h2, hya, _⟩ := own_some hy
    have k0 : y.p0 = E[i + d] := congrArg Ky.p0 hk
    refine Sub.p0 h2 ?_
    rw [thAt_eq hya, k0]
    exact emp_sub h ha d _ he0

/-- one empty square more -/
theorem ps_empty {t : Nat} {A : Ar} {E : List Int} {k nn : Nat} (h : PS t A E (k + 1) nn) (ht : t < 64) (hl : E.length ≤ 44) :
    StepOk t (A, E) ∧ PS t (emptyS t (A, E)).1 (emptyS t (A, E)).2 k (nn + 1) ∧ ∃ N, Gain t A (emptyS t (A, E)).1 N ∧ ∀ j ∈ N, (emptyS t (A, E)).2[E.length]? = some j := by
  have hq := h.pur.quo
  obtain ⟨m, hm, hM, hE⟩ := emp_step h.emp h.inv.good (by omega) (by omega)
  obtain ⟨m', hm', hlast⟩ := h.emp.last
  obtain rfl : m = m' := by omega
  have hlv := h.emp.lv m _ hlast
  obtain ⟨N, hJ, h0, hP⟩ := joins_any A t k nn _ _ _ _ m h.inv ht h.pur hlv hlv hlv hlv (by omega)
  have hf := level_fits hlv h.pur.bud.young.few
  refine ⟨⟨h.pur.bud.young, ⟨by show _ ≤ E.getLast!; omega, by show E.getLast! ≤ _; omega⟩, h0, fun l hl' => by rw [show levelF (A, E).1.ths t (A, E).2.getLast! = levelF A.ths t E.getLast! from rfl, hlv] at hl'; cases hl'; omega⟩, ⟨hJ.inv, hE, by show (E ++ [_]).length ≤ 45; simp; omega, hP⟩, N, hJ.gain, fun j hj => ?_⟩
  rw [hJ.only j hj]
  show (E ++ [_])[E.length]? = _
  simp
theorem ps_empties {t : Nat} {A : Ar} {E : List Int} {k nn : Nat} (ht : t < 64) (d : Nat) (h : PS t A E (k + d) nn) (hl : E.length + d ≤ 45) : (∀ i, i < d → StepOk t (emptyN t (A, E) i)) ∧ PS t (emptyN t (A, E) d).1 (emptyN t (A, E) d).2 k (nn + d) ∧ (∃ N, Gain t A (emptyN t (A, E) d).1 N ∧ ∀ j ∈ N, ∃ i : Nat, i < E.length + d ∧ (emptyN t (A, E) d).2[i]? = some j) ∧ ∀ (i : Nat) (e : Int), E[i]? = some e → (emptyN t (A, E) d).2[i]? = some e := by
  induction d generalizing k with
  | zero => exact ⟨fun i hi => by omega, h, ⟨[], Gain.refl t A, fun j hj => by cases hj⟩, fun i e he => he⟩
  | succ d ih =>
    obtain ⟨i1, i2, ⟨N, g, gN⟩, i4⟩ := ih (k := k + 1) (by rw [show k + 1 + d = k + (d + 1) by omega]; exact h) (by omega)
    have hlen := emptyN_length t (A, E) d
    obtain ⟨s1, s2, M, gm, gM⟩ := ps_empty (A := (emptyN t (A, E) d).1) (E := (emptyN t (A, E) d).2) (k := k) (nn := nn + d) i2 ht (by rw [hlen]; show E.length + d ≤ 44; omega)
    have e1 : emptyN t (A, E) (d + 1) = emptyS t ((emptyN t (A, E) d).1, (emptyN t (A, E) d).2) := rfl
    have keep : ∀ (i : Nat) (e : Int), (emptyN t (A, E) d).2[i]? = some e → (emptyN t (A, E) (d + 1)).2[i]? = some e := fun i e he => by
      rw [e1]
      show ((emptyN t (A, E) d).2 ++ [_])[i]? = some e
      rw [List.getElem?_append_left (List.getElem?_eq_some_iff.1 he).1]
      exact he
    refine ⟨fun i hi => ?_, ?_, ⟨N ++ M, ?_, fun j hj => ?_⟩, fun i e he => keep i e (i4 i e he)⟩
    · rcases Nat.lt_or_ge i d with h1 | h1
      · exact i1 i h1
      · obtain rfl : i = d := by omega
        exact s1
    · rw [e1]; exact s2
    · rw [e1]; exact g.trans gm
    · rcases List.mem_append.1 hj with hj | hj
      · obtain ⟨i, hi, he⟩ := gN j hj
        exact ⟨i, by omega, keep i j he⟩
      · refine ⟨E.length + d, by omega, ?_⟩
        rw [e1]
        have := gM j hj
        rw [hlen] at this
        exact this
end Go.Proofs.Ytplnnlfmehfaiaa.A
