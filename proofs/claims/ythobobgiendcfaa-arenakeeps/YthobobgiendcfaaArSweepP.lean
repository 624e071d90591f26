/- What sweeping leaves. -/
import Derived.Test.YthobobgiendcfaaArCleanP
import Derived.Test.YthobobgiendcfaaArSweep2
namespace Go.Proofs.Ythobobgiendcfaa.A
open Go.RowKit Go.Maps

theorem swept_get {l : List Th} {j : Nat} {y : Th} (h : (sw l l.length)[j]? = some y) : ∃ x, l[j]? = some x ∧ y = if gone x = true then noTh else x := by
  rw [sw_get] at h
  cases hx : l[j]? with
  | none => rw [hx] at h; cases h
  | some x =>
    have hj : j < l.length := (List.getElem?_eq_some_iff.1 hx).1
    rw [hx, Option.map_some] at h
    refine ⟨x, rfl, ?_⟩
    rw [← Option.some.inj h]
    simp [hj]
theorem gone_own {x : Th} {u : Nat} (h : x.mask.testBit u = true) : gone x = false := by
  unfold gone
  have : x.mask ≠ 0 := fun e => by rw [e] at h; simp at h
  simp [this]
theorem swept_own {l : List Th} {u : Nat} {id : Int} {x : Th} (h : ownF l u id = some x) : ownF (sw l l.length) u id = some x := by
  obtain ⟨h2, h3, h4⟩ := own_some h
  refine own_of h2 ?_ h4
  rw [sw_get, h3, Option.map_some, gone_own h4]
  simp
theorem swept_level {l : List Th} {u : Nat} {id m : Int} (h : levelF l u id = some m) : levelF (sw l l.length) u id = some m := by
  rcases level_some h with ⟨h0, rfl⟩ | ⟨x, h1, h2, h3⟩
  · unfold levelF; rw [if_pos h0]
  · rw [level_of (swept_own h1) h2, h3]
theorem swept_bits {l : List Th} {j u : Nat} {y : Th} (h : (sw l l.length)[j]? = some y) : y.mask.testBit u = true ↔ ∃ x, l[j]? = some x ∧ x.mask.testBit u = true := by
  obtain ⟨x, hx, rfl⟩ := swept_get h
  rw [hx]
  constructor
  · intro hb
    cases hg : gone x with
    | true => rw [hg] at hb; simp [noTh] at hb
    | false => rw [hg] at hb; exact ⟨x, rfl, by simpa using hb⟩
  · rintro ⟨x', e, hb⟩
    obtain rfl := Option.some.inj e
    rw [gone_own hb]
    simpa using hb
theorem mask_bit {m : Nat} (h : m ≠ 0) : ∃ u, m.testBit u = true := Nat.exists_testBit_of_ne_zero h
theorem swept_inv {A : Ar} (hI : Inv A) : Inv (A.swp A.ths.length) := by
  have own : ∀ y ∈ sw A.ths A.ths.length, ∀ u, y.mask.testBit u = true → y ∈ A.ths := fun y hy u hb => by
    obtain ⟨j, hj⟩ := List.getElem?_of_mem hy
    obtain ⟨x, hx, e⟩ := swept_get hj
    cases hg : gone x with
    | true => rw [hg] at e; rw [e] at hb; simp [noTh] at hb
    | false => rw [hg] at e; rw [e]; simpa using List.mem_of_getElem? hx
  have clos : ∀ u, Closed (sw A.ths A.ths.length) u := fun u y hy hk hb => by
    obtain ⟨l0, l1, l2, l3⟩ := hI.closed u y (own y hy u hb) hk hb
    exact ⟨swept_level l0, swept_level l1, swept_level l2, swept_level l3⟩
  refine ⟨⟨fun y hy hk => ?_⟩, sw_uniq hI.uniq _, clos, fun u hu => ?_⟩
  · have hm : y.mask ≠ 0 := fun e => by
      obtain ⟨j, hj⟩ := List.getElem?_of_mem (show y ∈ sw A.ths A.ths.length from hy)
      obtain ⟨x, hx, e2⟩ := swept_get hj
      cases hg : gone x with
      | true => rw [hg, if_pos rfl] at e2; rw [e2] at hk; simp [noTh] at hk
      | false =>
        rw [hg] at e2
        simp only [Bool.false_eq_true, if_false] at e2
        subst e2
        unfold gone at hg
        rw [hk, e] at hg
        simp at hg
    obtain ⟨u, hu⟩ := mask_bit hm
    obtain ⟨b1, b2, _⟩ := hI.good.lv y (own y hy u hu) hk
    obtain ⟨l0, l1, l2, l3⟩ := clos u y hy hk hu
    exact ⟨b1, b2, glevel_of l0, glevel_of l1, glevel_of l2, glevel_of l3⟩
  · show A.cnt u = _
    rw [hI.cnt u hu, ownN_bits u A.ths (A.swp A.ths.length).ths (by show _ ≤ (sw _ _).length; rw [sw_len]; exact Nat.le_refl _) (fun j y hy => swept_bits hy)]
theorem swept_th {l : List Th} {u : Nat} {id : Int} {x : Th} (h : ownF l u id = some x) : thAt (sw l l.length) id = thAt l id := by
  rw [own_th (swept_own h), own_th h]
theorem swept_cells {A : Ar} (hI : Inv A) {u : Nat} : ∀ (n : Nat) (id : Int), levelF A.ths u id = some (n : Int) → cellsF (sw A.ths A.ths.length) n id = cellsF A.ths n id
  | 0, _, _ => rfl
  | n + 1, id, h => by
    obtain ⟨x, hsq, hth, h2, hlt, hq⟩ := square_of hI h
    have ho : ownF A.ths u id = some x := by
      unfold squareF at hsq
      rw [Option.filter_eq_some_iff] at hsq
      exact hsq.1
    have q0 := hq 0 (by omega)
    have q1 := hq 1 (by omega)
    have q2 := hq 2 (by omega)
    have q3 := hq 3 (by omega)
    rw [← hth] at q0 q1 q2 q3
    unfold cellsF
    rw [swept_th ho]
    have c0 := swept_cells hI n _ q0
    have c1 := swept_cells hI n _ q1
    have c2 := swept_cells hI n _ q2
    have c3 := swept_cells hI n _ q3
    simp only [quarterF] at c0 c1 c2 c3
    simp at c0 c1 c2 c3
    rw [c0, c1, c2, c3]
theorem swept_sub {A : Ar} (hI : Inv A) {u : Nat} {id j : Int} (h : Sub A.ths id j) : ∀ m, levelF A.ths u id = some m → Sub (sw A.ths A.ths.length) id j := by
  have key : ∀ (id m : Int), 2 ≤ id → levelF A.ths u id = some m → thAt (sw A.ths A.ths.length) id = thAt A.ths id ∧ (∃ a, levelF A.ths u (thAt A.ths id).p0 = some a) ∧ (∃ a, levelF A.ths u (thAt A.ths id).p1 = some a) ∧ (∃ a, levelF A.ths u (thAt A.ths id).p2 = some a) ∧ (∃ a, levelF A.ths u (thAt A.ths id).p3 = some a) := by
    intro id m h2 hm
    obtain ⟨x, hx⟩ := level_own hm h2
    obtain ⟨_, h5, h6⟩ := own_some hx
    rcases level_some hm with ⟨h0, _⟩ | ⟨x', h3, h4, _⟩
    · omega
    · rw [hx] at h3
      obtain rfl := Option.some.inj h3
      obtain ⟨k0, k1, k2, k3⟩ := hI.closed u x (List.mem_of_getElem? h5) h4 h6
      rw [swept_th hx, own_th hx]
      exact ⟨rfl, ⟨_, k0⟩, ⟨_, k1⟩, ⟨_, k2⟩, ⟨_, k3⟩⟩
  induction h with
  | self id => exact fun m _ => Sub.self id
  | p0 h2 _ ih => exact fun m hm => by obtain ⟨e, ⟨a, ha⟩, _⟩ := key _ m h2 hm; exact Sub.p0 h2 (by rw [e]; exact ih a ha)
  | p1 h2 _ ih => exact fun m hm => by obtain ⟨e, _, ⟨a, ha⟩, _⟩ := key _ m h2 hm; exact Sub.p1 h2 (by rw [e]; exact ih a ha)
  | p2 h2 _ ih => exact fun m hm => by obtain ⟨e, _, _, ⟨a, ha⟩, _⟩ := key _ m h2 hm; exact Sub.p2 h2 (by rw [e]; exact ih a ha)
  | p3 h2 _ ih => exact fun m hm => by obtain ⟨e, _, _, _, a, ha⟩ := key _ m h2 hm; exact Sub.p3 h2 (by rw [e]; exact ih a ha)
theorem swept_kok {l : List Th} (h : KOk l) : KOk (sw l l.length) := fun y hy => by
  obtain ⟨j, hj⟩ := List.getElem?_of_mem hy
  obtain ⟨x, hx, rfl⟩ := swept_get hj
  split
  · exact Or.inl rfl
  · exact h x (List.mem_of_getElem? hx)
theorem swept_mask {l : List Th} (h : ∀ x ∈ l, x.mask < 18446744073709551616) : ∀ y ∈ sw l l.length, y.mask < 18446744073709551616 := fun y hy => by
  obtain ⟨j, hj⟩ := List.getElem?_of_mem hy
  obtain ⟨x, hx, rfl⟩ := swept_get hj
  split
  · decide
  · exact h x (List.mem_of_getElem? hx)
theorem swept_none {l : List Th} : ∀ y ∈ sw l l.length, gone y = false := fun y hy => by
  obtain ⟨j, hj⟩ := List.getElem?_of_mem hy
  obtain ⟨x, hx, rfl⟩ := swept_get hj
  cases hg : gone x with
  | true => rfl
  | false => simpa using hg
theorem fr_none {l : List Th} (h : ∀ y ∈ l, gone y = false) : fr l l.length = [] := by
  unfold fr
  rw [List.map_eq_nil_iff, List.filter_eq_nil_iff]
  intro j hj
  rw [List.mem_range] at hj
  rw [getElem!_pos l j hj, h _ (List.getElem_mem hj)]
  decide

/-! ### the arena's calls -/
theorem Clean_any (b n t lv rb : Nat) (p : Int) (F : Nat → Prop) (A : Ar) (w : World) (h : ArAt w b F n A) (hI : Inv A) (ht : t < 64) (hm : ∀ x ∈ A.ths, x.mask < 18446744073709551616) (hf : A.ths.length < 1000000) (hpos : 0 < A.ths.length) (hl : levelF A.ths t p = some (lv : Int))
    (hcnt : 0 ≤ A.cnt t ∧ A.cnt t < 4611686018427387904) (hroot : w.cell? ⟨rb, 0, none⟩ = some (.int .i64 p)) :
    Calls Try.prog 33 #[.pointer (some ⟨b, 0, none⟩), .int .i64 t, .slice (some ⟨rb, 0, none⟩) 1 1] w fun e w' => ∃ K : List Bool, K.length = A.ths.length ∧ (∀ i : Nat, Mk K i ↔ Sub A.ths p ((i : Int) + 2)) ∧ e = .returned (.int .i64 ((idsF A.ths t K A.ths.length).length : Int)) ∧ ArAt w' b F n (A.clean t K) ∧ Apart F w w' := by
  obtain ⟨r, D, h⟩ := h
  exact clean_any b n t lv rb p F A r D w h hI ht hm hf hpos hl hcnt hroot
theorem Sweep_any (b n : Nat) (F : Nat → Prop) (A : Ar) (w : World) (h : ArAt w b F n A) (hlen : A.ths.length < 1000000) (hpos : 0 < A.ths.length) (hI : Inv A) (hk : KOk A.ths)
    (hmax : ∀ y ∈ A.free, ∀ (j : Nat) (x : Th), A.ths[j]? = some x → gone x = true → y < (j : Int) + 2) (hfl : A.free.length + A.ths.length < 1000000) :
    Calls Try.prog 34 #[.pointer (some ⟨b, 0, none⟩)] w fun e w' => e = .returned (.int .i64 ((fr A.ths A.ths.length).length : Int)) ∧ (∃ F', (∀ k, F' k → F k ∨ w.heap.size ≤ k) ∧ ArAt w' b F' n (A.swp A.ths.length)) ∧ Apart F w w' := by
  obtain ⟨r, D, h⟩ := h
  exact sweep_any b n F A r D w h hlen hpos hI.uniq (kok_fit hI.good hk hlen) hmax hfl
end Go.Proofs.Ythobobgiendcfaa.A
