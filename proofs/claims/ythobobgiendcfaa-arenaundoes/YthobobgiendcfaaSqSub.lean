/- What a square is made of belongs to whoever has the square; what a second tenant gains by the same square; a.Live. -/
import Derived.Test.YthobobgiendcfaaSqKeep
namespace Go.Proofs.Ythobobgiendcfaa.A
open Go.RowKit Go.Maps

theorem own_th {l : List Th} {t : Nat} {id : Int} {x : Th} (h : ownF l t id = some x) : thAt l id = x := by
  obtain ⟨_, h2, _⟩ := own_some h
  unfold thAt
  rw [h2]
  rfl
/-- what a tenant's square is made of, read in a later arena, is the tenant's already -/
theorem sub_owned {l l' : List Th} {t : Nat} (he : Ext l l') (hC : Closed l t) : ∀ {id j : Int}, Sub l' id j → ∀ m, levelF l t id = some m → ∃ m', levelF l t j = some m' := by
  have key : ∀ (id m : Int), 2 ≤ id → levelF l t id = some m → (∃ a, levelF l t (thAt l' id).p0 = some a) ∧ (∃ a, levelF l t (thAt l' id).p1 = some a) ∧ (∃ a, levelF l t (thAt l' id).p2 = some a) ∧ (∃ a, levelF l t (thAt l' id).p3 = some a) := by
    intro id m h2 hm
    rcases level_some hm with ⟨h0, _⟩ | ⟨x, h3, h4, _⟩
    · omega
    · obtain ⟨_, h5, h6⟩ := own_some h3
      obtain ⟨x', h7, h8, _⟩ := he _ x h5
      have ex : thAt l' id = x' := by unfold thAt; rw [h7]; rfl
      obtain ⟨k0, k1, k2, k3⟩ := hC x (List.mem_of_getElem? h5) h4 h6
      rw [ex]
      obtain ⟨e0, e1, e2, e3⟩ := key_parts h8
      rw [e0, e1, e2, e3]
      exact ⟨⟨_, k0⟩, ⟨_, k1⟩, ⟨_, k2⟩, ⟨_, k3⟩⟩
  intro id j h
  induction h with
  | self id => exact fun m hm => ⟨m, hm⟩
  | p0 h2 _ ih => exact fun m hm => by obtain ⟨⟨a, ha⟩, _⟩ := key _ m h2 hm; exact ih a ha
  | p1 h2 _ ih => exact fun m hm => by obtain ⟨_, ⟨a, ha⟩, _⟩ := key _ m h2 hm; exact ih a ha
  | p2 h2 _ ih => exact fun m hm => by obtain ⟨_, _, ⟨a, ha⟩, _⟩ := key _ m h2 hm; exact ih a ha
  | p3 h2 _ ih => exact fun m hm => by obtain ⟨_, _, _, a, ha⟩ := key _ m h2 hm; exact ih a ha
theorem level_own {l : List Th} {t : Nat} {id m : Int} (h : levelF l t id = some m) (h2 : 2 ≤ id) : ∃ x, ownF l t id = some x := by
  rcases level_some h with ⟨h0, _⟩ | ⟨x, h3, _⟩
  · omega
  · exact ⟨x, h3⟩
/-- a tenant that has nothing -/
def Bare (l : List Th) (t : Nat) : Prop := ∀ x ∈ l, x.mask.testBit t = false
theorem bare_of {A : Ar} (hI : Inv A) {t : Nat} (ht : t < 64) (h0 : A.cnt t = 0) : Bare A.ths t := by
  have h := hI.cnt t ht
  rw [h0] at h
  have h1 : ownN A.ths t = 0 := by omega
  unfold ownN at h1
  rw [List.countP_eq_zero] at h1
  intro x hx
  simpa using h1 x hx
theorem Gain.bare {t u : Nat} {A A' : Ar} {N : List Int} (g : Gain t A A' N) (h : Bare A.ths u) (hu : u ≠ t) : Bare A'.ths u := by
  intro x hx
  obtain ⟨j, hj⟩ := List.getElem?_of_mem hx
  cases hb : x.mask.testBit u with
  | false => rfl
  | true =>
    rcases (g.bits j x hj u).1 hb with ⟨y, hy, hyb⟩ | ⟨e, _⟩
    · rw [h y (List.mem_of_getElem? hy)] at hyb; cases hyb
    · exact absurd e hu
theorem Gain.mem_of {t : Nat} {A A' : Ar} {N : List Int} (g : Gain t A A' N) (h : Bare A.ths t) {j : Int} (h2 : 2 ≤ j) {x : Th} (hx : ownF A'.ths t j = some x) : j ∈ N := by
  obtain ⟨_, h3, h4⟩ := own_some hx
  rcases (g.bits _ x h3 t).1 h4 with ⟨y, hy, hyb⟩ | ⟨_, e⟩
  · rw [h y (List.mem_of_getElem? hy)] at hyb; cases hyb
  · rwa [show (((j - 2).toNat : Nat) : Int) + 2 = j by omega] at e

/-- what a second tenant gains by the very same square -/
theorem shared_gain {t u : Nat} {A0 A1 A2 : Ar} {N1 N2 : List Int} {p : Int} {n : Nat} (g1 : Gain t A0 A1 N1) (g2 : Gain u A1 A2 N2) (hI1 : Inv A1) (hI2 : Inv A2) (b0t : Bare A0.ths t) (b0u : Bare A0.ths u)
    (s1 : ∀ j ∈ N1, Sub A1.ths p j) (s2 : ∀ j ∈ N2, Sub A2.ths p j) (l1 : levelF A1.ths t p = some (n : Int)) (l2 : levelF A2.ths u p = some (n : Int)) :
    A2.ths.length = A1.ths.length ∧ (u = t → N2 = []) ∧ (u ≠ t → N2.length = N1.length) := by
  have own1 : ∀ j ∈ N2, ∃ x, ownF A1.ths t j = some x := fun j hj => by
    obtain ⟨m, hm⟩ := sub_owned g2.ext (hI1.closed t) (s2 j hj) _ l1
    exact level_own hm (g2.low j hj).1
  refine ⟨?_, fun e => ?_, fun e => ?_⟩
  · have hle := g2.ext.len
    rcases Nat.lt_or_ge A1.ths.length A2.ths.length with h | h
    · exfalso
      obtain ⟨x, hx⟩ := own1 _ (g2.born A1.ths.length (Nat.le_refl _) h)
      obtain ⟨_, h3, _⟩ := own_some hx
      have := (List.getElem?_eq_some_iff.1 h3).1
      omega
    · omega
  · subst e
    cases N2 with
    | nil => rfl
    | cons j r =>
      obtain ⟨x, hx⟩ := own1 j (by simp)
      rw [g2.news j (by simp)] at hx
      cases hx
  · have m1 : ∀ j ∈ N2, j ∈ N1 := fun j hj => by
      obtain ⟨x, hx⟩ := own1 j hj
      exact g1.mem_of b0t (g2.low j hj).1 hx
    have b1u := g1.bare b0u e
    have m2 : ∀ j ∈ N1, j ∈ N2 := fun j hj => by
      have hs : Sub A2.ths p j := (s1 j hj).later g2.ext hI1.good (glevel_of l1)
      obtain ⟨m, hm⟩ := sub_owned (Ext.refl _) (hI2.closed u) hs _ l2
      obtain ⟨x, hx⟩ := level_own hm (g1.low j hj).1
      exact g2.mem_of b1u (g1.low j hj).1 hx
    exact Nat.le_antisymm (g2.nodup.length_le_of_subset m1) (g1.nodup.length_le_of_subset m2)

set_option maxHeartbeats 1000000 in
theorem Live_any (b n : Nat) (F : Nat → Prop) (A : Ar) (w : World) (h : ArAt w b F n A) (hf : A.free = []) (hl : A.ths.length < 1000000) :
    Calls Try.prog 21 #[.pointer (some ⟨b, 0, none⟩)] w fun e w' => e = .returned (.int .i64 (A.ths.length : Int)) ∧ Below w.heap.size w w' := by
  obtain ⟨r, D, ha⟩ := h
  have hv : ∃ a c, r.vth = .slice a A.ths.length c := by
    rcases ha.ths.2 with ⟨h1, h2⟩ | ⟨g, cap, cur, h1, _⟩
    · exact ⟨none, 0, by rw [h1, h2]⟩
    · exact ⟨_, _, h1⟩
  have hfr : ∃ a c, r.vfr = .slice a 0 c := by
    have h2 := ha.free
    rw [hf] at h2
    rcases h2.2 with ⟨h1, _⟩ | ⟨g, cap, cur, h1, _⟩
    · exact ⟨none, 0, h1⟩
    · exact ⟨_, _, h1⟩
  refine (live_any b A.ths.length 0 r w ha.raw hv hfr (by omega) (by omega)).mono ?_
  rintro e w' ⟨rfl, q, rfl⟩
  exact ⟨by simp, ⟨rfl, rfl, rfl, Nat.le_refl _, fun _ _ => rfl⟩⟩
end Go.Proofs.Ythobobgiendcfaa.A
