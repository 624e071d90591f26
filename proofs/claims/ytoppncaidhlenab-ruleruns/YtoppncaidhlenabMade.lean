/- PlaneSets: the walk of the law itself. -/
import Derived.Test.YtoppncaidhlenabSome
import Derived.Test.YtoppncaidhlenabBoxLaw
namespace Go.Proofs.Ytoppncaidhlenab
open Go.RowKit Go.Lib Go.Sort

theorem some_any (v : Value) (zs : List (Int × Int)) (w : World) (h : RRow w v zs) :
    Calls Try.prog 9 #[v, .int .i64 1000, .int .i64 549755813888] w fun e w' => ∃ u, e = .returned u ∧ Below w.heap.size w w' ∧ Row w' u (someL zs) := by
  obtain ⟨a, c, rfl, _, _, _, h⟩ := h
  rcases h with h | ⟨b, off, rfl, hb, hp⟩
  · have hz := List.length_eq_zero_iff.1 h
    subst hz
    exact (some_none a c w).mono fun e w' ⟨he, hw⟩ => ⟨_, he, by rw [hw]; exact Below.refl _ _, Or.inl ⟨rfl, rfl⟩⟩
  · exact (some_some b off _ c zs w hb rfl hp).mono fun e w' ⟨u, he, hbel, hk⟩ => ⟨u, he, hbel, hk.row⟩

/-- rows that stand in one world -/
def AllRows (w : World) (l : List (Value × List (Int × Int))) : Prop := ∀ x ∈ l, Row w x.1 x.2
theorem AllRows.cons {w w' : World} {l : List (Value × List (Int × Int))} {v : Value} {zs : List (Int × Int)} (h : AllRows w l) (hb : Below w.heap.size w w') (hr : Row w' v zs) : AllRows w' ((v, zs) :: l) := by
  intro x hx
  rcases List.mem_cons.1 hx with rfl | hx
  · exact hr
  · exact (h x hx).below hb
theorem AllRows.below {w w' : World} {l : List (Value × List (Int × Int))} (h : AllRows w l) (hb : Below w.heap.size w w') : AllRows w' l := fun x hx => (h x hx).below hb

theorem sub_code {R S : List (Int × Int)} (hT : Tidy R) (hs : ∀ p, p ∈ R → p ∈ S) (hf : S.any farP = false) (hl : S.length ≤ 4096) : tcode R = 0 ∧ R.length ≤ S.length := by
  have h1 : R.length ≤ S.length := len_le (hT.imp fun {a b} hab e => by subst e; exact ahead_irrefl a hab) hs
  refine ⟨tcode_zero.2 ⟨by omega, ?_⟩, h1⟩
  rw [List.any_eq_false] at *
  exact fun p hp => hf p (hs p hp)
theorem someL_len (zs : List (Int × Int)) : (someL zs).length ≤ 1000 := by simp [someL]; omega
theorem someL_near (zs : List (Int × Int)) : (someL zs).any farP = false := (tcode_zero.1 (someL_code zs)).2
theorem near_append {a b : List (Int × Int)} (ha : a.any farP = false) (hb : b.any farP = false) : (a ++ b).any farP = false := by rw [List.any_append, ha, hb]; rfl

end Go.Proofs.Ytoppncaidhlenab
