/- The keepers' cells (a copy in a row of its own), and what their begun leaves. -/
import Derived.Test.YthobobgiendcfaaSqSome
import Derived.Test.YthobobgiendcfaaSqLaw
import Derived.Test.YthobobgiendcfaaQuBegun
import Derived.Test.YthobobgiendcfaaWrapsLaw
namespace Go.Proofs.Ythobobgiendcfaa.A
open Go.RowKit Go.Maps

theorem cells_at {w : World} {b off : Nat} {zs : List (Int × Int)} (h : HoldsR w b off zs) (j : Nat) (u : Value) (hu : (cellsL zs)[j]? = some u) : w.cell? ((⟨b, off, none⟩ : Addr).add j) = some u := by
  have hj : j < zs.length * 2 := by rw [← cellsL_length]; exact (List.getElem?_eq_some_iff.1 hu).1
  obtain ⟨e0, e1⟩ := cellsL_get zs (j / 2) (by omega)
  obtain ⟨c0, c1⟩ := h (j / 2) (by omega)
  rw [addP]
  by_cases hm2 : j % 2 = 0
  · rw [show j / 2 * 2 = j by omega] at e0
    rw [e0] at hu
    rw [← hu, ← c0]
    congr 2
    omega
  · rw [show j / 2 * 2 + 1 = j by omega] at e1
    rw [e1] at hu
    rw [← hu, ← c1]
    congr 2
    omega
theorem cellsL_one (zs : List (Int × Int)) : ∀ u, u ∈ cellsL zs → u.oneCell' = true := by
  intro u hu
  simp only [cellsL, List.mem_flatMap, encPt] at hu
  obtain ⟨p, _, hp⟩ := hu
  simp at hp
  rcases hp with rfl | rfl <;> rfl
set_option maxHeartbeats 1000000 in
theorem kcells_any (v : Value) (zs : List (Int × Int)) (w : World) (h : Row w v zs) (hn : zs.length ≤ 100000) :
    Calls Try.prog 56 #[v] w fun e w' => ∃ u, e = .returned u ∧ Below w.heap.size w w' ∧ Kept w' w.heap.size u zs := by
  rcases h with ⟨rfl, rfl⟩ | ⟨hz, b, off, c, rfl, hlt, hl, hm, hh⟩
  · go_enter Try.func56, Try.ntmps56
    go_wp2
    go_ret
    exact ⟨_, rfl, Below.refl _ _, Or.inl ⟨rfl, rfl⟩⟩
  · obtain ⟨i0, hi, hz0, hz1, hz2⟩ := info_parts Try.info87
    have hn1 := cells_at hh
    have hn2 := cellsL_one zs
    have hn3 := cellsL_length zs
    generalize hL : cellsL zs = L at *
    have HL : Hid (cellsL zs = L) := hL
    have HZ : Hid (zs ≠ []) := hz
    obtain ⟨n, hnn⟩ : ∃ n, n = zs.length := ⟨_, rfl⟩
    rw [← hnn] at hn hn3 hl ⊢
    have HN : Hid (n = zs.length) := hnn
    clear hnn hL hz hh
    go_enter Try.func56, Try.ntmps56
    go_wp2_with (at_builtin; refine wpList_append_own _ rfl _ _ 69 rfl w.heap.size 87 i0 (.agg #[.int .i64 0, .int .i64 0]) 2 16 Try.underlying69 hi hz0 hz1 hz2 rfl (by decide) (.slice none 0 0) 0 [] rfl (World.ownsRow_nil _ _ _ _) ⟨b, off, none⟩ n c L rfl hn3 hn1 hn2 (by unfold maxLen; omega) (by omega) (Nat.le_refl _) ?_; intro v' w1 hown hgrow hnil)
    go_ret
    refine ⟨v', rfl, (Below.refl _ _).grown hgrow (Nat.le_refl _) (by intro k hk; simp [Value.ownBlock] at hk), Or.inr ⟨HZ.out, ?_⟩⟩
    rw [Nat.zero_add, List.nil_append, HN.out, ← HL.out] at hown
    exact hown

theorem begun_joined : Joined 63 (arNew 200000) 1 0 0 1 0 arBegun 2 := by
  have h := (become_inv (arNew 200000) 63 1 0 0 1 0 (inv_new _) (by omega) rfl rfl rfl rfl (by omega) (by omega) (by show (0 : Int) < 200000; omega)).1
  rw [begun_id] at h
  exact h
theorem begun_inv : Inv arBegun := begun_joined.inv
theorem begun_cnt0 (t : Nat) (ht : t < 63) : arBegun.cnt t = 0 := by
  obtain ⟨N, g, _⟩ := begun_joined.gain
  rw [g.cnt, upd, if_neg (by omega)]
  rfl
theorem begun_pur (t k : Nat) (ht : t < 63) (hk : k < 90000) : Pur arBegun t k 1 := ⟨begun_bud k hk, by rw [begun_cnt0 t ht, begun_lim]; omega, by omega⟩
end Go.Proofs.Ythobobgiendcfaa.A
