/- DecodeCells midway: both numbers, the row of cells, the rule. -/
import Derived.Test.YtpldnhlancjlnaaDoorBigGive
import Derived.Test.YtpldnhlancjlnaaDoorDecode
import Derived.Laws.OwnMore
namespace Go.Proofs.YtpldnhlancjlnaaDoor
open Go.Shelf Go.RowKit

/-- a whole number whose words lie in no block of a row -/
def IntApart (b n : Nat) (v : Value) (w : World) : Prop := ∃ u, w.heap[b]? = some (.cells #[.bool false, u] 75 (0, 0)) ∧ Wd w (b + 1) u n ∧ ∀ ad k c, u = .slice (some ad) k c → k ≠ 0 → v.ownBlock ≠ some ad.block
theorem IntApart.int {b n : Nat} {v : Value} {w : World} (h : IntApart b n v w) : IsInt b n w := by
  obtain ⟨u, h1, h2, _⟩ := h
  exact ⟨u, h1, h2⟩
theorem IntApart.lt {b n : Nat} {v : Value} {w : World} (h : IntApart b n v w) : b < w.heap.size := by
  obtain ⟨u, h1, _⟩ := h
  exact (Array.getElem?_eq_some_iff.1 h1).1
theorem IntApart.go {b n : Nat} {v : Value} {w w' : World} (h : IntApart b n v w) (hb : Below w.heap.size w w') : IntApart b n v w' := by
  obtain ⟨u, h1, h2, h3⟩ := h
  exact ⟨u, (hb.block b (Array.getElem?_eq_some_iff.1 h1).1).trans h1, h2.below hb, h3⟩
theorem IntApart.other {b b' n : Nat} {v : Value} {w w' : World} (h : IntApart b n v w) (hg : w.grownBy w' (some b')) (hne : b ≠ b') (hb : ∃ x a k c, w.heap[b']? = some (.cells #[.bool x, .slice a k c] 75 (0, 0))) : IntApart b n v w' := by
  obtain ⟨u, h1, h2, h3⟩ := h
  obtain ⟨x, a, k, c, hb⟩ := hb
  exact ⟨u, (hg.block b (Array.getElem?_eq_some_iff.1 h1).1 (fun e => hne (Option.some.inj e))).trans h1, h2.other hg ⟨x, a, k, c, _, _, hb⟩, h3⟩
/-- a number whose words were made anew lies apart from an elder row -/
theorem IsIntB.apart {b n B' : Nat} {v : Value} {w : World} (h : IsIntB b n B' w) (hB : b < B') (hv : ∀ g, v.ownBlock = some g → g < B') : IntApart b n v w := by
  obtain ⟨u, h1, h2⟩ := h
  refine ⟨u, h1, h2.mono hB, fun ad k c hu hk e => ?_⟩
  obtain ⟨a', k', c', hu', _, _, _, _, _, hw⟩ := h2
  rw [hu] at hu'
  cases hu'
  rcases hw with hw | ⟨b', off, ha, hB', _, _⟩
  · exact hk hw
  · cases ha
    have h5 := hv b' e
    omega
/-- a number stays while a row that lies apart grows -/
theorem IntApart.row {b n : Nat} {v v' : Value} {w w' : World} (h : IntApart b n v w) (hg : w.grownBy w' v.ownBlock) (hb : v.ownBlock ≠ some b) (hv' : ∀ g, v'.ownBlock = some g → v.ownBlock = some g ∨ w.heap.size ≤ g) : IntApart b n v' w' := by
  obtain ⟨u, h1, ⟨a, k, c, rfl, hk, hc, hk2, hn, hp, hw⟩, h3⟩ := h
  refine ⟨_, (hg.block b (Array.getElem?_eq_some_iff.1 h1).1 (fun e => hb e.symm)).trans h1, ⟨a, k, c, rfl, hk, hc, hk2, hn, hp, ?_⟩, fun ad k' c' hu hk' e => ?_⟩
  · rcases hw with hw | ⟨b', off, rfl, hB, hlt, hwd⟩
    · exact Or.inl hw
    · by_cases hk0 : k = 0
      · exact Or.inl hk0
      · refine Or.inr ⟨b', off, rfl, hB, Nat.lt_of_lt_of_le hlt hg.size, fun j hj => ?_⟩
        have hne := h3 ⟨b', off, none⟩ k c rfl hk0
        rw [World.cell?_of_block (w := w) (hg.block b' hlt (fun e => hne e.symm))]
        exact hwd j hj
  · cases hu
    rcases hv' _ e with h | h
    · exact h3 ad k c rfl hk' h
    · rcases hw with hw | ⟨b', off, ha, _, hlt, _⟩
      · exact hk' hw
      · cases ha
        simp only at h
        omega

/-- DecodeCells midway: R the rule's block, bx and by' the numbers', B where the row may lie -/
structure DS (w : World) (R bx by' B : Nat) (b l : Int) (x y : Nat) (v : Value) (cs : List (Int × Int)) (W : World) : Prop where
  bel : Below w.heap.size w W
  ha : W.heap[w.heap.size]? = some (.cells #[.int .i64 0, .int .i64 0] 24 (0, 0))
  hr : W.heap[R]? = some (.cells #[.int .i64 b, .int .i64 l] 24 (0, 0))
  hx : IntApart bx x v W
  hy : IntApart by' y v W
  own : W.ownsRow B 56 2 v cs.length (cellsL cs)
  ord : w.heap.size < R ∧ R < bx ∧ bx < by' ∧ by' < B ∧ B ≤ W.heap.size

theorem own_ne {W : World} {B n : Nat} {v : Value} {xs : List Value} (h : W.ownsRow B 56 2 v n xs) {b : Nat} (hb : b < B) : v.ownBlock ≠ some b := fun e => by
  have := (h.lt b e).1
  omega
theorem DS.go {w : World} {R bx by' B : Nat} {b l : Int} {x y : Nat} {v : Value} {cs : List (Int × Int)} {W W' : World} (h : DS w R bx by' B b l x y v cs W) (hb : Below W.heap.size W W') : DS w R bx by' B b l x y v cs W' :=
  ⟨h.bel.trans (hb.mono h.bel.size), (hb.block _ (Array.getElem?_eq_some_iff.1 h.ha).1).trans h.ha, (hb.block _ (Array.getElem?_eq_some_iff.1 h.hr).1).trans h.hr, h.hx.go hb, h.hy.go hb,
    h.own.kept (row := none) (grown_of hb none) (Classical.em _), by have := h.ord; have := hb.size; omega⟩
theorem DS.setX {w : World} {R bx by' B : Nat} {b l : Int} {x y x' : Nat} {v : Value} {cs : List (Int × Int)} {W W' : World} (h : DS w R bx by' B b l x y v cs W) (hg : W.grownBy W' (some bx)) (hi : IsIntB bx x' W.heap.size W') : DS w R bx by' B b l x' y v cs W' := by
  have ho := h.ord
  have hv : ∀ g, v.ownBlock = some g → g < W.heap.size := fun g hg => (h.own.lt g hg).2
  refine ⟨h.bel.trans (grown_to_below hg (by omega) (by omega)), (hg.block _ (by omega) (by simp; omega)).trans h.ha, (hg.block _ (by omega) (by simp; omega)).trans h.hr, hi.apart h.hx.lt hv, h.hy.other hg (by omega) h.hx.int.shape,
    h.own.kept (row := some bx) hg (Or.inr (own_ne h.own (by omega))), by have := hg.size; omega⟩
theorem DS.setY {w : World} {R bx by' B : Nat} {b l : Int} {x y y' : Nat} {v : Value} {cs : List (Int × Int)} {W W' : World} (h : DS w R bx by' B b l x y v cs W) (hg : W.grownBy W' (some by')) (hi : IsIntB by' y' W.heap.size W') : DS w R bx by' B b l x y' v cs W' := by
  have ho := h.ord
  have hv : ∀ g, v.ownBlock = some g → g < W.heap.size := fun g hg => (h.own.lt g hg).2
  refine ⟨h.bel.trans (grown_to_below hg (by omega) (by omega)), (hg.block _ (by omega) (by simp; omega)).trans h.ha, (hg.block _ (by omega) (by simp; omega)).trans h.hr, h.hx.other hg (by omega) h.hy.int.shape, hi.apart h.hy.lt hv,
    h.own.kept (row := some by') hg (Or.inr (own_ne h.own (by omega))), by have := hg.size; omega⟩
/-- a cell more -/
theorem DS.row {w : World} {R bx by' B : Nat} {b l : Int} {x y : Nat} {v : Value} {cs cs' : List (Int × Int)} {W W' : World} (h : DS w R bx by' B b l x y v cs W) {g cap : Nat} (hown : W'.ownsRow B 56 2 (.slice (some ⟨g, 0, none⟩) cs'.length cap) cs'.length (cellsL cs')) (hg : W.grownBy W' v.ownBlock) (hgg : v.ownBlock = some g ∨ W.heap.size ≤ g) : DS w R bx by' B b l x y (.slice (some ⟨g, 0, none⟩) cs'.length cap) cs' W' := by
  have ho := h.ord
  have hne : ∀ k, k < B → some k ≠ v.ownBlock := fun k hk e => own_ne h.own hk e.symm
  have hv' : ∀ k, (Value.slice (some ⟨g, 0, none⟩) cs'.length cap).ownBlock = some k → v.ownBlock = some k ∨ W.heap.size ≤ k := fun k hk => by
    simp only [Value.ownBlock, Option.some.injEq] at hk
    subst hk
    exact hgg
  refine ⟨h.bel.trans ⟨hg.os, hg.tape, hg.output, hg.size, fun k hk => hg.block k (by omega) (hne k (by omega))⟩, (hg.block _ (by omega) (hne _ (by omega))).trans h.ha, (hg.block _ (by omega) (hne _ (by omega))).trans h.hr, h.hx.row hg (own_ne h.own (by omega)) hv', h.hy.row hg (own_ne h.own (by omega)) hv', hown, by have := hg.size; omega⟩
end Go.Proofs.YtpldnhlancjlnaaDoor
