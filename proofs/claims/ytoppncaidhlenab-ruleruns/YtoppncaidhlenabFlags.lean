/- A map of cells and flags, each set to true: a set of cells. -/
import Derived.Test.YtoppncaidhlenabKeys
import Derived.Test.YtoppncaidhlenabOpen
namespace Go.Proofs.Ytoppncaidhlenab
open Go.RowKit Go.Maps

theorem boolElem (b : Bool) : plainElem (H := Unit) Try.prog 4 (.bool b) = some (.lit (.bool b), []) := by simp [plainElem, Try.underlying4]
theorem boolElem_inv {v : Value} {z : DataW Unit × List MemPlace} (h : plainElem Try.prog 4 v = some z) : ∃ b, v = .bool b ∧ z = (.lit (.bool b), []) := by
  have hu := Try.underlying4
  unfold plainElem at h
  generalize Try.prog.underlying 4 = t at h hu
  subst hu
  cases v <;> simp at h
  exact ⟨_, rfl, h.symm⟩
theorem Try.zero4 (w : World) : (zeroValue 4).run Try.prog w = .ok (.bool false) w := by kernel_rfl
theorem makeFlags (w : World) : (Instr.makeMap 76 none).run Try.prog w = .ok (.map (some w.heap.size)) (w.alloc (.map #[] 0)) := by
  simp [Instr.makeMap, newObj, Result.andThen]
  rfl

/-- the map in a block holds a list's cells -/
def Flag (B N : Nat) (l : List (Int × Int)) (wr : World) : Prop :=
  ∃ D : DataW Unit, wr.ownsMap Try.prog 53 (plainElem Try.prog 4) B N D ∧ ∀ p, FitsP p → D.atKey (cl p) (.lit (.bool false)) = .lit (.bool (decide (p ∈ l)))
theorem Flag.made (w : World) : Flag w.heap.size 0 [] (w.alloc (.map #[] 0)) := ⟨.map [], World.ownsMap_made (H := Unit) w Try.prog 53 (plainElem Try.prog 4), fun _ _ => by simp; rfl⟩
theorem Flag.lt {B N : Nat} {l : List (Int × Int)} {wr : World} (h : Flag B N l wr) : B < wr.heap.size := by
  obtain ⟨D, h1, _⟩ := h
  exact h1.lt
theorem Flag.block {B N : Nat} {l : List (Int × Int)} {w wr : World} (h : Flag B N l w) (hb : wr.heap[B]? = w.heap[B]?) : Flag B N l wr := by
  obtain ⟨D, ⟨es, clock, h1, F⟩, h2⟩ := h
  exact ⟨D, ⟨es, clock, by rw [hb]; exact h1, F⟩, h2⟩
theorem Flag.alloc {B N : Nat} {l : List (Int × Int)} {w : World} (h : Flag B N l w) (o : Obj) : Flag B N l (w.alloc o) := h.block (Below.heap_alloc _ _ _ h.lt)
theorem Flag.below {B N g : Nat} {l : List (Int × Int)} {w wr : World} (h : Flag B N l w) (hb : Below g w wr) (hg : B < g) : Flag B N l wr := h.block (hb.block B hg)
theorem Flag.mono {B N N' : Nat} {l : List (Int × Int)} {w : World} (h : Flag B N l w) (hN : N ≤ N') : Flag B N' l w := by
  obtain ⟨D, h1, h2⟩ := h
  exact ⟨D, h1.mono hN, h2⟩
theorem Flag.look {B N : Nat} {l : List (Int × Int)} {w : World} (h : Flag B N l w) (x y : Int) (hp : FitsP (x, y)) :
    (Instr.lookup 76 (.map (some B)) (.agg #[.int .i64 x, .int .i64 y]) false).run Try.prog w = .ok (.bool (decide ((x, y) ∈ l))) w := by
  obtain ⟨D, h1, h2⟩ := h
  obtain ⟨v, ps, hrun, hv⟩ := h1.lookup law Try.underlying76 (Try.zero4 w) (boolElem false) (key_cell hp)
  obtain ⟨b, rfl, hb⟩ := boolElem_inv hv
  simp only [Prod.mk.injEq] at hb
  rw [h2 (x, y) hp] at hb
  have hb1 := hb.1
  simp only [DataW.lit.injEq, Lit.bool.injEq] at hb1
  rw [hb1]
  exact hrun
theorem Flag.set {B N : Nat} {l : List (Int × Int)} {w : World} (h : Flag B N l w) (hN : N < 1000000) (x y : Int) (hp : FitsP (x, y)) :
    ∃ w', (Instr.mapUpdate 76 (.map (some B)) (.agg #[.int .i64 x, .int .i64 y]) (.bool true)).run Try.prog w = .ok () w' ∧ Flag B (N + 1) (l ++ [(x, y)]) w' ∧ w.grownBy w' (some B) := by
  obtain ⟨D, h1, h2⟩ := h
  obtain ⟨w', hrun, hown, hg⟩ := h1.update law Try.underlying76 (by unfold maxLen; omega) (key_cell hp) (boolElem true)
  refine ⟨w', hrun, ⟨_, hown, fun p hq => ?_⟩, hg⟩
  by_cases e : (x, y) = p
  · subst e
    rw [atKey_put_same h1.isMap (cl_key _)]
    simp
  · have hne : cl p ≠ cl (x, y) := fun k => e (cl_inj hp hq k.symm)
    rw [atKey_put_other hne, h2 p hq]
    have : ¬ p = (x, y) := fun k => e k.symm
    simp [this]
end Go.Proofs.Ytoppncaidhlenab
