/- Keys in a row. -/
import Derived.Test.YtekjcmejnhhpaaaDoorSpKit
import Derived.Laws.MakeOwn
namespace Go.Proofs.YtekjcmejnhhpaaaDoor
open Go.RowKit

/-- a key -/
structure Ky where
  text : ByteArray
  name : ByteArray
  rights : Int
def Ky.vals (k : Ky) : List Value := [.string k.text, .string k.name, .int .i64 k.rights]
def Ky.val (k : Ky) : Value := .agg #[.string k.text, .string k.name, .int .i64 k.rights]
def keysL (ks : List Ky) : List Value := ks.flatMap Ky.vals
theorem keysL_append (a b : List Ky) : keysL (a ++ b) = keysL a ++ keysL b := by unfold keysL; rw [List.flatMap_append]
theorem keysL_len (ks : List Ky) : (keysL ks).length = ks.length * 3 := by
  induction ks with
  | nil => rfl
  | cons k r ih => rw [show k :: r = [k] ++ r from rfl, keysL_append, List.length_append, ih, List.length_append]; simp [keysL, Ky.vals]; omega
theorem keysL_at (ks : List Ky) (k : Nat) (x : Ky) (h : ks[k]? = some x) : (keysL ks)[k * 3]? = some (.string x.text) ∧ (keysL ks)[k * 3 + 1]? = some (.string x.name) ∧ (keysL ks)[k * 3 + 2]? = some (.int .i64 x.rights) := by
  induction ks generalizing k with
  | nil => simp at h
  | cons c r ih =>
    cases k with
    | zero => simp at h; subst h; exact ⟨rfl, rfl, rfl⟩
    | succ k =>
      have := ih k (by simpa using h)
      rw [show c :: r = [c] ++ r from rfl, keysL_append, show (k + 1) * 3 = k * 3 + 3 by omega, show k * 3 + 3 + 1 = k * 3 + 1 + 3 by omega, show k * 3 + 3 + 2 = k * 3 + 2 + 3 by omega]
      have e : ∀ j, (keysL [c] ++ keysL r)[j + 3]? = (keysL r)[j]? := fun j => by
        rw [List.getElem?_append_right (by simp [keysL, Ky.vals])]
        simp [keysL, Ky.vals]
      rw [e, e, e]
      exact this
theorem keysL_one (ks : List Ky) : ∀ u ∈ keysL ks, u.oneCell' = true := by
  intro u hu
  obtain ⟨k, _, hk⟩ := List.mem_flatMap.1 hu
  simp only [Ky.vals, List.mem_cons, List.not_mem_nil, or_false] at hk
  rcases hk with rfl | rfl | rfl <;> rfl
/-- a key's three cells -/
def KAt (w : World) (b off : Nat) (x : Ky) : Prop := w.cell? ⟨b, off, none⟩ = some (.string x.text) ∧ w.cell? ⟨b, off + 1, none⟩ = some (.string x.name) ∧ w.cell? ⟨b, off + 2, none⟩ = some (.int .i64 x.rights)
theorem cell_heap {w w' : World} {a : Addr} (h : w'.heap[a.block]? = w.heap[a.block]?) : w'.cell? a = w.cell? a := World.cell?_of_block h
theorem KAt.keep {w w' : World} {b off : Nat} {x : Ky} (h : KAt w b off x) (hb : w'.heap[b]? = w.heap[b]?) : KAt w' b off x :=
  ⟨(cell_heap (a := ⟨b, off, none⟩) hb).trans h.1, (cell_heap (a := ⟨b, off + 1, none⟩) hb).trans h.2.1, (cell_heap (a := ⟨b, off + 2, none⟩) hb).trans h.2.2⟩
/-- keys in a row of the call's own -/
def KRow (w : World) (B : Nat) (v : Value) (ks : List Ky) : Prop := w.ownsRow B 33 3 v ks.length (keysL ks)
theorem KRow.below {w w' : World} {B : Nat} {v : Value} {ks : List Ky} (h : KRow w B v ks) (hb : Below w.heap.size w w') : KRow w' B v ks :=
  World.ownsRow.kept (row := none) h ⟨hb.os, hb.tape, hb.output, hb.size, fun k hk _ => hb.block k hk⟩ (Classical.em _)
/-- keys that can be read -/
def HK (w : World) (v : Value) (ks : List Ky) : Prop :=
  ∃ p cap, v = .slice p ks.length cap ∧ ks.length ≤ cap ∧ cap ≤ 9223372036854775807 ∧ (p = none → cap = 0) ∧ (ks.length = 0 ∨ ∃ b off, p = some ⟨b, off, none⟩ ∧ b < w.heap.size ∧ ∀ k x, ks[k]? = some x → KAt w b (off + k * 3) x)
theorem HK.keep {w w' : World} {v : Value} {ks : List Ky} (h : HK w v ks) (hb : ∀ k, k < w.heap.size → w'.heap[k]? = w.heap[k]?) (hs : w.heap.size ≤ w'.heap.size) : HK w' v ks := by
  obtain ⟨p, cap, h1, h2, h3, h5, h4⟩ := h
  refine ⟨p, cap, h1, h2, h3, h5, ?_⟩
  rcases h4 with h4 | ⟨b, off, e, hlt, hc⟩
  · exact .inl h4
  · exact .inr ⟨b, off, e, by omega, fun k x hk => (hc k x hk).keep (hb b hlt)⟩
theorem HK.below {w w' : World} {v : Value} {ks : List Ky} (h : HK w v ks) (hb : Below w.heap.size w w') : HK w' v ks := h.keep hb.block hb.size
theorem KRow.hk {w : World} {B : Nat} {v : Value} {ks : List Ky} (h : KRow w B v ks) : HK w v ks := by
  rcases h.2 with ⟨h0, h1⟩ | ⟨g, cap, cur, hv, _, hg, h1, h2, hs, ht⟩
  · exact ⟨none, 0, by rw [h0, h1], by omega, by omega, fun _ => rfl, .inl h1⟩
  · refine ⟨_, cap, hv, h1, by unfold maxLen at h2; omega, (fun e => by cases e), .inr ⟨g, 0, rfl, (Array.getElem?_eq_some_iff.1 hg).1, fun k x hk => ?_⟩⟩
    obtain ⟨a, b, c⟩ := keysL_at ks k x hk
    have hl : k < ks.length := (List.getElem?_eq_some_iff.1 hk).1
    rw [← ht, List.getElem?_take, if_pos (by omega)] at a b c
    rw [Nat.zero_add]
    refine ⟨?_, ?_, ?_⟩
    · rw [Lib.cell_of_heap hg]; simpa using a
    · rw [Lib.cell_of_heap hg]; simpa using b
    · rw [Lib.cell_of_heap hg]; simpa using c
theorem KRow.lt {w : World} {B : Nat} {v : Value} {ks : List Ky} (h : KRow w B v ks) (q : Nat) (hq : v.ownBlock = some q) : B ≤ q ∧ q < w.heap.size := by
  rcases h.2 with ⟨h0, _⟩ | ⟨g, cap, cur, hv, hb, hg, _⟩
  · rw [h0] at hq; cases hq
  · rw [hv] at hq
    have : g = q := by simpa [Value.ownBlock] using hq
    subst this
    exact ⟨hb, (Array.getElem?_eq_some_iff.1 hg).1⟩
theorem Tryd.infoKey : (Tryd.prog.info? 33).map (fun i => (i.zero, i.size, i.bytes)) = some (some (.agg #[.string ByteArray.empty, .string ByteArray.empty, .int .i64 0]), 3, 40) := by kernel_rfl
theorem info_parts {o : Option TypeInfo} {z : Option Value} {s b : Nat} (h : o.map (fun i => (i.zero, i.size, i.bytes)) = some (z, s, b)) : ∃ i, o = some i ∧ i.zero = z ∧ i.size = s ∧ i.bytes = b := by
  cases o with
  | none => simp at h
  | some i => simp at h; exact ⟨i, rfl, h.1, h.2.1, h.2.2⟩
/-- three cells of a key, free, in a block -/
def K3 (R : Nat) (x : Ky) (w : World) : Prop :=
  w.cell? ⟨R, 0, none⟩ = some (.string x.text) ∧ w.cell? ⟨R, 1, none⟩ = some (.string x.name) ∧ w.cell? ⟨R, 2, none⟩ = some (.int .i64 x.rights) ∧ w.frozen? ⟨R, 0, none⟩ = false ∧ w.frozen? ⟨R, 1, none⟩ = false ∧ w.frozen? ⟨R, 2, none⟩ = false ∧ R < w.heap.size
theorem K3.born (w : World) (x : Ky) (t : TypeId) : K3 w.heap.size x (w.alloc (.cells #[.string x.text, .string x.name, .int .i64 x.rights] t)) :=
  ⟨by rw [World.cell?_alloc_new]; rfl, by rw [World.cell?_alloc_new]; rfl, by rw [World.cell?_alloc_new]; rfl, by simp [World.frozen?_alloc_new], by simp [World.frozen?_alloc_new], by simp [World.frozen?_alloc_new], by simp⟩
theorem K3.keep {R : Nat} {x : Ky} {w w' : World} (h : K3 R x w) (hb : w'.heap[R]? = w.heap[R]?) (hs : w.heap.size ≤ w'.heap.size) : K3 R x w' := by
  obtain ⟨h1, h2, h3, h4, h5, h6, h7⟩ := h
  exact ⟨(World.cell?_of_block (a := ⟨R, 0, none⟩) hb).trans h1, (World.cell?_of_block (a := ⟨R, 1, none⟩) hb).trans h2, (World.cell?_of_block (a := ⟨R, 2, none⟩) hb).trans h3, (World.frozen?_of_block (a := ⟨R, 0, none⟩) hb).trans h4, (World.frozen?_of_block (a := ⟨R, 1, none⟩) hb).trans h5, (World.frozen?_of_block (a := ⟨R, 2, none⟩) hb).trans h6, by omega⟩
theorem K3.below {R : Nat} {x : Ky} {w w' : World} (h : K3 R x w) (hb : Below w.heap.size w w') : K3 R x w' := h.keep (hb.block R h.2.2.2.2.2.2) hb.size
theorem K3.under {R B : Nat} {x : Ky} {w w' : World} (h : K3 R x w) (hb : Below B w w') (hB : R < B) : K3 R x w' := h.keep (hb.block R hB) hb.size
/-- a store of a whole key -/
def putKy (w : World) (R : Nat) (x : Ky) : World := ((w.setCell ⟨R, 0, none⟩ (.string x.text)).setCell ⟨R, 1, none⟩ (.string x.name)).setCell ⟨R, 2, none⟩ (.int .i64 x.rights)
theorem K3.put {R : Nat} {x : Ky} {w : World} (h : K3 R x w) (y : Ky) : K3 R y (putKy w R y) := by
  obtain ⟨h1, h2, h3, h4, h5, h6, h7⟩ := h
  unfold putKy
  refine ⟨?_, ?_, ?_, ?_, ?_, ?_, ?_⟩
  · simp [go_sem, h1]
  · simp [go_sem, h2]
  · simp [go_sem, h3]
  · simp [go_sem, h4]
  · simp [go_sem, h5]
  · simp [go_sem, h6]
  · simp [World.setCell]; exact h7
theorem putKy_far {w : World} {R : Nat} {x : Ky} (k : Nat) (h : k ≠ R) : (putKy w R x).heap[k]? = w.heap[k]? := by
  unfold putKy
  rw [Below.heap_setCell _ _ _ _ h, Below.heap_setCell _ _ _ _ h, Below.heap_setCell _ _ _ _ h]
theorem putKy_size {w : World} {R : Nat} {x : Ky} : (putKy w R x).heap.size = w.heap.size := by unfold putKy; simp [World.setCell]
theorem putKy_below {w w' : World} {B R : Nat} {x : Ky} (h : Below B w w') (hR : B ≤ R) : Below B w (putKy w' R x) :=
  ⟨h.os, h.tape, h.output, by rw [putKy_size]; exact h.size, fun k hk => by rw [putKy_far k (by omega)]; exact h.block k hk⟩
theorem K3.far {R S : Nat} {x y : Ky} {w : World} (h : K3 R x w) (hne : R ≠ S) : K3 R x (putKy w S y) := h.keep (putKy_far R hne) (by rw [putKy_size]; exact Nat.le_refl _)
/-- the empty key -/
def noKy : Ky := ⟨⟨#[]⟩, ⟨#[]⟩, 0⟩
end Go.Proofs.YtekjcmejnhhpaaaDoor
