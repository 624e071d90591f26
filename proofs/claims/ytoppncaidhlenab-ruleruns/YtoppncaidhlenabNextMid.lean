/- What holds midway in the document's Next. -/
import Derived.Test.YtoppncaidhlenabNextIs
namespace Go.Proofs.Ytoppncaidhlenab
open Go.RowKit Go.Maps

/-- midway: the live cells, the places seen, the row of what lives next -/
def St (w2 : World) (B0 B1 base n N : Nat) (ys S : List (Int × Int)) (v : Value) (rs : List (Int × Int)) (wr : World) : Prop :=
  Below w2.heap.size w2 wr ∧ Flag B0 n ys wr ∧ Flag B1 N S wr ∧ Kept wr base v rs ∧ base ≤ wr.heap.size
theorem St.alloc {w2 wr : World} {B0 B1 base n N : Nat} {ys S rs : List (Int × Int)} {v : Value} (h : St w2 B0 B1 base n N ys S v rs wr) (o : Obj) : St w2 B0 B1 base n N ys S v rs (wr.alloc o) := by
  obtain ⟨h1, h2, h3, h4, h5⟩ := h
  exact ⟨h1.alloc h1.size o, h2.alloc o, h3.alloc o, h4.block (fun g hg => Below.heap_alloc _ _ g hg), by simp; omega⟩
theorem St.below {w2 wr w' : World} {B0 B1 base n N : Nat} {ys S rs : List (Int × Int)} {v : Value} (h : St w2 B0 B1 base n N ys S v rs wr) (hb : Below wr.heap.size wr w') : St w2 B0 B1 base n N ys S v rs w' := by
  obtain ⟨h1, h2, h3, h4, h5⟩ := h
  exact ⟨h1.trans (hb.mono h1.size), h2.below hb h2.lt, h3.below hb h3.lt, h4.block (fun g hg => hb.block g hg), Nat.le_trans h5 hb.size⟩
theorem St.set {w2 wr : World} {B0 B1 base n N : Nat} {ys S rs : List (Int × Int)} {v : Value} (h : St w2 B0 B1 base n N ys S v rs wr) (hB : w2.heap.size ≤ B0 ∧ B0 < B1 ∧ B1 < base) (hN : N < 1000000) (x y : Int) (hp : FitsP (x, y)) :
    ∃ w', (Instr.mapUpdate 76 (.map (some B1)) (.agg #[.int .i64 x, .int .i64 y]) (.bool true)).run Try.prog wr = .ok () w' ∧ St w2 B0 B1 base n (N + 1) ys (S ++ [(x, y)]) v rs w' ∧ wr.grownBy w' (some B1) := by
  obtain ⟨h1, h2, h3, h4, h5⟩ := h
  obtain ⟨w', hrun, hf, hg⟩ := h3.set hN x y hp
  refine ⟨w', hrun, ⟨h1.grown hg h1.size (fun j hj => by cases hj; omega), h2.block (hg.block B0 h2.lt (by simp; omega)), hf, h4.but hg hB.2.2, Nat.le_trans h5 hg.size⟩, hg⟩

/-- what is kept of the places seen -/
def OutTo (b l : Int) (ys S rs : List (Int × Int)) (N : Nat) : Prop := rs.Nodup ∧ rs.length ≤ N ∧ ∀ p, p ∈ rs ↔ p ∈ S ∧ lvB b l ys p = true
theorem OutTo.none {b l : Int} {ys S rs : List (Int × Int)} {N : Nat} {q : Int × Int} (h : OutTo b l ys S rs N) (hq : lvB b l ys q = false) : OutTo b l ys (S ++ [q]) rs (N + 1) := by
  refine ⟨h.1, by have := h.2.1; omega, fun p => ?_⟩
  rw [h.2.2 p, List.mem_append, List.mem_singleton]
  constructor
  · rintro ⟨k1, k2⟩; exact ⟨Or.inl k1, k2⟩
  · rintro ⟨k1 | rfl, k2⟩
    · exact ⟨k1, k2⟩
    · rw [hq] at k2; cases k2
theorem OutTo.one {b l : Int} {ys S rs : List (Int × Int)} {N : Nat} {q : Int × Int} (h : OutTo b l ys S rs N) (hs : ¬ q ∈ S) (hq : lvB b l ys q = true) : OutTo b l ys (S ++ [q]) (rs ++ [q]) (N + 1) := by
  refine ⟨?_, by have := h.2.1; simp; omega, fun p => ?_⟩
  · rw [List.nodup_append]
    refine ⟨h.1, by simp, fun a ha c hc e => ?_⟩
    rw [List.mem_singleton] at hc
    subst hc e
    exact hs ((h.2.2 _).1 ha).1
  · rw [List.mem_append, List.mem_append, List.mem_singleton, h.2.2 p]
    constructor
    · rintro (⟨k1, k2⟩ | rfl)
      · exact ⟨Or.inl k1, k2⟩
      · exact ⟨Or.inr rfl, hq⟩
    · rintro ⟨k1 | rfl, k2⟩
      · exact Or.inl ⟨k1, k2⟩
      · exact Or.inr rfl
/-- the places seen -/
def SeenTo (ys S : List (Int × Int)) (i k : Nat) : Prop := ∀ p, p ∈ S ↔ p ∈ (ys.take i).flatMap nine ++ (nine ys[i]!).take k
theorem SeenTo.again {ys S : List (Int × Int)} {i k : Nat} {q : Int × Int} (h : SeenTo ys S i k) (hq : (nine ys[i]!)[k]? = some q) (hs : q ∈ S) : SeenTo ys S i (k + 1) := by
  intro p
  obtain ⟨hm, he⟩ := List.getElem?_eq_some_iff.1 hq
  rw [List.take_succ_eq_append_getElem hm, he, ← List.append_assoc, List.mem_append, ← h p, List.mem_singleton]
  constructor
  · exact Or.inl
  · rintro (k | rfl)
    · exact k
    · exact hs
theorem SeenTo.more {ys S : List (Int × Int)} {i k : Nat} {q : Int × Int} (h : SeenTo ys S i k) (hq : (nine ys[i]!)[k]? = some q) : SeenTo ys (S ++ [q]) i (k + 1) := by
  intro p
  obtain ⟨hm, he⟩ := List.getElem?_eq_some_iff.1 hq
  rw [List.take_succ_eq_append_getElem hm, he, ← List.append_assoc, List.mem_append, List.mem_append, ← h p]
theorem SeenTo.next {ys S : List (Int × Int)} {i : Nat} (h : SeenTo ys S i 9) (hi : i < ys.length) : SeenTo ys S (i + 1) 0 := by
  intro p
  have e : (nine ys[i]!).take 9 = nine ys[i]! := rfl
  rw [h p, e, List.take_succ_eq_append_getElem hi, List.flatMap_append, getElem!_pos ys i hi, List.take_zero, List.append_nil, List.flatMap_singleton]
theorem SeenTo.all {b l : Int} {ys S rs : List (Int × Int)} {N : Nat} (h : SeenTo ys S ys.length 0) (hg : goodB b l = true) (ho : OutTo b l ys S rs N) : NextSet b l ys rs := by
  refine ⟨ho.1, fun p => ?_⟩
  rw [ho.2.2 p]
  constructor
  · exact fun k => k.2
  · intro k
    refine ⟨?_, k⟩
    rw [h p]
    obtain ⟨c, hc, h1, h2, h3, h4⟩ := lv_key hg k
    simp only [List.take_length, List.take_zero, List.append_nil, List.mem_flatMap]
    refine ⟨c, hc, ?_⟩
    obtain ⟨px, py⟩ := p
    obtain ⟨cx, cy⟩ := c
    simp only at h1 h2 h3 h4
    rcases (show px = cx - 1 ∨ px = cx ∨ px = cx + 1 by omega) with rfl | rfl | rfl <;> rcases (show py = cy - 1 ∨ py = cy ∨ py = cy + 1 by omega) with rfl | rfl | rfl <;> simp [nine]

end Go.Proofs.Ytoppncaidhlenab
