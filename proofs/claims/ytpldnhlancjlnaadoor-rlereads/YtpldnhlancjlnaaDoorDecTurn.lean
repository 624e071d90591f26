/- DecodeCells' main loop: its start, and what one piece of a body makes. -/
import Derived.Test.YtpldnhlancjlnaaDoorDecState
import Derived.Test.YtpldnhlancjlnaaDoorHeadOf
namespace Go.Proofs.YtpldnhlancjlnaaDoor
open Go.Shelf Go.RowKit

theorem IsInt.apart {b n : Nat} {w : World} (h : IsInt b n w) : IntApart b n (.slice none 0 0) w := by
  obtain ⟨u, h1, h2⟩ := h
  exact ⟨u, h1, h2, fun _ _ _ _ _ => by simp [Value.ownBlock]⟩
theorem dec_start {w w2 w3 w4 : World} {b l : Int} (hA2 : w2.heap[w.heap.size]? = some (.cells #[.int .i64 0, .int .i64 0] 24 (0, 0))) (F2 : Below w.heap.size w w2)
    (i3 : IsInt (w2.heap.size + 1) 0 w3) (c3 : Below (w2.heap.size + 1) (w2.alloc (.cells #[.int .i64 b, .int .i64 l] 24)) w3) (i4 : IsInt w3.heap.size 0 w4) (c4 : Below w3.heap.size w3 w4) :
    DS w w2.heap.size (w2.heap.size + 1) w3.heap.size w4.heap.size b l 0 0 (.slice none 0 0) [] w4 := by
  have hlt2 := (Array.getElem?_eq_some_iff.1 hA2).1
  have hs : (w2.alloc (.cells #[.int .i64 b, .int .i64 l] 24)).heap.size = w2.heap.size + 1 := by simp
  have hb2 : Below w2.heap.size w2 (w2.alloc (.cells #[.int .i64 b, .int .i64 l] 24)) := (Below.refl _ _).alloc (Nat.le_refl _) _
  have hs3 := c3.size
  rw [hs] at hs3
  have hx3 : w2.heap.size + 1 < w3.heap.size := by obtain ⟨u, h1, _⟩ := i3; exact (Array.getElem?_eq_some_iff.1 h1).1
  have hx4 : w3.heap.size < w4.heap.size := by obtain ⟨u, h1, _⟩ := i4; exact (Array.getElem?_eq_some_iff.1 h1).1
  have b23 : Below w2.heap.size w2 w3 := hb2.trans (c3.mono (by omega))
  have b24 : Below w2.heap.size w2 w4 := b23.trans (c4.mono (by omega))
  refine ⟨F2.trans (b24.mono F2.size), (b24.block _ hlt2).trans hA2, ?_, (i3.go c4).apart, i4.apart, World.ownsRow_nil _ _ _ _, by omega⟩
  rw [c4.block _ (by omega), c3.block _ (by omega)]
  exact heap_alloc_new w2 _

/-! ### one piece of a body -/
def pieceF (W H : Int) (f : Nat) (x y : Int) (cs : List (Int × Int)) (m : Int) (c : UInt8) (r : List UInt8) : Int × List (Int × Int) :=
  if (putF W H x y cs m c).1 ≠ 0 then ((putF W H x y cs m c).1, []) else drawF W H f (putF W H x y cs m c).2.1 (putF W H x y cs m c).2.2.1 (putF W H x y cs m c).2.2.2 r
section
variable {W H : Int} {f : Nat} {x y : Int} {cs : List (Int × Int)} {m : Int} {r : List UInt8}
theorem pieceF_b : pieceF W H f x y cs m 98 r = drawF W H f (x + m) y cs r := by
  unfold pieceF putF
  rw [if_pos rfl]
  simp
theorem pieceF_d : pieceF W H f x y cs m 36 r = drawF W H f 0 (y + m) cs r := by
  have e : putF W H x y cs m 36 = (0, 0, y + m, cs) := by
    unfold putF
    rw [if_neg (by decide), if_pos rfl]
  unfold pieceF
  rw [e]
  simp
theorem pieceF_o3 (h : W < x + m ∨ H ≤ y) : pieceF W H f x y cs m 111 r = (3, []) := by
  unfold pieceF
  rw [putF_o, if_pos h]
  simp
theorem pieceF_o5 (h : ¬ (W < x + m ∨ H ≤ y)) (h5 : 4096 < (cs.length : Int) + m) : pieceF W H f x y cs m 111 r = (5, []) := by
  unfold pieceF
  rw [putF_o, if_neg h, if_pos h5]
  simp
theorem pieceF_o (h : ¬ (W < x + m ∨ H ≤ y)) (h5 : ¬ 4096 < (cs.length : Int) + m) : pieceF W H f x y cs m 111 r = drawF W H f (x + m) y (cs ++ cellsAt x y m.toNat) r := by
  unfold pieceF
  rw [putF_o, if_neg h, if_neg h5]
  simp
theorem pieceF_other {c : UInt8} (h1 : c ≠ 98) (h2 : c ≠ 36) (h3 : c ≠ 111) : pieceF W H f x y cs m c r = (2, []) := by
  have e : putF W H x y cs m c = (2, x, y, cs) := by
    unfold putF
    rw [if_neg h1, if_neg h2, if_neg h3]
  unfold pieceF
  rw [e]
  simp
end
section
variable {T : List UInt8} {k f : Nat} {W H : Int} {x y : Int} {cs : List (Int × Int)} {dd : Int × List (Int × Int)}
theorem piece_blank (hk : k < T.length) (hf : (T.drop k).length + 1 ≤ f) (hdd : dd = drawF W H f x y cs (T.drop k)) (h : blks.contains T[k]! = true) : dd = drawF W H f x y cs (T.drop (k + 1)) ∧ (T.drop (k + 1)).length + 1 ≤ f := by
  rw [drop_cons T k hk] at hdd
  rw [draw_blank _ _ _ _ _ _ _ _ h] at hdd
  refine ⟨hdd, ?_⟩
  simp at hf ⊢
  omega
theorem piece_end (hk : k < T.length) (hf : (T.drop k).length + 1 ≤ f) (hdd : dd = drawF W H f x y cs (T.drop k)) (h : T[k]! = 33) : dd = (0, cs) := by
  rw [drop_cons T k hk, h] at hdd
  obtain ⟨f', rfl⟩ : ∃ f', f = f' + 1 := ⟨f - 1, by omega⟩
  rw [draw_end] at hdd
  exact hdd
theorem piece_one (hk : k < T.length) (hf : (T.drop k).length + 1 ≤ f) (hdd : dd = drawF W H f x y cs (T.drop k)) (h1 : blks.contains T[k]! = false) (h2 : T[k]! ≠ 33) (h3 : isDig T[k]! = false) : ∃ f', (T.drop (k + 1)).length + 1 ≤ f' ∧ dd = pieceF W H f' x y cs 1 T[k]! (T.drop (k + 1)) := by
  rw [drop_cons T k hk] at hdd
  obtain ⟨f', rfl⟩ : ∃ f', f = f' + 1 := ⟨f - 1, by omega⟩
  rw [drawF_one W H f' x y cs _ _ h1 h2 h3] at hdd
  refine ⟨f', ?_, hdd⟩
  simp at hf ⊢
  omega
theorem dig_pos (hk : k < T.length) (h : isDig T[k]! = true) : 0 < dgs (T.drop k) := by
  rw [drop_cons T k hk, dgs, if_pos h]
  omega
theorem piece_bad (hk : k < T.length) (hf : (T.drop k).length + 1 ≤ f) (hdd : dd = drawF W H f x y cs (T.drop k)) (h : isDig T[k]! = true) (hb : badN (T.drop k) ∨ decV ((T.drop k).take (dgs (T.drop k))) = 0 ∨ T.length ≤ k + dgs (T.drop k)) : dd = (2, []) := by
  obtain ⟨f', rfl⟩ : ∃ f', f = f' + 1 := ⟨f - 1, by omega⟩
  rw [draw_many W H f' x y cs _ (dig_pos hk h)] at hdd
  rw [if_pos] at hdd
  · exact hdd
  · rcases hb with hb | hb | hb
    · exact Or.inl hb
    · exact Or.inr (Or.inl hb)
    · exact Or.inr (Or.inr (by rw [List.drop_drop]; exact List.drop_of_length_le hb))
theorem piece_many (hk : k < T.length) (hf : (T.drop k).length + 1 ≤ f) (hdd : dd = drawF W H f x y cs (T.drop k)) (h : isDig T[k]! = true) (hb : ¬ badN (T.drop k)) (h0 : decV ((T.drop k).take (dgs (T.drop k))) ≠ 0) {p : Nat} (hp : p = k + dgs (T.drop k)) (hlt : p < T.length) :
    ∃ f', (T.drop (p + 1)).length + 1 ≤ f' ∧ dd = pieceF W H f' x y cs (decV ((T.drop k).take (dgs (T.drop k))) : Nat) T[p]! (T.drop (p + 1)) := by
  obtain ⟨f', rfl⟩ : ∃ f', f = f' + 1 := ⟨f - 1, by omega⟩
  have hd : (T.drop k).drop (dgs (T.drop k)) = T[p]! :: T.drop (p + 1) := by rw [List.drop_drop, ← hp, drop_cons T p hlt]
  rw [draw_many W H f' x y cs _ (dig_pos hk h)] at hdd
  rw [if_neg] at hdd
  · refine ⟨f', ?_, ?_⟩
    · rw [List.length_drop] at hf ⊢
      omega
    · rw [hd] at hdd
      rw [show (T.drop k).drop (dgs (T.drop k) + 1) = T.drop (p + 1) by rw [List.drop_drop, hp]; rfl] at hdd
      exact hdd
  · rintro (h1 | h1 | h1)
    · exact hb h1
    · exact h0 h1
    · rw [hd] at h1; cases h1
end

/-! ### calls upon DecodeCells' numbers -/
section
variable {w W : World} {R bx by' B : Nat} {b l : Int} {x y : Nat} {v : Value} {cs : List (Int × Int)}
theorem ds_new (h : DS w R bx by' B b l x y v cs W) (m : Nat) (hm : m < 9223372036854775808) :
    Calls Tryd.prog 29 #[.int .i64 m] W fun e w' => e = .returned (.pointer (some ⟨W.heap.size, 0, none⟩)) ∧ IsInt W.heap.size m w' ∧ Below W.heap.size W w' ∧ DS w R bx by' B b l x y v cs w' :=
  (newInt_any m W hm).mono fun _ _ ⟨he, hi, hb⟩ => ⟨he, hi, hb, h.go hb⟩
theorem ds_zeroX (h : DS w R bx by' B b l x y v cs W) :
    Calls Tryd.prog 32 #[.pointer (some ⟨bx, 0, none⟩), .int .i64 0] W fun e w' => e = .returned (.pointer (some ⟨bx, 0, none⟩)) ∧ DS w R bx by' B b l 0 y v cs w' := by
  obtain ⟨u, h1, _⟩ := h.hx
  exact (setInt3_any bx 0 _ _ W (by omega) h1).mono fun _ _ ⟨he, hi, hg⟩ => ⟨he, h.setX hg hi⟩
theorem ds_addX (h : DS w R bx by' B b l x y v cs W) {p m : Nat} (hp : IsInt p m W) (hs : x < 18446744073709551616 ∧ m < 18446744073709551616) :
    Calls Tryd.prog 33 #[.pointer (some ⟨bx, 0, none⟩), .pointer (some ⟨bx, 0, none⟩), .pointer (some ⟨p, 0, none⟩)] W fun e w' => e = .returned (.pointer (some ⟨bx, 0, none⟩)) ∧ DS w R bx by' B b l (x + m) y v cs w' := by
  obtain ⟨u, h1, _⟩ := h.hx
  exact (intAdd3_any bx bx p x m _ _ W h1 h.hx.int hp hs).mono fun _ _ ⟨he, hi, hg⟩ => ⟨he, h.setX hg hi⟩
theorem ds_addY (h : DS w R bx by' B b l x y v cs W) {p m : Nat} (hp : IsInt p m W) (hs : y < 18446744073709551616 ∧ m < 18446744073709551616) :
    Calls Tryd.prog 33 #[.pointer (some ⟨by', 0, none⟩), .pointer (some ⟨by', 0, none⟩), .pointer (some ⟨p, 0, none⟩)] W fun e w' => e = .returned (.pointer (some ⟨by', 0, none⟩)) ∧ DS w R bx by' B b l x (y + m) v cs w' := by
  obtain ⟨u, h1, _⟩ := h.hy
  exact (intAdd3_any by' by' p y m _ _ W h1 h.hy.int hp hs).mono fun _ _ ⟨he, hi, hg⟩ => ⟨he, h.setY hg hi⟩
theorem DS.cells (h : DS w R bx by' B b l x y v cs W) : (W.cell? ⟨w.heap.size, 0, none⟩ = some (.int .i64 0) ∧ W.cell? ⟨w.heap.size, 1, none⟩ = some (.int .i64 0) ∧ W.frozen? ⟨w.heap.size, 0, none⟩ = false ∧ W.frozen? ⟨w.heap.size, 1, none⟩ = false) ∧ W.cell? ⟨R, 0, none⟩ = some (.int .i64 b) ∧ W.cell? ⟨R, 1, none⟩ = some (.int .i64 l) :=
  ⟨⟨by rw [Lib.cell_of_heap h.ha]; rfl, by rw [Lib.cell_of_heap h.ha]; rfl, Lib.frozen_of_heap h.ha 0, Lib.frozen_of_heap h.ha 1⟩, by rw [Lib.cell_of_heap h.hr]; rfl, by rw [Lib.cell_of_heap h.hr]; rfl⟩
end

theorem own_shape {w : World} {B n : Nat} {v : Value} {xs : List Value} (h : w.ownsRow B 56 2 v n xs) : ∃ a c, v = .slice a n c := by
  rcases h.2 with ⟨h1, h2⟩ | ⟨g, cap, cur, h1, _⟩
  · exact ⟨none, 0, by rw [h1, h2]⟩
  · exact ⟨_, _, h1⟩
section
variable {w W W7 : World} {R bx by' B : Nat} {b l : Int} {x y : Nat} {v : Value} {cs : List (Int × Int)}
theorem ds_past (h : DS w R bx by' B b l x y v cs W) (hb7 : Below W.heap.size W W7) (hz : W7.heap[W.heap.size]? = some (.cells #[.bool false, .slice none 0 0] 75 (0, 0))) {q m : Nat} (hq : IsInt q m W7) (hs : x < 18446744073709551616 ∧ m < 18446744073709551616) :
    Calls Tryd.prog 33 #[.pointer (some ⟨W.heap.size, 0, none⟩), .pointer (some ⟨bx, 0, none⟩), .pointer (some ⟨q, 0, none⟩)] W7 fun e w' => e = .returned (.pointer (some ⟨W.heap.size, 0, none⟩)) ∧ IsInt W.heap.size (x + m) w' ∧ DS w R bx by' B b l x y v cs w' := by
  have hlt := (Array.getElem?_eq_some_iff.1 hz).1
  refine (intAdd3_any W.heap.size bx q x m _ _ W7 hz (h.go hb7).hx.int hq hs).mono fun e w' ⟨he, hi, hg⟩ => ⟨he, hi.int hlt, h.go ?_⟩
  exact hb7.trans (grown_to_below hg (Nat.le_refl _) hb7.size)
theorem alloc_below (W : World) (o : Obj) : Below W.heap.size W (W.alloc o) := (Below.refl _ _).alloc (Nat.le_refl _) _
theorem past_block {W : World} {W7 : World} (hc : Below (W.heap.size + 1) (W.alloc (.cells #[.bool false, .slice none 0 0] 75)) W7) : Below W.heap.size W W7 ∧ W7.heap[W.heap.size]? = some (.cells #[.bool false, .slice none 0 0] 75 (0, 0)) :=
  ⟨(alloc_below W _).trans (hc.mono (Nat.le_succ _)), (hc.block _ (Nat.lt_succ_self _)).trans (heap_alloc_new W _)⟩
theorem cmp_ge {n m : Nat} : 0 ≤ cmpW n m ↔ m ≤ n := by
  unfold cmpW
  split
  · constructor <;> intro h <;> omega
  · split
    · constructor <;> intro h <;> omega
    · constructor <;> intro h <;> omega
theorem cmp_gt {n m : Nat} : 0 < cmpW n m ↔ m < n := by
  unfold cmpW
  split
  · constructor <;> intro h <;> omega
  · split
    · constructor <;> intro h <;> omega
    · constructor <;> intro h <;> omega
/-- a cell more, appended -/
theorem ds_more (h : DS w R bx by' B b l x y v cs W) {w5 : World} {g cap len : Nat} {z : Int} {o : Obj} (hlen : cs.length = len) (hown : w5.ownsRow B 56 2 (.slice (some ⟨g, 0, none⟩) (len + 1) cap) (len + 1) (cellsL cs ++ [.int .i64 z, .int .i64 (y : Int)])) (hg : (W.alloc o).grownBy w5 v.ownBlock) (hat : v.ownBlock = some g ∨ g = W.heap.size + 1) :
    DS w R bx by' B b l x y (.slice (some ⟨g, 0, none⟩) (len + 1) cap) (cs ++ [(z, (y : Int))]) w5 := by
  subst hlen
  have h1 := h.go (alloc_below W o)
  have hl : (cs ++ [(z, (y : Int))]).length = cs.length + 1 := by simp
  have := h1.row (cs' := cs ++ [(z, (y : Int))]) (g := g) (cap := cap) (W' := w5) (by rw [hl, cellsL_append]; exact hown) hg (by
    rcases hat with h2 | h2
    · exact Or.inl h2
    · exact Or.inr (by simp; omega))
  rw [hl] at this
  exact this
theorem ds_one (h : DS w R bx by' B b l x y v cs W) :
    Calls Tryd.prog 29 #[.int .i64 1] W fun e w' => e = .returned (.pointer (some ⟨W.heap.size, 0, none⟩)) ∧ IsInt W.heap.size 1 w' ∧ Below W.heap.size W w' ∧ DS w R bx by' B b l x y v cs w' := ds_new h 1 (by omega)
/-- the row as an answer -/
theorem dec_row (h : DS w R bx by' B b l x y v cs W) (hnil : cs = [] → v = .slice none 0 0) (a c : Value) : Row ((W.setCell ⟨w.heap.size, 0, none⟩ a).setCell ⟨w.heap.size, 1, none⟩ c).drew v cs := by
  have hk : Kept W B v cs := by
    by_cases e : cs = []
    · exact Or.inl ⟨e, hnil e⟩
    · exact Or.inr ⟨e, h.own⟩
  have hne : v.ownBlock ≠ some w.heap.size := own_ne h.own (by have := h.ord; omega)
  have h2 : Kept ((W.setCell ⟨w.heap.size, 0, none⟩ a).setCell ⟨w.heap.size, 1, none⟩ c).drew B v cs := (hk.setOther hne).setOther hne
  exact h2.row
end
end Go.Proofs.YtpldnhlancjlnaaDoor
