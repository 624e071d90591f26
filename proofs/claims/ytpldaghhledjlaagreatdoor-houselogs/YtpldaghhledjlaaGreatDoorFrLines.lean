/- Lines as lists of bytes: what Cut answers (cutA), that it does not hang on pieces, and what strings.SplitAfter gives. -/
import Derived.Shelf.Strings.Split
import Derived.Lib.Strings
namespace Go.Proofs.YtpldaghhledjlaaGreatDoor
open Go.Shelf

/-- the whole lines of s, where cur stands ahead of it, and what is left -/
def linesA : List UInt8 → List UInt8 → List (List UInt8) × List UInt8
  | cur, [] => ([], cur)
  | cur, c :: s => if c = 10 then (cur :: (linesA [] s).1, (linesA [] s).2) else linesA (cur ++ [c]) s
/-- a line as it is told -/
def toldL (l : List UInt8) : List UInt8 := if 6000 < l.length then [0] else l
def cutA (cur s : List UInt8) : List (List UInt8) × List UInt8 := ((linesA cur s).1.map toldL, (linesA cur s).2.take 6001)

theorem cutA_nil (cur : List UInt8) : cutA cur [] = ([], cur.take 6001) := rfl
theorem cutA_end (cur s : List UInt8) : cutA cur (10 :: s) = (toldL cur :: (cutA [] s).1, (cutA [] s).2) := by
  simp only [cutA, linesA, if_pos, List.map_cons]
theorem cutA_byte (cur : List UInt8) {c : UInt8} (h : c ≠ 10) (s : List UInt8) : cutA cur (c :: s) = cutA (cur ++ [c]) s := by
  simp only [cutA, linesA, if_neg h]
theorem linesA_free : ∀ (cur x y : List UInt8), 10 ∉ x → linesA cur (x ++ y) = linesA (cur ++ x) y
  | cur, [], y, _ => by simp
  | cur, c :: x, y, h => by
    have hc : c ≠ 10 := fun e => h (by simp [e])
    have hx : 10 ∉ x := fun e => h (List.mem_cons_of_mem _ e)
    rw [List.cons_append, linesA, if_neg hc, linesA_free _ x y hx, List.append_assoc]
    rfl
theorem cutA_free {x : List UInt8} (h : 10 ∉ x) (y : List UInt8) : cutA [] (x ++ y) = cutA x y := by
  simp only [cutA, linesA_free [] x y h, List.nil_append]
theorem linesA_append : ∀ (cur x y : List UInt8), linesA cur (x ++ y) = ((linesA cur x).1 ++ (linesA (linesA cur x).2 y).1, (linesA (linesA cur x).2 y).2)
  | cur, [], y => by simp [linesA]
  | cur, c :: x, y => by
    by_cases hc : c = 10
    · simp only [List.cons_append, linesA, if_pos hc, linesA_append [] x y]
    · simp only [List.cons_append, linesA, if_neg hc, linesA_append (cur ++ [c]) x y]
theorem linesA_kept : ∀ (cur x : List UInt8), 10 ∉ cur → 10 ∉ (linesA cur x).2
  | cur, [], h => h
  | cur, c :: x, h => by
    by_cases hc : c = 10
    · simp only [linesA, if_pos hc]
      exact linesA_kept [] x (by simp)
    · simp only [linesA, if_neg hc]
      exact linesA_kept _ x (fun e => by
        rcases List.mem_append.1 e with e | e
        · exact h e
        · exact hc (List.mem_singleton.1 e).symm)
theorem toldL_take {a b : List UInt8} (h : a.take 6001 = b.take 6001) : toldL a = toldL b := by
  have hl := congrArg List.length h
  rw [List.length_take, List.length_take] at hl
  by_cases ha : 6000 < a.length
  · rw [toldL, toldL, if_pos ha, if_pos (by omega)]
  · rw [toldL, toldL, if_neg ha, if_neg (by omega), ← List.take_of_length_le (l := a) (i := 6001) (by omega), h, List.take_of_length_le (by omega)]
theorem take_more {a b : List UInt8} (h : a.take 6001 = b.take 6001) (c : UInt8) : (a ++ [c]).take 6001 = (b ++ [c]).take 6001 := by
  have hl := congrArg List.length h
  rw [List.length_take, List.length_take] at hl
  by_cases ha : 6000 < a.length
  · rw [List.take_append_of_le_length (by omega), List.take_append_of_le_length (by omega), h]
  · have : a = b := by rw [← List.take_of_length_le (l := a) (i := 6001) (by omega), h, List.take_of_length_le (by omega)]
    rw [this]
theorem cutA_take : ∀ (s a b : List UInt8), a.take 6001 = b.take 6001 → cutA a s = cutA b s
  | [], a, b, h => by rw [cutA_nil, cutA_nil, h]
  | c :: s, a, b, h => by
    by_cases hc : c = 10
    · subst hc
      rw [cutA_end, cutA_end, toldL_take h]
    · rw [cutA_byte a hc, cutA_byte b hc, cutA_take s _ _ (take_more h c)]
/-- what has come so far, and a piece more -/
theorem cutA_pieces (x y : List UInt8) : cutA [] (x ++ y) = ((cutA [] x).1 ++ (cutA [] ((cutA [] x).2 ++ y)).1, (cutA [] ((cutA [] x).2 ++ y)).2) := by
  have hk : 10 ∉ (cutA [] x).2 := fun e => linesA_kept [] x (by simp) (List.mem_of_mem_take e)
  rw [cutA_free hk, cutA_take y (cutA [] x).2 (linesA [] x).2 (by simp only [cutA]; rw [List.take_take]; rfl)]
  simp only [cutA]
  rw [linesA_append, List.map_append]

theorem index_none : ∀ (l : List UInt8) (c : UInt8), Lib.indexByte l c = -1 → c ∉ l
  | [], c, _ => by simp
  | b :: l, c, h => by
    rw [Lib.indexByte] at h
    by_cases hb : b = c
    · rw [if_pos (beq_iff_eq.2 hb)] at h
      exact absurd h (by decide)
    · rw [if_neg (fun e => hb (beq_iff_eq.1 e))] at h
      have h2 : Lib.indexByte l c = -1 := by
        by_cases h3 : Lib.indexByte l c = -1
        · exact h3
        · rw [if_neg (fun e => h3 (beq_iff_eq.1 e))] at h
          have := Lib.indexByte_ge l c
          omega
      simp only [List.mem_cons, not_or]
      exact ⟨fun e => hb e.symm, index_none l c h2⟩
theorem index_some : ∀ (l : List UInt8) (c : UInt8) (i : Nat), Lib.indexByte l c = i → c ∉ l.take i ∧ l = l.take i ++ c :: l.drop (i + 1)
  | [], c, i, h => by
    rw [Lib.indexByte] at h
    omega
  | b :: l, c, i, h => by
    rw [Lib.indexByte] at h
    by_cases hb : b = c
    · rw [if_pos (beq_iff_eq.2 hb)] at h
      obtain rfl : i = 0 := by omega
      simp [hb]
    · rw [if_neg (fun e => hb (beq_iff_eq.1 e))] at h
      by_cases h3 : Lib.indexByte l c = -1
      · rw [if_pos (beq_iff_eq.2 h3)] at h
        omega
      · rw [if_neg (fun e => h3 (beq_iff_eq.1 e))] at h
        have := Lib.indexByte_ge l c
        obtain ⟨j, rfl⟩ : ∃ j, i = j + 1 := ⟨i - 1, by omega⟩
        obtain ⟨h4, h5⟩ := index_some l c j (by omega)
        simp only [List.take_succ_cons, List.drop_succ_cons, List.mem_cons, not_or, List.cons_append]
        exact ⟨⟨fun e => hb e.symm, h4⟩, congrArg _ h5⟩
theorem linesA_none {s : List UInt8} (h : 10 ∉ s) : linesA [] s = ([], s) := by
  have := linesA_free [] s [] h
  rw [List.append_nil] at this
  rw [this, linesA, List.nil_append]
theorem linesA_first {a r : List UInt8} (h : 10 ∉ a) : linesA [] (a ++ 10 :: r) = (a :: (linesA [] r).1, (linesA [] r).2) := by
  rw [linesA_free [] a _ h, linesA, if_pos rfl, List.nil_append]

def nlB : ByteArray := ⟨#[10]⟩
theorem nlB_index (s : ByteArray) : Lib.indexB s nlB = Lib.indexByte s.data.toList 10 := Lib.one s nlB rfl
theorem extract_ba (s : ByteArray) (a b : Nat) : s.extract a b = ⟨((s.data.toList.drop a).take (b - a)).toArray⟩ := by
  obtain ⟨⟨l⟩⟩ := s
  rw [ByteArray.extract_mk]
/-- strings.SplitAfter's pieces: each line with its byte 10, then what is left -/
theorem split_lines : ∀ (k : Nat) (s : ByteArray), Lib.countB s nlB = k → Lib.splitB nlB 1 k s = ((linesA [] s.data.toList).1.map fun l => (⟨(l ++ [10]).toArray⟩ : ByteArray)) ++ [⟨(linesA [] s.data.toList).2.toArray⟩] := by
  intro k
  induction k with
  | zero =>
    intro s h
    rcases Lib.indexB_cases s nlB with hi | ⟨i, hi, _⟩
    · rw [nlB_index] at hi
      rw [Lib.splitB_zero, linesA_none (index_none _ _ hi)]
      rfl
    · have := Lib.countB_hit s nlB i (by decide) hi
      omega
  | succ k ih =>
    intro s h
    rcases Lib.indexB_cases s nlB with hi | ⟨i, hi, hle⟩
    · have := Lib.countB_miss s nlB hi
      omega
    · have hc := Lib.countB_hit s nlB i (by decide) hi
      rw [Lib.splitB_hit nlB 1 k s i hi, ih _ (by omega)]
      rw [nlB_index] at hi
      obtain ⟨h1, h2⟩ := index_some _ _ _ hi
      have hsz : s.size = s.data.toList.length := Lib.size_eq s
      have hle' : i + 1 ≤ s.data.toList.length := by rw [← hsz]; exact hle
      have e1 : s.extract 0 (i + 1) = ⟨(s.data.toList.take i ++ [10]).toArray⟩ := by
        rw [extract_ba, List.drop_zero, Nat.sub_zero]
        congr 2
        have e := congrArg (List.take (i + 1)) h2
        rw [e, List.take_append, List.take_of_length_le (by rw [List.length_take]; omega), List.length_take, Nat.min_eq_left (by omega), Nat.add_sub_cancel_left]
        rfl
      have e2 : (s.extract (i + nlB.size) s.size).data.toList = s.data.toList.drop (i + 1) := by
        rw [extract_ba, hsz]
        show ((s.data.toList.drop (i + 1)).take (s.data.toList.length - (i + 1))) = _
        rw [List.take_of_length_le (by rw [List.length_drop]; omega)]
      have e3 : linesA [] s.data.toList = (s.data.toList.take i :: (linesA [] (s.data.toList.drop (i + 1))).1, (linesA [] (s.data.toList.drop (i + 1))).2) := by
        have := linesA_first (r := s.data.toList.drop (i + 1)) h1
        rwa [← h2] at this
      rw [e1, e2, e3]
      rfl
end Go.Proofs.YtpldaghhledjlaaGreatDoor
