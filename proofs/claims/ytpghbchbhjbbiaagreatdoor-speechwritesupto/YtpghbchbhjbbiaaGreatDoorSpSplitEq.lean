/- The document's splitAt and strings.Split part a text alike. -/
import Derived.Test.YtpghbchbhjbbiaaGreatDoorSpSplitAt
import Derived.Test.YtpghbchbhjbbiaaGreatDoorSpPure
namespace Go.Proofs.YtpghbchbhjbbiaaGreatDoor
open Go.RowKit

/-- a text's pieces behind what stands open -/
def onto (t : ByteArray) : List (List UInt8) → List ByteArray
  | [] => [t]
  | p :: ps => (t ++ ⟨p.toArray⟩) :: ps.map fun p => ⟨p.toArray⟩
theorem onto_nil (l : List (List UInt8)) (h : l ≠ []) : onto ⟨#[]⟩ l = l.map fun p => ⟨p.toArray⟩ := by
  cases l with
  | nil => exact absurd rfl h
  | cons p ps =>
    show (⟨#[]⟩ ++ ⟨p.toArray⟩ : ByteArray) :: _ = ⟨p.toArray⟩ :: _
    rw [show (⟨#[]⟩ ++ ⟨p.toArray⟩ : ByteArray) = ⟨p.toArray⟩ from by apply ByteArray.ext; simp]
theorem fold_spl (c : UInt8) : ∀ (l : List UInt8) (ts : List ByteArray) (t : ByteArray), l.foldl (pieceStep c) (ts ++ [t]) = ts ++ onto t (spl c l)
  | [], ts, t => by
    simp only [List.foldl_nil, spl, onto]
    congr 2
    apply ByteArray.ext
    simp
  | b :: l, ts, t => by
    rw [List.foldl_cons, pieceStep]
    by_cases h : b = c
    · rw [if_pos h, fold_spl c l (ts ++ [t]) ⟨#[]⟩, onto_nil _ (spl_ne c l), spl, if_pos h, List.append_assoc]
      congr 1
      show t :: _ = (t ++ ⟨#[]⟩) :: _
      congr 1
      apply ByteArray.ext
      simp
    · rw [if_neg h]
      simp only [List.dropLast_concat, List.getLastD_concat]
      rw [fold_spl c l ts (t ++ ⟨#[b]⟩), spl, if_neg h]
      cases hp : spl c l with
      | nil => exact absurd hp (spl_ne c l)
      | cons p ps =>
        simp only [onto]
        congr 2
        apply ByteArray.ext
        simp
theorem map_back (l : List ByteArray) : (l.map (·.data.toList)).map (fun p => (⟨p.toArray⟩ : ByteArray)) = l := by
  induction l with
  | nil => rfl
  | cons x r ih => rw [List.map_cons, List.map_cons, ih]
/-- the document's pieces are spl's -/
theorem pieceL_spl (c : UInt8) (l : List UInt8) : pieceL c l = (spl c l).map fun p => ⟨p.toArray⟩ := by
  have h := fold_spl c l [] ⟨#[]⟩
  rw [List.nil_append, List.nil_append, onto_nil _ (spl_ne c l)] at h
  exact h
/-- of a line: its words -/
theorem pieceL_words (s : ByteArray) : pieceL 32 s.data.toList = wordsOf s := by
  rw [pieceL_spl, ← words_spl, map_back]
end Go.Proofs.YtpghbchbhjbbiaaGreatDoor
