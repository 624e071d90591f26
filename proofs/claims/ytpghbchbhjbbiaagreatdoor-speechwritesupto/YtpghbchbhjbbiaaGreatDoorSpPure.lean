/- Pieces of a text between a byte. -/
import Derived.Test.YtpghbchbhjbbiaaGreatDoorSpKit
import Derived.Lib.SplitLaws
import Derived.Lib.Join
namespace Go.Proofs.YtpghbchbhjbbiaaGreatDoor
open Go.RowKit

/-- the pieces between a byte -/
def spl (c : UInt8) : List UInt8 → List (List UInt8)
  | [] => [[]]
  | b :: r => if b = c then [] :: spl c r else (match spl c r with | [] => [[b]] | p :: ps => (b :: p) :: ps)
theorem spl_ne (c : UInt8) (l : List UInt8) : spl c l ≠ [] := by
  cases l with
  | nil => simp [spl]
  | cons b r =>
    rw [spl]
    split
    · simp
    · split <;> simp
theorem splitK_hit (c : UInt8) (k : Nat) (l : List UInt8) : Lib.splitK [c] 0 (k + 1) (c :: l) = [] :: Lib.splitK [c] 0 k l := by
  have hi : Lib.index (c :: l) [c] = 0 := by simp [Lib.index, List.isPrefixOf]
  rw [Lib.splitK, hi]
  simp
theorem index_ge (c : UInt8) : ∀ l : List UInt8, -1 ≤ Lib.index l [c]
  | [] => by simp [Lib.index]
  | b :: l => by
    have := index_ge c l
    rw [Lib.index]
    split
    · omega
    · split <;> omega
theorem splitK_step (b c : UInt8) (h : b ≠ c) (l : List UInt8) : ∀ k, Lib.splitK [c] 0 k (b :: l) = (match Lib.splitK [c] 0 k l with | [] => [[b]] | p :: ps => (b :: p) :: ps)
  | 0 => rfl
  | k + 1 => by
    have hp : [c].isPrefixOf (b :: l) = false := by simp [List.isPrefixOf]; exact fun e => h e.symm
    have hg := index_ge c l
    rw [Lib.splitK, Lib.splitK, Lib.index, hp]
    by_cases h1 : Lib.index l [c] = -1
    · simp [h1]
    · obtain ⟨i, hi⟩ := Int.eq_ofNat_of_zero_le (show 0 ≤ Lib.index l [c] by omega)
      rw [hi] at h1 ⊢
      have e1 : ((i : Int) == -1) = false := by simp
      have e2 : ((i : Int) + 1 == -1) = false := by simp; omega
      have e3 : ((i : Int) + 1).toNat = i + 1 := by omega
      simp [e1, e2, e3]
theorem splitK_spl (c : UInt8) : ∀ l : List UInt8, Lib.splitK [c] 0 (l.count c) l = spl c l
  | [] => rfl
  | b :: l => by
    by_cases h : b = c
    · subst h
      rw [List.count_cons_self, splitK_hit, splitK_spl b l, spl, if_pos rfl]
    · rw [List.count_cons_of_ne h, splitK_step b c h, splitK_spl c l, spl, if_neg h]
theorem join_spl (c : UInt8) : ∀ l : List UInt8, Lib.join (spl c l) [c] = l
  | [] => rfl
  | b :: l => by
    have ih := join_spl c l
    rw [spl]
    cases h : spl c l with
    | nil => exact absurd h (spl_ne c l)
    | cons p ps =>
      rw [h, Lib.join_cons] at ih
      split
      · rename_i hb
        rw [Lib.join_cons, hb]
        simp only [Lib.joinTail, List.map_cons, List.flatten_cons, List.nil_append] at ih ⊢
        rw [List.append_assoc, ih]
        rfl
      · rw [Lib.join_cons, List.cons_append, ih]
theorem spl_len (c : UInt8) : ∀ (l : List UInt8) p, p ∈ spl c l → p.length ≤ l.length
  | [], p, h => by simp [spl] at h; simp [h]
  | b :: l, p, h => by
    rw [spl] at h
    split at h
    · rcases List.mem_cons.1 h with rfl | h
      · simp
      · have := spl_len c l p h; simp only [List.length_cons]; omega
    · cases hs : spl c l with
      | nil => exact absurd hs (spl_ne c l)
      | cons q qs =>
        rw [hs] at h
        rcases List.mem_cons.1 h with rfl | h
        · have := spl_len c l q (by rw [hs]; exact List.mem_cons_self); simp only [List.length_cons]; omega
        · have := spl_len c l p (by rw [hs]; exact List.mem_cons_of_mem _ h); simp only [List.length_cons]; omega
theorem spl_count (c : UInt8) : ∀ l : List UInt8, (spl c l).length ≤ l.length + 1
  | [] => by simp [spl]
  | b :: l => by
    have := spl_count c l
    rw [spl]
    split
    · simp only [List.length_cons]; omega
    · split
      · simp
      · rename_i h; rw [h] at this; simp only [List.length_cons] at this ⊢; omega

/-- the words of a line -/
def wordsOf (s : ByteArray) : List ByteArray := Lib.splitB ⟨#[32]⟩ 0 (Lib.countB s ⟨#[32]⟩) s
theorem words_spl (s : ByteArray) : (wordsOf s).map (·.data.toList) = spl 32 s.data.toList := by
  unfold wordsOf
  rw [Lib.splitB_data]
  show Lib.splitK [32] 0 (Lib.count s.data.toList [32]) s.data.toList = _
  rw [Lib.count_one, splitK_spl]
theorem words_small (s : ByteArray) (x : ByteArray) (h : x ∈ wordsOf s) : x.size ≤ s.size := by
  have h1 : x.data.toList ∈ (wordsOf s).map (·.data.toList) := List.mem_map.2 ⟨x, h, rfl⟩
  rw [words_spl] at h1
  have := spl_len 32 _ _ h1
  rw [ba_len, ba_len] at this
  exact this
theorem words_join (s : ByteArray) : Lib.join ((wordsOf s).map (·.data.toList)) [32] = s.data.toList := by rw [words_spl, join_spl]
theorem words_ne (s : ByteArray) : wordsOf s ≠ [] := by
  intro h
  have := words_spl s
  rw [h] at this
  exact spl_ne _ _ this.symm
theorem words_count (s : ByteArray) : (wordsOf s).length ≤ s.size + 1 := by
  have := spl_count 32 s.data.toList
  rw [← words_spl, List.length_map, ba_len] at this
  exact this
end Go.Proofs.YtpghbchbhjbbiaaGreatDoor
