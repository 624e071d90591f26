/- The document's queue in memory. -/
import Derived.Test.YtpldaghhledjlaaGreatDoorTuMem
namespace Go.Proofs.YtpldaghhledjlaaGreatDoor
open Go.RowKit

theorem Tryz.infoLine : (Tryz.prog.info? 68).map (fun i => (i.zero, i.size, i.bytes)) = some (some (.agg #[.int .i64 0, .string ByteArray.empty]), 2, 24) := by kernel_rfl
/-- lines as they lie in a row -/
def linesL (ls : List (Nat × ByteArray)) : List Value := ls.flatMap fun l => [.int .i64 l.1, .string l.2]
theorem linesL_append (a b : List (Nat × ByteArray)) : linesL (a ++ b) = linesL a ++ linesL b := by unfold linesL; rw [List.flatMap_append]
theorem linesL_cons (l : Nat × ByteArray) (r : List (Nat × ByteArray)) : linesL (l :: r) = .int .i64 l.1 :: .string l.2 :: linesL r := rfl
theorem linesL_len (ls : List (Nat × ByteArray)) : (linesL ls).length = ls.length * 2 := by
  induction ls with
  | nil => rfl
  | cons l r ih => rw [linesL_cons, List.length_cons, List.length_cons, ih, List.length_cons]; omega
theorem linesL_at (ls : List (Nat × ByteArray)) (k : Nat) (t : Nat) (s : ByteArray) (h : ls[k]? = some (t, s)) : (linesL ls)[k * 2]? = some (.int .i64 t) ∧ (linesL ls)[k * 2 + 1]? = some (.string s) := by
  induction ls generalizing k with
  | nil => simp at h
  | cons l r ih =>
    cases k with
    | zero => simp at h; subst h; exact ⟨rfl, rfl⟩
    | succ k =>
      have := ih k (by simpa using h)
      rw [linesL_cons, show (k + 1) * 2 = k * 2 + 1 + 1 by omega, show k * 2 + 1 + 1 + 1 = (k * 2 + 1) + 1 + 1 by omega]
      simpa using this
theorem linesL_one (ls : List (Nat × ByteArray)) : ∀ u ∈ linesL ls, u.oneCell' = true := by
  intro u hu
  unfold linesL at hu
  obtain ⟨l, _, hl⟩ := List.mem_flatMap.1 hu
  simp only [List.mem_cons, List.not_mem_nil, or_false] at hl
  rcases hl with rfl | rfl <;> rfl
theorem linesL_take (ls : List (Nat × ByteArray)) (k : Nat) : linesL (ls.take k) = (linesL ls).take (k * 2) := by
  induction ls generalizing k with
  | nil => simp [linesL]
  | cons l r ih =>
    cases k with
    | zero => simp [linesL]
    | succ k => rw [List.take_succ_cons, linesL_cons, ih, linesL_cons, show (k + 1) * 2 = k * 2 + 1 + 1 by omega]; simp
theorem linesL_drop (ls : List (Nat × ByteArray)) (k : Nat) : linesL (ls.drop k) = (linesL ls).drop (k * 2) := by
  induction ls generalizing k with
  | nil => simp [linesL]
  | cons l r ih =>
    cases k with
    | zero => simp [linesL]
    | succ k => rw [List.drop_succ_cons, ih, linesL_cons, show (k + 1) * 2 = k * 2 + 1 + 1 by omega]; simp
structure Qu where
  n : Nat
  next : Nat
  wait : List (Nat × ByteArray)
def LRow (w : World) (B : Nat) (v : Value) (ls : List (Nat × ByteArray)) : Prop := w.ownsRow B 68 2 v ls.length (linesL ls)
theorem LRow.slice {w : World} {B : Nat} {v : Value} {ls : List (Nat × ByteArray)} (h : LRow w B v ls) : (v = .slice none 0 0 ∧ ls = []) ∨ ∃ g c, v = .slice (some ⟨g, 0, none⟩) ls.length c ∧ B ≤ g ∧ g < w.heap.size ∧ ls.length ≤ c ∧ c ≤ maxLen := by
  rcases h.2 with ⟨rfl, h0⟩ | ⟨g, cap, cur, rfl, h0, hg, h1, h2, _⟩
  · exact .inl ⟨rfl, List.eq_nil_of_length_eq_zero h0⟩
  · exact .inr ⟨g, cap, rfl, h0, (Array.getElem?_eq_some_iff.1 hg).1, h1, h2⟩
theorem LRow.at_ {w : World} {B g n c : Nat} {ls : List (Nat × ByteArray)} (h : LRow w B (.slice (some ⟨g, 0, none⟩) n c) ls) (k : Nat) (t : Nat) (s : ByteArray) (hk : ls[k]? = some (t, s)) : w.cell? ⟨g, k * 2, none⟩ = some (.int .i64 t) ∧ w.cell? ⟨g, k * 2 + 1, none⟩ = some (.string s) := by
  rcases h.2 with ⟨h0, _⟩ | ⟨g', cap', cur, hv, _, hg, h1, _, hs, ht⟩
  · cases h0
  · cases hv
    obtain ⟨a, b⟩ := linesL_at ls k t s hk
    rw [← ht] at a b
    have hl : k < ls.length := (List.getElem?_eq_some_iff.1 hk).1
    rw [List.getElem?_take, if_pos (by omega)] at a b
    refine ⟨?_, ?_⟩
    · rw [Lib.cell_of_heap hg]; simpa using a
    · rw [Lib.cell_of_heap hg]; simpa using b
def QuOwn (b : Nat) (v : Value) (k : Nat) : Prop := k = b ∨ v.ownBlock = some k
structure QuAt (w : World) (B b : Nat) (v : Value) (Q : Qu) : Prop where
  head : w.heap[b]? = some (.cells #[.int .i64 Q.n, .int .i64 Q.next, v] 66 (0, 0))
  row : LRow w B v Q.wait
  far : v.ownBlock ≠ some b
  hb : B ≤ b
  pos : 1 ≤ Q.n
  le : Q.n ≤ 64
  nx : Q.next < Q.n
  ten : ∀ l ∈ Q.wait, l.1 < Q.n
theorem QuAt.lt {w : World} {B b : Nat} {v : Value} {Q : Qu} (h : QuAt w B b v Q) (k : Nat) (hk : QuOwn b v k) : B ≤ k ∧ k < w.heap.size := by
  rcases hk with rfl | hk
  · exact ⟨h.hb, (Array.getElem?_eq_some_iff.1 h.head).1⟩
  · exact h.row.lt k hk
theorem QuAt.keep {w w' : World} {B b : Nat} {v : Value} {Q : Qu} (h : QuAt w B b v Q) (hk : ∀ k, QuOwn b v k → w'.heap[k]? = w.heap[k]?) : QuAt w' B b v Q :=
  ⟨(hk b (.inl rfl)).trans h.head, ownsRow_keepB h.row fun k e => hk k (.inr e), h.far, h.hb, h.pos, h.le, h.nx, h.ten⟩
theorem QuAt.below {w w' : World} {B b : Nat} {v : Value} {Q : Qu} (h : QuAt w B b v Q) (hb : Below w.heap.size w w') : QuAt w' B b v Q := h.keep fun k hk => hb.block k (h.lt k hk).2
theorem QuAt.only {w w' : World} {B b : Nat} {v : Value} {Q : Qu} {F : Nat → Prop} (h : QuAt w B b v Q) (ho : OnlyF F w w') (hF : ∀ k, QuOwn b v k → ¬ F k) : QuAt w' B b v Q := h.keep fun k hk => ho.block k (h.lt k hk).2 (hF k hk)
theorem QuAt.cells {w : World} {B b : Nat} {v : Value} {Q : Qu} (h : QuAt w B b v Q) : w.cell? ⟨b, 0, none⟩ = some (.int .i64 Q.n) ∧ w.cell? ⟨b, 1, none⟩ = some (.int .i64 Q.next) ∧ w.cell? ⟨b, 2, none⟩ = some v ∧ w.frozen? ⟨b, 1, none⟩ = false ∧ w.frozen? ⟨b, 2, none⟩ = false :=
  ⟨by rw [Lib.cell_of_heap h.head]; rfl, by rw [Lib.cell_of_heap h.head]; rfl, by rw [Lib.cell_of_heap h.head]; rfl, Lib.frozen_of_heap h.head 1, Lib.frozen_of_heap h.head 2⟩

theorem NewQueue_bad (n : Int) (w : World) (h : n < 1 ∨ 64 < n) : Calls Tryz.prog 5 #[.int .i64 n] w fun e w' => e = .returned (.tuple #[.pointer none, .int .i64 3]) ∧ w' = w := by
  by_cases h1 : n < 1
  · go_enter Tryz.func5, Tryz.ntmps5
    go_wp2_with fail
    go_ret2
    exact ⟨rfl, rfl⟩
  · have h2 : 64 < n := by omega
    go_enter Tryz.func5, Tryz.ntmps5
    go_wp2_with fail
    go_ret2
    exact ⟨rfl, rfl⟩
theorem NewQueue_any (n B : Nat) (w : World) (h1 : 1 ≤ n) (h2 : n ≤ 64) (hB : B ≤ w.heap.size) : Calls Tryz.prog 5 #[.int .i64 n] w fun e w' => e = .returned (.tuple #[.pointer (some ⟨w.heap.size, 0, none⟩), .int .i64 0]) ∧ QuAt w' B w.heap.size (.slice none 0 0) ⟨n, 0, []⟩ ∧ Below w.heap.size w w' := by
  have hq1 : ¬ (n : Int) < 1 := by omega
  have hq2 : ¬ (64 : Int) < (n : Int) := by omega
  go_enter Tryz.func5, Tryz.ntmps5
  go_wp2_with fail
  go_ret2
  exact ⟨rfl, ⟨heap_alloc_new w _, World.ownsRow_nil _ _ _ _, (fun e => by cases e), hB, h1, h2, h1, fun l hl => by cases hl⟩, (Below.refl _ _).alloc (Nat.le_refl _) _⟩

/-- how many lines of a tenant wait -/
def cntL (t : Int) (ls : List (Nat × ByteArray)) : Nat := (ls.filter fun l => decide ((l.1 : Int) = t)).length
theorem cntL_step {t : Int} {ls : List (Nat × ByteArray)} {j : Nat} {x : Nat × ByteArray} (hx : ls[j]? = some x) : cntL t (ls.take (j + 1)) = cntL t (ls.take j) + if (x.1 : Int) = t then 1 else 0 := by
  obtain ⟨h1, h2⟩ := List.getElem?_eq_some_iff.1 hx
  unfold cntL
  rw [List.take_succ_eq_append_getElem h1, List.filter_append, List.length_append, h2]
  congr 1
  by_cases h : (x.1 : Int) = t <;> simp [h]
theorem cntL_le (t : Int) (ls : List (Nat × ByteArray)) : cntL t ls ≤ ls.length := List.length_filter_le _ _

/-- a row of lines, opened -/
theorem QuAt.opened {w : World} {B b : Nat} {v : Value} {Q : Qu} (h : QuAt w B b v Q) : ∃ n p c, n = Q.wait.length ∧ v = .slice p n c ∧ n ≤ c ∧ c ≤ maxLen ∧ (n = 0 ∨ ∃ g, p = some ⟨g, 0, none⟩ ∧ g < w.heap.size ∧ ∀ (k : Nat) (x : Nat × ByteArray), Q.wait[k]? = some x → w.cell? ⟨g, k * 2, none⟩ = some (.int .i64 x.1) ∧ w.cell? ⟨g, k * 2 + 1, none⟩ = some (.string x.2)) := by
  rcases h.row.slice with ⟨rfl, h0⟩ | ⟨g, c, rfl, _, hg, h1, h2⟩
  · exact ⟨0, none, 0, by rw [h0]; rfl, rfl, Nat.le_refl _, by unfold maxLen; omega, .inl rfl⟩
  · exact ⟨_, _, c, rfl, rfl, h1, h2, .inr ⟨g, rfl, hg, fun k x hk => h.row.at_ k x.1 x.2 hk⟩⟩
end Go.Proofs.YtpldaghhledjlaaGreatDoor
