/- Bytes behind a house's log. -/
import Derived.Test.YtpldaghhledjlaaGreatDoorHoMove
namespace Go.Proofs.YtpldaghhledjlaaGreatDoor.H
open Go.RowKit

variable {o : Nat → Nat} {w w1 : World} {hb : Nat} {c : Hm} {S : Hs} {M : Nat}
theorem own_sl {w : World} {base : Nat} {e : TypeId} {size : Nat} {v : Value} {n : Nat} {xs : List Value} (h : w.ownsRow base e size v n xs) : ∃ a n c, v = .slice a n c := by
  rcases h.2 with ⟨rfl, _⟩ | ⟨g, cap, cur, rfl, _⟩ <;> exact ⟨_, _, _, rfl⟩
theorem log_keep (h : HoAt w o hb c S M) {lv : Value} (l3 : ∀ k, lv.ownBlock = some k → o k = 4) (hg : w.grownBy w1 lv.ownBlock) : w1.heap[hb]? = w.heap[hb]? :=
  hg.block hb h.hlt (fun e => by have := l3 hb e.symm; rw [h.own] at this; omega)
theorem log_cells (h : HoAt w o hb c S M) {lv av tv pv : Value} {k : Int} (l1 : HoB w hb av tv pv k lv) (l3 : ∀ k, lv.ownBlock = some k → o k = 4) (hg : w.grownBy w1 lv.ownBlock) : w1.cell? ⟨hb, 4, none⟩ = some lv ∧ w1.frozen? ⟨hb, 4, none⟩ = false := by
  have e := log_keep h l3 hg
  exact ⟨by rw [Lib.cell_of_heap (e.trans l1)]; rfl, Lib.frozen_of_heap (e.trans l1) 4⟩
/-- another log is put in the place of the one that was -/
theorem HoAt.put (h : HoAt w o hb c S M) {lv v' : Value} {log' : List UInt8} (l1 : HoB w hb c.av (.pointer (some ⟨c.tb, 0, none⟩)) (.slice (some ⟨c.pr, 0, none⟩) S.T.n c.cp) S.ticks lv) (l3 : ∀ k, lv.ownBlock = some k → o k = 4) (hg : w.grownBy w1 lv.ownBlock)
    (h1 : w1.ownsRow 0 5 1 v' log'.length (Lib.byteCells log')) (hat : ∀ k, v'.ownBlock = some k → lv.ownBlock = some k ∨ w.heap.size ≤ k) :
    HoAt (w1.setCell ⟨hb, 4, none⟩ v') (ext o w.heap.size 4) hb c ⟨S.T, S.ds, S.ticks, log'⟩ M ∧ Ch (fun l => l = 1 ∨ l = 4) o w (ext o w.heap.size 4) (w1.setCell ⟨hb, 4, none⟩ v') := by
  have e := log_keep h l3 hg
  have hlt := h.hlt
  have hl : ∀ k, v'.ownBlock = some k → ext o w.heap.size 4 k = 4 := fun k hk => by
    rcases hat k hk with h2 | h2
    · exact ext_is (l3 k h2)
    · exact ext_new h2
  have hch : Ch (fun l => l = 1 ∨ l = 4) o w (ext o w.heap.size 4) (w1.setCell ⟨hb, 4, none⟩ v') := by
    have h3 : OnlyF (fun k => lv.ownBlock = some k ∨ k = hb) w (w1.setCell ⟨hb, 4, none⟩ v') := (OnlyF.grown (F := fun k => lv.ownBlock = some k ∨ k = hb) hg fun k e => .inl e).trans (OnlyF.set (F := fun k => lv.ownBlock = some k ∨ k = hb) w1 ⟨hb, 4, none⟩ v' (.inr rfl)) fun k hk => .inl hk
    exact Ch.of h3 4 fun k hk _ => by
      rcases hk with h4 | h4
      · exact .inr (l3 k h4)
      · rw [h4]; exact .inl h.own
  refine ⟨h.setL hch ?_ (ownsRow_keepB h1 fun k hk => Below.heap_setCell _ _ _ _ ?_) hl, hch⟩
  · exact block_set (e.trans l1) 4 v'
  · intro e2
    change k = hb at e2
    have := hl k hk
    rw [e2, ext_old hlt, h.own] at this
    omega
theorem l14_HL : ∀ l, l = 1 ∨ l = 4 → HL l := fun l h => by unfold HL; omega
/-- a number's digits -/
def numL (n : Nat) : List UInt8 := Lib.decDigits n
theorem str_bytes (l : List UInt8) : Lib.strCells ⟨l.toArray⟩ = Lib.byteCells l := by
  unfold Lib.strCells Lib.byteCells
  simp
theorem bytes_add (a b : List UInt8) : Lib.byteCells a ++ Lib.byteCells b = Lib.byteCells (a ++ b) := by
  unfold Lib.byteCells
  simp
theorem numL_size (n : Nat) : (⟨(numL n).toArray⟩ : ByteArray).size = (numL n).length := by
  show (numL n).toArray.size = _
  rw [List.size_toArray]
theorem numL_len (n : Nat) (h : n < 100) : (numL n).length ≤ 21 := by
  have h := Lib.itoa_length_le (n : Int) (by omega) (by omega)
  rw [Lib.itoa_nonneg] at h
  exact h
/-- what a tick writes of the first tenants -/
def wL (T : Tu) : Nat → List UInt8
  | 0 => []
  | k + 1 => wL T k ++ (32 :: numL (T.waits k))
theorem cell_one (W : World) (u : Value) (t : TypeId) : ∀ j x, [u][j]? = some x → (W.alloc (.cells #[u] t)).cell? ((⟨W.heap.size, 0, none⟩ : Addr).add j) = some x := by
  intro j x hx
  match j, hx with
  | 0, hx => simp at hx; subst hx; simp [Addr.add]
theorem grown_alloc {w w5 : World} {row : Option Nat} (o : Obj) (hg : (w.alloc o).grownBy w5 row) : w.grownBy w5 row :=
  have h2 := (Below.refl w.heap.size w).alloc (Nat.le_refl _) o
  ⟨hg.os.trans h2.os, hg.tape.trans h2.tape, hg.output.trans h2.output, Nat.le_trans h2.size hg.size, fun k hk hne => (hg.block k (Nat.lt_of_lt_of_le hk h2.size) hne).trans (h2.block k hk)⟩
theorem HoAt.setK (h : HoAt w o hb c S M) (n : Nat) : HoAt (w.setCell ⟨hb, 3, none⟩ (.int .i64 n)) o hb c ⟨S.T, S.ds, n, S.log⟩ M ∧ Ch (fun l => l = 1 ∨ l = 4) o w o (w.setCell ⟨hb, 3, none⟩ (.int .i64 n)) := by
  obtain ⟨lv, l1, l2, l3⟩ := h.log
  have hch : Ch (fun l => l = 1 ∨ l = 4) o w o (w.setCell ⟨hb, 3, none⟩ (.int .i64 n)) := Ch.set o w ⟨hb, 3, none⟩ _ (.inl h.own)
  refine ⟨h.setL hch (block_set l1 3 _) (ownsRow_keepB l2 fun k hk => Below.heap_setCell _ _ _ _ fun e => ?_) l3, hch⟩
  change k = hb at e
  have := l3 k hk
  rw [e, h.own] at this
  omega
theorem waits_small (h : HoAt w o hb c S M) (t : Nat) (ht : t < S.T.n) : S.T.waits t ≤ 8 := by
  obtain ⟨vs, t1, _⟩ := h.turns
  unfold Tu.waits
  split
  · rw [Int.toNat_natCast, List.getD_eq_getElem?_getD, List.getElem?_eq_getElem (by rw [t1.len]; exact ht)]
    exact t1.small _ (List.getElem_mem _)
  · omega
theorem wL_len (T : Tu) (n : Nat) (h : ∀ t : Nat, t < n → T.waits t ≤ 8) : ∀ j, j ≤ n → (wL T j).length ≤ 22 * j
  | 0, _ => by simp [wL]
  | j + 1, hj => by
    have h1 := wL_len T n h j (by omega)
    have h2 := numL_len (T.waits j) (by have := h j (by omega); omega)
    rw [wL, List.length_append, List.length_cons]
    omega
/-- a byte behind the log, and the store of it -/
theorem HoAt.byte (h : HoAt w o hb c S M) {lv : Value} {n g cap : Nat} {x : UInt8} {ob : Obj} {w5 : World} (hn : n = S.log.length) (l1 : HoB w hb c.av (.pointer (some ⟨c.tb, 0, none⟩)) (.slice (some ⟨c.pr, 0, none⟩) S.T.n c.cp) S.ticks lv) (l3 : ∀ k, lv.ownBlock = some k → o k = 4) (hg : (w.alloc ob).grownBy w5 lv.ownBlock)
    (h1 : w5.ownsRow 0 5 1 (.slice (some ⟨g, 0, none⟩) (n + 1) cap) (n + 1) (Lib.byteCells S.log ++ [.int .u8 x.toNat])) (hat : lv.ownBlock = some g ∨ g = w.heap.size + 1) :
    HoAt (w5.setCell ⟨hb, 4, none⟩ (.slice (some ⟨g, 0, none⟩) (n + 1) cap)) (ext o w.heap.size 4) hb c ⟨S.T, S.ds, S.ticks, S.log ++ [x]⟩ M ∧ Ch (fun l => l = 1 ∨ l = 4) o w (ext o w.heap.size 4) (w5.setCell ⟨hb, 4, none⟩ (.slice (some ⟨g, 0, none⟩) (n + 1) cap)) := by
  refine h.put l1 l3 (grown_alloc ob hg) ?_ ?_
  · rw [← bytes_add, List.length_append, ← hn]
    exact h1
  · intro k hk
    have : g = k := by simpa [Value.ownBlock] using hk
    subst this
    rcases hat with h2 | h2
    · exact .inl h2
    · right; omega
end Go.Proofs.YtpldaghhledjlaaGreatDoor.H
