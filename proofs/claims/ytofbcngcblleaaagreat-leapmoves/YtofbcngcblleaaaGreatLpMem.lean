/- An arena and a leaper in memory, their blocks labelled. -/
import Derived.Test.YtofbcngcblleaaaGreatArBackG
import Derived.Test.YtofbcngcblleaaaGreatArReach
namespace Go.Proofs.YtofbcngcblleaaaGreat.A
open Go.RowKit Go.Proofs.YtofbcngcblleaaaGreat.L

/-- what has changed bears a label of L; the labels of what was there stay -/
structure Ch (L : Nat → Prop) (o : Nat → Nat) (w : World) (o' : Nat → Nat) (w' : World) : Prop where
  os : w'.os = w.os
  tape : w'.tape = w.tape
  output : w'.output = w.output
  size : w.heap.size ≤ w'.heap.size
  lab : ∀ k, k < w.heap.size → o' k = o k
  block : ∀ k, k < w.heap.size → ¬ L (o k) → w'.heap[k]? = w.heap[k]?
def ext (o : Nat → Nat) (s l : Nat) : Nat → Nat := fun k => if k < s then o k else l
theorem ext_old {o : Nat → Nat} {s l k : Nat} (h : k < s) : ext o s l k = o k := by unfold ext; rw [if_pos h]
theorem ext_new {o : Nat → Nat} {s l k : Nat} (h : s ≤ k) : ext o s l k = l := by unfold ext; rw [if_neg (by omega)]
theorem ext_is {o : Nat → Nat} {s l k : Nat} (h : o k = l) : ext o s l k = l := by unfold ext; split; exact h; rfl
variable {L M : Nat → Prop} {o o1 o2 : Nat → Nat} {w w1 w2 : World}
theorem Ch.refl (L : Nat → Prop) (o : Nat → Nat) (w : World) : Ch L o w o w := ⟨rfl, rfl, rfl, Nat.le_refl _, fun _ _ => rfl, fun _ _ _ => rfl⟩
theorem Ch.trans (h : Ch L o w o1 w1) (k : Ch L o1 w1 o2 w2) : Ch L o w o2 w2 :=
  ⟨k.os.trans h.os, k.tape.trans h.tape, k.output.trans h.output, Nat.le_trans h.size k.size, fun i hi => (k.lab i (Nat.lt_of_lt_of_le hi h.size)).trans (h.lab i hi), fun i hi hn => (k.block i (Nat.lt_of_lt_of_le hi h.size) (by rw [h.lab i hi]; exact hn)).trans (h.block i hi hn)⟩
theorem Ch.mono (h : Ch L o w o1 w1) (hm : ∀ k, L k → M k) : Ch M o w o1 w1 := ⟨h.os, h.tape, h.output, h.size, h.lab, fun k hk hn => h.block k hk fun e => hn (hm _ e)⟩
theorem Ch.ofBelow (h : Below w.heap.size w w1) (l : Nat) : Ch L o w (ext o w.heap.size l) w1 := ⟨h.os, h.tape, h.output, h.size, fun _ hk => ext_old hk, fun k hk _ => h.block k hk⟩
theorem Ch.set (o : Nat → Nat) (w : World) (a : Addr) (u : Value) (h : L (o a.block)) : Ch L o w o (w.setCell a u) :=
  ⟨rfl, rfl, rfl, by simp [World.setCell], fun _ _ => rfl, fun k _ hn => Below.heap_setCell _ _ _ _ fun e => hn (e ▸ h)⟩
theorem Ch.drew (h : Ch L o w o1 w1) : Ch L o w o1 w1.drew := ⟨h.os, h.tape, h.output, h.size, h.lab, h.block⟩
theorem Ch.drewN (h : Ch L o w o1 w1) (n : Nat) : Ch L o w o1 (w1.drewN n) := ⟨h.os, h.tape, h.output, h.size, h.lab, h.block⟩
theorem Ch.at (h : Ch L o w o1 w1) {k l : Nat} (hk : k < w.heap.size) (hl : o k = l) (hn : ¬ L l) : w1.heap[k]? = w.heap[k]? ∧ o1 k = l := ⟨h.block k hk (by rw [hl]; exact hn), (h.lab k hk).trans hl⟩
/-- an arena, all its blocks labelled 1 -/
def ArL (w : World) (o : Nat → Nat) (b : Nat) (A : Ar) : Prop := ∃ F, AtP w b F A ∧ ∀ k, F k → o k = 1
theorem ArL.ch {b : Nat} {A : Ar} (h : ArL w o b A) (k : Ch L o w o1 w1) (hn : ¬ L 1) : ArL w1 o1 b A := by
  obtain ⟨F, h1, h2⟩ := h
  exact ⟨F, h1.other k.size fun i hi => (k.at (h1.flt i hi) (h2 i hi) hn).1, fun i hi => (k.at (h1.flt i hi) (h2 i hi) hn).2⟩
theorem led_ch {b : Nat} {F : Nat → Prop} {A : Ar} (hF : ∀ k, F k → o k = 1) (h : Led w b F A w1) : ArL w1 (ext o w.heap.size 1) b A ∧ Ch (fun l => l = 1) o w (ext o w.heap.size 1) w1 := by
  obtain ⟨F', h1, h2, h3⟩ := h
  refine ⟨⟨F', h2, fun k hk => ?_⟩, h3.os, h3.tape, h3.output, h3.size, fun _ hk => ext_old hk, fun k hk hn => h3.block k hk fun f => hn (hF k f)⟩
  rcases h1 k hk with h4 | h4
  · exact ext_is (hF k h4)
  · exact ext_new h4
/-- a leaper -/
def LpB (w : World) (lb b : Nat) (t : Nat) (rb rl e : Int) : Prop := w.heap[lb]? = some (.cells #[.pointer (some ⟨b, 0, none⟩), .int .i64 t, .int .i64 rb, .int .i64 rl, .int .i64 e] 103 (0, 0))
structure LS (w : World) (o : Nat → Nat) (lb b t : Nat) (rb rl e : Int) (A : Ar) : Prop where
  blk : LpB w lb b t rb rl e
  lab : o lb = 2
  ar : ArL w o b A
theorem LS.lt {lb b t : Nat} {rb rl e : Int} {A : Ar} (h : LS w o lb b t rb rl e A) : lb < w.heap.size := (Array.getElem?_eq_some_iff.1 h.blk).1
def AL (l : Nat) : Prop := l = 1 ∨ l = 2
theorem LS.ch {lb b t : Nat} {rb rl e : Int} {A : Ar} (h : LS w o lb b t rb rl e A) (k : Ch L o w o1 w1) (hn : ∀ l, L l → ¬ AL l) : LS w1 o1 lb b t rb rl e A :=
  ⟨(k.at h.lt h.lab fun e => hn 2 e (.inr rfl)).1.trans h.blk, (k.at h.lt h.lab fun e => hn 2 e (.inr rfl)).2, h.ar.ch k fun e => hn 1 e (.inl rfl)⟩
theorem LS.below {lb b t : Nat} {rb rl e : Int} {A : Ar} (h : LS w o lb b t rb rl e A) (hb : Below w.heap.size w w1) : LS w1 (ext o w.heap.size 0) lb b t rb rl e A := h.ch (L := fun _ => False) (Ch.ofBelow hb 0) fun _ h => h.elim
theorem LS.drew {lb b t : Nat} {rb rl e : Int} {A : Ar} (h : LS w o lb b t rb rl e A) : LS w.drew o lb b t rb rl e A := h.ch ((Ch.refl (fun _ => False) o w).drew) fun _ h => h.elim
/-- the arena has changed -/
theorem LS.setA {lb b t : Nat} {rb rl e : Int} {A A' : Ar} (h : LS w o lb b t rb rl e A) (k : Ch (fun l => l = 1) o w o1 w1) (hA : ArL w1 o1 b A') : LS w1 o1 lb b t rb rl e A' :=
  ⟨(k.at h.lt h.lab (by omega)).1.trans h.blk, (k.at h.lt h.lab (by omega)).2, hA⟩
/-- the error has changed -/
theorem LS.setE {lb b t : Nat} {rb rl e : Int} {A : Ar} (h : LS w o lb b t rb rl e A) (e' : Int) : LS (w.setCell ⟨lb, 4, none⟩ (.int .i64 e')) o lb b t rb rl e' A ∧ Ch AL o w o (w.setCell ⟨lb, 4, none⟩ (.int .i64 e')) := by
  have k : Ch (fun l => l = 2) o w o (w.setCell ⟨lb, 4, none⟩ (.int .i64 e')) := Ch.set o w ⟨lb, 4, none⟩ _ h.lab
  exact ⟨⟨Go.Joins.block_setCell h.blk _, h.lab, h.ar.ch k (by omega)⟩, k.mono fun _ h => .inr h⟩
theorem AtP.drew' {b : Nat} {F : Nat → Prop} {A : Ar} (h : AtP w b F A) : AtP w.drew b F A := h.other (Nat.le_refl _) fun _ _ => rfl
theorem one_AL : ∀ l, l = 1 → AL l := fun _ h => .inl h
theorem LS.cells {lb b t : Nat} {rb rl e : Int} {A : Ar} (h : LS w o lb b t rb rl e A) : w.cell? ⟨lb, 0, none⟩ = some (.pointer (some ⟨b, 0, none⟩)) ∧ w.cell? ⟨lb, 1, none⟩ = some (.int .i64 t) ∧ w.cell? ⟨lb, 2, none⟩ = some (.int .i64 rb) ∧ w.cell? ⟨lb, 3, none⟩ = some (.int .i64 rl) ∧ w.cell? ⟨lb, 4, none⟩ = some (.int .i64 e) ∧ w.frozen? ⟨lb, 4, none⟩ = false :=
  ⟨Lib.cell_of_heap h.blk 0, Lib.cell_of_heap h.blk 1, Lib.cell_of_heap h.blk 2, Lib.cell_of_heap h.blk 3, Lib.cell_of_heap h.blk 4, Lib.frozen_of_heap h.blk 4⟩
/-- nothing but one block and new ones is written -/
structure OnlyL (b : Nat) (w w' : World) : Prop where
  os : w'.os = w.os
  tape : w'.tape = w.tape
  output : w'.output = w.output
  size : w.heap.size ≤ w'.heap.size
  block : ∀ k, k < w.heap.size → k ≠ b → w'.heap[k]? = w.heap[k]?
theorem OnlyL.of {b : Nat} (h : Below w.heap.size w w1) : OnlyL b w w1 := ⟨h.os, h.tape, h.output, h.size, fun k hk _ => h.block k hk⟩
theorem OnlyL.set {b : Nat} (h : OnlyL b w w1) (a : Addr) (v : Value) (ha : a.block = b ∨ w.heap.size ≤ a.block) : OnlyL b w (w1.setCell a v) :=
  ⟨h.os, h.tape, h.output, by rw [show (w1.setCell a v).heap.size = w1.heap.size by simp [World.setCell]]; exact h.size, fun k hk hn => (Below.heap_setCell _ _ _ _ (by rcases ha with e | e <;> omega)).trans (h.block k hk hn)⟩
theorem LS.after {lb b t : Nat} {rb rl e e' : Int} {A : Ar} (h : LS w o lb b t rb rl e A) (k : OnlyL lb w w1) (hb : LpB w1 lb b t rb rl e') : LS w1 (ext o w.heap.size 0) lb b t rb rl e' A ∧ Ch AL o w (ext o w.heap.size 0) w1 := by
  have hlt := h.lt
  have hc : Ch (fun l => l = 2) o w (ext o w.heap.size 0) { w1 with heap := w1.heap } := ⟨k.os, k.tape, k.output, k.size, fun _ hk => ext_old hk, fun i hi hn => k.block i hi fun e => hn (by rw [e]; exact h.lab)⟩
  exact ⟨⟨hb, by rw [ext_old hlt]; exact h.lab, h.ar.ch hc (by omega)⟩, hc.mono fun _ h => .inr h⟩
theorem LpB.set {lb b t : Nat} {rb rl e : Int} (h : LpB w lb b t rb rl e) (e' : Int) : LpB (w.setCell ⟨lb, 4, none⟩ (.int .i64 e')) lb b t rb rl e' := Go.Joins.block_setCell h _
theorem LpB.far {lb b t : Nat} {rb rl e : Int} (h : LpB w lb b t rb rl e) (a : Addr) (v : Value) (ha : lb ≠ a.block) : LpB (w.setCell a v) lb b t rb rl e := (Below.heap_setCell _ _ _ _ ha).trans h
end Go.Proofs.YtofbcngcblleaaaGreat.A
