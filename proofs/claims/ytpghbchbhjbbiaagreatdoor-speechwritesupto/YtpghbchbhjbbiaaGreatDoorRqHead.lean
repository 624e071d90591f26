/- The document's ReadRequest. -/
import Derived.Test.YtpghbchbhjbbiaaGreatDoorBigSgn
import Derived.Test.YtpghbchbhjbbiaaGreatDoorSpRefRead
import Derived.Test.YtpghbchbhjbbiaaGreatDoorSpRefNames
import Derived.Test.YtpghbchbhjbbiaaGreatDoorSpSplitEq
import Derived.Test.YtpghbchbhjbbiaaGreatDoorSpSame
import Derived.Test.YtpghbchbhjbbiaaGreatDoorSpShape
namespace Go.Proofs.YtpghbchbhjbbiaaGreatDoor
open Go.RowKit

/-- what stands behind each verb -/
def formL : List (List UInt8) := [[], [110, 114], [112, 99], [112], [112, 100], [112], [112], [110], [112, 110], [110, 100], []]
/-- a list of texts in a block -/
def TextsAt (w : World) (g o : Nat) (ts : List ByteArray) : Prop := ∀ k, k < ts.length → w.cell? ⟨g, o + k, none⟩ = some (.string (ts.getD k ⟨#[]⟩))
structure RVars (w : World) (gv ov cv gf of cf : Nat) : Prop where
  verbs : w.cell? ⟨0, 0, none⟩ = some (.slice (some ⟨gv, ov, none⟩) 11 cv)
  verbsAt : TextsAt w gv ov verbL
  form : w.cell? ⟨1, 0, none⟩ = some (.slice (some ⟨gf, of, none⟩) 11 cf)
  formAt : TextsAt w gf of (formL.map fun l => ⟨l.toArray⟩)
  room : 11 ≤ w.heap.size
  gv_lt : gv < w.heap.size
  gf_lt : gf < w.heap.size
theorem RVars.go {w w' : World} {gv ov cv gf of cf B : Nat} (h : RVars w gv ov cv gf of cf) (hb : Below B w w') (hB : w.heap.size ≤ B) : RVars w' gv ov cv gf of cf := by
  have hc : ∀ g o, g < w.heap.size → w'.cell? ⟨g, o, none⟩ = w.cell? ⟨g, o, none⟩ := fun g o hg => by
    unfold World.cell?
    rw [show (⟨g, o, none⟩ : Addr).block = g from rfl, hb.block g (by omega)]
  obtain ⟨h1, h2, h3, h4, h5, h6, h7⟩ := h
  have := hb.size
  refine ⟨(hc _ _ (by omega)).trans h1, fun k hk => (hc _ _ h6).trans (h2 k hk), (hc _ _ (by omega)).trans h3, fun k hk => (hc _ _ h7).trans (h4 k hk), by omega, by omega, by omega⟩
/-- a request in a block of its own -/
def QAt (w1 wr : World) (q : Rq) (v : Value) : Prop := wr.heap[w1.heap.size]? = some (.cells #[.int .i64 q.verb, .string q.name, .string q.other, .int .i64 q.born, .int .i64 q.live, .int .i64 q.n, v] 26 (0, 0)) ∧ Below w1.heap.size w1 wr
theorem QAt.cells {w1 wr : World} {q : Rq} {v : Value} (h : QAt w1 wr q v) (i : Nat) : wr.cell? ⟨w1.heap.size, i, none⟩ = #[.int .i64 q.verb, .string q.name, .string q.other, .int .i64 q.born, .int .i64 q.live, .int .i64 q.n, v][i]? := by
  rw [Lib.cell_of_heap h.1]
theorem QAt.frozen {w1 wr : World} {q : Rq} {v : Value} (h : QAt w1 wr q v) (i : Nat) : wr.frozen? ⟨w1.heap.size, i, none⟩ = false := Lib.frozen_of_heap h.1 i
theorem QAt.verbSet {w1 wr : World} {q : Rq} {v : Value} (h : QAt w1 wr q v) (x : Int) : QAt w1 (wr.setCell ⟨w1.heap.size, 0, none⟩ (.int .i64 x)) { q with verb := x } v := ⟨Go.Joins.block_setCell h.1 _, h.2.setCell (p := ⟨w1.heap.size, 0, none⟩) (Nat.le_refl _) _⟩
theorem QAt.nameSet {w1 wr : World} {q : Rq} {v : Value} (h : QAt w1 wr q v) (x : ByteArray) : QAt w1 (wr.setCell ⟨w1.heap.size, 1, none⟩ (.string x)) { q with name := x } v := ⟨Go.Joins.block_setCell h.1 _, h.2.setCell (p := ⟨w1.heap.size, 1, none⟩) (Nat.le_refl _) _⟩
theorem QAt.otherSet {w1 wr : World} {q : Rq} {v : Value} (h : QAt w1 wr q v) (x : ByteArray) : QAt w1 (wr.setCell ⟨w1.heap.size, 2, none⟩ (.string x)) { q with other := x } v := ⟨Go.Joins.block_setCell h.1 _, h.2.setCell (p := ⟨w1.heap.size, 2, none⟩) (Nat.le_refl _) _⟩
theorem QAt.ruleSet {w1 wr : World} {q : Rq} {v : Value} (h : QAt w1 wr q v) (x y : Int) : QAt w1 ((wr.setCell ⟨w1.heap.size, 3, none⟩ (.int .i64 x)).setCell ⟨w1.heap.size, 4, none⟩ (.int .i64 y)) { q with born := x, live := y } v := ⟨Go.Joins.block_setCell (Go.Joins.block_setCell h.1 _) _, (h.2.setCell (p := ⟨w1.heap.size, 3, none⟩) (Nat.le_refl _) _).setCell (p := ⟨w1.heap.size, 4, none⟩) (Nat.le_refl _) _⟩
theorem QAt.nSet {w1 wr : World} {q : Rq} {v : Value} (h : QAt w1 wr q v) (x : Int) : QAt w1 (wr.setCell ⟨w1.heap.size, 5, none⟩ (.int .i64 x)) { q with n := x } v := ⟨Go.Joins.block_setCell h.1 _, h.2.setCell (p := ⟨w1.heap.size, 5, none⟩) (Nat.le_refl _) _⟩
theorem QAt.born (w1 : World) : QAt w1 (w1.alloc (.cells #[.int .i64 0, .string ⟨#[]⟩, .string ⟨#[]⟩, .int .i64 0, .int .i64 0, .int .i64 0, .slice none 0 0] 26)) noRq (.slice none 0 0) := ⟨Go.Deep.blk_alloc_new _ _, (Below.refl _ _).alloc (Nat.le_refl _) _⟩
theorem QAt.go {w1 wr w2 : World} {q : Rq} {v : Value} (h : QAt w1 wr q v) (hb : Below wr.heap.size wr w2) : QAt w1 w2 q v :=
  ⟨(hb.block _ (Array.getElem?_eq_some_iff.1 h.1).1).trans h.1, h.2.trans (hb.mono h.2.size)⟩
theorem QAt.drew {w1 wr : World} {q : Rq} {v : Value} (h : QAt w1 wr q v) : QAt w1 wr.drew q v := ⟨h.1, h.2.trans ⟨rfl, rfl, rfl, Nat.le_refl _, fun _ _ => rfl⟩⟩
/-- a verb that was found among the first -/
def seenV (x : ByteArray) (k : Nat) : Nat := if verbF x < k then verbF x else 0
theorem seen_hit {x : ByteArray} {k : Nat} (hk : k < 11) (h : x = verbL.getD k ⟨#[]⟩) : seenV x (k + 1) = k := by
  have : verbF x = k := by rw [h]; exact verb_at k hk
  unfold seenV
  rw [this, if_pos (by omega)]
theorem seen_miss {x : ByteArray} {k : Nat} (h1 : 1 ≤ k) (h : x ≠ verbL.getD k ⟨#[]⟩) : seenV x (k + 1) = seenV x k := by
  have : verbF x ≠ k := by
    intro e
    have hb := verb_back x (by omega)
    rw [e] at hb
    exact h hb.symm
  unfold seenV
  by_cases h2 : verbF x < k
  · rw [if_pos h2, if_pos (by omega)]
  · rw [if_neg h2, if_neg (by omega)]
theorem verb_lt (x : ByteArray) : verbF x < 11 := by
  unfold verbF
  repeat' split
  all_goals omega
theorem seen_all (x : ByteArray) : seenV x 11 = verbF x := by unfold seenV; rw [if_pos (verb_lt x)]

/-- one letter of the form -/
def stepF (f : UInt8) (i : Nat) (x : ByteArray) (q : Rq) : Rq × Bool :=
  if f = 110 then (if i = 0 then { q with name := x } else { q with other := x }, namedB x)
  else if f = 112 then ({ q with name := x }, namedB x || keyedB x)
  else if f = 114 then ({ q with born := (refF x.data.toList).1, live := (refF x.data.toList).2.1 }, decide ((refF x.data.toList).2.2 = 0))
  else ({ q with n := (signedF x.data.toList).1 }, (signedF x.data.toList).2)
def formF (ws : List ByteArray) : List UInt8 → Nat → Rq → Option Rq
  | [], _, q => some q
  | f :: fs, i, q => if f = 99 then some q else if i < ws.length then (if (stepF f i (ws.getD i ⟨#[]⟩) q).2 = true then formF ws fs (i + 1) (stepF f i (ws.getD i ⟨#[]⟩) q).1 else none) else none
def pairF (p : ByteArray) : Option (Int × Int) :=
  match spl 44 p.data.toList with
  | [a, b] => if (signedF a).2 = true ∧ (signedF b).2 = true then some ((signedF a).1, (signedF b).1) else none
  | _ => none
def pairsF (acc : List (Int × Int)) : List ByteArray → Option (List (Int × Int))
  | [] => some acc
  | p :: r => match pairF p with | none => none | some c => pairsF (acc ++ [c]) r
def bodyF (x0 : ByteArray) (ws : List ByteArray) : Rq × Int :=
  if verbF x0 = 0 then (noRq, 4) else
  match formF ws (formL.getD (verbF x0) []) 0 { noRq with verb := verbF x0 } with
  | none => (noRq, 2)
  | some q => if verbF x0 ≠ 2 then (if ws.length ≠ (formL.getD (verbF x0) []).length then (noRq, 2) else (q, 0))
    else match pairsF [] (ws.drop 1) with | none => (noRq, 2) | some cs => ({ q with cells := cs }, 0)
/-- what the document's ReadRequest answers -/
def RefOut (w : World) (a : Rq × Int) (e : Ending) (w' : World) : Prop := Below w.heap.size w w' ∧ ∃ v, e = .returned (.tuple #[a.1.val v, .int .i64 a.2]) ∧ CRow w' w.heap.size v a.1.cells
theorem ref_no (w : World) (n : Int) (w' : World) (h : Below w.heap.size w w') : RefOut w (noRq, n) (.returned (.tuple #[noRq.val (.slice none 0 0), .int .i64 n])) w' := ⟨h, _, rfl, crow_nil _ _⟩
set_option maxRecDepth 20000 in
set_option maxHeartbeats 1000000 in
theorem rr_long (s : ByteArray) (w : World) (hs : 6000 < s.size) (hm : s.size ≤ 9223372036854775807) :
    Calls Tryz.prog 8 #[.string s] w fun e w' => e = .returned (.tuple #[noRq.val (.slice none 0 0), .int .i64 1]) ∧ Below w.heap.size w w' := by
  have h1 : ((s.size : Nat) : Int) > 6000 := by omega
  have HB : Hid (∀ o, Below w.heap.size w (w.alloc o)) := fun o => (Below.refl _ _).alloc (Nat.le_refl _) _
  go_enter Tryz.func8, Tryz.ntmps8
  go_wp2_with fail
  refine bodyPost_ret (v := .tuple #[noRq.val (.slice none 0 0), .int .i64 1]) ?_ rfl ⟨rfl, HB.out _⟩
  simp [results, Tryz.results8, go_sem, noRq, Rq.val]
end Go.Proofs.YtpghbchbhjbbiaaGreatDoor
