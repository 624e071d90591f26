/- What lifelodgeref.Bounds answers: the least box of a row of cells, or none. -/
import Derived.Test.YthobobgiendcfaaRows
import Derived.WalkKit
import Derived.WalkSpells
import Derived.WalkLawsBesides
import Derived.RegionTactic
import Derived.BigRegion
import Derived.Lib.MinMax
import Derived.Deep.CutRange
import Derived.Deep.LoopGhost
namespace Go.Proofs.Ythobobgiendcfaa
open Go.RowKit

def lo (f : Nat → Int) : Nat → Int
  | 0 => f 0
  | k + 1 => min (lo f k) (f (k + 1))
def hi (f : Nat → Int) : Nat → Int
  | 0 => f 0
  | k + 1 => max (hi f k) (f (k + 1))

/-- the cells of n pairs of numbers, from a place on -/
def Pairs (w : World) (b off n : Nat) (X Y : Nat → Int) : Prop :=
  ∀ j, j < n → w.cell? ⟨b, off + j * 2, none⟩ = some (.int .i64 (X j)) ∧ w.cell? ⟨b, off + j * 2 + 1, none⟩ = some (.int .i64 (Y j))


/-- a block of four numbers, free to be written -/
structure Four (w : World) (g : Nat) (a b c d : Int) : Prop where
  lt : g < w.heap.size
  c0 : w.cell? ⟨g, 0, none⟩ = some (.int .i64 a)
  c1 : w.cell? ⟨g, 1, none⟩ = some (.int .i64 b)
  c2 : w.cell? ⟨g, 2, none⟩ = some (.int .i64 c)
  c3 : w.cell? ⟨g, 3, none⟩ = some (.int .i64 d)
  f0 : w.frozen? ⟨g, 0, none⟩ = false
  f1 : w.frozen? ⟨g, 1, none⟩ = false
  f2 : w.frozen? ⟨g, 2, none⟩ = false
  f3 : w.frozen? ⟨g, 3, none⟩ = false


theorem Four.drew {w : World} {g : Nat} {a b c d : Int} (h : Four w g a b c d) : Four w.drew g a b c d := ⟨h.lt, h.c0, h.c1, h.c2, h.c3, h.f0, h.f1, h.f2, h.f3⟩
theorem Four.alloc {w : World} {g : Nat} {a b c d : Int} (h : Four w g a b c d) (o : Obj) : Four (w.alloc o) g a b c d := by
  have hl : (⟨g, 0, none⟩ : Addr).block < w.heap.size := h.lt
  refine ⟨by simp; have := h.lt; omega, ?_, ?_, ?_, ?_, ?_, ?_, ?_, ?_⟩
  · rw [World.cell?_alloc_past _ _ _ h.lt]; exact h.c0
  · rw [World.cell?_alloc_past _ _ _ h.lt]; exact h.c1
  · rw [World.cell?_alloc_past _ _ _ h.lt]; exact h.c2
  · rw [World.cell?_alloc_past _ _ _ h.lt]; exact h.c3
  all_goals rw [World.frozen?_of_block (w := w) (Below.heap_alloc _ _ _ h.lt)]
  · exact h.f0
  · exact h.f1
  · exact h.f2
  · exact h.f3
theorem Four.born (w : World) (a b c d : Int) (t : TypeId) : Four (w.alloc (.cells #[.int .i64 a, .int .i64 b, .int .i64 c, .int .i64 d] t)) w.heap.size a b c d := by
  refine ⟨by simp, ?_, ?_, ?_, ?_, ?_, ?_, ?_, ?_⟩
  all_goals first | (rw [World.cell?_alloc_new]; rfl) | simp [World.frozen?_alloc_new]
theorem Four.other {w : World} {g : Nat} {a b c d : Int} (h : Four w g a b c d) {p : Addr} (hp : p.block ≠ g) (v : Value) : Four (w.setCell p v) g a b c d := by
  have hne : ∀ i, p ≠ (⟨g, i, none⟩ : Addr) := fun i e => hp (by rw [e])
  refine ⟨by simpa [World.setCell] using h.lt, ?_, ?_, ?_, ?_, ?_, ?_, ?_, ?_⟩
  · rw [World.cell?_setCell_other _ _ _ _ (hne 0)]; exact h.c0
  · rw [World.cell?_setCell_other _ _ _ _ (hne 1)]; exact h.c1
  · rw [World.cell?_setCell_other _ _ _ _ (hne 2)]; exact h.c2
  · rw [World.cell?_setCell_other _ _ _ _ (hne 3)]; exact h.c3
  all_goals rw [World.frozen?_setCell]
  · exact h.f0
  · exact h.f1
  · exact h.f2
  · exact h.f3
theorem Four.set0 {w : World} {g : Nat} {a b c d : Int} (h : Four w g a b c d) (v : Int) : Four (w.setCell ⟨g, 0, none⟩ (.int .i64 v)) g v b c d := by
  refine ⟨by simpa [World.setCell] using h.lt, World.cell?_setCell_same _ _ _ h.c0, ?_, ?_, ?_, ?_, ?_, ?_, ?_⟩
  · rw [World.cell?_setCell_other _ _ _ _ (by simp)]; exact h.c1
  · rw [World.cell?_setCell_other _ _ _ _ (by simp)]; exact h.c2
  · rw [World.cell?_setCell_other _ _ _ _ (by simp)]; exact h.c3
  all_goals rw [World.frozen?_setCell]
  · exact h.f0
  · exact h.f1
  · exact h.f2
  · exact h.f3
theorem Four.set1 {w : World} {g : Nat} {a b c d : Int} (h : Four w g a b c d) (v : Int) : Four (w.setCell ⟨g, 1, none⟩ (.int .i64 v)) g a v c d := by
  refine ⟨by simpa [World.setCell] using h.lt, ?_, World.cell?_setCell_same _ _ _ h.c1, ?_, ?_, ?_, ?_, ?_, ?_⟩
  · rw [World.cell?_setCell_other _ _ _ _ (by simp)]; exact h.c0
  · rw [World.cell?_setCell_other _ _ _ _ (by simp)]; exact h.c2
  · rw [World.cell?_setCell_other _ _ _ _ (by simp)]; exact h.c3
  all_goals rw [World.frozen?_setCell]
  · exact h.f0
  · exact h.f1
  · exact h.f2
  · exact h.f3
theorem Four.set2 {w : World} {g : Nat} {a b c d : Int} (h : Four w g a b c d) (v : Int) : Four (w.setCell ⟨g, 2, none⟩ (.int .i64 v)) g a b v d := by
  refine ⟨by simpa [World.setCell] using h.lt, ?_, ?_, World.cell?_setCell_same _ _ _ h.c2, ?_, ?_, ?_, ?_, ?_⟩
  · rw [World.cell?_setCell_other _ _ _ _ (by simp)]; exact h.c0
  · rw [World.cell?_setCell_other _ _ _ _ (by simp)]; exact h.c1
  · rw [World.cell?_setCell_other _ _ _ _ (by simp)]; exact h.c3
  all_goals rw [World.frozen?_setCell]
  · exact h.f0
  · exact h.f1
  · exact h.f2
  · exact h.f3
theorem Four.set3 {w : World} {g : Nat} {a b c d : Int} (h : Four w g a b c d) (v : Int) : Four (w.setCell ⟨g, 3, none⟩ (.int .i64 v)) g a b c v := by
  refine ⟨by simpa [World.setCell] using h.lt, ?_, ?_, ?_, World.cell?_setCell_same _ _ _ h.c3, ?_, ?_, ?_, ?_⟩
  · rw [World.cell?_setCell_other _ _ _ _ (by simp)]; exact h.c0
  · rw [World.cell?_setCell_other _ _ _ _ (by simp)]; exact h.c1
  · rw [World.cell?_setCell_other _ _ _ _ (by simp)]; exact h.c2
  all_goals rw [World.frozen?_setCell]
  · exact h.f0
  · exact h.f1
  · exact h.f2
  · exact h.f3

end Go.Proofs.Ythobobgiendcfaa

namespace Go.Proofs.Ythobobgiendcfaa
open Go.RowKit

theorem two_born (w : World) (x y : Int) : Below w.heap.size w ((w.alloc (.cells #[.int .i64 0, .int .i64 0, .int .i64 0, .int .i64 0] 81)).alloc (.cells #[.int .i64 x, .int .i64 y, .int .i64 x, .int .i64 y] 81)).drew ∧
    Four ((w.alloc (.cells #[.int .i64 0, .int .i64 0, .int .i64 0, .int .i64 0] 81)).alloc (.cells #[.int .i64 x, .int .i64 y, .int .i64 x, .int .i64 y] 81)).drew w.heap.size 0 0 0 0 ∧
    Four ((w.alloc (.cells #[.int .i64 0, .int .i64 0, .int .i64 0, .int .i64 0] 81)).alloc (.cells #[.int .i64 x, .int .i64 y, .int .i64 x, .int .i64 y] 81)).drew (w.heap.size + 1) x y x y := by
  refine ⟨(((Below.refl _ _).alloc (Nat.le_refl _) _).alloc (by simp) _).drew, ((Four.born w 0 0 0 0 81).alloc _).drew, ?_⟩
  have hf := (Four.born (w.alloc (Obj.cells #[Value.int IntKind.i64 0, Value.int IntKind.i64 0, Value.int IntKind.i64 0, Value.int IntKind.i64 0] 81)) x y x y 81).drew
  simpa using hf

set_option maxRecDepth 4000 in
set_option maxHeartbeats 400000 in
theorem bounds_some (b off n c : Nat) (X Y : Nat → Int) (w : World) (hn : 0 < n) (hc : n ≤ c) (hm : c ≤ maxLen) (hb : b < w.heap.size) (hp : Pairs w b off n X Y) (h1c : c ≠ 1) :
    Calls Try.prog 105 #[.slice (some ⟨b, off, none⟩) n c] w fun e w' => e = .returned (.tuple #[.agg #[.int .i64 (lo X (n - 1)), .int .i64 (lo Y (n - 1)), .int .i64 (hi X (n - 1)), .int .i64 (hi Y (n - 1))], .bool true]) ∧ Below w.heap.size w w' := by
  unfold maxLen at hm
  have h0 := hp 0 hn
  have hx0 : w.cell? ⟨b, off, none⟩ = some (.int .i64 (X 0)) := by simpa using h0.1
  have hy0 : w.cell? ⟨b, off + 1, none⟩ = some (.int .i64 (Y 0)) := by simpa using h0.2
  clear h0
  have hn0 : ((n : Int) == 0) = false := by simp; omega
  have hn1 : (0 : Int) < (n : Int) := by omega
  have hne : b ≠ w.heap.size := by omega
  go_enter Try.func105, Try.ntmps105
  go_wp2
  go_region
  go_wp2
  go_loopg [31] (n - 1) (fun g i wr => ∃ k : Nat, k + g = n - 1 ∧ i = .int .i64 k ∧ Below w.heap.size w wr ∧ Four wr w.heap.size 0 0 0 0 ∧ Four wr (w.heap.size + 1) (lo X k) (lo Y k) (hi X k) (hi Y k))
  case atStart => exact ⟨0, by omega, rfl, two_born _ _ _⟩
  case round =>
    obtain ⟨k, hk0, rfl, hbel, hz, hq⟩ := hrel
    have hk : k ≤ n - 1 := by omega
    have HK : Hid (k + gk = n - 1) := hk0
    clear hk0
    have hlz := hz.lt
    have hlq := hq.lt
    obtain ⟨_, q0, q1, q2, q3, g0, g1, g2, g3⟩ := id hq
    by_cases hlt : k < n - 1
    · have hcx := (hp (k + 1) (by omega)).1
      have hcy := (hp (k + 1) (by omega)).2
      have hcx' : wr.cell? ⟨b, off + 2 + k * 2, none⟩ = some (.int .i64 (X (k + 1))) := by rw [hbel.cell hb, ← hcx]; congr 2; omega
      have hcy' : wr.cell? ⟨b, off + 2 + k * 2 + 1, none⟩ = some (.int .i64 (Y (k + 1))) := by rw [hbel.cell hb, ← hcy]; congr 2; omega
      clear hcx hcy hx0 hy0 hn0 hn1 hne
      go_wp2
      go_cut [31] from 31 to 59 (fun i wc => i = .int .i64 k ∧ Below w.heap.size w wc ∧ Four wc w.heap.size 0 0 0 0 ∧ Four wc (w.heap.size + 1) (lo X (k + 1)) (lo Y k) (hi X (k + 1)) (hi Y k) ∧ wc.cell? ⟨wr.heap.size, 1, none⟩ = some (.int .i64 (Y (k + 1))) ∧ wr.heap.size < wc.heap.size)
      case first =>
        as_aux_lemma =>
          go_region
          go_wp2
          go_meet
          case rel =>
            exact ⟨rfl, (((hbel.setCell (by simp) _).setCell (by simp) _).alloc (by simp; omega) _).drew, (((hz.other (by simp) _).other (by simp) _).alloc _).drew, (((hq.set0 _).set2 _).alloc _).drew,
              World.cell?_alloc_at _ _ _ _ (by simp), by simp⟩
      case rest =>
        clear hq hz hbel q0 q1 q2 q3 g0 g1 g2 g3 hcx' hcy'
        obtain ⟨rfl, hbel', hz', hq', cy, hwc⟩ := hcut
        have hlq' := hq'.lt
        have HKL : Hid (k < n - 1) := hlt
        obtain ⟨_, p0, p1, p2, p3, f0, f1, f2, f3⟩ := id hq'
        go_wp2
        go_region
        go_wp2
        go_roundg (gk - 1)
        case measure => have := HK.out; have := HKL.out; omega
        case rel =>
          have := HK.out
          have := HKL.out
          exact ⟨k + 1, by omega, by go_num, ((hbel'.setCell (by simp) _).setCell (by simp) _).drew, ((hz'.other (by simp) _).other (by simp) _).drew, ((hq'.set1 _).set3 _).drew⟩
    · have hkn : k = n - 1 := by omega
      subst hkn
      obtain ⟨_, z0, z1, z2, z3, e0, e1, e2, e3⟩ := id hz
      go_wp2
      obtain ⟨_, r0, r1, r2, r3, _, _, _, _⟩ := ((((hz.set0 (lo X (n - 1))).set1 (lo Y (n - 1))).set2 (hi X (n - 1))).set3 (hi Y (n - 1)))
      refine bodyPost_ret (v := .tuple #[.agg #[.int .i64 (lo X (n - 1)), .int .i64 (lo Y (n - 1)), .int .i64 (hi X (n - 1)), .int .i64 (hi Y (n - 1))], .bool true]) ?_ rfl ⟨rfl, ?_⟩
      · simp [results, Try.results105, go_sem, r0, r1, r2, r3]
      · exact (((hbel.setCell (by simp) _).setCell (by simp) _).setCell (by simp) _).setCell (by simp) _
end Go.Proofs.Ythobobgiendcfaa

namespace Go.Proofs.Ythobobgiendcfaa
open Go.RowKit

def lo' (f : Nat → Int) : Nat → Int
  | 0 => 0
  | k + 1 => lo f k
def hi' (f : Nat → Int) : Nat → Int
  | 0 => 0
  | k + 1 => hi f k
theorem lo'_one (f : Nat → Int) : lo' f 1 = f 0 := rfl
theorem hi'_one (f : Nat → Int) : hi' f 1 = f 0 := rfl
theorem lo'_lt (f : Nat → Int) (k : Nat) (h : 0 < k) (hl : f k < lo' f k) : lo' f (k + 1) = f k := by
  cases k with
  | zero => omega
  | succ k => simp only [lo', lo] at *; omega
theorem lo'_ge (f : Nat → Int) (k : Nat) (h : 0 < k) (hl : ¬ f k < lo' f k) : lo' f (k + 1) = lo' f k := by
  cases k with
  | zero => omega
  | succ k => simp only [lo', lo] at *; omega
theorem hi'_lt (f : Nat → Int) (k : Nat) (h : 0 < k) (hl : hi' f k < f k) : hi' f (k + 1) = f k := by
  cases k with
  | zero => omega
  | succ k => simp only [hi', hi] at *; omega
theorem hi'_ge (f : Nat → Int) (k : Nat) (h : 0 < k) (hl : ¬ hi' f k < f k) : hi' f (k + 1) = hi' f k := by
  cases k with
  | zero => omega
  | succ k => simp only [hi', hi] at *; omega

theorem zero_born (w : World) : Below w.heap.size w ((w.alloc (.cells #[.int .i64 0, .int .i64 0, .int .i64 0, .int .i64 0] 81)).alloc (.cells #[.int .i64 0, .int .i64 0, .int .i64 0, .int .i64 0] 81)) ∧
    Four ((w.alloc (.cells #[.int .i64 0, .int .i64 0, .int .i64 0, .int .i64 0] 81)).alloc (.cells #[.int .i64 0, .int .i64 0, .int .i64 0, .int .i64 0] 81)) w.heap.size 0 0 0 0 ∧
    Four ((w.alloc (.cells #[.int .i64 0, .int .i64 0, .int .i64 0, .int .i64 0] 81)).alloc (.cells #[.int .i64 0, .int .i64 0, .int .i64 0, .int .i64 0] 81)) (w.heap.size + 1) 0 0 0 0 := by
  refine ⟨(((Below.refl _ _).alloc (Nat.le_refl _) _).alloc (by simp) _), ((Four.born w 0 0 0 0 81).alloc _), ?_⟩
  have hf := (Four.born (w.alloc (Obj.cells #[Value.int IntKind.i64 0, Value.int IntKind.i64 0, Value.int IntKind.i64 0, Value.int IntKind.i64 0] 81)) 0 0 0 0 81)
  simpa using hf

/-- in the midst of a round: the answer's block, the box's block, the cell that is looked at -/
structure Mid (w wc : World) (g : Nat) (x y a0 a1 a2 a3 : Int) : Prop where
  bel : Below w.heap.size w wc
  z : Four wc w.heap.size 0 0 0 0
  q : Four wc (w.heap.size + 1) a0 a1 a2 a3
  cx : wc.cell? ⟨g, 0, none⟩ = some (.int .i64 x)
  cy : wc.cell? ⟨g, 1, none⟩ = some (.int .i64 y)
  lt : g < wc.heap.size
  gt : w.heap.size + 1 < g
theorem Mid.set0 {w wc : World} {g : Nat} {x y a0 a1 a2 a3 : Int} (h : Mid w wc g x y a0 a1 a2 a3) (v : Int) : Mid w (wc.setCell ⟨w.heap.size + 1, 0, none⟩ (.int .i64 v)) g x y v a1 a2 a3 := by
  have hg := h.gt
  refine ⟨h.bel.setCell (by simp) _, h.z.other (by simp) _, h.q.set0 v, ?_, ?_, by simpa [World.setCell] using h.lt, hg⟩
  · rw [World.cell?_setCell_other _ _ _ _ (by intro e; have := congrArg Addr.block e; simp at this; omega)]; exact h.cx
  · rw [World.cell?_setCell_other _ _ _ _ (by simp)]; exact h.cy
theorem Mid.set1 {w wc : World} {g : Nat} {x y a0 a1 a2 a3 : Int} (h : Mid w wc g x y a0 a1 a2 a3) (v : Int) : Mid w (wc.setCell ⟨w.heap.size + 1, 1, none⟩ (.int .i64 v)) g x y a0 v a2 a3 := by
  have hg := h.gt
  refine ⟨h.bel.setCell (by simp) _, h.z.other (by simp) _, h.q.set1 v, ?_, ?_, by simpa [World.setCell] using h.lt, hg⟩
  · rw [World.cell?_setCell_other _ _ _ _ (by simp)]; exact h.cx
  · rw [World.cell?_setCell_other _ _ _ _ (by intro e; have := congrArg Addr.block e; simp at this; omega)]; exact h.cy
theorem Mid.set2 {w wc : World} {g : Nat} {x y a0 a1 a2 a3 : Int} (h : Mid w wc g x y a0 a1 a2 a3) (v : Int) : Mid w (wc.setCell ⟨w.heap.size + 1, 2, none⟩ (.int .i64 v)) g x y a0 a1 v a3 := by
  have hg := h.gt
  refine ⟨h.bel.setCell (by simp) _, h.z.other (by simp) _, h.q.set2 v, ?_, ?_, by simpa [World.setCell] using h.lt, hg⟩
  · rw [World.cell?_setCell_other _ _ _ _ (by simp)]; exact h.cx
  · rw [World.cell?_setCell_other _ _ _ _ (by simp)]; exact h.cy
theorem Mid.set3 {w wc : World} {g : Nat} {x y a0 a1 a2 a3 : Int} (h : Mid w wc g x y a0 a1 a2 a3) (v : Int) : Mid w (wc.setCell ⟨w.heap.size + 1, 3, none⟩ (.int .i64 v)) g x y a0 a1 a2 v := by
  have hg := h.gt
  refine ⟨h.bel.setCell (by simp) _, h.z.other (by simp) _, h.q.set3 v, ?_, ?_, by simpa [World.setCell] using h.lt, hg⟩
  · rw [World.cell?_setCell_other _ _ _ _ (by simp)]; exact h.cx
  · rw [World.cell?_setCell_other _ _ _ _ (by simp)]; exact h.cy
theorem Mid.start {w wr : World} {x y a0 a1 a2 a3 : Int} (hbel : Below w.heap.size w wr) (hz : Four wr w.heap.size 0 0 0 0) (hq : Four wr (w.heap.size + 1) a0 a1 a2 a3) :
    Mid w (wr.alloc (.cells #[.int .i64 x, .int .i64 y] 87)) wr.heap.size x y a0 a1 a2 a3 := by
  have h1 := hq.lt
  refine ⟨hbel.alloc (by omega) _, hz.alloc _, hq.alloc _, ?_, ?_, by simp, h1⟩
  · rw [World.cell?_alloc_new]; rfl
  · rw [World.cell?_alloc_new]; rfl

set_option maxHeartbeats 1000000 in
theorem ref_bounds (b off n c : Nat) (X Y : Nat → Int) (w : World) (hc : n ≤ c) (hm : c ≤ maxLen) (hb : b < w.heap.size) (hp : Pairs w b off n X Y) :
    Calls Try.prog 46 #[.slice (some ⟨b, off, none⟩) n c] w fun e w' => e = .returned (.tuple #[.agg #[.int .i64 (lo' X n), .int .i64 (lo' Y n), .int .i64 (hi' X n), .int .i64 (hi' Y n)], .bool (decide (0 < n))]) ∧ Below w.heap.size w w' := by
  unfold maxLen at hm
  go_enter Try.func46, Try.ntmps46
  go_wp2
  go_loopg [9] n (fun g i wr => ∃ k : Nat, k + g = n ∧ i = .int .i64 k ∧ Below w.heap.size w wr ∧ Four wr w.heap.size 0 0 0 0 ∧ Four wr (w.heap.size + 1) (lo' X k) (lo' Y k) (hi' X k) (hi' Y k))
  case atStart => exact ⟨0, by omega, rfl, zero_born _⟩
  case round =>
    obtain ⟨k, hk0, rfl, hbel, hz, hq⟩ := hrel
    have hk : k ≤ n := by omega
    have HK : Hid (k + gk = n) := hk0
    clear hk0
    have hlz := hz.lt
    have hlq := hq.lt
    obtain ⟨_, q0, q1, q2, q3, g0, g1, g2, g3⟩ := id hq
    by_cases hlt : k < n
    · have hcx := (hp k hlt).1
      have hcy := (hp k hlt).2
      have hcx' : wr.cell? ⟨b, off + k * 2, none⟩ = some (.int .i64 (X k)) := by rw [hbel.cell hb]; exact hcx
      have hcy' : wr.cell? ⟨b, off + k * 2 + 1, none⟩ = some (.int .i64 (Y k)) := by rw [hbel.cell hb]; exact hcy
      clear hcx hcy
      by_cases h0 : k = 0
      · have HK0 : Hid (k = 0) := h0
        have hk0 : ((k : Int) == 0) = true := by simp; omega
        clear h0
        go_wp2
        go_roundg (gk - 1)
        case measure => have := HK.out; omega
        case rel =>
          have h1 := HK.out
          have h2 := HK0.out
          subst h2
          exact ⟨1, by omega, by go_num, (((((hbel.setCell (by simp) _).setCell (by simp) _).setCell (by simp) _).setCell (by simp) _).alloc (by simp; omega) _),
            (((((hz.other (by simp) _).other (by simp) _).other (by simp) _).other (by simp) _).alloc _), (((((hq.set0 _).set1 _).set2 _).set3 _).alloc _)⟩
      · have hk0 : ((k : Int) == 0) = false := by simp; omega
        have HK0 : Hid (0 < k) := by show 0 < k; omega
        clear h0
        go_upto_if 22 with fail
        have hm0 := Mid.start (x := X k) (y := Y k) hbel hz hq
        go_cut [9] from 9 to 62 (fun i wc => i = .int .i64 k ∧ Mid w wc wr.heap.size (X k) (Y k) (lo' X (k + 1)) (lo' Y k) (hi' X k) (hi' Y k))
        case first =>
          go_wp2
          · go_meet
            case rel => exact ⟨rfl, by rw [lo'_lt X k HK0.out ‹_›]; simpa using Mid.start (x := X k) (y := Y k) (hbel.setCell (p := ⟨w.heap.size + 1, 0, none⟩) (by simp) (.int .i64 (X k))) (hz.other (by simp) _) (hq.set0 (X k))⟩
          · go_meet
            case rel => exact ⟨rfl, by rw [lo'_ge X k HK0.out (by omega)]; exact hm0⟩
        case rest =>
          obtain ⟨rfl, hm1⟩ := hcut
          clear hm0 hz hq hbel q0 q1 q2 q3 g0 g1 g2 g3 hcx' hcy' hlz hlq
          obtain ⟨_, _, ⟨_, q0, q1, q2, q3, g0, g1, g2, g3⟩, cx, cy, ml, mg⟩ := id hm1
          go_upto_if 34 with fail
          go_cut [9] from 9 to 62 (fun i wc => i = .int .i64 k ∧ Mid w wc wr.heap.size (X k) (Y k) (lo' X (k + 1)) (lo' Y (k + 1)) (hi' X k) (hi' Y k))
          case first =>
            go_wp2
            · go_meet
              case rel => exact ⟨rfl, by rw [lo'_lt Y k HK0.out ‹_›]; exact hm1.set1 _⟩
            · go_meet
              case rel => exact ⟨rfl, by rw [lo'_ge Y k HK0.out (by omega)]; exact hm1⟩
          case rest =>
            obtain ⟨rfl, hm2⟩ := hcut
            clear hm1 q0 q1 q2 q3 g0 g1 g2 g3 cx cy ml mg
            obtain ⟨_, _, ⟨_, q0, q1, q2, q3, g0, g1, g2, g3⟩, cx, cy, ml, mg⟩ := id hm2
            go_upto_if 46 with fail
            go_cut [9] from 9 to 62 (fun i wc => i = .int .i64 k ∧ Mid w wc wr.heap.size (X k) (Y k) (lo' X (k + 1)) (lo' Y (k + 1)) (hi' X (k + 1)) (hi' Y k))
            case first =>
              go_wp2
              · go_meet
                case rel => exact ⟨rfl, by rw [hi'_lt X k HK0.out ‹_›]; exact hm2.set2 _⟩
              · go_meet
                case rel => exact ⟨rfl, by rw [hi'_ge X k HK0.out (by omega)]; exact hm2⟩
            case rest =>
              obtain ⟨rfl, hm3⟩ := hcut
              clear hm2 q0 q1 q2 q3 g0 g1 g2 g3 cx cy ml mg
              obtain ⟨_, _, ⟨_, q0, q1, q2, q3, g0, g1, g2, g3⟩, cx, cy, ml, mg⟩ := id hm3
              go_upto_if 58 with fail
              go_wp2
              · go_roundg (gk - 1)
                case measure => have := HK.out; omega
                case rel => have := HK.out; exact ⟨k + 1, by omega, by go_num, (hm3.set3 _).bel, (hm3.set3 _).z, by rw [hi'_lt Y k HK0.out ‹_›]; exact (hm3.set3 _).q⟩
              · go_roundg (gk - 1)
                case measure => have := HK.out; omega
                case rel => have := HK.out; exact ⟨k + 1, by omega, by go_num, hm3.bel, hm3.z, by rw [hi'_ge Y k HK0.out (by omega)]; exact hm3.q⟩
    · have hkn : k = n := by omega
      subst hkn
      obtain ⟨_, z0, z1, z2, z3, e0, e1, e2, e3⟩ := id hz
      go_wp2
      obtain ⟨_, r0, r1, r2, r3, _, _, _, _⟩ := ((((hz.set0 (lo' X k)).set1 (lo' Y k)).set2 (hi' X k)).set3 (hi' Y k))
      refine bodyPost_ret (v := .tuple #[.agg #[.int .i64 (lo' X k), .int .i64 (lo' Y k), .int .i64 (hi' X k), .int .i64 (hi' Y k)], .bool (decide (0 < k))]) ?_ rfl ⟨rfl, ?_⟩
      · simp [results, Try.results46, go_sem, r0, r1, r2, r3]
      · exact (((hbel.setCell (by simp) _).setCell (by simp) _).setCell (by simp) _).setCell (by simp) _
end Go.Proofs.Ythobobgiendcfaa
