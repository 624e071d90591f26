/- What lifelodgeref.Bounds answers: the least box of a row of cells, or none. -/
import Derived.Test.YtnklpjoeopcbbaaDoorFour
import Derived.Deep.CutRange
import Derived.Deep.LoopGhost
namespace Go.Proofs.YtnklpjoeopcbbaaDoor
open Go.RowKit

def lo' (f : Nat → Int) : Nat → Int
  | 0 => 0
  | k + 1 => lo f k
def hi' (f : Nat → Int) : Nat → Int
  | 0 => 0
  | k + 1 => hi f k
theorem lo'_one (f : Nat → Int) : lo' f 1 = f 0 := rfl
theorem hi'_one (f : Nat → Int) : hi' f 1 = f 0 := rfl
theorem lo'_lt (f : Nat → Int) (k : Nat) (h : 0 < k) (hl : f k < lo' f k) : lo' f (k + 1) = f k := by
  cases k with
  | zero => omega
  | succ k => simp only [lo', lo] at *; omega
theorem lo'_ge (f : Nat → Int) (k : Nat) (h : 0 < k) (hl : ¬ f k < lo' f k) : lo' f (k + 1) = lo' f k := by
  cases k with
  | zero => omega
  | succ k => simp only [lo', lo] at *; omega
theorem hi'_lt (f : Nat → Int) (k : Nat) (h : 0 < k) (hl : hi' f k < f k) : hi' f (k + 1) = f k := by
  cases k with
  | zero => omega
  | succ k => simp only [hi', hi] at *; omega
theorem hi'_ge (f : Nat → Int) (k : Nat) (h : 0 < k) (hl : ¬ hi' f k < f k) : hi' f (k + 1) = hi' f k := by
  cases k with
  | zero => omega
  | succ k => simp only [hi', hi] at *; omega

theorem zero_born (w : World) : Below w.heap.size w ((w.alloc (.cells #[.int .i64 0, .int .i64 0, .int .i64 0, .int .i64 0] 25)).alloc (.cells #[.int .i64 0, .int .i64 0, .int .i64 0, .int .i64 0] 25)) ∧
    Four ((w.alloc (.cells #[.int .i64 0, .int .i64 0, .int .i64 0, .int .i64 0] 25)).alloc (.cells #[.int .i64 0, .int .i64 0, .int .i64 0, .int .i64 0] 25)) w.heap.size 0 0 0 0 ∧
    Four ((w.alloc (.cells #[.int .i64 0, .int .i64 0, .int .i64 0, .int .i64 0] 25)).alloc (.cells #[.int .i64 0, .int .i64 0, .int .i64 0, .int .i64 0] 25)) (w.heap.size + 1) 0 0 0 0 := by
  refine ⟨(((Below.refl _ _).alloc (Nat.le_refl _) _).alloc (by simp) _), ((Four.born w 0 0 0 0 25).alloc _), ?_⟩
  have hf := (Four.born (w.alloc (Obj.cells #[Value.int IntKind.i64 0, Value.int IntKind.i64 0, Value.int IntKind.i64 0, Value.int IntKind.i64 0] 25)) 0 0 0 0 25)
  simpa using hf

/-- in the midst of a round: the answer's block, the box's block, the cell that is looked at -/
structure Mid (w wc : World) (g : Nat) (x y a0 a1 a2 a3 : Int) : Prop where
  bel : Below w.heap.size w wc
  z : Four wc w.heap.size 0 0 0 0
  q : Four wc (w.heap.size + 1) a0 a1 a2 a3
  cx : wc.cell? ⟨g, 0, none⟩ = some (.int .i64 x)
  cy : wc.cell? ⟨g, 1, none⟩ = some (.int .i64 y)
  lt : g < wc.heap.size
  gt : w.heap.size + 1 < g
theorem Mid.set0 {w wc : World} {g : Nat} {x y a0 a1 a2 a3 : Int} (h : Mid w wc g x y a0 a1 a2 a3) (v : Int) : Mid w (wc.setCell ⟨w.heap.size + 1, 0, none⟩ (.int .i64 v)) g x y v a1 a2 a3 := by
  have hg := h.gt
  refine ⟨h.bel.setCell (by simp) _, h.z.other (by simp) _, h.q.set0 v, ?_, ?_, by simpa [World.setCell] using h.lt, hg⟩
  · rw [World.cell?_setCell_other _ _ _ _ (by intro e; have := congrArg Addr.block e; simp at this; omega)]; exact h.cx
  · rw [World.cell?_setCell_other _ _ _ _ (by simp)]; exact h.cy
theorem Mid.set1 {w wc : World} {g : Nat} {x y a0 a1 a2 a3 : Int} (h : Mid w wc g x y a0 a1 a2 a3) (v : Int) : Mid w (wc.setCell ⟨w.heap.size + 1, 1, none⟩ (.int .i64 v)) g x y a0 v a2 a3 := by
  have hg := h.gt
  refine ⟨h.bel.setCell (by simp) _, h.z.other (by simp) _, h.q.set1 v, ?_, ?_, by simpa [World.setCell] using h.lt, hg⟩
  · rw [World.cell?_setCell_other _ _ _ _ (by simp)]; exact h.cx
  · rw [World.cell?_setCell_other _ _ _ _ (by intro e; have := congrArg Addr.block e; simp at this; omega)]; exact h.cy
theorem Mid.set2 {w wc : World} {g : Nat} {x y a0 a1 a2 a3 : Int} (h : Mid w wc g x y a0 a1 a2 a3) (v : Int) : Mid w (wc.setCell ⟨w.heap.size + 1, 2, none⟩ (.int .i64 v)) g x y a0 a1 v a3 := by
  have hg := h.gt
  refine ⟨h.bel.setCell (by simp) _, h.z.other (by simp) _, h.q.set2 v, ?_, ?_, by simpa [World.setCell] using h.lt, hg⟩
  · rw [World.cell?_setCell_other _ _ _ _ (by simp)]; exact h.cx
  · rw [World.cell?_setCell_other _ _ _ _ (by simp)]; exact h.cy
theorem Mid.set3 {w wc : World} {g : Nat} {x y a0 a1 a2 a3 : Int} (h : Mid w wc g x y a0 a1 a2 a3) (v : Int) : Mid w (wc.setCell ⟨w.heap.size + 1, 3, none⟩ (.int .i64 v)) g x y a0 a1 a2 v := by
  have hg := h.gt
  refine ⟨h.bel.setCell (by simp) _, h.z.other (by simp) _, h.q.set3 v, ?_, ?_, by simpa [World.setCell] using h.lt, hg⟩
  · rw [World.cell?_setCell_other _ _ _ _ (by simp)]; exact h.cx
  · rw [World.cell?_setCell_other _ _ _ _ (by simp)]; exact h.cy
theorem Mid.start {w wr : World} {x y a0 a1 a2 a3 : Int} (hbel : Below w.heap.size w wr) (hz : Four wr w.heap.size 0 0 0 0) (hq : Four wr (w.heap.size + 1) a0 a1 a2 a3) :
    Mid w (wr.alloc (.cells #[.int .i64 x, .int .i64 y] 59)) wr.heap.size x y a0 a1 a2 a3 := by
  have h1 := hq.lt
  refine ⟨hbel.alloc (by omega) _, hz.alloc _, hq.alloc _, ?_, ?_, by simp, h1⟩
  · rw [World.cell?_alloc_new]; rfl
  · rw [World.cell?_alloc_new]; rfl

set_option maxHeartbeats 1000000 in
theorem ref_bounds (b off n c : Nat) (X Y : Nat → Int) (w : World) (hc : n ≤ c) (hm : c ≤ maxLen) (hb : b < w.heap.size) (hp : Pairs w b off n X Y) :
    Calls Tryd.prog 21 #[.slice (some ⟨b, off, none⟩) n c] w fun e w' => e = .returned (.tuple #[.agg #[.int .i64 (lo' X n), .int .i64 (lo' Y n), .int .i64 (hi' X n), .int .i64 (hi' Y n)], .bool (decide (0 < n))]) ∧ Below w.heap.size w w' := by
  unfold maxLen at hm
  go_enter Tryd.func21, Tryd.ntmps21
  go_wp2
  go_loopg [9] n (fun g i wr => ∃ k : Nat, k + g = n ∧ i = .int .i64 k ∧ Below w.heap.size w wr ∧ Four wr w.heap.size 0 0 0 0 ∧ Four wr (w.heap.size + 1) (lo' X k) (lo' Y k) (hi' X k) (hi' Y k))
  case atStart => exact ⟨0, by omega, rfl, zero_born _⟩
  case round =>
    obtain ⟨k, hk0, rfl, hbel, hz, hq⟩ := hrel
    have hk : k ≤ n := by omega
    have HK : Hid (k + gk = n) := hk0
    clear hk0
    have hlz := hz.lt
    have hlq := hq.lt
    obtain ⟨_, q0, q1, q2, q3, g0, g1, g2, g3⟩ := id hq
    by_cases hlt : k < n
    · have hcx := (hp k hlt).1
      have hcy := (hp k hlt).2
      have hcx' : wr.cell? ⟨b, off + k * 2, none⟩ = some (.int .i64 (X k)) := by rw [hbel.cell hb]; exact hcx
      have hcy' : wr.cell? ⟨b, off + k * 2 + 1, none⟩ = some (.int .i64 (Y k)) := by rw [hbel.cell hb]; exact hcy
      clear hcx hcy
      by_cases h0 : k = 0
      · have HK0 : Hid (k = 0) := h0
        have hk0 : ((k : Int) == 0) = true := by simp; omega
        clear h0
        go_wp2
        go_roundg (gk - 1)
        case measure => have := HK.out; omega
        case rel =>
          have h1 := HK.out
          have h2 := HK0.out
          subst h2
          exact ⟨1, by omega, by go_num, (((((hbel.setCell (by simp) _).setCell (by simp) _).setCell (by simp) _).setCell (by simp) _).alloc (by simp; omega) _),
            (((((hz.other (by simp) _).other (by simp) _).other (by simp) _).other (by simp) _).alloc _), (((((hq.set0 _).set1 _).set2 _).set3 _).alloc _)⟩
      · have hk0 : ((k : Int) == 0) = false := by simp; omega
        have HK0 : Hid (0 < k) := by show 0 < k; omega
        clear h0
        go_upto_if 22 with fail
        have hm0 := Mid.start (x := X k) (y := Y k) hbel hz hq
        go_cut [9] from 9 to 62 (fun i wc => i = .int .i64 k ∧ Mid w wc wr.heap.size (X k) (Y k) (lo' X (k + 1)) (lo' Y k) (hi' X k) (hi' Y k))
        case first =>
          go_wp2
          · go_meet
            case rel => exact ⟨rfl, by rw [lo'_lt X k HK0.out ‹_›]; simpa using Mid.start (x := X k) (y := Y k) (hbel.setCell (p := ⟨w.heap.size + 1, 0, none⟩) (by simp) (.int .i64 (X k))) (hz.other (by simp) _) (hq.set0 (X k))⟩
          · go_meet
            case rel => exact ⟨rfl, by rw [lo'_ge X k HK0.out (by omega)]; exact hm0⟩
        case rest =>
          obtain ⟨rfl, hm1⟩ := hcut
          clear hm0 hz hq hbel q0 q1 q2 q3 g0 g1 g2 g3 hcx' hcy' hlz hlq
          obtain ⟨_, _, ⟨_, q0, q1, q2, q3, g0, g1, g2, g3⟩, cx, cy, ml, mg⟩ := id hm1
          go_upto_if 34 with fail
          go_cut [9] from 9 to 62 (fun i wc => i = .int .i64 k ∧ Mid w wc wr.heap.size (X k) (Y k) (lo' X (k + 1)) (lo' Y (k + 1)) (hi' X k) (hi' Y k))
          case first =>
            go_wp2
            · go_meet
              case rel => exact ⟨rfl, by rw [lo'_lt Y k HK0.out ‹_›]; exact hm1.set1 _⟩
            · go_meet
              case rel => exact ⟨rfl, by rw [lo'_ge Y k HK0.out (by omega)]; exact hm1⟩
          case rest =>
            obtain ⟨rfl, hm2⟩ := hcut
            clear hm1 q0 q1 q2 q3 g0 g1 g2 g3 cx cy ml mg
            obtain ⟨_, _, ⟨_, q0, q1, q2, q3, g0, g1, g2, g3⟩, cx, cy, ml, mg⟩ := id hm2
            go_upto_if 46 with fail
            go_cut [9] from 9 to 62 (fun i wc => i = .int .i64 k ∧ Mid w wc wr.heap.size (X k) (Y k) (lo' X (k + 1)) (lo' Y (k + 1)) (hi' X (k + 1)) (hi' Y k))
            case first =>
              go_wp2
              · go_meet
                case rel => exact ⟨rfl, by rw [hi'_lt X k HK0.out ‹_›]; exact hm2.set2 _⟩
              · go_meet
                case rel => exact ⟨rfl, by rw [hi'_ge X k HK0.out (by omega)]; exact hm2⟩
            case rest =>
              obtain ⟨rfl, hm3⟩ := hcut
              clear hm2 q0 q1 q2 q3 g0 g1 g2 g3 cx cy ml mg
              obtain ⟨_, _, ⟨_, q0, q1, q2, q3, g0, g1, g2, g3⟩, cx, cy, ml, mg⟩ := id hm3
              go_upto_if 58 with fail
              go_wp2
              · go_roundg (gk - 1)
                case measure => have := HK.out; omega
                case rel => have := HK.out; exact ⟨k + 1, by omega, by go_num, (hm3.set3 _).bel, (hm3.set3 _).z, by rw [hi'_lt Y k HK0.out ‹_›]; exact (hm3.set3 _).q⟩
              · go_roundg (gk - 1)
                case measure => have := HK.out; omega
                case rel => have := HK.out; exact ⟨k + 1, by omega, by go_num, hm3.bel, hm3.z, by rw [hi'_ge Y k HK0.out (by omega)]; exact hm3.q⟩
    · have hkn : k = n := by omega
      subst hkn
      obtain ⟨_, z0, z1, z2, z3, e0, e1, e2, e3⟩ := id hz
      go_wp2
      obtain ⟨_, r0, r1, r2, r3, _, _, _, _⟩ := ((((hz.set0 (lo' X k)).set1 (lo' Y k)).set2 (hi' X k)).set3 (hi' Y k))
      refine bodyPost_ret (v := .tuple #[.agg #[.int .i64 (lo' X k), .int .i64 (lo' Y k), .int .i64 (hi' X k), .int .i64 (hi' Y k)], .bool (decide (0 < k))]) ?_ rfl ⟨rfl, ?_⟩
      · simp [results, Tryd.results21, go_sem, r0, r1, r2, r3]
      · exact (((hbel.setCell (by simp) _).setCell (by simp) _).setCell (by simp) _).setCell (by simp) _
end Go.Proofs.YtnklpjoeopcbbaaDoor
