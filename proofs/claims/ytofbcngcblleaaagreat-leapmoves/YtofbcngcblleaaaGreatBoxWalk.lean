/- What plane.Bounds and lifelodgeref.Bounds answer: the least box of a row of cells. -/
import Derived.Test.YtofbcngcblleaaaGreatFour
import Derived.Lib.MinMax
import Derived.Deep.CutRange
import Derived.Deep.LoopGhost
namespace Go.Proofs.YtofbcngcblleaaaGreat
open Go.RowKit

theorem two_born (w : World) (x y : Int) : Below w.heap.size w ((w.alloc (.cells #[.int .i64 0, .int .i64 0, .int .i64 0, .int .i64 0] 68)).alloc (.cells #[.int .i64 x, .int .i64 y, .int .i64 x, .int .i64 y] 68)).drew ∧
    Four ((w.alloc (.cells #[.int .i64 0, .int .i64 0, .int .i64 0, .int .i64 0] 68)).alloc (.cells #[.int .i64 x, .int .i64 y, .int .i64 x, .int .i64 y] 68)).drew w.heap.size 0 0 0 0 ∧
    Four ((w.alloc (.cells #[.int .i64 0, .int .i64 0, .int .i64 0, .int .i64 0] 68)).alloc (.cells #[.int .i64 x, .int .i64 y, .int .i64 x, .int .i64 y] 68)).drew (w.heap.size + 1) x y x y := by
  refine ⟨(((Below.refl _ _).alloc (Nat.le_refl _) _).alloc (by simp) _).drew, ((Four.born w 0 0 0 0 68).alloc _).drew, ?_⟩
  have hf := (Four.born (w.alloc (Obj.cells #[Value.int IntKind.i64 0, Value.int IntKind.i64 0, Value.int IntKind.i64 0, Value.int IntKind.i64 0] 68)) x y x y 68).drew
  simpa using hf

set_option maxRecDepth 4000 in
set_option maxHeartbeats 400000 in
theorem bounds_some (b off n c : Nat) (X Y : Nat → Int) (w : World) (hn : 0 < n) (hc : n ≤ c) (hm : c ≤ maxLen) (hb : b < w.heap.size) (hp : Pairs w b off n X Y) (h1c : c ≠ 1) :
    Calls Tryz.prog 47 #[.slice (some ⟨b, off, none⟩) n c] w fun e w' => e = .returned (.tuple #[.agg #[.int .i64 (lo X (n - 1)), .int .i64 (lo Y (n - 1)), .int .i64 (hi X (n - 1)), .int .i64 (hi Y (n - 1))], .bool true]) ∧ Below w.heap.size w w' := by
  unfold maxLen at hm
  have h0 := hp 0 hn
  have hx0 : w.cell? ⟨b, off, none⟩ = some (.int .i64 (X 0)) := by simpa using h0.1
  have hy0 : w.cell? ⟨b, off + 1, none⟩ = some (.int .i64 (Y 0)) := by simpa using h0.2
  clear h0
  have hn0 : ((n : Int) == 0) = false := by simp; omega
  have hn1 : (0 : Int) < (n : Int) := by omega
  have hne : b ≠ w.heap.size := by omega
  go_enter Tryz.func47, Tryz.ntmps47
  go_wp2
  go_region
  go_wp2
  go_loopg [31] (n - 1) (fun g i wr => ∃ k : Nat, k + g = n - 1 ∧ i = .int .i64 k ∧ Below w.heap.size w wr ∧ Four wr w.heap.size 0 0 0 0 ∧ Four wr (w.heap.size + 1) (lo X k) (lo Y k) (hi X k) (hi Y k))
  case atStart => exact ⟨0, by omega, rfl, two_born _ _ _⟩
  case round =>
    obtain ⟨k, hk0, rfl, hbel, hz, hq⟩ := hrel
    have hk : k ≤ n - 1 := by omega
    have HK : Hid (k + gk = n - 1) := hk0
    clear hk0
    have hlz := hz.lt
    have hlq := hq.lt
    obtain ⟨_, q0, q1, q2, q3, g0, g1, g2, g3⟩ := id hq
    by_cases hlt : k < n - 1
    · have hcx := (hp (k + 1) (by omega)).1
      have hcy := (hp (k + 1) (by omega)).2
      have hcx' : wr.cell? ⟨b, off + 2 + k * 2, none⟩ = some (.int .i64 (X (k + 1))) := by rw [hbel.cell hb, ← hcx]; congr 2; omega
      have hcy' : wr.cell? ⟨b, off + 2 + k * 2 + 1, none⟩ = some (.int .i64 (Y (k + 1))) := by rw [hbel.cell hb, ← hcy]; congr 2; omega
      clear hcx hcy hx0 hy0 hn0 hn1 hne
      go_wp2
      go_cut [31] from 31 to 59 (fun i wc => i = .int .i64 k ∧ Below w.heap.size w wc ∧ Four wc w.heap.size 0 0 0 0 ∧ Four wc (w.heap.size + 1) (lo X (k + 1)) (lo Y k) (hi X (k + 1)) (hi Y k) ∧ wc.cell? ⟨wr.heap.size, 1, none⟩ = some (.int .i64 (Y (k + 1))) ∧ wr.heap.size < wc.heap.size)
      case first =>
        as_aux_lemma =>
          go_region
          go_wp2
          go_meet
          case rel =>
            exact ⟨rfl, (((hbel.setCell (by simp) _).setCell (by simp) _).alloc (by simp; omega) _).drew, (((hz.other (by simp) _).other (by simp) _).alloc _).drew, (((hq.set0 _).set2 _).alloc _).drew,
              World.cell?_alloc_at _ _ _ _ (by simp), by simp⟩
      case rest =>
        clear hq hz hbel q0 q1 q2 q3 g0 g1 g2 g3 hcx' hcy'
        obtain ⟨rfl, hbel', hz', hq', cy, hwc⟩ := hcut
        have hlq' := hq'.lt
        have HKL : Hid (k < n - 1) := hlt
        obtain ⟨_, p0, p1, p2, p3, f0, f1, f2, f3⟩ := id hq'
        go_wp2
        go_region
        go_wp2
        go_roundg (gk - 1)
        case measure => have := HK.out; have := HKL.out; omega
        case rel =>
          have := HK.out
          have := HKL.out
          exact ⟨k + 1, by omega, by go_num, ((hbel'.setCell (by simp) _).setCell (by simp) _).drew, ((hz'.other (by simp) _).other (by simp) _).drew, ((hq'.set1 _).set3 _).drew⟩
    · have hkn : k = n - 1 := by omega
      subst hkn
      obtain ⟨_, z0, z1, z2, z3, e0, e1, e2, e3⟩ := id hz
      go_wp2
      obtain ⟨_, r0, r1, r2, r3, _, _, _, _⟩ := ((((hz.set0 (lo X (n - 1))).set1 (lo Y (n - 1))).set2 (hi X (n - 1))).set3 (hi Y (n - 1)))
      refine bodyPost_ret (v := .tuple #[.agg #[.int .i64 (lo X (n - 1)), .int .i64 (lo Y (n - 1)), .int .i64 (hi X (n - 1)), .int .i64 (hi Y (n - 1))], .bool true]) ?_ rfl ⟨rfl, ?_⟩
      · simp [results, Tryz.results47, go_sem, r0, r1, r2, r3]
      · exact (((hbel.setCell (by simp) _).setCell (by simp) _).setCell (by simp) _).setCell (by simp) _
end Go.Proofs.YtofbcngcblleaaaGreat
