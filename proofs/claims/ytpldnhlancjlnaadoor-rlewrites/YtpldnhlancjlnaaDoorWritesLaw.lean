/- RleWrites: the walk of the law itself. -/
import Derived.Test.YtpldnhlancjlnaaDoorRefEnc3
namespace Go.Proofs.YtpldnhlancjlnaaDoor
open Go.Shelf Go.RowKit

set_option maxHeartbeats 400000 in
theorem life_any (w : World) : Calls Tryd.prog 9 #[] w fun e w' => e = .returned (.agg #[.int .i64 8, .int .i64 12]) ∧ Below w.heap.size w w' := by
  go_enter Tryd.func9, Tryd.ntmps9
  go_wp2_with fail
  refine bodyPost_ret (v := .agg #[.int .i64 8, .int .i64 12]) ?_ rfl ⟨rfl, (Below.refl _ _).alloc (Nat.le_refl _) _⟩
  simp [results, Tryd.results9, go_sem]
theorem rod_row (w : World) : Row (w.alloc (.cells #[.int .i64 0, .int .i64 0, .int .i64 1, .int .i64 0, .int .i64 2, .int .i64 0] 56)) (.slice (some ⟨w.heap.size, 0, none⟩) 3 3) [(0, 0), (1, 0), (2, 0)] := by
  refine Or.inr ⟨by simp, w.heap.size, 0, 3, rfl, by simp, by simp, by unfold maxLen; simp, fun j hj => ?_⟩
  have : j = 0 ∨ j = 1 ∨ j = 2 := by simp at hj; omega
  rcases this with rfl | rfl | rfl <;> simp
set_option maxHeartbeats 400000 in
theorem rod_any (w : World) : Calls Tryd.prog 8 #[] w fun e w' => ∃ u, e = .returned u ∧ Below w.heap.size w w' ∧ Row w' u [(0, 0), (1, 0), (2, 0)] := by
  go_enter Tryd.func8, Tryd.ntmps8
  go_wp2_with fail
  go_ret
  exact ⟨_, rfl, (Below.refl _ _).alloc (Nat.le_refl _) _, rod_row w⟩
theorem tidied_of {zs : List (Int × Int)} (ht : Tidy zs) (hc : tcode zs = 0) : Tidied zs zs := ⟨ht, fun p => by rw [hc]; simp⟩

/-- what is written of three cells in a row -/
def rodText : List UInt8 := [120, 32, 61, 32, 51, 44, 32, 121, 32, 61, 32, 49, 44, 32, 114, 117, 108, 101, 32, 61, 32, 66, 51, 47, 83, 50, 51, 10, 51, 111, 33, 10]
theorem rod_text : encF [(0, 0), (1, 0), (2, 0)] (tcode [(0, 0), (1, 0), (2, 0)]) 8 12 = (rodText, 0) := by decide +kernel
theorem rod_out {w : World} {e : Ending} {w' : World} (h : EncOut [(0, 0), (1, 0), (2, 0)] 8 12 w e w') : e = .returned (.tuple #[.string ⟨rodText.toArray⟩, .int .i64 0]) ∧ Below w.heap.size w w' := by
  obtain ⟨ys, ht, he, hb⟩ := h
  have hy := ht.unique (tidied_of (by unfold Tidy; simp [ahead]) (by decide +kernel))
  subst hy
  rw [rod_text] at he
  exact ⟨he, hb⟩

set_option maxRecDepth 8000 in
set_option maxHeartbeats 2000000 in
theorem writes_law (b l : Int) (v : Value) (zs : List (Int × Int)) (w : World) (hn : zs.length * 16 ≤ 140737488355328) (h : RRow w v zs) (hv : Vars w) :
    Calls Tryd.prog 3 #[v, .agg #[.int .i64 b, .int .i64 l]] w fun e w' => e = .returned (.bool true) ∧ Below w.heap.size w w' := by
  have q0 := RuleIn.born w b l 24
  have hr8 := hv.room
  have hc := fun W (hb : Below w.heap.size w W) => cells_row v zs W hn (h.below hb)
  have hrf := fun W (hb : Below w.heap.size w W) => refEncode_any v zs b l W (h.below hb)
  have hen := fun W u (hb : Below w.heap.size w W) (hr : Row W u zs) => encode_any u zs b l W hr (hv.go hb hr8)
  have her := fun W u (hb : Below w.heap.size w W) hr => (encode_any u [(0, 0), (1, 0), (2, 0)] 8 12 W hr (hv.go hb hr8)).mono fun e w' ho => rod_out ho
  clear h
  go_enter Tryd.func3, Tryd.ntmps3
  go_wp2_with fail
  have kR : ∀ W, RuleIn w b l W → W.cell? ⟨w.heap.size, 0, none⟩ = some (.int .i64 b) ∧ W.cell? ⟨w.heap.size, 1, none⟩ = some (.int .i64 l) ∧ RuleIn w b l W := fun W q => ⟨q.1, q.2.1, q⟩
  have qd := q0.go (below_drewN' _ 1)
  go_region_held3 (fun w' => w'.cell? ⟨w.heap.size, 0, none⟩ = some (.int .i64 b) ∧ w'.cell? ⟨w.heap.size, 1, none⟩ = some (.int .i64 l) ∧ RuleIn w b l w') (first | exact kR _ qd | exact kR _ (qd.go c5) | exact kR _ ((qd.go c5).go c6))
    (first | (go_at_call 6; refine (hc _ qd.2.2.2.2.2).mono ?_; rintro e w5 ⟨vc, rfl, c5, r5⟩) | (go_at_call 5; refine (hen _ _ (qd.go c5).2.2.2.2.2 r5).mono ?_; rintro e w6 ⟨ta, na, rfl, c6⟩))
  all_goals
    have q6 := (qd.go c5).go c6
    have HA : Hid (Tidied zs ta) := na
    obtain ⟨f0, f1, _⟩ := id q6
    have b6 : Below w.heap.size w w6 := q6.2.2.2.2.2
    clear na r5 c5 c6 q0 qd kR hc q6 hen
    go_wp2_with fail
    refine (hrf w6 b6).mono ?_
    rintro e w7 ⟨tb, nb, rfl, c7⟩
    have b7 : Below w.heap.size w w7 := b6.trans (c7.mono b6.size)
    have u1 := HA.out.unique nb
    subst u1
    clear nb c7 hrf b6 HA f0 f1
    generalize encF ta (tcode zs) b l = T
    obtain ⟨t1, t2⟩ := T
    simp only
    generalize (⟨t1.toArray⟩ : ByteArray) = T1
    go_wp2_with fail
    refine (rod_any _).mono ?_
    rintro e w8 ⟨vr, rfl, c8, r8⟩
    go_wp2_with fail
    refine (life_any _).mono ?_
    rintro e w9 ⟨rfl, c9⟩
    have b9 : Below w.heap.size w w9 := (b7.trans (c8.mono b7.size)).trans (c9.mono (b7.trans (c8.mono b7.size)).size)
    have hrx := her w9 vr b9 (r8.below c9)
    clear her c8 c9 r8
    go_wp2_with fail
    refine hrx.mono ?_
    rintro e w10 ⟨rfl, c10⟩
    go_wp2_with fail
    go_ret
    exact ⟨rfl, b9.trans (c10.mono b9.size)⟩
end Go.Proofs.YtpldnhlancjlnaaDoor
