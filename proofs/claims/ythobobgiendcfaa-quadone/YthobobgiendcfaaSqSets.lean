/- What the document's Union and Minus answer of a tidy list and one cell. -/
import Derived.Test.YthobobgiendcfaaRefMerge
namespace Go.Proofs.Ythobobgiendcfaa.A
open Go.RowKit Go.Lib Go.Sort

set_option maxHeartbeats 400000 in
theorem keepT_any (a b : Bool) (w : World) : Calls Try.prog 103 #[.bool a, .bool b] w fun e w' => e = .returned (.bool ((fun _ _ : Bool => true) a b)) ∧ w' = w := by
  cases a <;> cases b <;> (go_enter Try.func103, Try.ntmps103; go_wp2; go_ret; exact ⟨rfl, rfl⟩)
set_option maxHeartbeats 400000 in
theorem keepN_any (a b : Bool) (w : World) : Calls Try.prog 104 #[.bool a, .bool b] w fun e w' => e = .returned (.bool ((fun _ y : Bool => !y) a b)) ∧ w' = w := by
  cases a <;> cases b <;> (go_enter Try.func104, Try.ntmps104; go_wp2; go_ret; exact ⟨rfl, rfl⟩)

set_option maxHeartbeats 400000 in
theorem refUnion_any (v u : Value) (za zb : List (Int × Int)) (w : World) (hv : RRow w v za) (hu : RRow w u zb) :
    Calls Try.prog 50 #[v, u] w fun e w' => MergeOut (fun _ _ => true) za zb w e w' := by
  have hm := refMerge_any (fun _ _ => true) 103 (enters_of Try.func103 (by kernel_rfl) rfl) keepT_any v u za zb w hv hu
  clear hv hu
  go_enter Try.func50, Try.ntmps50
  go_wp2_with fail
  refine hm.mono ?_
  rintro e w1 ⟨x, ys, ts, h1, h2, rfl, h3, h4⟩
  go_wp2_with fail
  go_ret2
  exact ⟨x, ys, ts, h1, h2, rfl, h3, h4⟩
set_option maxHeartbeats 400000 in
theorem refMinus_any (v u : Value) (za zb : List (Int × Int)) (w : World) (hv : RRow w v za) (hu : RRow w u zb) :
    Calls Try.prog 51 #[v, u] w fun e w' => MergeOut (fun _ y => !y) za zb w e w' := by
  have hm := refMerge_any (fun _ y => !y) 104 (enters_of Try.func104 (by kernel_rfl) rfl) keepN_any v u za zb w hv hu
  clear hv hu
  go_enter Try.func51, Try.ntmps51
  go_wp2_with fail
  refine hm.mono ?_
  rintro e w1 ⟨x, ys, ts, h1, h2, rfl, h3, h4⟩
  go_wp2_with fail
  go_ret2
  exact ⟨x, ys, ts, h1, h2, rfl, h3, h4⟩

/-- what is kept of a tidy list and one cell that is not too far -/
theorem merge_one {keep : Bool → Bool → Bool} {za ys : List (Int × Int)} {c : Int × Int} {w w' : World} {e : Ending} (hz : Tidied za ys) (ht : tcode za = 0) (hc : farP c = false) (hl : ys.length ≤ 4000) (h : MergeOut keep ys [c] w e w') :
    ∃ u R, e = .returned (.tuple #[u, .int .i64 0]) ∧ Below w.heap.size w w' ∧ Row w' u R ∧ Tidy R ∧ ∀ p, p ∈ R ↔ (p ∈ ys ∨ p = c) ∧ keep (decide (p ∈ ys)) (decide (p = c)) = true := by
  obtain ⟨u, ys2, ts, h1, h2, he, hb, hr⟩ := h
  have hfar : ys.any farP = false := by
    rw [List.any_eq_false]
    intro p hp
    have h3 := ((hz.2 p).1 hp).1
    have h4 : za.any farP = false := by
      unfold tcode at ht
      split at ht
      · omega
      · split at ht
        · omega
        · rename_i hn; simpa using hn
    rw [List.any_eq_false] at h4
    exact h4 p h3
  have t1 : tcode ys = 0 := by unfold tcode; rw [if_neg (by omega), if_neg (by rw [hfar]; simp)]
  have t2 : tcode [c] = 0 := by unfold tcode; rw [if_neg (by simp), if_neg (by simp [hc])]
  have e1 : ys2 = ys := tidy_unique _ _ h1.1 hz.1 fun p => by rw [h1.2 p, t1]; simp
  have e2 : ts = [c] := tidy_unique _ _ h2.1 (List.pairwise_singleton _ _) fun p => by rw [h2.2 p, t2]; simp
  subst e1 e2
  have l3 := mg_length keep (ys2.length + [c].length) ys2 [c]
  have hF : mergeF keep (tcode ys2) (tcode [c]) ys2 [c] = (0, mg keep (ys2.length + [c].length) ys2 [c]) := by
    rw [mergeF, t1, t2, if_neg (by simp), if_neg (by simp), if_neg (by simp at l3 ⊢; omega)]
  rw [hF] at he hr
  obtain ⟨m1, m2⟩ := mg_spec keep (ys2.length + [c].length) ys2 [c] h1.1 h2.1 (Nat.le_refl _)
  exact ⟨u, _, he, hb, hr, m1, fun p => by rw [m2 p]; simp⟩
/-- one cell that is too far -/
theorem merge_far {keep : Bool → Bool → Bool} {za ys : List (Int × Int)} {c : Int × Int} {w w' : World} {e : Ending} (hz : Tidied za ys) (ht : tcode za = 0) (hc : farP c = true) (hl : ys.length ≤ 4000) (h : MergeOut keep ys [c] w e w') :
    e = .returned (.tuple #[.slice none 0 0, .int .i64 3]) ∧ Below w.heap.size w w' := by
  obtain ⟨u, ys2, ts, h1, h2, he, hb, hr⟩ := h
  have hfar : ys.any farP = false := by
    rw [List.any_eq_false]
    intro p hp
    have h3 := ((hz.2 p).1 hp).1
    have h4 : za.any farP = false := by
      unfold tcode at ht
      split at ht
      · omega
      · split at ht
        · omega
        · rename_i hn; simpa using hn
    rw [List.any_eq_false] at h4
    exact h4 p h3
  have t1 : tcode ys = 0 := by unfold tcode; rw [if_neg (by omega), if_neg (by rw [hfar]; simp)]
  have t2 : tcode [c] = 3 := by unfold tcode; rw [if_neg (by simp), if_pos (by simp [hc])]
  have hF : mergeF keep (tcode ys) (tcode [c]) ys2 ts = (3, []) := by
    rw [mergeF, t1, t2, if_neg (by simp), if_pos (by simp)]
  rw [hF] at he hr
  rcases hr with ⟨_, rfl⟩ | ⟨h, _⟩
  · exact ⟨he, hb⟩
  · exact absurd rfl h
end Go.Proofs.Ythobobgiendcfaa.A
