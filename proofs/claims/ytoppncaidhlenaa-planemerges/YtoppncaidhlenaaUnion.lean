/- What plane.Union, Both and Minus answer of two lists that Tidy takes and that have room together. -/
import Derived.Test.YtoppncaidhlenaaMerge
import Derived.Test.YtoppncaidhlenaaSome
namespace Go.Proofs.Ytoppncaidhlenaa
open Go.RowKit Go.Lib Go.Sort

set_option maxHeartbeats 400000 in
theorem keepU_any (a b : Bool) (w : World) : Calls Try.prog 37 #[.bool a, .bool b] w fun e w' => e = .returned (.bool ((fun x y : Bool => x || y) a b)) ∧ w' = w := by
  cases a <;> cases b <;> (go_enter Try.func37, Try.ntmps37; go_wp2; go_ret; exact ⟨rfl, rfl⟩)
set_option maxHeartbeats 400000 in
theorem keepB_any (a b : Bool) (w : World) : Calls Try.prog 40 #[.bool a, .bool b] w fun e w' => e = .returned (.bool ((fun x y : Bool => x && y) a b)) ∧ w' = w := by
  cases a <;> cases b <;> (go_enter Try.func40, Try.ntmps40; go_wp2; go_ret; exact ⟨rfl, rfl⟩)
set_option maxHeartbeats 400000 in
theorem keepM_any (a b : Bool) (w : World) : Calls Try.prog 42 #[.bool a, .bool b] w fun e w' => e = .returned (.bool ((fun x y : Bool => x && !y) a b)) ∧ w' = w := by
  cases a <;> cases b <;> (go_enter Try.func42, Try.ntmps42; go_wp2; go_ret; exact ⟨rfl, rfl⟩)

/-- what is kept of two lists, told by which of them a cell is in -/
def SetOut (keep : Bool → Bool → Bool) (za zb : List (Int × Int)) (w : World) (e : Ending) (w' : World) : Prop :=
  ∃ x R, e = .returned (.tuple #[x, .int .i64 0]) ∧ Below w.heap.size w w' ∧ Tidy R ∧ (∀ p, p ∈ R ↔ (p ∈ za ∨ p ∈ zb) ∧ keep (decide (p ∈ za)) (decide (p ∈ zb)) = true) ∧ Row w' x R

theorem setOut_of {keep : Bool → Bool → Bool} {za zb : List (Int × Int)} {w w' : World} {e : Ending} (ha : tcode za = 0) (hb : tcode zb = 0) (hl : za.length + zb.length ≤ 4096) (h : MergeOut keep za zb w e w') : SetOut keep za zb w e w' := by
  obtain ⟨u, ys, ts, h1, h2, he, hbel, hrow⟩ := h
  have l1 : ys.length ≤ za.length := len_le (h1.1.imp fun {a b} hab e => by subst e; exact ahead_irrefl a hab) fun p hp => ((h1.2 p).1 hp).1
  have l2 : ts.length ≤ zb.length := len_le (h2.1.imp fun {a b} hab e => by subst e; exact ahead_irrefl a hab) fun p hp => ((h2.2 p).1 hp).1
  have l3 := mg_length keep (ys.length + ts.length) ys ts
  have hF : mergeF keep (tcode za) (tcode zb) ys ts = (0, mg keep (ys.length + ts.length) ys ts) := by rw [mergeF, ha, hb, if_neg (by simp), if_neg (by simp), if_neg (by omega)]
  rw [hF] at he hrow
  obtain ⟨t1, t2⟩ := mg_spec keep (ys.length + ts.length) ys ts h1.1 h2.1 (Nat.le_refl _)
  have mA : ∀ p, p ∈ ys ↔ p ∈ za := fun p => by rw [h1.2 p, ha]; simp
  have mB : ∀ p, p ∈ ts ↔ p ∈ zb := fun p => by rw [h2.2 p, hb]; simp
  refine ⟨u, _, he, hbel, t1, fun p => ?_, hrow⟩
  have dA : decide (p ∈ ys) = decide (p ∈ za) := decide_eq_decide.2 (mA p)
  have dB : decide (p ∈ ts) = decide (p ∈ zb) := decide_eq_decide.2 (mB p)
  rw [t2 p, dA, dB, mA p, mB p]

set_option maxHeartbeats 400000 in
theorem union_any (v u : Value) (za zb : List (Int × Int)) (w : World) (hv : Row w v za) (hu : Row w u zb) (ha : tcode za = 0) (hb : tcode zb = 0) (hl : za.length + zb.length ≤ 4096) :
    Calls Try.prog 13 #[v, u] w fun e w' => SetOut (fun x y => x || y) za zb w e w' := by
  have hm := (merge_any (fun x y => x || y) 37 (enters_of Try.func37 (by kernel_rfl) rfl) keepU_any v u za zb w hv hu).mono fun e w' h => setOut_of ha hb hl h
  clear hv hu
  go_enter Try.func13, Try.ntmps13
  go_wp2_with fail
  refine hm.mono ?_
  rintro e w1 ⟨x, R, rfl, h1, h2, h3, h4⟩
  go_wp2_with fail
  go_ret2
  exact ⟨x, R, rfl, h1, h2, h3, h4⟩
set_option maxHeartbeats 400000 in
theorem both_any (v u : Value) (za zb : List (Int × Int)) (w : World) (hv : Row w v za) (hu : Row w u zb) (ha : tcode za = 0) (hb : tcode zb = 0) (hl : za.length + zb.length ≤ 4096) :
    Calls Try.prog 15 #[v, u] w fun e w' => SetOut (fun x y => x && y) za zb w e w' := by
  have hm := (merge_any (fun x y => x && y) 40 (enters_of Try.func40 (by kernel_rfl) rfl) keepB_any v u za zb w hv hu).mono fun e w' h => setOut_of ha hb hl h
  clear hv hu
  go_enter Try.func15, Try.ntmps15
  go_wp2_with fail
  refine hm.mono ?_
  rintro e w1 ⟨x, R, rfl, h1, h2, h3, h4⟩
  go_wp2_with fail
  go_ret2
  exact ⟨x, R, rfl, h1, h2, h3, h4⟩
set_option maxHeartbeats 400000 in
theorem minus_any (v u : Value) (za zb : List (Int × Int)) (w : World) (hv : Row w v za) (hu : Row w u zb) (ha : tcode za = 0) (hb : tcode zb = 0) (hl : za.length + zb.length ≤ 4096) :
    Calls Try.prog 17 #[v, u] w fun e w' => SetOut (fun x y => x && !y) za zb w e w' := by
  have hm := (merge_any (fun x y => x && !y) 42 (enters_of Try.func42 (by kernel_rfl) rfl) keepM_any v u za zb w hv hu).mono fun e w' h => setOut_of ha hb hl h
  clear hv hu
  go_enter Try.func17, Try.ntmps17
  go_wp2_with fail
  refine hm.mono ?_
  rintro e w1 ⟨x, R, rfl, h1, h2, h3, h4⟩
  go_wp2_with fail
  go_ret2
  exact ⟨x, R, rfl, h1, h2, h3, h4⟩
end Go.Proofs.Ytoppncaidhlenaa
