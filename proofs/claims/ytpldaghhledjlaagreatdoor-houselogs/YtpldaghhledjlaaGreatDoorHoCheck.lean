/- house.Check: what it says of a config. -/
import Derived.Test.YtpldaghhledjlaaGreatDoorSpKit
import Derived.Laws.AppendOwn
namespace Go.Proofs.YtpldaghhledjlaaGreatDoor.H
open Go.RowKit

theorem ret_int {k : IntKind} {a b : Int} (h : a = b) : Ending.returned (.int k a) = .returned (.int k b) := by rw [h]
theorem hid {p : Prop} (h : p) : Hid p := h
theorem addr_add (g o j : Nat) : (⟨g, o, none⟩ : Addr).add j = ⟨g, o + j, none⟩ := by
  unfold Addr.add
  split
  · rename_i h; rw [h, Nat.add_zero]
  · rfl
/-- numbers that can be read -/
def NR (w : World) (v : Value) (xs : List Int) : Prop :=
  ∃ a c, v = .slice a xs.length c ∧ xs.length ≤ 9223372036854775807 ∧ (xs = [] ∨ ∃ g o, a = some ⟨g, o, none⟩ ∧ g < w.heap.size ∧ ∀ (k : Nat) x, xs[k]? = some x → w.cell? ⟨g, o + k, none⟩ = some (.int .i64 x))
theorem NR.below {w w' : World} {v : Value} {xs : List Int} (h : NR w v xs) (hb : Below w.heap.size w w') : NR w' v xs := by
  obtain ⟨a, c, h1, h2, h3⟩ := h
  refine ⟨a, c, h1, h2, ?_⟩
  rcases h3 with h3 | ⟨g, o, h4, h5, h6⟩
  · exact Or.inl h3
  · exact Or.inr ⟨g, o, h4, Nat.lt_of_lt_of_le h5 hb.size, fun k x hk => (hb.cell (p := ⟨g, o + k, none⟩) h5).trans (h6 k x hk)⟩
def badQ (room x : Int) : Bool := decide (x < 0 ∨ room < x)
def chk (room : Int) (xs : List Int) : Int :=
  if room < 0 ∨ 200000 < room ∨ xs.length < 1 ∨ 64 < xs.length then 3 else if xs.any (badQ room) then 3 else if room < xs.sum then 5 else 0
theorem sum_bound (room : Int) (h0 : 0 ≤ room) : ∀ (xs : List Int), (∀ x ∈ xs, badQ room x = false) → 0 ≤ xs.sum ∧ xs.sum ≤ xs.length * room
  | [], _ => by simp
  | x :: r, h => by
    have ih := sum_bound room h0 r fun y hy => h y (by simp [hy])
    have hx := h x (by simp)
    unfold badQ at hx
    simp only [decide_eq_false_iff_not, not_or] at hx
    have e : (((x :: r).length : Nat) : Int) * room = (r.length : Int) * room + room := by simp [Int.add_mul]
    rw [List.sum_cons, e]
    omega
theorem bad_at {room : Int} {xs : List Int} {k : Nat} {x : Int} (h : xs[k]? = some x) (hb : badQ room x = true) : xs.any (badQ room) = true := List.any_eq_true.2 ⟨x, List.mem_of_getElem? h, hb⟩
theorem take_step {xs : List Int} {k : Nat} {x : Int} (h : xs[k]? = some x) : xs.take (k + 1) = xs.take k ++ [x] := by
  rw [List.take_add_one, h]; rfl
theorem sum_step {xs : List Int} {k : Nat} {x : Int} (h : xs[k]? = some x) : (xs.take (k + 1)).sum = (xs.take k).sum + x := by
  rw [take_step h, List.sum_append]; simp
theorem take_all {xs : List Int} {k : Nat} (h : ¬ k < xs.length) : xs.take k = xs := List.take_of_length_le (by omega)

set_option maxRecDepth 20000 in
set_option maxHeartbeats 2000000 in
theorem check_any (room : Int) (v : Value) (xs : List Int) (w : World) (h : NR w v xs) :
    Calls Tryz.prog 15 #[.agg #[.int .i64 room, v]] w fun e w' => e = .returned (.int .i64 (chk room xs)) ∧ Below w.heap.size w w' := by
  obtain ⟨a, c, rfl, hl, h⟩ := h
  have hb0 : Below w.heap.size w (w.alloc (.cells #[.int .i64 room, .slice a xs.length c] 25)) := (Below.refl _ _).alloc (Nat.le_refl _) _
  have HB := hid hb0
  by_cases h1 : room < 0
  · have E : Hid (chk room xs = 3) := if_pos (.inl h1)
    generalize chk room xs = R at *
    go_enter Tryz.func15, Tryz.ntmps15
    go_wp2_with fail
    go_ret
    exact ⟨ret_int E.out.symm, hb0⟩
  by_cases h2 : 200000 < room
  · have E : Hid (chk room xs = 3) := if_pos (.inr (.inl h2))
    generalize chk room xs = R at *
    go_enter Tryz.func15, Tryz.ntmps15
    go_wp2_with fail
    go_ret
    exact ⟨ret_int E.out.symm, hb0⟩
  by_cases h3 : xs.length < 1
  · have E : Hid (chk room xs = 3) := if_pos (.inr (.inr (.inl h3)))
    generalize chk room xs = R at *
    have h3' : (xs.length : Int) < 1 := by omega
    generalize xs.length = n at *
    go_enter Tryz.func15, Tryz.ntmps15
    go_wp2_with fail
    go_ret
    exact ⟨ret_int E.out.symm, hb0⟩
  by_cases h4 : 64 < xs.length
  · have E : Hid (chk room xs = 3) := if_pos (.inr (.inr (.inr h4)))
    generalize chk room xs = R at *
    have h3' : ¬ (xs.length : Int) < 1 := by omega
    have h4' : (64 : Int) < (xs.length : Int) := by omega
    generalize xs.length = n at *
    go_enter Tryz.func15, Tryz.ntmps15
    go_wp2_with fail
    go_ret
    exact ⟨ret_int E.out.symm, hb0⟩
  have E : Hid (chk room xs = if xs.any (badQ room) then 3 else if room < xs.sum then 5 else 0) := if_neg (by omega)
  generalize chk room xs = R at *
  rcases h with rfl | ⟨g, o, rfl, hg, hc⟩
  · simp at h3
  have hc0 : ∀ (k : Nat) x, xs[k]? = some x → (w.alloc (.cells #[.int .i64 room, .slice (some ⟨g, o, none⟩) xs.length c] 25)).cell? ⟨g, o + k, none⟩ = some (.int .i64 x) := fun k x hk => (hb0.cell (p := ⟨g, o + k, none⟩) hg).trans (hc k x hk)
  have hr0 : (w.alloc (.cells #[.int .i64 room, .slice (some ⟨g, o, none⟩) xs.length c] 25)).cell? ⟨w.heap.size, 0, none⟩ = some (.int .i64 room) := by simp [go_sem]
  have hr1 : (w.alloc (.cells #[.int .i64 room, .slice (some ⟨g, o, none⟩) xs.length c] 25)).cell? ⟨w.heap.size, 1, none⟩ = some (.slice (some ⟨g, o, none⟩) xs.length c) := by simp [go_sem]
  generalize hw0 : w.alloc (.cells #[.int .i64 room, .slice (some ⟨g, o, none⟩) xs.length c] 25) = w0 at *
  have hr : 0 ≤ room := by omega
  have h3' : ¬ (xs.length : Int) < 1 := by omega
  have h4' : ¬ (64 : Int) < (xs.length : Int) := by omega
  have hn : xs.length ≤ 64 := by omega
  have HN := hid hn
  clear hc
  generalize hxn : xs.length = n at *
  have HXN := hid hxn
  clear hxn
  go_enter Tryz.func15, Tryz.ntmps15
  go_wp2_with fail
  go_loop [3, 29] (fun s i => ∃ k : Nat, k ≤ n ∧ i = .int .i64 k ∧ s = .int .i64 (xs.take k).sum ∧ ∀ x ∈ xs.take k, badQ room x = false) (fun _ i => n - (intOf i).toNat)
  case atStart => exact ⟨0, Nat.zero_le _, rfl, rfl, by simp⟩
  case round =>
    obtain ⟨k, hk, rfl, rfl, hok⟩ := hrel
    have hs := sum_bound room hr _ hok
    have hsl : ((xs.take k).length : Int) * room ≤ 64 * 200000 := by
      refine Int.le_trans (Int.mul_le_mul_of_nonneg_right (b := 64) (by have := List.length_take_le k xs; omega) hr) (by omega)
    have hs2 : (xs.take k).sum ≤ 12800000 := by omega
    have hs1 := hs.1
    clear hs hsl
    by_cases hlt : k < n
    · have hx : xs[k]? = some (xs[k]'(by rw [HXN.out]; exact hlt)) := List.getElem?_eq_getElem _
      generalize xs[k]'(by rw [HXN.out]; exact hlt) = x at hx
      have hcx := hc0 k x hx
      have HX := hid hx
      clear hx
      have hlt' : (k : Int) < (n : Int) := by omega
      by_cases hbad : badQ room x = true
      · have hany := bad_at HX.out hbad
        have E2 : Hid (R = 3) := E.out.trans (if_pos hany)
        have hor : x < 0 ∨ room < x := of_decide_eq_true hbad
        by_cases hx0 : x < 0
        · go_wp2_with fail
          go_ret
          exact ⟨ret_int E2.out.symm, HB.out⟩
        · have hxr : room < x := by omega
          clear hor
          go_wp2_with fail
          go_ret
          exact ⟨ret_int E2.out.symm, HB.out⟩
      · have hbf : badQ room x = false := by simpa using hbad
        have hnor : ¬ (x < 0 ∨ room < x) := of_decide_eq_false hbf
        have hx0 : ¬ x < 0 := by omega
        have hxr : ¬ room < x := by omega
        have hx0' : 0 ≤ x := by omega
        have hxr' : x ≤ 200000 := by omega
        clear hnor
        generalize hsg : (xs.take k).sum = sm at *
        have HSG := hid hsg
        clear hsg hbad
        go_wp2_with fail
        go_round
        case rel => exact ⟨k + 1, by omega, by go_num, by rw [sum_step HX.out, HSG.out], fun y hy => by
          rw [take_step HX.out, List.mem_append] at hy
          rcases hy with hy | hy
          · exact hok y hy
          · simp at hy; subst hy; exact hbf⟩
        case measure => simp [intOf]; omega
    · have hall : xs.take k = xs := List.take_of_length_le (by rw [HXN.out]; omega)
      rw [hall] at hok hs1 hs2 ⊢
      have hna : ¬ (xs.any (badQ room) = true) := by
        rw [List.any_eq_true]
        rintro ⟨x, hx, hb⟩
        rw [hok x hx] at hb
        cases hb
      have E2 : Hid (R = if room < xs.sum then 5 else 0) := E.out.trans (if_neg hna)
      have hlt' : ¬ (k : Int) < (n : Int) := by omega
      generalize xs.sum = sm at *
      by_cases hf : room < sm
      · go_wp2_with fail
        go_ret
        exact ⟨ret_int (E2.out.trans (if_pos hf)).symm, HB.out⟩
      · go_wp2_with fail
        go_ret
        exact ⟨ret_int (E2.out.trans (if_neg (by omega))).symm, HB.out⟩
end Go.Proofs.YtpldaghhledjlaaGreatDoor.H
