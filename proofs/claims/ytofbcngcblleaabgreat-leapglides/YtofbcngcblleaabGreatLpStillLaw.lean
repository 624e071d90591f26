/- LeapStill. -/
import Derived.Test.YtofbcngcblleaabGreatLpSteps
import Derived.Test.YtofbcngcblleaabGreatLpNode
import Derived.Test.YtofbcngcblleaabGreatLpBegun
namespace Go.Proofs.YtofbcngcblleaabGreat.A
open Go.RowKit Go.Maps Go.Proofs.YtofbcngcblleaabGreat.L
variable {R : Bool → Nat → Bool} {rn : Int} {S : Item → Prop} {g : Gr} {dx dy : Int}
def gs (k : Nat) : Nat := 2 ^ (k - 2)
def posL (d : Int) (k : Nat) : List Int := (List.range 6).map fun (i : Nat) => (d / (gs k : Int) - 4 + (i : Int)) * (gs k : Int)
def picL (g : Gr) (dx dy : Int) (k : Nat) : List Gr := noP :: (posL dx k).flatMap fun a => (posL dy k).map fun b => pic g a b k
def oneL (rn : Int) (k : Nat) (P : Gr) : List Item := .sq k P :: (List.range 31).map fun (j : Nat) => .nt rn k P (j : Int)
def stillL (g : Gr) (rn dx dy : Int) : List Item := (List.range 41).flatMap fun k => (picL g dx dy k).flatMap fun P => oneL rn k P
theorem flat_len {α β : Type} (f : α → List β) (c : Nat) : ∀ l : List α, (∀ x ∈ l, (f x).length = c) → (l.flatMap f).length = l.length * c
  | [], _ => by simp
  | x :: l, h => by
    rw [List.flatMap_cons, List.length_append, h x (by simp), flat_len f c l fun y hy => h y (by simp [hy]), List.length_cons, Nat.add_mul, Nat.one_mul]
    omega
end Go.Proofs.YtofbcngcblleaabGreat.A

namespace Go.Proofs.YtofbcngcblleaabGreat.A
open Go.RowKit Go.Maps Go.Proofs.YtofbcngcblleaabGreat.L
def ph : Nat → List (Int × Int)
  | 0 => [(1, 0), (2, 1), (0, 2), (1, 2), (2, 2)]
  | 1 => [(0, 1), (2, 1), (1, 2), (2, 2), (1, 3)]
  | 2 => [(2, 1), (0, 2), (2, 2), (1, 3), (2, 3)]
  | _ => [(1, 1), (2, 2), (3, 2), (1, 3), (2, 3)]
theorem ph_near : ∀ i, i < 4 → ∀ p ∈ ph i, 0 ≤ p.1 ∧ p.1 ≤ 3 ∧ 0 ≤ p.2 ∧ p.2 ≤ 3 := by decide
theorem ph_in {i : Nat} (hi : i < 4) {X Y : Int} (h : cellsG (ph i) X Y = true) : 0 ≤ X ∧ X ≤ 3 ∧ 0 ≤ Y ∧ Y ≤ 3 := ph_near i hi (X, Y) (by unfold cellsG at h; simpa using h)
theorem life_zero : lifeR 8 12 false 0 = false := by decide +kernel
theorem near_eq {g h : Gr} (hg : ∀ X Y, g X Y = true → -5 ≤ X ∧ X < 5 ∧ -5 ≤ Y ∧ Y < 5) (hh : ∀ X Y, h X Y = true → -5 ≤ X ∧ X < 5 ∧ -5 ≤ Y ∧ Y < 5) (hb : ∀ i j : Fin 10, g ((i.1 : Int) - 5) ((j.1 : Int) - 5) = h ((i.1 : Int) - 5) ((j.1 : Int) - 5)) : g = h := by
  funext X Y
  by_cases hbox : -5 ≤ X ∧ X < 5 ∧ -5 ≤ Y ∧ Y < 5
  · have e1 : ((X + 5).toNat : Int) - 5 = X := by omega
    have e2 : ((Y + 5).toNat : Int) - 5 = Y := by omega
    have := hb ⟨(X + 5).toNat, by omega⟩ ⟨(Y + 5).toNat, by omega⟩
    simp only [e1, e2] at this
    exact this
  · cases hv : g X Y with
    | true => exact absurd (hg X Y hv) hbox
    | false =>
      cases hw : h X Y with
      | true => exact absurd (hh X Y hw) hbox
      | false => rfl
theorem ph_step (i : Nat) (hi : i < 4) : L.stepG (lifeR 8 12) (cellsG (ph i)) = fun X Y => cellsG (ph ((i + 1) % 4)) (-(((i + 1) / 4 : Nat) : Int) + X) (-(((i + 1) / 4 : Nat) : Int) + Y) := by
  refine near_eq (fun X Y h => ?_) (fun X Y h => ?_) ?_
  · have := spread (R := lifeR 8 12) (K := 4) life_zero (g := cellsG (ph i)) (fun X Y h => by have := ph_in hi h; omega) 1 X Y (by rw [iter, iter]; exact h)
    omega
  · have := ph_in (Nat.mod_lt _ (by omega)) h
    have h1 : (i + 1) / 4 ≤ 1 := by omega
    omega
  · have hi4 : i = 0 ∨ i = 1 ∨ i = 2 ∨ i = 3 := by omega
    rcases hi4 with rfl | rfl | rfl | rfl <;> decide +kernel
theorem glide : ∀ t : Nat, iter (lifeR 8 12) t (cellsG (ph 0)) = fun X Y => cellsG (ph (t % 4)) (-((t / 4 : Nat) : Int) + X) (-((t / 4 : Nat) : Int) + Y)
  | 0 => by
    funext X Y
    show cellsG (ph 0) X Y = _
    congr 1 <;> simp
  | t + 1 => by
    have h1 : iter (lifeR 8 12) (t + 1) (cellsG (ph 0)) = L.stepG (lifeR 8 12) (iter (lifeR 8 12) t (cellsG (ph 0))) := by
      rw [← iter_add t 1]
      rfl
    rw [h1, glide t, step_mv, ph_step (t % 4) (Nat.mod_lt _ (by omega))]
    have hlt : t % 4 < 4 := Nat.mod_lt _ (by omega)
    have e1 : (t % 4 + 1) % 4 = (t + 1) % 4 := by omega
    have e2 : (t % 4 + 1) / 4 + t / 4 = (t + 1) / 4 := by omega
    funext X Y
    show cellsG (ph ((t % 4 + 1) % 4)) (-(((t % 4 + 1) / 4 : Nat) : Int) + (-((t / 4 : Nat) : Int) + X)) (-(((t % 4 + 1) / 4 : Nat) : Int) + (-((t / 4 : Nat) : Int) + Y)) = _
    rw [e1, ← e2]
    congr 1 <;> (push_cast; omega)
theorem glide4 (n : Nat) : iter (lifeR 8 12) (4 * n) (cellsG (ph 0)) = fun X Y => cellsG (ph 0) (X - n) (Y - n) := by
  rw [glide, show 4 * n % 4 = 0 by omega, show 4 * n / 4 = n by omega]
  funext X Y
  congr 1 <;> omega
theorem glide_in {t : Nat} {X Y : Int} (h : iter (lifeR 8 12) t (cellsG (ph 0)) X Y = true) : ((t / 4 : Nat) : Int) ≤ X ∧ X ≤ ((t / 4 : Nat) : Int) + 3 ∧ ((t / 4 : Nat) : Int) ≤ Y ∧ Y ≤ ((t / 4 : Nat) : Int) + 3 := by
  rw [glide] at h
  have := ph_in (Nat.mod_lt _ (by omega)) h
  omega
end Go.Proofs.YtofbcngcblleaabGreat.A

namespace Go.Proofs.YtofbcngcblleaabGreat.A
open Go.RowKit Go.Maps Go.Proofs.YtofbcngcblleaabGreat.L
def Dv (e : Nat) (z : Int) : Prop := ∃ m : Int, z = m * 2 ^ e
theorem dv_zero (z : Int) : Dv 0 z := ⟨z, by simp⟩
theorem dv_pow {e f : Nat} (h : e ≤ f) (c : Int) : Dv e (c * 2 ^ f) := ⟨c * 2 ^ (f - e), by rw [Int.mul_assoc, ← Int.pow_add]; congr 2; omega⟩
theorem dv_add {e : Nat} {x y : Int} (h : Dv e x) (k : Dv e y) : Dv e (x + y) := by
  obtain ⟨m, rfl⟩ := h
  obtain ⟨m', rfl⟩ := k
  exact ⟨m + m', by rw [Int.add_mul]⟩
theorem dv_neg {e : Nat} {x : Int} (h : Dv e x) : Dv e (-x) := by
  obtain ⟨m, rfl⟩ := h
  exact ⟨-m, by rw [Int.neg_mul]⟩
theorem dv_sub {e : Nat} {x y : Int} (h : Dv e x) (k : Dv e y) : Dv e (x - y) := by
  have := dv_add h (dv_neg k)
  rwa [← Int.sub_eq_add_neg] at this
theorem dv_le {e f : Nat} (h : e ≤ f) {z : Int} (k : Dv f z) : Dv e z := by
  obtain ⟨m, rfl⟩ := k
  exact dv_pow h m
theorem dv_one {e f : Nat} (h : e ≤ f) : Dv e (2 ^ f) := by
  have := dv_pow h 1
  rwa [Int.one_mul] at this
theorem dv_nil (e : Nat) : Dv e 0 := ⟨0, by simp⟩
def posG (n L : Nat) : List Int := (List.range 40).map fun (i : Nat) => (-(n : Int)) % 2 ^ (L - 5) + 2 ^ (L - 5) * ((i : Int) - 33)
def phsG (L : Nat) : List Nat := if 4 ≤ L then [0] else [0, 1, 2, 3]
def picG (n L : Nat) : List Gr := noP :: (phsG L).flatMap fun f => (posG n L).flatMap fun A => (List.range 17).map fun (r : Nat) => pic (cellsG (ph f)) A (A + 2 ^ (L - 2) * ((r : Int) - 8)) L
def oneG (rn : Int) (L : Nat) (P : Gr) : List Item := [.sq L P, .nt rn L P ((L - 2 : Nat) : Int), .nt rn L P ((L - 3 : Nat) : Int)]
def gliL (rn : Int) (n : Nat) : List Item := (List.range 26).flatMap fun L => (picG n L).flatMap fun P => oneG rn L P
theorem gliL_len (rn : Int) (n : Nat) : (gliL rn n).length = 77598 := by
  have h2 : ∀ L, (picG n L).length = 1 + (phsG L).length * 680 := fun L => by
    unfold picG
    rw [List.length_cons, flat_len _ 680 _ fun f _ => by rw [flat_len _ 17 _ fun A _ => by simp]; simp [posG]]
    omega
  unfold gliL
  rw [List.length_flatMap]
  have h3 : ∀ L, ((picG n L).flatMap fun P => oneG rn L P).length = (1 + (phsG L).length * 680) * 3 := fun L => by
    rw [flat_len _ 3 _ fun P _ => rfl, h2]
  simp only [h3]
  decide +kernel
def GoodP (n L : Nat) (P : Gr) : Prop := ∃ (t : Nat) (a b : Int), P = pic (iter (lifeR 8 12) t (cellsG (ph 0))) a b L ∧ (4 ≤ L → t % 4 = 0) ∧ Dv (L - 5) (a - ((t / 4 : Nat) : Int) + n) ∧ Dv (L - 2) (b - a)
theorem pow_cut (L : Nat) : (2 : Int) ^ L ≤ 32 * 2 ^ (L - 5) := by
  rcases Nat.lt_or_ge L 5 with h | h
  · have h5 : L = 0 ∨ L = 1 ∨ L = 2 ∨ L = 3 ∨ L = 4 := by omega
    rcases h5 with rfl | rfl | rfl | rfl | rfl <;> decide
  · have e : L = (L - 5) + 5 := by omega
    have h2 : (2 : Int) ^ L = 2 ^ (L - 5) * 2 ^ 5 := by rw [← Int.pow_add, ← e]
    rw [h2]
    omega
theorem pow_cut2 (L : Nat) : (2 : Int) ^ L + 3 ≤ 8 * 2 ^ (L - 2) := by
  rcases Nat.lt_or_ge L 2 with h | h
  · have h5 : L = 0 ∨ L = 1 := by omega
    rcases h5 with rfl | rfl <;> decide
  · have e : L = (L - 2) + 2 := by omega
    have h2 : (2 : Int) ^ L = 2 ^ (L - 2) * 2 ^ 2 := by rw [← Int.pow_add, ← e]
    have h3 := powI (L - 2)
    have h4 : 0 < 2 ^ (L - 2) := Nat.pow_pos (by omega)
    rw [h2]
    omega
theorem good_in {n L : Nat} {P : Gr} (h : GoodP n L P) : P ∈ picG n L := by
  obtain ⟨t, a, b, rfl, h4, hd, hb⟩ := h
  have hp := powI L
  by_cases hit : a ≤ ((t / 4 : Nat) : Int) + 3 ∧ ((t / 4 : Nat) : Int) < a + 2 ^ L ∧ b ≤ ((t / 4 : Nat) : Int) + 3 ∧ ((t / 4 : Nat) : Int) < b + 2 ^ L
  · have e : pic (iter (lifeR 8 12) t (cellsG (ph 0))) a b L = pic (cellsG (ph (t % 4))) (a - ((t / 4 : Nat) : Int)) (b - ((t / 4 : Nat) : Int)) L := by
      refine pic_agr fun x y _ _ => ?_
      rw [glide]
      show cellsG (ph (t % 4)) (-((t / 4 : Nat) : Int) + (a + x)) (-((t / 4 : Nat) : Int) + (b + y)) = _
      congr 1 <;> omega
    rw [e]
    obtain ⟨A, hA⟩ : ∃ A, A = a - ((t / 4 : Nat) : Int) := ⟨_, rfl⟩
    obtain ⟨B, hB⟩ : ∃ B, B = b - ((t / 4 : Nat) : Int) := ⟨_, rfl⟩
    rw [← hA, ← hB]
    rw [← hA] at hd
    obtain ⟨m, hm⟩ := hd
    obtain ⟨m', hm'⟩ := hb
    have hcut := pow_cut L
    have hcut2 := pow_cut2 L
    have hp5 := powI (L - 5)
    have q5 : 0 < 2 ^ (L - 5) := Nat.pow_pos (by omega)
    have hp2 := powI (L - 2)
    have q2 : 0 < 2 ^ (L - 2) := Nat.pow_pos (by omega)
    unfold picG
    refine List.mem_cons_of_mem _ (List.mem_flatMap.2 ⟨t % 4, ?_, List.mem_flatMap.2 ⟨A, ?_, ?_⟩⟩)
    · unfold phsG
      split
      · rename_i hL
        rw [h4 hL]
        exact List.mem_singleton_self _
      · have : t % 4 < 4 := Nat.mod_lt _ (by omega)
        simp only [List.mem_cons, List.not_mem_nil, or_false]
        omega
    · unfold posG
      generalize (2 : Int) ^ (L - 5) = st at *
      have e1 := Int.mul_ediv_add_emod A st
      have e2 : A % st = (-(n : Int)) % st := by
        have : A = -(n : Int) + st * m := by rw [Int.mul_comm st m]; omega
        rw [this, Int.add_mul_emod_self_left]
      have e3 := Int.emod_nonneg A (show st ≠ 0 by omega)
      have e4 := Int.emod_lt_of_pos A (show 0 < st by omega)
      have b1 : -33 < A / st := Int.lt_of_mul_lt_mul_right (a := st) (by rw [Int.mul_comm (A / st) st]; omega) (by omega)
      have b2 : A / st < 4 := Int.lt_of_mul_lt_mul_right (a := st) (by rw [Int.mul_comm (A / st) st]; omega) (by omega)
      refine List.mem_map.2 ⟨(A / st + 33).toNat, List.mem_range.2 (by omega), ?_⟩
      rw [← e2, show (((A / st + 33).toNat : Nat) : Int) - 33 = A / st by omega]
      omega
    · generalize (2 : Int) ^ (L - 2) = st at *
      have hBA : B = A + st * m' := by rw [Int.mul_comm st m']; omega
      have b1 : -9 < m' := Int.lt_of_mul_lt_mul_right (a := st) (by omega) (by omega)
      have b2 : m' < 9 := Int.lt_of_mul_lt_mul_right (a := st) (by omega) (by omega)
      refine List.mem_map.2 ⟨(m' + 8).toNat, List.mem_range.2 (by omega), ?_⟩
      rw [hBA, show (((m' + 8).toNat : Nat) : Int) - 8 = m' by omega]
  · rw [pic_no fun x y hx hy => ?_]
    · exact List.mem_cons_self
    · cases hv : iter (lifeR 8 12) t (cellsG (ph 0)) (a + x) (b + y) with
      | false => rfl
      | true => exact absurd (glide_in hv) (by omega)
theorem gli_sq {rn : Int} {n L : Nat} {P : Gr} (hL : L < 26) (h : GoodP n L P) : Item.sq L P ∈ gliL rn n :=
  List.mem_flatMap.2 ⟨L, List.mem_range.2 hL, List.mem_flatMap.2 ⟨P, good_in h, List.mem_cons_self⟩⟩
theorem gli_nt {rn : Int} {n L j : Nat} {P : Gr} (hL : L < 26) (hj : j = L - 2 ∨ j = L - 3) (h : GoodP n L P) : Item.nt rn L P (j : Int) ∈ gliL rn n := by
  refine List.mem_flatMap.2 ⟨L, List.mem_range.2 hL, List.mem_flatMap.2 ⟨P, good_in h, ?_⟩⟩
  unfold oneG
  rcases hj with rfl | rfl
  · exact List.mem_cons_of_mem _ List.mem_cons_self
  · exact List.mem_cons_of_mem _ (List.mem_cons_of_mem _ List.mem_cons_self)
theorem gli_no {rn : Int} {n L : Nat} (hL : L < 26) : Item.sq L noP ∈ gliL rn n :=
  List.mem_flatMap.2 ⟨L, List.mem_range.2 hL, List.mem_flatMap.2 ⟨noP, List.mem_cons_self, List.mem_cons_self⟩⟩
end Go.Proofs.YtofbcngcblleaabGreat.A

namespace Go.Proofs.YtofbcngcblleaabGreat.A
open Go.RowKit Go.Maps Go.Proofs.YtofbcngcblleaabGreat.L
theorem goodp_of {n L t : Nat} {a b : Int} (h4 : 4 ≤ L → t % 4 = 0) (ha : Dv (L - 5) a) (ht : Dv (L - 5) ((n : Int) - ((t / 4 : Nat) : Int))) (hb : Dv (L - 2) (b - a)) : GoodP n L (pic (iter (lifeR 8 12) t (cellsG (ph 0))) a b L) :=
  ⟨t, a, b, rfl, h4, by
    have := dv_add ha ht
    rwa [show a + ((n : Int) - ((t / 4 : Nat) : Int)) = a - ((t / 4 : Nat) : Int) + n by omega] at this, hb⟩
theorem gli_rest {n j : Nat} (hj : 2 ≤ j) : 4 * n % 2 ^ j = 4 * (n % 2 ^ (j - 2)) ∧ Dv (j - 2) ((n : Int) - ((n % 2 ^ (j - 2) : Nat) : Int)) ∧ n % 2 ^ (j - 2) < 2 ^ (j - 2) := by
  have e : 2 ^ j = 4 * 2 ^ (j - 2) := by
    have : j = (j - 2) + 2 := by omega
    rw [this, Nat.pow_add, Nat.add_sub_cancel]
    omega
  refine ⟨by rw [e, Nat.mul_mod_mul_left], ⟨((n / 2 ^ (j - 2) : Nat) : Int), ?_⟩, Nat.mod_lt _ (Nat.pow_pos (by omega))⟩
  have h := Nat.div_add_mod n (2 ^ (j - 2))
  rw [← powI, ← Int.natCast_mul, Nat.mul_comm]
  omega
theorem quarter_pow {k u : Nat} (hk : 2 ≤ k) : u * 2 ^ k = 4 * (u * 2 ^ (k - 2)) := by
  have : k = (k - 2) + 2 := by omega
  have e : 2 ^ k = 4 * 2 ^ (k - 2) := by
    rw [this, Nat.pow_add, Nat.add_sub_cancel]
    omega
  rw [e, Nat.mul_left_comm]
variable {rn : Int} {S : Item → Prop}
theorem gli_dem {n j : Nat} (hj : 2 ≤ j) (hj21 : j ≤ 21) {i : Item} (h : Dem (lifeR 8 12) rn S (j + 1) (pic (iter (lifeR 8 12) (4 * n % 2 ^ j) (cellsG (ph 0))) (-(2 ^ (j + 1 + 1))) (-(2 ^ (j + 1 + 1))) (j + 1 + 2)) j i) : i ∈ gliL rn n := by
  obtain ⟨k, s', a', b', ⟨n1, n2, n3, ⟨u, n4⟩, ⟨x, n5⟩, y, n6⟩, hi⟩ := dem_node (R := lifeR 8 12) (G := cellsG (ph 0)) (j + 1) (by omega) h
  obtain ⟨hT, hD, _⟩ := gli_rest (n := n) hj
  obtain ⟨δ, hδ⟩ : ∃ δ, δ = n % 2 ^ (j - 2) := ⟨_, rfl⟩
  rw [← hδ] at hT hD
  rw [hT] at n2 n3 n4 n5 n6
  clear h hT
  have hba : ∀ e, e ≤ k + 1 → Dv e (b' - a') := fun e he => by
    rw [n5, n6, show -(2 ^ (j + 1 + 1)) + ((s' : Int) - ((4 * δ : Nat) : Int)) + y * 2 ^ (k + 1) - (-(2 ^ (j + 1 + 1)) + ((s' : Int) - ((4 * δ : Nat) : Int)) + x * 2 ^ (k + 1)) = y * 2 ^ (k + 1) - x * 2 ^ (k + 1) by omega]
    exact dv_sub (dv_pow he _) (dv_pow he _)
  rcases Nat.lt_or_ge j k with hjk | hjk
  · have hk : k = j + 1 := by omega
    subst hk
    rw [Nat.min_eq_left (by omega)] at n3 n4
    have hs : s' = 4 * δ := by omega
    subst hs
    have ha : ∀ e, e ≤ j + 2 → Dv e a' := fun e he => by
      rw [n5]
      exact dv_add (dv_add (dv_neg (dv_one (by omega))) (by rw [Int.sub_self]; exact dv_nil _)) (dv_pow (by omega) _)
    have t1 : 4 * δ / 4 = δ := by omega
    have t2 : 4 * δ + 2 ^ j = 4 * (δ + 2 ^ (j - 2)) := by
      have := quarter_pow (u := 1) hj
      omega
    have t3 : 4 * (δ + 2 ^ (j - 2)) / 4 = δ + 2 ^ (j - 2) := by omega
    have hD2 : ∀ e, e ≤ j - 2 → Dv e ((n : Int) - ((δ + 2 ^ (j - 2) : Nat) : Int)) := fun e he => by
      have := dv_sub (dv_le he hD) (dv_one (e := e) (f := j - 2) he)
      rwa [show (n : Int) - (δ : Int) - 2 ^ (j - 2) = (n : Int) - ((δ + 2 ^ (j - 2) : Nat) : Int) by rw [← powI]; omega] at this
    unfold NodeI at hi
    rw [Nat.min_eq_left (by omega)] at hi
    rcases hi with rfl | rfl | rfl | ⟨_, r, hr, rfl⟩
    · exact gli_nt (by omega) (.inr (by omega)) (goodp_of (fun _ => by omega) (ha _ (by omega)) (by rw [t1]; exact dv_le (by omega) hD) (hba _ (by omega)))
    · exact gli_sq (by omega) (goodp_of (fun _ => by omega) (ha _ (by omega)) (by rw [t1]; exact dv_le (by omega) hD) (hba _ (by omega)))
    · rw [t2]
      refine gli_sq (by omega) (goodp_of (fun _ => by omega) (dv_add (ha _ (by omega)) (dv_one (by omega))) (by rw [t3]; exact hD2 _ (by omega)) ?_)
      rw [show b' + 2 ^ (j + 1) - (a' + 2 ^ (j + 1)) = b' - a' by omega]
      exact hba _ (by omega)
    · rw [t2]
      refine gli_sq (by omega) (goodp_of (fun _ => by omega) (dv_add (dv_add (ha _ (by omega)) (dv_one (by omega))) (dv_pow (by omega) _)) (by rw [t3]; exact hD2 _ (by omega)) ?_)
      rw [show b' + 2 ^ (j + 1) + ((r / 2 : Nat) : Int) * 2 ^ (j + 1) - (a' + 2 ^ (j + 1) + ((r % 2 : Nat) : Int) * 2 ^ (j + 1)) = (b' - a') + (((r / 2 : Nat) : Int) * 2 ^ (j + 1) - ((r % 2 : Nat) : Int) * 2 ^ (j + 1)) by omega]
      exact dv_add (hba _ (by omega)) (dv_sub (dv_pow (by omega) _) (dv_pow (by omega) _))
  · rw [Nat.min_eq_right hjk] at n3 n4
    have ha : ∀ e, e ≤ k → Dv e a' := fun e he => by
      rw [n5, show (s' : Int) - ((4 * δ : Nat) : Int) = (u : Int) * 2 ^ k by rw [n4, ← powI, ← Int.natCast_mul]; omega]
      exact dv_add (dv_add (dv_neg (dv_one (by omega))) (dv_pow he _)) (dv_pow (by omega) _)
    have htm : ∀ v : Nat, 2 ≤ k → (4 * δ + v * 2 ^ k) % 4 = 0 ∧ Dv (k - 2) ((n : Int) - (((4 * δ + v * 2 ^ k) / 4 : Nat) : Int)) := fun v hk => by
      have e1 := quarter_pow (u := v) hk
      refine ⟨by omega, ?_⟩
      rw [show (4 * δ + v * 2 ^ k) / 4 = δ + v * 2 ^ (k - 2) by omega]
      have := dv_sub (dv_le (e := k - 2) (by omega) hD) (dv_pow (Nat.le_refl (k - 2)) (v : Int))
      rwa [show (n : Int) - (δ : Int) - (v : Int) * 2 ^ (k - 2) = (n : Int) - ((δ + v * 2 ^ (k - 2) : Nat) : Int) by rw [← powI, Int.natCast_add, Int.natCast_mul]; omega] at this
    have hgen : ∀ (v L : Nat) (a b : Int), (4 ≤ L → 2 ≤ k) → L - 5 ≤ k - 2 → Dv (L - 5) a → Dv (L - 2) (b - a) → GoodP n L (pic (iter (lifeR 8 12) (4 * δ + v * 2 ^ k) (cellsG (ph 0))) a b L) := fun v L a b h1 h2 h3 h4 => by
      refine goodp_of (fun hL => (htm v (h1 hL)).1) h3 ?_ h4
      rcases Nat.lt_or_ge L 6 with hL | hL
      · have : L - 5 = 0 := by omega
        rw [this]
        exact dv_zero _
      · exact dv_le h2 (htm v (h1 (by omega))).2
    subst n4
    have e2 : 4 * δ + u * 2 ^ k + 2 ^ k = 4 * δ + (u + 1) * 2 ^ k := by rw [Nat.add_mul, Nat.one_mul, Nat.add_assoc]
    unfold NodeI at hi
    rw [Nat.min_eq_right hjk] at hi
    rcases hi with rfl | rfl | rfl | ⟨hjk2, _⟩
    · exact gli_nt (by omega) (.inl (by omega)) (hgen u _ _ _ (by omega) (by omega) (ha _ (by omega)) (hba _ (by omega)))
    · exact gli_sq (by omega) (hgen u _ _ _ (by omega) (by omega) (ha _ (by omega)) (hba _ (by omega)))
    · rw [e2]
      refine gli_sq (by omega) (hgen (u + 1) _ _ _ (by omega) (by omega) (dv_add (ha _ (by omega)) (dv_one (by omega))) ?_)
      rw [show b' + 2 ^ k - (a' + 2 ^ k) = b' - a' by omega]
      exact hba _ (by omega)
    · omega
theorem gli_steps {n : Nat} (hn : n < 1048576) {i : Item} (h : StepsD (lifeR 8 12) rn S (cellsG (ph 0)) (4 * n) i) : i ∈ gliL rn n := by
  rcases h with ⟨j, hj, hb, h⟩ | ⟨N, h1, rfl⟩
  · have hj2 : 2 ≤ j := by
      rcases Nat.lt_or_ge j 2 with h2 | h2
      · have : j = 0 ∨ j = 1 := by omega
        rcases this with rfl | rfl
        · rw [Nat.pow_zero] at hb
          omega
        · rw [Nat.pow_one] at hb
          omega
      · exact h2
    have hj21 : j ≤ 21 := by
      rcases Nat.lt_or_ge 21 j with h2 | h2
      · have h3 : 2 ^ 22 ≤ 2 ^ j := Nat.pow_le_pow_right (by omega) h2
        rw [Nat.div_eq_of_lt (by omega)] at hb
        omega
      · exact h2
    obtain ⟨hT, hD, hlt⟩ := gli_rest (n := n) hj2
    have t1 : 4 * (n % 2 ^ (j - 2)) / 4 = n % 2 ^ (j - 2) := by omega
    have hpj := quarter_pow (u := 1) hj2
    have hpI := powI j
    have hlv : ∀ N, LeastG (N + 1) (iter (lifeR 8 12) (4 * n % 2 ^ j) (cellsG (ph 0))) → 1 ≤ N ∧ N ≤ j := fun N hN => by
      have h1 := hN.two
      have h2 := least_le hN (M := j) (by omega) fun X Y hXY => by
        rw [hT] at hXY
        have := glide_in hXY
        rw [t1] at this
        omega
      omega
    have root : ∀ (L : Nat) (a b : Int), L - 5 ≤ j - 2 → Dv (L - 5) a → Dv (L - 2) (b - a) → GoodP n L (pic (iter (lifeR 8 12) (4 * n % 2 ^ j) (cellsG (ph 0))) a b L) := fun L a b h1 h2 h3 => by
      rw [hT]
      exact goodp_of (fun _ => by omega) h2 (by rw [t1]; exact dv_le h1 hD) h3
    rcases h with ⟨N, h1, rfl⟩ | ⟨N, h1, ⟨k, h2, h3, h4⟩ | h⟩
    · have := hlv N h1
      exact gli_sq (by omega) (root _ _ _ (by omega) (dv_neg (dv_one (by omega))) (by rw [Int.sub_self]; exact dv_nil _))
    · have := hlv N h1
      have hk : k ≤ j + 1 := by unfold wideOf at h3; omega
      have hc : ∀ c : Int, c = -(2 ^ (k + 1)) ∨ c = 0 → ∀ e, e ≤ k + 1 → Dv e c := fun c hc e he => by
        rcases hc with rfl | rfl
        · exact dv_neg (dv_one he)
        · exact dv_nil _
      rcases h4 with (⟨_, c, h5, h6, rfl⟩ | ⟨r, hr, rfl⟩) | rfl
      · exact gli_no (by omega)
      · unfold QP
        have q1 : ∀ e, e ≤ k + 1 → Dv e (if r % 2 = 0 then -(2 ^ (k + 1)) else 0) := fun e he => hc _ (by split; exact .inl rfl; exact .inr rfl) e he
        have q2 : ∀ e, e ≤ k + 1 → Dv e (if r / 2 = 0 then -(2 ^ (k + 1)) else 0) := fun e he => hc _ (by split; exact .inl rfl; exact .inr rfl) e he
        exact gli_sq (by omega) (root _ _ _ (by omega) (q1 _ (by omega)) (dv_sub (q2 _ (by omega)) (q1 _ (by omega))))
      · exact gli_sq (by omega) (root _ _ _ (by omega) (dv_neg (dv_one (by omega))) (by rw [Int.sub_self]; exact dv_nil _))
    · have := hlv N h1
      have hw : wideOf N j = j + 1 + 2 := by unfold wideOf; omega
      rw [hw] at h
      exact gli_dem hj2 hj21 h
  · have hN : 1 ≤ N ∧ N ≤ 21 := by
      have h2 := h1.two
      have h3 := least_le h1 (M := 21) (by omega) fun X Y hXY => by
        have := glide_in hXY
        have : 4 * n / 4 = n := by omega
        omega
      omega
    refine gli_sq (by omega) (goodp_of (fun _ => by omega) (dv_neg (dv_one (by omega))) ?_ (by rw [Int.sub_self]; exact dv_nil _))
    rw [show 4 * n / 4 = n by omega, Int.sub_self]
    exact dv_nil _
end Go.Proofs.YtofbcngcblleaabGreat.A

namespace Go.Proofs.YtofbcngcblleaabGreat.A
open Go.RowKit Go.Maps Go.Proofs.YtofbcngcblleaabGreat.L
def gB : Gr := fun u v => decide ((u = 0 ∨ u = 1) ∧ (v = 0 ∨ v = 1))
def blockL (dx dy : Int) : List (Int × Int) := [(dx, dy), (dx + 1, dy), (dx, dy + 1), (dx + 1, dy + 1)]
theorem cells_few {PR : (Bool → Nat → Bool) → Int → Prop} {t : Nat} {q : Nat → Int} {A : Ar} {m : Nat} {x : Int} {g : Gr} (hst : NxSt PR t q A) (ht : t < 64) (h : Rt A t m x g) (X : List (Int × Int)) (hX : ∀ X' Y', g X' Y' = true → (X', Y') ∈ X) : (cellsF A.ths (m + 1) x).length ≤ X.length := by
  have hg : glevel A.ths x = some ((m + 1 : Nat) : Int) := glevel_of (t := t) (by rw [levelF_V]; exact h.lev)
  have hn := cells_nodup (good_of hst.s hst.g) (m + 1) x hg
  have hl : (shiftL (halfN (m + 1) : Int) (halfN (m + 1) : Int) X).length = X.length := by unfold shiftL; rw [List.length_map]
  rw [← hl]
  refine hn.length_le_of_subset fun p hp => mem_shift.2 (hX _ _ ?_)
  have := (h.cells hst ht (p.1 - (halfN (m + 1) : Int), p.2 - (halfN (m + 1) : Int))).1 (mem_abs.2 (by simp only [Int.sub_add_cancel]; exact hp))
  exact this
end Go.Proofs.YtofbcngcblleaabGreat.A

namespace Go.Proofs.YtofbcngcblleaabGreat.A
open Go.RowKit Go.Maps Go.Proofs.YtofbcngcblleaabGreat.L
def oneR (rb rl : Int) (R : Bool → Nat → Bool) (rn : Int) : Prop := R = lifeR rb rl ∧ rn = rnum rb rl
theorem oneR_u (rb rl : Int) : ∀ R R' rn, oneR rb rl R rn → oneR rb rl R' rn → R = R' := fun _ _ _ h k => h.1.trans k.1.symm
theorem root_one {PR : (Bool → Nat → Bool) → Int → Prop} {t : Nat} {q : Nat → Int} {A : Ar} {N M : Nat} {x y : Int} {g : Gr} (hst : NxSt PR t q A) (ht : t < 64) (h1 : LeastG (N + 1) g) (h2 : LeastG (M + 1) g) (hx : Rt A t N x g) (hy : Rt A t M y g) : x = y := by
  have e := h1.unique h2
  have e' : N = M := by omega
  subst e'
  have hw := hst.g.wel t ht
  refine sq_one (uq_view hst.s t) (N + 1) (isSq_of_lev hw hst.p _ _ hx.lev) (isSq_of_lev hw hst.p _ _ hy.lev) fun X Y hX hY => ?_
  rw [hx.shows X Y hX hY, hy.shows X Y hX hY]
end Go.Proofs.YtofbcngcblleaabGreat.A
