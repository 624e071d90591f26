/- Cells near a place: all that many steps make of them lies in the list. -/
import Derived.Test.YtofbcngcblleaaaGreatLpOps
import Derived.Test.YtofbcngcblleaaaGreatLpSteps
namespace Go.Proofs.YtofbcngcblleaaaGreat.A
open Go.RowKit Go.Proofs.YtofbcngcblleaaaGreat.L
variable {R : Bool → Nat → Bool} {rn : Int} {S : Item → Prop} {G : Gr}
theorem step_mv (g : Gr) (a b : Int) : L.stepG R (fun x y => g (a + x) (b + y)) = fun x y => L.stepG R g (a + x) (b + y) := by
  funext x y
  unfold L.stepG nbr
  simp only [Int.add_sub_assoc, Int.add_assoc]
theorem iter_mv (a b : Int) : ∀ (n : Nat) (g : Gr), iter R n (fun x y => g (a + x) (b + y)) = fun x y => iter R n g (a + x) (b + y)
  | 0, _ => rfl
  | n + 1, g => by
    rw [iter, step_mv, iter_mv a b n]
    rfl
theorem pic_iter {H : Gr} {a b x y : Int} {N M t : Nat} (h1 : (t : Int) ≤ x) (h2 : x + 2 ^ M + t ≤ 2 ^ N) (h3 : (t : Int) ≤ y) (h4 : y + 2 ^ M + t ≤ 2 ^ N) : pic (iter R t (pic H a b N)) x y M = pic (iter R t H) (a + x) (b + y) M := by
  refine pic_agr fun X Y hX hY => ?_
  have hp := powI M
  have h := iter_agr (R := R) t (g := pic H a b N) (h := fun x y => H (a + x) (b + y)) (a := 0) (b := 2 ^ N) (c := 0) (d := 2 ^ N) (fun u v h1 h2 h3 h4 => by unfold pic; rw [if_pos ⟨h1, h2, h3, h4⟩])
  have h5 := h (x + X) (y + Y) (by omega) (by omega) (by omega) (by omega)
  rw [iter_mv] at h5
  rw [h5]
  show iter R t H (a + (x + X)) (b + (y + Y)) = _
  rw [← Int.add_assoc, ← Int.add_assoc]
def Node (s : Nat) (a b : Int) (n j k s' : Nat) (a' b' : Int) : Prop :=
  k ≤ n ∧ s ≤ s' ∧ s' + 2 ^ (min j k) ≤ s + 2 ^ j ∧ (∃ u : Nat, s' = s + u * 2 ^ (min j k)) ∧ (∃ x : Int, a' = a + ((s' : Int) - s) + x * 2 ^ (k + 1)) ∧ ∃ y : Int, b' = b + ((s' : Int) - s) + y * 2 ^ (k + 1)
def NodeI (R : Bool → Nat → Bool) (rn : Int) (G : Gr) (j k s : Nat) (a b : Int) (i : Item) : Prop :=
  i = .nt rn (k + 2) (pic (iter R s G) a b (k + 2)) ((min j k : Nat) : Int) ∨ i = .sq (k + 2) (pic (iter R s G) a b (k + 2)) ∨ i = .sq (k + 1) (pic (iter R (s + 2 ^ (min j k)) G) (a + 2 ^ k) (b + 2 ^ k) (k + 1)) ∨ (j < k ∧ ∃ r : Nat, r < 4 ∧ i = .sq k (pic (iter R (s + 2 ^ j) G) (a + 2 ^ k + (r % 2 : Nat) * 2 ^ k) (b + 2 ^ k + (r / 2 : Nat) * 2 ^ k) k))
theorem node_self {s n j : Nat} {a b : Int} (hj : j ≤ n) : Node s a b n j n s a b :=
  ⟨Nat.le_refl _, Nat.le_refl _, by rw [Nat.min_eq_left hj]; exact Nat.le_refl _, ⟨0, by simp⟩, ⟨0, by simp⟩, ⟨0, by simp⟩⟩
theorem pow_split {k m : Nat} (h : k ≤ m) : ∃ c : Nat, (2 : Nat) ^ m = c * 2 ^ k := ⟨2 ^ (m - k), by rw [← Nat.pow_add]; congr 1; omega⟩
theorem node_nine {s m j k s' : Nat} {a b a' b' : Int} (p q : Nat) (h : Node s (a + (p : Int) * 2 ^ (m + 1)) (b + (q : Int) * 2 ^ (m + 1)) m (jf m j) k s' a' b') : Node s a b (m + 1) j k s' a' b' := by
  obtain ⟨h1, h2, h3, ⟨u, h4⟩, ⟨x, h5⟩, y, h6⟩ := h
  have hmin : min (jf m j) k = min j k := by unfold jf; split <;> omega
  have hle : 2 ^ (jf m j) ≤ 2 ^ j := Nat.pow_le_pow_right (by omega) (by unfold jf; split <;> omega)
  rw [hmin] at h3 h4
  obtain ⟨c, hc⟩ := pow_split (show k + 1 ≤ m + 1 by omega)
  have hcI : (2 : Int) ^ (m + 1) = (c : Int) * 2 ^ (k + 1) := by rw [← powI, ← powI, hc, Int.natCast_mul]
  refine ⟨by omega, h2, by omega, ⟨u, h4⟩, ⟨(p : Int) * c + x, ?_⟩, (q : Int) * c + y, ?_⟩
  · rw [h5, hcI, Int.add_mul, Int.mul_assoc]; omega
  · rw [h6, hcI, Int.add_mul, Int.mul_assoc]; omega
theorem node_four {s m k s' : Nat} {a b a' b' : Int} (p q : Nat) (h : Node (s + 2 ^ m) (a + 2 ^ m + (p : Int) * 2 ^ (m + 1)) (b + 2 ^ m + (q : Int) * 2 ^ (m + 1)) m m k s' a' b') : Node s a b (m + 1) (m + 1) k s' a' b' := by
  obtain ⟨h1, h2, h3, ⟨u, h4⟩, ⟨x, h5⟩, y, h6⟩ := h
  have e1 : min m k = k := by omega
  have e2 : min (m + 1) k = k := by omega
  rw [e1] at h3 h4
  obtain ⟨c, hc⟩ := pow_split (show k + 1 ≤ m + 1 by omega)
  have hcI : (2 : Int) ^ (m + 1) = (c : Int) * 2 ^ (k + 1) := by rw [← powI, ← powI, hc, Int.natCast_mul]
  obtain ⟨d, hd⟩ := pow_split h1
  have hpm := powI m
  have h22 := two_pow m
  refine ⟨by omega, by omega, by rw [e2]; omega, ⟨d + u, by rw [e2, Nat.add_mul, ← hd]; omega⟩, ⟨(p : Int) * c + x, ?_⟩, (q : Int) * c + y, ?_⟩
  · rw [h5, hcI, Int.add_mul, Int.mul_assoc]; push_cast at *; omega
  · rw [h6, hcI, Int.add_mul, Int.mul_assoc]; push_cast at *; omega
theorem nodeI_nine {m j k s : Nat} {a b : Int} {i : Item} (hk : k ≤ m) (h : NodeI R rn G (jf m j) k s a b i) : NodeI R rn G j k s a b i := by
  have hmin : min (jf m j) k = min j k := by unfold jf; split <;> omega
  unfold NodeI at *
  rw [hmin] at h
  rcases h with h | h | h | ⟨h1, h2⟩
  · exact .inl h
  · exact .inr (.inl h)
  · exact .inr (.inr (.inl h))
  · have : jf m j = j := by
      unfold jf at h1 ⊢
      split at h1
      · omega
      · rename_i h0; rw [if_neg h0]
    rw [this] at h1 h2
    exact .inr (.inr (.inr ⟨h1, h2⟩))
theorem dem_node : ∀ (n : Nat) {s j : Nat} {a b : Int} {i : Item}, j ≤ n → Dem R rn S n (pic (iter R s G) a b (n + 2)) j i → ∃ k s' a' b', Node s a b n j k s' a' b' ∧ NodeI R rn G j k s' a' b' i
  | 0, s, j, a, b, i, hj, h => by
    have hj0 : j = 0 := by omega
    subst hj0
    refine ⟨0, s, a, b, node_self (Nat.le_refl _), ?_⟩
    rcases h.2 with h | h
    · exact .inl h
    · refine .inr (.inr (.inl ?_))
      rw [pic_iter (by decide) (by decide) (by decide) (by decide), iter_add] at h
      exact h
  | m + 1, s, j, a, b, i, hj, h => by
    have p0 : (0 : Int) < 2 ^ m := by have := powI m; have : 0 < 2 ^ m := Nat.pow_pos (by omega); omega
    have p1 := two_powI m
    have p2 : (2 : Int) ^ (m + 2) = 2 ^ (m + 1) + 2 ^ (m + 1) := two_powI (m + 1)
    have p3 : (2 : Int) ^ (m + 1 + 2) = 2 ^ (m + 2) + 2 ^ (m + 2) := two_powI (m + 2)
    have p4 : (2 : Int) ^ (m + 3) = 2 ^ (m + 2) + 2 ^ (m + 2) := two_powI (m + 2)
    have hself : Node s a b (m + 1) j (m + 1) s a b := node_self hj
    have hmin : min j (m + 1) = j := by omega
    rcases h.2 with h | h | ⟨r, hr, h⟩ | ⟨r, hr, h⟩
    · refine ⟨m + 1, s, a, b, hself, .inl ?_⟩
      rw [hmin]
      exact h
    · refine ⟨m + 1, s, a, b, hself, .inr (.inr (.inl ?_))⟩
      have hle : ((2 ^ j : Nat) : Int) ≤ 2 ^ (m + 1) := by
        have : 2 ^ j ≤ 2 ^ (m + 1) := Nat.pow_le_pow_right (by omega) hj
        have := powI (m + 1)
        omega
      rw [pic_iter hle (by omega) hle (by omega), iter_add] at h
      rw [hmin]
      exact h
    · have hW : W9 m (pic (iter R s G) a b (m + 1 + 2)) r = pic (iter R s G) (a + ((r % 3 : Nat) : Int) * 2 ^ (m + 1)) (b + ((r / 3 : Nat) : Int) * 2 ^ (m + 1)) (m + 2) := by
        unfold W9
        have hb : ∀ c : Nat, c ≤ 2 → (0 : Int) ≤ (c : Int) * 2 ^ (m + 1) ∧ (c : Int) * 2 ^ (m + 1) ≤ 2 ^ (m + 2) := fun c hc => by
          have : c = 0 ∨ c = 1 ∨ c = 2 := by omega
          rcases this with rfl | rfl | rfl <;> simp <;> omega
        obtain ⟨a1, a2⟩ := hb (r % 3) (by omega)
        obtain ⟨a3, a4⟩ := hb (r / 3) (by omega)
        have := pic_iter (R := R) (H := iter R s G) (a := a) (b := b) (x := ((r % 3 : Nat) : Int) * 2 ^ (m + 1)) (y := ((r / 3 : Nat) : Int) * 2 ^ (m + 1)) (N := m + 3) (M := m + 2) (t := 0) (by simpa using a1) (by show _ + _ + (0 : Int) ≤ _; omega) (by simpa using a3) (by show _ + _ + (0 : Int) ≤ _; omega)
        exact this
      rw [hW] at h
      rcases h with h | h
      · refine ⟨m, s, _, _, node_nine (r % 3) (r / 3) (node_self (by unfold jf; split <;> omega)), .inr (.inl h)⟩
      · obtain ⟨k, s', a', b', n1, n2⟩ := dem_node m (by unfold jf; split <;> omega) h
        exact ⟨k, s', a', b', node_nine (r % 3) (r / 3) n1, nodeI_nine n1.1 n2⟩
    · have hb2 : ∀ c : Nat, c ≤ 1 → (0 : Int) ≤ (c : Int) * 2 ^ (m + 1) ∧ (c : Int) * 2 ^ (m + 1) ≤ 2 ^ (m + 1) := fun c hc => by
        have : c = 0 ∨ c = 1 := by omega
        rcases this with rfl | rfl <;> simp <;> omega
      obtain ⟨a1, a2⟩ := hb2 (r % 2) (by omega)
      obtain ⟨a3, a4⟩ := hb2 (r / 2) (by omega)
      by_cases hjm : j = m + 1
      · subst hjm
        have hjf : jf m (m + 1) = m := by unfold jf; rw [if_pos rfl]
        rw [hjf, if_neg (by omega)] at h
        have hmI := powI m
        have hW : W4 R m m (pic (iter R s G) a b (m + 1 + 2)) r = pic (iter R (s + 2 ^ m) G) (a + 2 ^ m + ((r % 2 : Nat) : Int) * 2 ^ (m + 1)) (b + 2 ^ m + ((r / 2 : Nat) : Int) * 2 ^ (m + 1)) (m + 2) := by
          unfold W4
          rw [pic_iter (by omega) (by omega) (by omega) (by omega), iter_add, ← Int.add_assoc, ← Int.add_assoc]
        rw [hW] at h
        rcases h with h | h
        · exact ⟨m, s + 2 ^ m, _, _, node_four (r % 2) (r / 2) (node_self (Nat.le_refl _)), .inr (.inl h)⟩
        · obtain ⟨k, s', a', b', n1, n2⟩ := dem_node m (Nat.le_refl _) h
          refine ⟨k, s', a', b', node_four (r % 2) (r / 2) n1, ?_⟩
          refine nodeI_nine (m := m) n1.1 ?_
          rw [hjf]
          exact n2
      · have hjf : jf m j = j := by unfold jf; rw [if_neg hjm]
        rw [hjf, if_pos rfl] at h
        refine ⟨m + 1, s, a, b, hself, .inr (.inr (.inr ⟨by omega, r, hr, ?_⟩))⟩
        have hle : ((2 ^ j : Nat) : Int) ≤ 2 ^ m := by
          have : 2 ^ j ≤ 2 ^ m := Nat.pow_le_pow_right (by omega) (by omega)
          have := powI m
          omega
        unfold M4 at h
        rw [pic_iter (by omega) (by omega) (by omega) (by omega), iter_add, ← Int.add_assoc, ← Int.add_assoc] at h
        exact h
end Go.Proofs.YtofbcngcblleaaaGreat.A

namespace Go.Proofs.YtofbcngcblleaaaGreat.A
open Go.RowKit Go.Maps Go.Proofs.YtofbcngcblleaaaGreat.L
variable {R : Bool → Nat → Bool} {rn : Int} {S : Item → Prop} {g : Gr} {c d : Int} {K : Nat}
def pB (K T k : Nat) : Nat := (K + T) / 2 ^ k + 3
def posB (K T k : Nat) (c base : Int) : List Int := (List.range (pB K T k)).map fun (i : Nat) => (c - (K + T : Nat) - 2 ^ (k + 2)) + (base - (c - (K + T : Nat) - 2 ^ (k + 2))) % 2 ^ (k + 1) + (i : Int) * 2 ^ (k + 1)
theorem posB_in {T k : Nat} {a base : Int} (ha : ∃ x : Int, a = base + x * 2 ^ (k + 1)) (h1 : c - (K + T : Nat) - 2 ^ (k + 2) < a) (h2 : a < c + (K + T : Nat)) : a ∈ posB K T k c base := by
  obtain ⟨x, rfl⟩ := ha
  have hm : (0 : Int) < 2 ^ (k + 1) := by have := powI (k + 1); have : 0 < 2 ^ (k + 1) := Nat.pow_pos (by omega); omega
  have h4 : (2 : Int) ^ (k + 2) = 2 * 2 ^ (k + 1) := by rw [two_powI (k + 1)]; omega
  have hk : (2 : Int) ^ (k + 1) = 2 * 2 ^ k := by rw [two_powI k]; omega
  unfold posB pB
  generalize hL : c - (K + T : Nat) - 2 ^ (k + 2) = L at *
  have e1 := Int.mul_ediv_add_emod (base - L) (2 ^ (k + 1))
  have e2 := Int.emod_nonneg (base - L) (show (2 : Int) ^ (k + 1) ≠ 0 by omega)
  have e3 := Int.emod_lt_of_pos (base - L) hm
  generalize (base - L) % 2 ^ (k + 1) = r at *
  generalize (base - L) / 2 ^ (k + 1) = q at *
  have hq : base + x * 2 ^ (k + 1) = L + r + (q + x) * 2 ^ (k + 1) := by rw [Int.add_mul, Int.mul_comm q]; omega
  have b1 : -1 < q + x := Int.lt_of_mul_lt_mul_right (a := 2 ^ (k + 1)) (by omega) (by omega)
  have hqn : ((q + x).toNat : Int) = q + x := by omega
  refine List.mem_map.2 ⟨(q + x).toNat, List.mem_range.2 ?_, by rw [hqn, hq]⟩
  rcases Nat.lt_or_ge (q + x).toNat 3 with h | h
  · exact Nat.lt_of_lt_of_le h (Nat.le_add_left _ _)
  · obtain ⟨z, hz⟩ : ∃ z, (q + x).toNat = z + 2 := ⟨(q + x).toNat - 2, by omega⟩
    have h5 : z ≤ (K + T) / 2 ^ k := by
      rw [Nat.le_div_iff_mul_le (Nat.pow_pos (by omega))]
      have hzI : ((z * 2 ^ k : Nat) : Int) = (z : Int) * 2 ^ k := by rw [Int.natCast_mul, powI]
      have hz2 : (q + x) * 2 ^ (k + 1) = 2 * ((z : Int) * 2 ^ k) + 2 * 2 ^ (k + 1) := by
        rw [show q + x = (z : Int) + 2 by omega, Int.add_mul, hk, Int.mul_left_comm]
      omega
    omega
theorem posB_len {T k : Nat} {base : Int} : (posB K T k c base).length = pB K T k := by simp [posB]
def bitP (n b : Nat) : Gr := fun x y => if 0 ≤ x ∧ x < 2 ^ n ∧ 0 ≤ y ∧ y < 2 ^ n then b.testBit (2 ^ n * y.toNat + x.toNat) else false
theorem bits_all (f : Nat → Bool) : ∀ m : Nat, ∃ b, b < 2 ^ m ∧ ∀ i, i < m → b.testBit i = f i
  | 0 => ⟨0, by simp, fun i hi => by omega⟩
  | m + 1 => by
    obtain ⟨b, h1, h2⟩ := bits_all f m
    have hp := two_pow m
    by_cases hf : f m = true
    · refine ⟨2 ^ m + b, by omega, fun i hi => ?_⟩
      by_cases him : i = m
      · subst him
        rw [Nat.testBit_two_pow_add_eq, Nat.testBit_lt_two_pow h1, hf]
        rfl
      · rw [Nat.testBit_two_pow_add_gt (by omega)]
        exact h2 i (by omega)
    · refine ⟨b, by omega, fun i hi => ?_⟩
      by_cases him : i = m
      · subst him
        rw [Nat.testBit_lt_two_pow h1]
        simp at hf
        exact hf.symm
      · exact h2 i (by omega)
theorem bitP_all (n : Nat) (h : Gr) (a b : Int) : ∃ z, z < 2 ^ (2 ^ n * 2 ^ n) ∧ pic h a b n = bitP n z := by
  obtain ⟨z, h1, h2⟩ := bits_all (fun i => h (a + (i % 2 ^ n : Nat)) (b + (i / 2 ^ n : Nat))) (2 ^ n * 2 ^ n)
  refine ⟨z, h1, ?_⟩
  funext x y
  have hp := powI n
  unfold pic bitP
  by_cases hh : 0 ≤ x ∧ x < 2 ^ n ∧ 0 ≤ y ∧ y < 2 ^ n
  · rw [if_pos hh, if_pos hh]
    have hx : x.toNat < 2 ^ n := by omega
    have hy : y.toNat < 2 ^ n := by omega
    have hlt : 2 ^ n * y.toNat + x.toNat < 2 ^ n * 2 ^ n := by
      have : 2 ^ n * (y.toNat + 1) ≤ 2 ^ n * 2 ^ n := Nat.mul_le_mul_left _ hy
      rw [Nat.mul_add] at this
      omega
    rw [h2 _ hlt, Nat.mul_add_mod, Nat.mod_eq_of_lt hx, Nat.mul_add_div (Nat.pow_pos (by omega)), Nat.div_eq_of_lt hx, Nat.add_zero]
    rw [show ((x.toNat : Nat) : Int) = x by omega, show ((y.toNat : Nat) : Int) = y by omega]
  · rw [if_neg hh, if_neg hh]
def emptyL (rn : Int) : List Item := (List.range 45).flatMap fun k => .sq k noP :: (List.range 31).map fun (j : Nat) => .nt rn k noP (j : Int)
def leastL (rn : Int) : List Item := ((List.range 65536).flatMap fun b => [.sq 2 (bitP 2 b), .nt rn 2 (bitP 2 b) 0]) ++ (List.range 16).map fun b => .sq 1 (bitP 1 b)
theorem flat_len2 {α β : Type} (f : α → List β) (c : Nat) : ∀ l : List α, (∀ x ∈ l, (f x).length = c) → (l.flatMap f).length = l.length * c
  | [], _ => by simp
  | x :: l, h => by
    rw [List.flatMap_cons, List.length_append, h x (by simp), flat_len2 f c l fun y hy => h y (by simp [hy]), List.length_cons, Nat.add_mul, Nat.one_mul]
    omega
theorem emptyL_len : (emptyL rn).length = 1440 := by
  unfold emptyL
  rw [flat_len2 _ 32 _ fun k _ => by simp]
  simp
theorem leastL_len : (leastL rn).length = 131088 := by
  unfold leastL
  rw [List.length_append, flat_len2 _ 2 _ fun k _ => rfl]
  simp
theorem in_empty_sq {k : Nat} (hk : k ≤ 44) : Item.sq k noP ∈ emptyL rn := List.mem_flatMap.2 ⟨k, List.mem_range.2 (by omega), List.mem_cons_self⟩
theorem in_empty_nt {k j : Nat} (hk : k ≤ 44) (hj : j ≤ 30) : Item.nt rn k noP (j : Int) ∈ emptyL rn := List.mem_flatMap.2 ⟨k, List.mem_range.2 (by omega), List.mem_cons_of_mem _ (List.mem_map.2 ⟨j, List.mem_range.2 (by omega), rfl⟩)⟩
theorem in_two_sq (h : Gr) (a b : Int) : Item.sq 2 (pic h a b 2) ∈ leastL rn := by
  obtain ⟨z, h1, h2⟩ := bitP_all 2 h a b
  rw [h2]
  exact List.mem_append_left _ (List.mem_flatMap.2 ⟨z, List.mem_range.2 h1, by simp⟩)
theorem in_two_nt (h : Gr) (a b : Int) : Item.nt rn 2 (pic h a b 2) 0 ∈ leastL rn := by
  obtain ⟨z, h1, h2⟩ := bitP_all 2 h a b
  rw [h2]
  exact List.mem_append_left _ (List.mem_flatMap.2 ⟨z, List.mem_range.2 h1, by simp⟩)
theorem in_one_sq (h : Gr) (a b : Int) : Item.sq 1 (pic h a b 1) ∈ leastL rn := by
  obtain ⟨z, h1, h2⟩ := bitP_all 1 h a b
  rw [h2]
  exact List.mem_append_right _ (List.mem_map.2 ⟨z, List.mem_range.2 h1, rfl⟩)
def nodeL (R : Bool → Nat → Bool) (g : Gr) (rn : Int) (j k T : Nat) (a b : Int) : List Item :=
  .nt rn (k + 2) (pic (iter R T g) a b (k + 2)) ((min j k : Nat) : Int) :: .sq (k + 2) (pic (iter R T g) a b (k + 2)) :: ((if k = 1 then [] else [.sq (k + 1) (pic (iter R (T + 2 ^ (min j k)) g) (a + 2 ^ k) (b + 2 ^ k) (k + 1))]) ++ if j < k ∧ 3 ≤ k then (List.range 4).map fun (r : Nat) => .sq k (pic (iter R (T + 2 ^ j) g) (a + 2 ^ k + (r % 2 : Nat) * 2 ^ k) (b + 2 ^ k + (r / 2 : Nat) * 2 ^ k) k) else [])
def cB (j k : Nat) : Nat := 2 + ((if k = 1 then 0 else 1) + if j < k ∧ 3 ≤ k then 4 else 0)
theorem nodeL_len {j k T : Nat} {a b : Int} : (nodeL R g rn j k T a b).length = cB j k := by
  unfold nodeL cB
  simp only [List.length_cons, List.length_append]
  split <;> split <;> simp
def leapL (R : Bool → Nat → Bool) (g : Gr) (rn : Int) (K LM : Nat) (c d : Int) (j T0 : Nat) : List Item :=
  (List.range LM).flatMap fun k => (List.range (2 ^ (j - min j (k + 1)))).flatMap fun u => (posB K (T0 + u * 2 ^ (min j (k + 1))) (k + 1) c ((u * 2 ^ (min j (k + 1)) : Nat) : Int)).flatMap fun a => (posB K (T0 + u * 2 ^ (min j (k + 1))) (k + 1) d ((u * 2 ^ (min j (k + 1)) : Nat) : Int)).flatMap fun b => nodeL R g rn j (k + 1) (T0 + u * 2 ^ (min j (k + 1))) a b
def leapN (K LM j T0 : Nat) : Nat := ((List.range LM).map fun k => ((List.range (2 ^ (j - min j (k + 1)))).map fun u => pB K (T0 + u * 2 ^ (min j (k + 1))) (k + 1) * (pB K (T0 + u * 2 ^ (min j (k + 1))) (k + 1) * cB j (k + 1))).sum).sum
theorem leapL_len {LM j T0 : Nat} : (leapL R g rn K LM c d j T0).length = leapN K LM j T0 := by
  unfold leapL leapN
  rw [List.length_flatMap]
  congr 1
  refine List.map_congr_left fun k _ => ?_
  rw [List.length_flatMap]
  congr 1
  refine List.map_congr_left fun u _ => ?_
  rw [flat_len2 _ _ _ fun a _ => flat_len2 _ _ _ fun b _ => nodeL_len, posB_len, posB_len]
def rootL (G : Gr) (LM : Nat) : List Item := (List.range (LM + 3)).flatMap fun N => .sq (N + 1) (pic G (-(2 ^ N)) (-(2 ^ N)) (N + 1)) :: (List.range 4).map fun r => .sq (N + 1) (QP N G r)
theorem rootL_len {G : Gr} {LM : Nat} : (rootL G LM).length = 5 * (LM + 3) := by
  unfold rootL
  rw [flat_len2 _ 5 _ fun N _ => by simp]
  simp
  omega
def boxL (R : Bool → Nat → Bool) (g : Gr) (rn : Int) (K LM : Nat) (c d : Int) (n : Nat) : List Item :=
  emptyL rn ++ leastL rn ++ ((List.range 31).flatMap fun j => if n / 2 ^ j % 2 = 1 then leapL R g rn K LM c d j (n % 2 ^ j) ++ rootL (iter R (n % 2 ^ j) g) LM else []) ++ rootL (iter R n g) LM
def boxN (K LM n : Nat) : Nat := ((List.range 31).map fun j => if n / 2 ^ j % 2 = 1 then leapN K LM j (n % 2 ^ j) + 5 * (LM + 3) else 0).sum
theorem boxL_len {LM n : Nat} : (boxL R g rn K LM c d n).length = 132528 + boxN K LM n + 5 * (LM + 3) := by
  unfold boxL boxN
  simp only [List.length_append, emptyL_len, leastL_len, rootL_len]
  rw [List.length_flatMap]
  congr 3
  refine List.map_congr_left fun j _ => ?_
  split
  · rw [List.length_append, leapL_len, rootL_len]
  · rfl
theorem boxN_quota : ∀ n, n < 60 → boxN 10 9 n ≤ 45000 := by decide +kernel
theorem boxN_steps : ∀ n, n < 40 → boxN 20 9 n ≤ 30000 := by decide +kernel
end Go.Proofs.YtofbcngcblleaaaGreat.A

namespace Go.Proofs.YtofbcngcblleaaaGreat.A
open Go.RowKit Go.Maps Go.Proofs.YtofbcngcblleaaaGreat.L
variable {R : Bool → Nat → Bool} {rn : Int} {S : Item → Prop} {g : Gr} {c d : Int} {K : Nat}
theorem iter_noP (hR : R false 0 = false) : ∀ s, iter R s noP = noP
  | 0 => rfl
  | s + 1 => by
    have : L.stepG R noP = noP := by
      funext x y
      exact hR
    rw [iter, this]
    exact iter_noP hR s
theorem pic_noP (a b : Int) (n : Nat) : pic noP a b n = noP := pic_no fun _ _ _ _ => rfl
theorem box_live (hR : R false 0 = false) (hg : ∀ X Y, g X Y = true → c - K ≤ X ∧ X < c + K ∧ d - K ≤ Y ∧ Y < d + K) (T : Nat) (X Y : Int) (h : iter R T g X Y = true) : c - (K + T : Nat) ≤ X ∧ X < c + (K + T : Nat) ∧ d - (K + T : Nat) ≤ Y ∧ Y < d + (K + T : Nat) := by
  have h1 := spread (g := fun x y => g (c + x) (d + y)) (K := (K : Int)) hR (fun X Y hXY => by have := hg _ _ hXY; omega) T (X - c) (Y - d) (by rw [iter_mv]; show iter R T g (c + (X - c)) (d + (Y - d)) = true; rw [show c + (X - c) = X by omega, show d + (Y - d) = Y by omega]; exact h)
  omega
theorem box_miss (hl : ∀ T X Y, iter R T g X Y = true → c - (K + T : Nat) ≤ X ∧ X < c + (K + T : Nat) ∧ d - (K + T : Nat) ≤ Y ∧ Y < d + (K + T : Nat)) {T k : Nat} {a b : Int} (h : ¬ (c - (K + T : Nat) - 2 ^ (k + 2) < a ∧ a < c + (K + T : Nat) ∧ d - (K + T : Nat) - 2 ^ (k + 2) < b ∧ b < d + (K + T : Nat))) : pic (iter R T g) a b (k + 2) = noP := by
  have hp := powI (k + 2)
  refine pic_no fun x y hx hy => ?_
  cases hv : iter R T g (a + x) (b + y) with
  | false => rfl
  | true => have := hl T _ _ hv; omega
theorem box_dem (hR : R false 0 = false) (hl : ∀ T X Y, iter R T g X Y = true → c - (K + T : Nat) ≤ X ∧ X < c + (K + T : Nat) ∧ d - (K + T : Nat) ≤ Y ∧ Y < d + (K + T : Nat)) {LM n j T0 : Nat} (hn : n ≤ LM) (hn42 : n ≤ 42) (hj : j ≤ n) (hj30 : j ≤ 30) {i : Item} (h : Dem R rn S n (pic (iter R T0 g) (-(2 ^ (n + 1))) (-(2 ^ (n + 1))) (n + 2)) j i) : i ∈ emptyL rn ∨ i ∈ leastL rn ∨ i ∈ leapL R g rn K LM c d j T0 := by
  obtain ⟨k, s', a', b', ⟨n1, _, n3, ⟨u, n4⟩, ⟨x, n5⟩, y, n6⟩, hi⟩ := dem_node (R := R) (G := iter R T0 g) (s := 0) n hj h
  rw [Nat.zero_add] at n3 n4
  unfold NodeI at hi
  simp only [iter_add] at hi
  have hu : u < 2 ^ (j - min j k) := by
    have e : 2 ^ j = 2 ^ (j - min j k) * 2 ^ (min j k) := by rw [← Nat.pow_add]; congr 1; omega
    have hpos : 0 < 2 ^ (min j k) := Nat.pow_pos (by omega)
    rw [n4, e] at n3
    exact Nat.lt_of_mul_lt_mul_right (a := 2 ^ (min j k)) (by omega)
  have hbase : ∀ z : Int, -(2 ^ (n + 1)) + ((s' : Int) - (0 : Nat)) + z * 2 ^ (k + 1) = (s' : Int) + (-(2 ^ (n - k)) + z) * 2 ^ (k + 1) := fun z => by
    rw [Int.add_mul, Int.neg_mul, ← Int.pow_add, show n - k + (k + 1) = n + 1 by omega]
    simp only [Int.natCast_zero, Int.sub_zero]
    omega
  rcases Nat.eq_zero_or_pos k with hk0 | hk0
  · subst hk0
    rcases hi with rfl | rfl | rfl | ⟨hjk, _⟩
    · rw [Nat.min_zero]
      exact .inr (.inl (in_two_nt _ _ _))
    · exact .inr (.inl (in_two_sq _ _ _))
    · exact .inr (.inl (in_one_sq _ _ _))
    · omega
  obtain ⟨k', rfl⟩ : ∃ k', k = k' + 1 := ⟨k - 1, by omega⟩
  have p0 : (0 : Int) < 2 ^ k' := by have := powI k'; have : 0 < 2 ^ k' := Nat.pow_pos (by omega); omega
  have p1 := two_powI k'
  have p2 : (2 : Int) ^ (k' + 1 + 1) = 2 ^ (k' + 1) + 2 ^ (k' + 1) := two_powI (k' + 1)
  have p3 : (2 : Int) ^ (k' + 1 + 2) = 2 ^ (k' + 1 + 1) + 2 ^ (k' + 1 + 1) := two_powI (k' + 1 + 1)
  by_cases hit : c - (K + (T0 + s') : Nat) - 2 ^ (k' + 1 + 2) < a' ∧ a' < c + (K + (T0 + s') : Nat) ∧ d - (K + (T0 + s') : Nat) - 2 ^ (k' + 1 + 2) < b' ∧ b' < d + (K + (T0 + s') : Nat)
  · have hnode : ∀ it, it ∈ nodeL R g rn j (k' + 1) (T0 + s') a' b' → it ∈ leapL R g rn K LM c d j T0 := fun it hit' => by
      unfold leapL
      refine List.mem_flatMap.2 ⟨k', List.mem_range.2 (by omega), List.mem_flatMap.2 ⟨u, List.mem_range.2 hu, ?_⟩⟩
      rw [← n4]
      exact List.mem_flatMap.2 ⟨a', posB_in ⟨_, n5.trans (hbase x)⟩ hit.1 hit.2.1, List.mem_flatMap.2 ⟨b', posB_in ⟨_, n6.trans (hbase y)⟩ hit.2.2.1 hit.2.2.2, hit'⟩⟩
    rcases hi with rfl | rfl | rfl | ⟨hjk, r, hr, rfl⟩
    · exact .inr (.inr (hnode _ List.mem_cons_self))
    · exact .inr (.inr (hnode _ (List.mem_cons_of_mem _ List.mem_cons_self)))
    · by_cases h1 : k' + 1 = 1
      · obtain rfl : k' = 0 := by omega
        exact .inr (.inl (in_two_sq _ _ _))
      · refine .inr (.inr (hnode _ (List.mem_cons_of_mem _ (List.mem_cons_of_mem _ (List.mem_append_left _ ?_)))))
        rw [if_neg h1, ← Nat.add_assoc]
        exact List.mem_singleton_self _
    · by_cases h3 : 3 ≤ k' + 1
      · refine .inr (.inr (hnode _ (List.mem_cons_of_mem _ (List.mem_cons_of_mem _ (List.mem_append_right _ ?_)))))
        rw [if_pos ⟨hjk, h3⟩]
        exact List.mem_map.2 ⟨r, List.mem_range.2 hr, by rw [← Nat.add_assoc]⟩
      · have h12 : k' = 0 ∨ k' = 1 := by omega
        rcases h12 with rfl | rfl
        · exact .inr (.inl (in_one_sq _ _ _))
        · exact .inr (.inl (in_two_sq _ _ _))
  · have hno := box_miss hl (T := T0 + s') (k := k' + 1) hit
    rcases hi with rfl | rfl | rfl | ⟨hjk, r, hr, rfl⟩
    · rw [hno]
      exact .inl (in_empty_nt (by omega) (by omega))
    · rw [hno]
      exact .inl (in_empty_sq (by omega))
    · have hle : ((2 ^ (min j (k' + 1)) : Nat) : Int) ≤ 2 ^ (k' + 1) := by
        have : 2 ^ (min j (k' + 1)) ≤ 2 ^ (k' + 1) := Nat.pow_le_pow_right (by omega) (by omega)
        have := powI (k' + 1)
        omega
      have e := pic_iter (R := R) (H := iter R (T0 + s') g) (a := a') (b := b') (x := 2 ^ (k' + 1)) (y := 2 ^ (k' + 1)) (N := k' + 1 + 2) (M := k' + 1 + 1) (t := 2 ^ (min j (k' + 1))) hle (by omega) hle (by omega)
      rw [hno, iter_noP hR, pic_noP, iter_add, Nat.add_assoc] at e
      rw [← e]
      exact .inl (in_empty_sq (by omega))
    · have hle : ((2 ^ j : Nat) : Int) ≤ 2 ^ k' := by
        have : 2 ^ j ≤ 2 ^ k' := Nat.pow_le_pow_right (by omega) (by omega)
        have := powI k'
        omega
      have hb2 : ∀ z : Nat, z ≤ 1 → (0 : Int) ≤ (z : Int) * 2 ^ (k' + 1) ∧ (z : Int) * 2 ^ (k' + 1) ≤ 2 ^ (k' + 1) := fun z hz => by
        have : z = 0 ∨ z = 1 := by omega
        rcases this with rfl | rfl <;> simp <;> omega
      obtain ⟨a1, a2⟩ := hb2 (r % 2) (by omega)
      obtain ⟨a3, a4⟩ := hb2 (r / 2) (by omega)
      have e := pic_iter (R := R) (H := iter R (T0 + s') g) (a := a') (b := b') (x := 2 ^ (k' + 1) + ((r % 2 : Nat) : Int) * 2 ^ (k' + 1)) (y := 2 ^ (k' + 1) + ((r / 2 : Nat) : Int) * 2 ^ (k' + 1)) (N := k' + 1 + 2) (M := k' + 1) (t := 2 ^ j) (by omega) (by omega) (by omega) (by omega)
      rw [hno, iter_noP hR, pic_noP, iter_add, Nat.add_assoc, ← Int.add_assoc, ← Int.add_assoc] at e
      rw [← e]
      exact .inl (in_empty_sq (by omega))
theorem root_pic {G : Gr} {LM N : Nat} (h : N < LM + 3) : Item.sq (N + 1) (pic G (-(2 ^ N)) (-(2 ^ N)) (N + 1)) ∈ rootL G LM := List.mem_flatMap.2 ⟨N, List.mem_range.2 h, List.mem_cons_self⟩
theorem root_qp {G : Gr} {LM N r : Nat} (h : N < LM + 3) (hr : r < 4) : Item.sq (N + 1) (QP N G r) ∈ rootL G LM := List.mem_flatMap.2 ⟨N, List.mem_range.2 h, List.mem_cons_of_mem _ (List.mem_map.2 ⟨r, List.mem_range.2 hr, rfl⟩)⟩
theorem box_steps (hR : R false 0 = false) (hg : ∀ X Y, g X Y = true → c - K ≤ X ∧ X < c + K ∧ d - K ≤ Y ∧ Y < d + K) {LM n : Nat} (hLM : LM ≤ 40) (hn : n < 2 ^ LM) (hlv : ∀ T N, T ≤ n → LeastG (N + 1) (iter R T g) → N + 1 ≤ LM) {i : Item} (h : StepsD R rn S g n i) : i ∈ boxL R g rn K LM c d n := by
  have hl := box_live hR hg
  have peel : ∀ T it, T ≤ n → PeelP (iter R T g) it → it ∈ rootL (iter R T g) LM := fun T it hT ⟨N, h1, h2⟩ => by
    have := hlv T N hT h1
    rw [h2]
    exact root_pic (by omega)
  unfold boxL
  rcases h with ⟨j, hj, hb, h⟩ | h
  · have hjm : n % 2 ^ j ≤ n := Nat.mod_le _ _
    have hjl : j < LM := by
      rcases Nat.lt_or_ge j LM with h1 | h1
      · exact h1
      · have h2 : 2 ^ LM ≤ 2 ^ j := Nat.pow_le_pow_right (by omega) h1
        rw [Nat.div_eq_of_lt (by omega)] at hb
        omega
    have hin : ∀ it, it ∈ leapL R g rn K LM c d j (n % 2 ^ j) ∨ it ∈ rootL (iter R (n % 2 ^ j) g) LM → it ∈ emptyL rn ++ leastL rn ++ ((List.range 31).flatMap fun j => if n / 2 ^ j % 2 = 1 then leapL R g rn K LM c d j (n % 2 ^ j) ++ rootL (iter R (n % 2 ^ j) g) LM else []) ++ rootL (iter R n g) LM := fun it h => by
      refine List.mem_append_left _ (List.mem_append_right _ (List.mem_flatMap.2 ⟨j, List.mem_range.2 hj, ?_⟩))
      rw [if_pos hb]
      exact List.mem_append.2 h
    rcases h with h | ⟨N, h1, ⟨k, h2, h3, (⟨_, z, z1, z2, rfl⟩ | ⟨r, hr, rfl⟩) | rfl⟩ | h⟩
    · exact hin _ (.inr (peel _ i hjm h))
    · have := hlv _ N hjm h1
      unfold wideOf at h3
      exact List.mem_append_left _ (List.mem_append_left _ (List.mem_append_left _ (in_empty_sq (by omega))))
    · have := hlv _ N hjm h1
      unfold wideOf at h3
      exact hin _ (.inr (root_qp (by omega) hr))
    · have := hlv _ N hjm h1
      unfold wideOf at h3
      exact hin _ (.inr (root_pic (N := k + 1) (by omega)))
    · have := hlv _ N hjm h1
      have hw : wideOf N j = max (N + 3) (j + 3) := rfl
      generalize wideOf N j = W at *
      obtain ⟨n', rfl⟩ : ∃ n', W = n' + 2 := ⟨W - 2, by omega⟩
      rcases box_dem hR hl (LM := LM) (n := n') (by omega) (by omega) (by omega) (by omega) h with h | h | h
      · exact List.mem_append_left _ (List.mem_append_left _ (List.mem_append_left _ h))
      · exact List.mem_append_left _ (List.mem_append_left _ (List.mem_append_right _ h))
      · exact hin _ (.inl h)
  · exact List.mem_append_right _ (peel n i (Nat.le_refl _) h)
theorem box_level (hR : R false 0 = false) (hg : ∀ X Y, g X Y = true → c - K ≤ X ∧ X < c + K ∧ d - K ≤ Y ∧ Y < d + K) {M T N : Nat} (hM : 1 ≤ M) (h : ∀ z : Int, z = c ∨ z = d → -(2 ^ M) ≤ z - (K + T : Nat) ∧ z + (K + T : Nat) ≤ 2 ^ M) (hL : LeastG (N + 1) (iter R T g)) : N ≤ M := by
  have := least_le hL hM fun X Y hXY => by
    have h1 := box_live hR hg T X Y hXY
    have h2 := h c (.inl rfl)
    have h3 := h d (.inr rfl)
    omega
  omega
end Go.Proofs.YtofbcngcblleaaaGreat.A
