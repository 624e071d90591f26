/- What a leap makes, by places and times. -/
import Derived.Test.YtofbcngcblleaabGreatLpOne
import Derived.Test.YtofbcngcblleaabGreatLpOps
namespace Go.Proofs.YtofbcngcblleaabGreat.A
open Go.RowKit Go.Proofs.YtofbcngcblleaabGreat.L
def pic (g : Gr) (a b : Int) (n : Nat) : Gr := fun x y => if 0 ≤ x ∧ x < 2 ^ n ∧ 0 ≤ y ∧ y < 2 ^ n then g (a + x) (b + y) else false
def picQ (Q : Qs4) (n : Nat) (id : Int) : Gr := pic (fun x y => cellV Q n id x.toNat y.toNat) 0 0 n
section
variable {Q Q' : Qs4} {n : Nat} {id : Int} {g : Gr} {a b : Int}
theorem pic_agr {h : Gr} {c d : Int} (hh : ∀ x y : Nat, x < 2 ^ n → y < 2 ^ n → g (a + x) (b + y) = h (c + x) (d + y)) : pic g a b n = pic h c d n := by
  funext x y
  unfold pic
  have hp := powI n
  split
  · have := hh x.toNat y.toNat (by omega) (by omega)
    rw [show ((x.toNat : Nat) : Int) = x by omega, show ((y.toNat : Nat) : Int) = y by omega] at this
    exact this
  · rfl
theorem pic_at (x y : Nat) (hx : x < 2 ^ n) (hy : y < 2 ^ n) : pic g a b n x y = g (a + x) (b + y) := by
  have hp := powI n
  unfold pic
  rw [if_pos ⟨by omega, by omega, by omega, by omega⟩]
theorem pic_shows (h : Shows Q n id g a b) : picQ Q n id = pic g a b n := by
  refine pic_agr fun x y hx hy => ?_
  rw [← h x y hx hy]
  simp
theorem shows_pic : Shows Q n id (picQ Q n id) 0 0 := fun x y hx hy => by
  rw [Int.zero_add, Int.zero_add]
  unfold picQ
  rw [pic_at x y hx hy]
  simp
theorem shows_mv {Q : Qs4} {n : Nat} {i : Int} {g : Gr} {a1 b1 a2 b2 : Int} (h : Shows Q n i g a1 b1) (e1 : a1 = a2) (e2 : b1 = b2) : Shows Q n i g a2 b2 := by subst e1 e2; exact h
theorem picQ_ext (he : Ext Q Q') (hs : IsSq Q n id) : picQ Q' n id = picQ Q n id := by
  have : (fun x y : Int => cellV Q' n id x.toNat y.toNat) = fun x y => cellV Q n id x.toNat y.toNat := funext fun x => funext fun y => cell_ext he hs _ _
  unfold picQ
  rw [this]
def joinPic (n : Nat) (p0 p1 p2 p3 : Gr) : Gr := fun x y => if x < 2 ^ n then (if y < 2 ^ n then p0 x y else p2 x (y - 2 ^ n)) else (if y < 2 ^ n then p1 (x - 2 ^ n) y else p3 (x - 2 ^ n) (y - 2 ^ n))
theorem pic_join : joinPic n (pic g a b n) (pic g (a + 2 ^ n) b n) (pic g a (b + 2 ^ n) n) (pic g (a + 2 ^ n) (b + 2 ^ n) n) = pic g a b (n + 1) := by
  funext x y
  have hp := two_powI n
  have h0 : (0 : Int) < 2 ^ n := by have := powI n; have : 0 < 2 ^ n := Nat.pow_pos (by omega); omega
  unfold joinPic pic
  by_cases hx : x < 2 ^ n
  · by_cases hy : y < 2 ^ n
    · rw [if_pos hx, if_pos hy]
      by_cases h : 0 ≤ x ∧ 0 ≤ y
      · rw [if_pos (by omega), if_pos (by omega)]
      · rw [if_neg (by omega), if_neg (by omega)]
    · rw [if_pos hx, if_neg hy]
      by_cases h : 0 ≤ x ∧ y - 2 ^ n < 2 ^ n
      · rw [if_pos (by omega), if_pos (by omega), show b + 2 ^ n + (y - 2 ^ n) = b + y by omega]
      · rw [if_neg (by omega), if_neg (by omega)]
  · by_cases hy : y < 2 ^ n
    · rw [if_neg hx, if_pos hy]
      by_cases h : x - 2 ^ n < 2 ^ n ∧ 0 ≤ y
      · rw [if_pos (by omega), if_pos (by omega), show a + 2 ^ n + (x - 2 ^ n) = a + x by omega]
      · rw [if_neg (by omega), if_neg (by omega)]
    · rw [if_neg hx, if_neg hy]
      by_cases h : x - 2 ^ n < 2 ^ n ∧ y - 2 ^ n < 2 ^ n
      · rw [if_pos (by omega), if_pos (by omega), show b + 2 ^ n + (y - 2 ^ n) = b + y by omega, show a + 2 ^ n + (x - 2 ^ n) = a + x by omega]
      · rw [if_neg (by omega), if_neg (by omega)]
theorem join_pic {q0 q1 q2 q3 : Int} (h0 : Shows Q n q0 g a b) (h1 : Shows Q n q1 g (a + 2 ^ n) b) (h2 : Shows Q n q2 g a (b + 2 ^ n)) (h3 : Shows Q n q3 g (a + 2 ^ n) (b + 2 ^ n)) : joinPic n (picQ Q n q0) (picQ Q n q1) (picQ Q n q2) (picQ Q n q3) = pic g a b (n + 1) := by
  rw [pic_shows h0, pic_shows h1, pic_shows h2, pic_shows h3]
  exact pic_join
theorem join_picQ {q : Int × Int × Int × Int} (hq : Q id = some q) : joinPic n (picQ Q n q.1) (picQ Q n q.2.1) (picQ Q n q.2.2.1) (picQ Q n q.2.2.2) = picQ Q (n + 1) id := by
  obtain ⟨h0, h1, h2, h3⟩ := shows_kids hq (shows_self (n + 1) id)
  exact join_pic h0 h1 h2 h3
theorem join_inj {q q' : Int × Int × Int × Int} (h : joinPic n (picQ Q n q.1) (picQ Q n q.2.1) (picQ Q n q.2.2.1) (picQ Q n q.2.2.2) = joinPic n (picQ Q n q'.1) (picQ Q n q'.2.1) (picQ Q n q'.2.2.1) (picQ Q n q'.2.2.2)) :
    (∀ x y, x < 2 ^ n → y < 2 ^ n → cellV Q n q.1 x y = cellV Q n q'.1 x y) ∧ (∀ x y, x < 2 ^ n → y < 2 ^ n → cellV Q n q.2.1 x y = cellV Q n q'.2.1 x y) ∧ (∀ x y, x < 2 ^ n → y < 2 ^ n → cellV Q n q.2.2.1 x y = cellV Q n q'.2.2.1 x y) ∧ (∀ x y, x < 2 ^ n → y < 2 ^ n → cellV Q n q.2.2.2 x y = cellV Q n q'.2.2.2 x y) := by
  have hp := powI n
  have key : ∀ (i : Int) (x y : Nat), x < 2 ^ n → y < 2 ^ n → picQ Q n i x y = cellV Q n i x y := fun i x y hx hy => by
    unfold picQ
    rw [pic_at x y hx hy]
    simp
  refine ⟨fun x y hx hy => ?_, fun x y hx hy => ?_, fun x y hx hy => ?_, fun x y hx hy => ?_⟩
  · have h1 := congrFun (congrFun h x) y
    unfold joinPic at h1
    rw [if_pos (by omega), if_pos (by omega), if_pos (by omega), if_pos (by omega)] at h1
    rw [← key _ x y hx hy, ← key _ x y hx hy]
    exact h1
  · have h1 := congrFun (congrFun h (x + 2 ^ n)) y
    unfold joinPic at h1
    rw [if_neg (by omega), if_pos (by omega), if_neg (by omega), if_pos (by omega), show (x : Int) + 2 ^ n - 2 ^ n = x by omega] at h1
    rw [← key _ x y hx hy, ← key _ x y hx hy]
    exact h1
  · have h1 := congrFun (congrFun h x) (y + 2 ^ n)
    unfold joinPic at h1
    rw [if_pos (by omega), if_neg (by omega), if_pos (by omega), if_neg (by omega), show (y : Int) + 2 ^ n - 2 ^ n = y by omega] at h1
    rw [← key _ x y hx hy, ← key _ x y hx hy]
    exact h1
  · have h1 := congrFun (congrFun h (x + 2 ^ n)) (y + 2 ^ n)
    unfold joinPic at h1
    rw [if_neg (by omega), if_neg (by omega), if_neg (by omega), if_neg (by omega), show (x : Int) + 2 ^ n - 2 ^ n = x by omega, show (y : Int) + 2 ^ n - 2 ^ n = y by omega] at h1
    rw [← key _ x y hx hy, ← key _ x y hx hy]
    exact h1
theorem picQ_cells {n : Nat} {i j : Int} (h : picQ Q n i = picQ Q n j) : ∀ x y, x < 2 ^ n → y < 2 ^ n → cellV Q n i x y = cellV Q n j x y := fun x y hx hy => by
  have h1 := congrFun (congrFun h x) y
  unfold picQ at h1
  rw [pic_at x y hx hy, pic_at x y hx hy] at h1
  simpa using h1
end
inductive Item where
  | sq (n : Nat) (p : Gr)
  | nt (rn : Int) (n : Nat) (p : Gr) (j : Int)
def Is (v : Vw) (id : Int) : Item → Prop
  | .sq n p => 1 ≤ n ∧ levV v.V id = some (n : Int) ∧ picQ (QV v) n id = p
  | .nt rn n p j => ∃ f, v.V id = some f ∧ f.1.k = 2 ∧ f.1.p1 = rn ∧ f.1.p2 = j ∧ f.1.p3 = 0 ∧ levV v.V f.1.p0 = some (n : Int) ∧ picQ (QV v) n f.1.p0 = p
def Has (v : Vw) (i : Item) : Prop := ∃ id, Is v id i
theorem Is.sees {v v' : Vw} {id : Int} {i : Item} (h : Is v id i) (hw : Wel v) (hp : PosL v) (hs : Sees v v') : Is v' id i := by
  cases i with
  | sq n p =>
    obtain ⟨h1, h2, h3⟩ := h
    exact ⟨h1, hs.lev h2, (picQ_ext hs.ext (isSq_of_lev hw hp _ _ h2)).trans h3⟩
  | nt rn n p j =>
    obtain ⟨f, h1, h2, h3, h4, hz, h5, h6⟩ := h
    exact ⟨f, hs _ _ h1, h2, h3, h4, hz, hs.lev h5, (picQ_ext hs.ext (isSq_of_lev hw hp _ _ h5)).trans h6⟩
theorem Has.sees {v v' : Vw} {i : Item} (h : Has v i) (hw : Wel v) (hp : PosL v) (hs : Sees v v') : Has v' i := let ⟨id, k⟩ := h; ⟨id, k.sees hw hp hs⟩
theorem is_one {v : Vw} {id : Int} {i i' : Item} (h : Is v id i) (k : Is v id i') : i = i' := by
  have key : ∀ {n : Nat} {p : Gr} {rn : Int} {m : Nat} {p' : Gr} {j : Int}, Is v id (.sq n p) → Is v id (.nt rn m p' j) → False := fun {n p rn m p' j} a c => by
    obtain ⟨a1, a2, _⟩ := a
    obtain ⟨f, c1, c2, _⟩ := c
    unfold levV at a2
    split at a2
    · have := Option.some.inj a2; omega
    · rw [c1] at a2
      simp only at a2
      rw [if_neg (by omega)] at a2
      cases a2
  cases i with
  | sq n p =>
    cases i' with
    | sq n' p' =>
      obtain ⟨h1, h2, h3⟩ := h
      obtain ⟨k1, k2, k3⟩ := k
      rw [h2] at k2
      have e : n = n' := by have := Option.some.inj k2; omega
      subst e
      rw [← h3, ← k3]
    | nt rn m p' j => exact (key h k).elim
  | nt rn n p j =>
    cases i' with
    | sq n' p' => exact (key k h).elim
    | nt rn' n' p' j' =>
      obtain ⟨f, h1, h2, h3, h4, _, h5, h6⟩ := h
      obtain ⟨f', k1, k2, k3, k4, _, k5, k6⟩ := k
      rw [h1] at k1
      cases k1
      rw [h5] at k5
      have e : n = n' := by have := Option.some.inj k5; omega
      subst e
      rw [← h3, ← k3, ← h4, ← k4, ← h6, ← k6]
def W9 (m : Nat) (p : Gr) (r : Nat) : Gr := pic p ((r % 3 : Nat) * 2 ^ (m + 1)) ((r / 3 : Nat) * 2 ^ (m + 1)) (m + 2)
def W4 (R : Bool → Nat → Bool) (m j : Nat) (p : Gr) (r : Nat) : Gr := pic (iter R (2 ^ j) p) (2 ^ m + (r % 2 : Nat) * 2 ^ (m + 1)) (2 ^ m + (r / 2 : Nat) * 2 ^ (m + 1)) (m + 2)
def M4 (R : Bool → Nat → Bool) (m j : Nat) (p : Gr) (r : Nat) : Gr := pic (iter R (2 ^ j) p) (2 ^ (m + 1) + (r % 2 : Nat) * 2 ^ (m + 1)) (2 ^ (m + 1) + (r / 2 : Nat) * 2 ^ (m + 1)) (m + 1)
def jf (m j : Nat) : Nat := if j = m + 1 then m else j
def Dem (R : Bool → Nat → Bool) (rn : Int) (S : Item → Prop) : Nat → Gr → Nat → Item → Prop
  | 0, p, j, i => ¬ S (.nt rn 2 p j) ∧ (i = .nt rn 2 p j ∨ i = .sq 1 (pic (iter R (2 ^ j) p) 1 1 1))
  | m + 1, p, j, i => ¬ S (.nt rn (m + 3) p j) ∧ (i = .nt rn (m + 3) p j ∨ i = .sq (m + 2) (pic (iter R (2 ^ j) p) (2 ^ (m + 1)) (2 ^ (m + 1)) (m + 2)) ∨ (∃ r, r < 9 ∧ (i = .sq (m + 2) (W9 m p r) ∨ Dem R rn S m (W9 m p r) (jf m j) i)) ∨ (∃ r, r < 4 ∧ if j = jf m j then i = .sq (m + 1) (M4 R m (jf m j) p r) else (i = .sq (m + 2) (W4 R m (jf m j) p r) ∨ Dem R rn S m (W4 R m (jf m j) p r) (jf m j) i)))
def D9 (R : Bool → Nat → Bool) (rn : Int) (S : Item → Prop) (m : Nat) (p : Gr) (j k : Nat) (i : Item) : Prop := ∃ r, r < k ∧ (i = .sq (m + 2) (W9 m p r) ∨ Dem R rn S m (W9 m p r) j i)
def F4 (R : Bool → Nat → Bool) (rn : Int) (S : Item → Prop) (m : Nat) (p : Gr) (j jj r : Nat) (i : Item) : Prop := if jj = j then i = .sq (m + 1) (M4 R m j p r) else (i = .sq (m + 2) (W4 R m j p r) ∨ Dem R rn S m (W4 R m j p r) j i)
def FindD (R : Bool → Nat → Bool) (rn : Int) (S : Item → Prop) : Nat → Gr → Nat → Item → Prop
  | 0, p, j, i => i = .sq 1 (pic (iter R (2 ^ j) p) 1 1 1)
  | m + 1, p, j, i => i = .sq (m + 2) (pic (iter R (2 ^ j) p) (2 ^ (m + 1)) (2 ^ (m + 1)) (m + 2)) ∨ D9 R rn S m p (jf m j) 9 i ∨ ∃ r, r < 4 ∧ F4 R rn S m p (jf m j) j r i
theorem Dem_eq (R : Bool → Nat → Bool) (rn : Int) (S : Item → Prop) (n : Nat) (p : Gr) (j : Nat) (i : Item) : Dem R rn S n p j i ↔ ¬ S (.nt rn (n + 2) p j) ∧ (i = .nt rn (n + 2) p j ∨ FindD R rn S n p j i) := by
  cases n with
  | zero => exact Iff.rfl
  | succ m => exact Iff.rfl
structure Cl (R : Bool → Nat → Bool) (rn : Int) (S : Item → Prop) (v : Vw) : Prop where
  sub : ∀ i, S i → Has v i
  clo : ∀ (n : Nat) (p : Gr) (j : Nat), j ≤ n → Has v (.nt rn (n + 2) p j) → ¬ S (.nt rn (n + 2) p j) → ∀ i, Dem R rn S n p j i → Has v i
theorem Cl.refl (R : Bool → Nat → Bool) (rn : Int) (v : Vw) : Cl R rn (Has v) v := ⟨fun _ h => h, fun _ _ _ _ h k => absurd h k⟩
end Go.Proofs.YtofbcngcblleaabGreat.A

namespace Go.Proofs.YtofbcngcblleaabGreat.A
open Go.RowKit Go.Proofs.YtofbcngcblleaabGreat.L
variable {R : Bool → Nat → Bool} {rn : Int} {S : Item → Prop} {G : Gr}
theorem step_mv (g : Gr) (a b : Int) : L.stepG R (fun x y => g (a + x) (b + y)) = fun x y => L.stepG R g (a + x) (b + y) := by
  funext x y
  unfold L.stepG nbr
  simp only [Int.add_sub_assoc, Int.add_assoc]
theorem iter_mv (a b : Int) : ∀ (n : Nat) (g : Gr), iter R n (fun x y => g (a + x) (b + y)) = fun x y => iter R n g (a + x) (b + y)
  | 0, _ => rfl
  | n + 1, g => by
    rw [iter, step_mv, iter_mv a b n]
    rfl
theorem pic_iter {H : Gr} {a b x y : Int} {N M t : Nat} (h1 : (t : Int) ≤ x) (h2 : x + 2 ^ M + t ≤ 2 ^ N) (h3 : (t : Int) ≤ y) (h4 : y + 2 ^ M + t ≤ 2 ^ N) : pic (iter R t (pic H a b N)) x y M = pic (iter R t H) (a + x) (b + y) M := by
  refine pic_agr fun X Y hX hY => ?_
  have hp := powI M
  have h := iter_agr (R := R) t (g := pic H a b N) (h := fun x y => H (a + x) (b + y)) (a := 0) (b := 2 ^ N) (c := 0) (d := 2 ^ N) (fun u v h1 h2 h3 h4 => by unfold pic; rw [if_pos ⟨h1, h2, h3, h4⟩])
  have h5 := h (x + X) (y + Y) (by omega) (by omega) (by omega) (by omega)
  rw [iter_mv] at h5
  rw [h5]
  show iter R t H (a + (x + X)) (b + (y + Y)) = _
  rw [← Int.add_assoc, ← Int.add_assoc]
def Node (s : Nat) (a b : Int) (n j k s' : Nat) (a' b' : Int) : Prop :=
  k ≤ n ∧ s ≤ s' ∧ s' + 2 ^ (min j k) ≤ s + 2 ^ j ∧ (∃ u : Nat, s' = s + u * 2 ^ (min j k)) ∧ (∃ x : Int, a' = a + ((s' : Int) - s) + x * 2 ^ (k + 1)) ∧ ∃ y : Int, b' = b + ((s' : Int) - s) + y * 2 ^ (k + 1)
def NodeI (R : Bool → Nat → Bool) (rn : Int) (G : Gr) (j k s : Nat) (a b : Int) (i : Item) : Prop :=
  i = .nt rn (k + 2) (pic (iter R s G) a b (k + 2)) ((min j k : Nat) : Int) ∨ i = .sq (k + 2) (pic (iter R s G) a b (k + 2)) ∨ i = .sq (k + 1) (pic (iter R (s + 2 ^ (min j k)) G) (a + 2 ^ k) (b + 2 ^ k) (k + 1)) ∨ (j < k ∧ ∃ r : Nat, r < 4 ∧ i = .sq k (pic (iter R (s + 2 ^ j) G) (a + 2 ^ k + (r % 2 : Nat) * 2 ^ k) (b + 2 ^ k + (r / 2 : Nat) * 2 ^ k) k))
theorem node_self {s n j : Nat} {a b : Int} (hj : j ≤ n) : Node s a b n j n s a b :=
  ⟨Nat.le_refl _, Nat.le_refl _, by rw [Nat.min_eq_left hj]; exact Nat.le_refl _, ⟨0, by simp⟩, ⟨0, by simp⟩, ⟨0, by simp⟩⟩
theorem pow_split {k m : Nat} (h : k ≤ m) : ∃ c : Nat, (2 : Nat) ^ m = c * 2 ^ k := ⟨2 ^ (m - k), by rw [← Nat.pow_add]; congr 1; omega⟩
theorem node_nine {s m j k s' : Nat} {a b a' b' : Int} (p q : Nat) (h : Node s (a + (p : Int) * 2 ^ (m + 1)) (b + (q : Int) * 2 ^ (m + 1)) m (jf m j) k s' a' b') : Node s a b (m + 1) j k s' a' b' := by
  obtain ⟨h1, h2, h3, ⟨u, h4⟩, ⟨x, h5⟩, y, h6⟩ := h
  have hmin : min (jf m j) k = min j k := by unfold jf; split <;> omega
  have hle : 2 ^ (jf m j) ≤ 2 ^ j := Nat.pow_le_pow_right (by omega) (by unfold jf; split <;> omega)
  rw [hmin] at h3 h4
  obtain ⟨c, hc⟩ := pow_split (show k + 1 ≤ m + 1 by omega)
  have hcI : (2 : Int) ^ (m + 1) = (c : Int) * 2 ^ (k + 1) := by rw [← powI, ← powI, hc, Int.natCast_mul]
  refine ⟨by omega, h2, by omega, ⟨u, h4⟩, ⟨(p : Int) * c + x, ?_⟩, (q : Int) * c + y, ?_⟩
  · rw [h5, hcI, Int.add_mul, Int.mul_assoc]; omega
  · rw [h6, hcI, Int.add_mul, Int.mul_assoc]; omega
theorem node_four {s m k s' : Nat} {a b a' b' : Int} (p q : Nat) (h : Node (s + 2 ^ m) (a + 2 ^ m + (p : Int) * 2 ^ (m + 1)) (b + 2 ^ m + (q : Int) * 2 ^ (m + 1)) m m k s' a' b') : Node s a b (m + 1) (m + 1) k s' a' b' := by
  obtain ⟨h1, h2, h3, ⟨u, h4⟩, ⟨x, h5⟩, y, h6⟩ := h
  have e1 : min m k = k := by omega
  have e2 : min (m + 1) k = k := by omega
  rw [e1] at h3 h4
  obtain ⟨c, hc⟩ := pow_split (show k + 1 ≤ m + 1 by omega)
  have hcI : (2 : Int) ^ (m + 1) = (c : Int) * 2 ^ (k + 1) := by rw [← powI, ← powI, hc, Int.natCast_mul]
  obtain ⟨d, hd⟩ := pow_split h1
  have hpm := powI m
  have h22 := two_pow m
  refine ⟨by omega, by omega, by rw [e2]; omega, ⟨d + u, by rw [e2, Nat.add_mul, ← hd]; omega⟩, ⟨(p : Int) * c + x, ?_⟩, (q : Int) * c + y, ?_⟩
  · rw [h5, hcI, Int.add_mul, Int.mul_assoc]; push_cast at *; omega
  · rw [h6, hcI, Int.add_mul, Int.mul_assoc]; push_cast at *; omega
theorem nodeI_nine {m j k s : Nat} {a b : Int} {i : Item} (hk : k ≤ m) (h : NodeI R rn G (jf m j) k s a b i) : NodeI R rn G j k s a b i := by
  have hmin : min (jf m j) k = min j k := by unfold jf; split <;> omega
  unfold NodeI at *
  rw [hmin] at h
  rcases h with h | h | h | ⟨h1, h2⟩
  · exact .inl h
  · exact .inr (.inl h)
  · exact .inr (.inr (.inl h))
  · have : jf m j = j := by
      unfold jf at h1 ⊢
      split at h1
      · omega
      · rename_i h0; rw [if_neg h0]
    rw [this] at h1 h2
    exact .inr (.inr (.inr ⟨h1, h2⟩))
theorem dem_node : ∀ (n : Nat) {s j : Nat} {a b : Int} {i : Item}, j ≤ n → Dem R rn S n (pic (iter R s G) a b (n + 2)) j i → ∃ k s' a' b', Node s a b n j k s' a' b' ∧ NodeI R rn G j k s' a' b' i
  | 0, s, j, a, b, i, hj, h => by
    have hj0 : j = 0 := by omega
    subst hj0
    refine ⟨0, s, a, b, node_self (Nat.le_refl _), ?_⟩
    rcases h.2 with h | h
    · exact .inl h
    · refine .inr (.inr (.inl ?_))
      rw [pic_iter (by decide) (by decide) (by decide) (by decide), iter_add] at h
      exact h
  | m + 1, s, j, a, b, i, hj, h => by
    have p0 : (0 : Int) < 2 ^ m := by have := powI m; have : 0 < 2 ^ m := Nat.pow_pos (by omega); omega
    have p1 := two_powI m
    have p2 : (2 : Int) ^ (m + 2) = 2 ^ (m + 1) + 2 ^ (m + 1) := two_powI (m + 1)
    have p3 : (2 : Int) ^ (m + 1 + 2) = 2 ^ (m + 2) + 2 ^ (m + 2) := two_powI (m + 2)
    have p4 : (2 : Int) ^ (m + 3) = 2 ^ (m + 2) + 2 ^ (m + 2) := two_powI (m + 2)
    have hself : Node s a b (m + 1) j (m + 1) s a b := node_self hj
    have hmin : min j (m + 1) = j := by omega
    rcases h.2 with h | h | ⟨r, hr, h⟩ | ⟨r, hr, h⟩
    · refine ⟨m + 1, s, a, b, hself, .inl ?_⟩
      rw [hmin]
      exact h
    · refine ⟨m + 1, s, a, b, hself, .inr (.inr (.inl ?_))⟩
      have hle : ((2 ^ j : Nat) : Int) ≤ 2 ^ (m + 1) := by
        have : 2 ^ j ≤ 2 ^ (m + 1) := Nat.pow_le_pow_right (by omega) hj
        have := powI (m + 1)
        omega
      rw [pic_iter hle (by omega) hle (by omega), iter_add] at h
      rw [hmin]
      exact h
    · have hW : W9 m (pic (iter R s G) a b (m + 1 + 2)) r = pic (iter R s G) (a + ((r % 3 : Nat) : Int) * 2 ^ (m + 1)) (b + ((r / 3 : Nat) : Int) * 2 ^ (m + 1)) (m + 2) := by
        unfold W9
        have hb : ∀ c : Nat, c ≤ 2 → (0 : Int) ≤ (c : Int) * 2 ^ (m + 1) ∧ (c : Int) * 2 ^ (m + 1) ≤ 2 ^ (m + 2) := fun c hc => by
          have : c = 0 ∨ c = 1 ∨ c = 2 := by omega
          rcases this with rfl | rfl | rfl <;> simp <;> omega
        obtain ⟨a1, a2⟩ := hb (r % 3) (by omega)
        obtain ⟨a3, a4⟩ := hb (r / 3) (by omega)
        have := pic_iter (R := R) (H := iter R s G) (a := a) (b := b) (x := ((r % 3 : Nat) : Int) * 2 ^ (m + 1)) (y := ((r / 3 : Nat) : Int) * 2 ^ (m + 1)) (N := m + 3) (M := m + 2) (t := 0) (by simpa using a1) (by show _ + _ + (0 : Int) ≤ _; omega) (by simpa using a3) (by show _ + _ + (0 : Int) ≤ _; omega)
        exact this
      rw [hW] at h
      rcases h with h | h
      · refine ⟨m, s, _, _, node_nine (r % 3) (r / 3) (node_self (by unfold jf; split <;> omega)), .inr (.inl h)⟩
      · obtain ⟨k, s', a', b', n1, n2⟩ := dem_node m (by unfold jf; split <;> omega) h
        exact ⟨k, s', a', b', node_nine (r % 3) (r / 3) n1, nodeI_nine n1.1 n2⟩
    · have hb2 : ∀ c : Nat, c ≤ 1 → (0 : Int) ≤ (c : Int) * 2 ^ (m + 1) ∧ (c : Int) * 2 ^ (m + 1) ≤ 2 ^ (m + 1) := fun c hc => by
        have : c = 0 ∨ c = 1 := by omega
        rcases this with rfl | rfl <;> simp <;> omega
      obtain ⟨a1, a2⟩ := hb2 (r % 2) (by omega)
      obtain ⟨a3, a4⟩ := hb2 (r / 2) (by omega)
      by_cases hjm : j = m + 1
      · subst hjm
        have hjf : jf m (m + 1) = m := by unfold jf; rw [if_pos rfl]
        rw [hjf, if_neg (by omega)] at h
        have hmI := powI m
        have hW : W4 R m m (pic (iter R s G) a b (m + 1 + 2)) r = pic (iter R (s + 2 ^ m) G) (a + 2 ^ m + ((r % 2 : Nat) : Int) * 2 ^ (m + 1)) (b + 2 ^ m + ((r / 2 : Nat) : Int) * 2 ^ (m + 1)) (m + 2) := by
          unfold W4
          rw [pic_iter (by omega) (by omega) (by omega) (by omega), iter_add, ← Int.add_assoc, ← Int.add_assoc]
        rw [hW] at h
        rcases h with h | h
        · exact ⟨m, s + 2 ^ m, _, _, node_four (r % 2) (r / 2) (node_self (Nat.le_refl _)), .inr (.inl h)⟩
        · obtain ⟨k, s', a', b', n1, n2⟩ := dem_node m (Nat.le_refl _) h
          refine ⟨k, s', a', b', node_four (r % 2) (r / 2) n1, ?_⟩
          refine nodeI_nine (m := m) n1.1 ?_
          rw [hjf]
          exact n2
      · have hjf : jf m j = j := by unfold jf; rw [if_neg hjm]
        rw [hjf, if_pos rfl] at h
        refine ⟨m + 1, s, a, b, hself, .inr (.inr (.inr ⟨by omega, r, hr, ?_⟩))⟩
        have hle : ((2 ^ j : Nat) : Int) ≤ 2 ^ m := by
          have : 2 ^ j ≤ 2 ^ m := Nat.pow_le_pow_right (by omega) (by omega)
          have := powI m
          omega
        unfold M4 at h
        rw [pic_iter (by omega) (by omega) (by omega) (by omega), iter_add, ← Int.add_assoc, ← Int.add_assoc] at h
        exact h
end Go.Proofs.YtofbcngcblleaabGreat.A
