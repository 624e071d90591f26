/- Squares that show the same are one; what holds in fewer squares. -/
namespace Go.Proofs.YtofbcngcblleaabGreat.L
abbrev Gr := Int → Int → Bool
def b2n (b : Bool) : Nat := if b then 1 else 0
def nbr (g : Gr) (x y : Int) : Nat := b2n (g (x - 1) (y - 1)) + b2n (g x (y - 1)) + b2n (g (x + 1) (y - 1)) + b2n (g (x - 1) y) + b2n (g (x + 1) y) + b2n (g (x - 1) (y + 1)) + b2n (g x (y + 1)) + b2n (g (x + 1) (y + 1))
variable (R : Bool → Nat → Bool)
def stepG (g : Gr) : Gr := fun x y => R (g x y) (nbr g x y)
def iter : Nat → Gr → Gr
  | 0, g => g
  | n + 1, g => iter n (stepG R g)
variable {R}
theorem iter_add : ∀ (n m : Nat) (g : Gr), iter R m (iter R n g) = iter R (n + m) g
  | 0, m, g => by rw [Nat.zero_add]; rfl
  | n + 1, m, g => by
    rw [iter, iter_add n m, Nat.add_right_comm, iter]
def Agr (g h : Gr) (a b c d : Int) : Prop := ∀ x y, a ≤ x → x < b → c ≤ y → y < d → g x y = h x y
theorem step_agr {g h : Gr} {a b c d : Int} (hh : Agr g h a b c d) : Agr (stepG R g) (stepG R h) (a + 1) (b - 1) (c + 1) (d - 1) := by
  intro x y h1 h2 h3 h4
  unfold stepG nbr
  rw [hh x y (by omega) (by omega) (by omega) (by omega), hh (x - 1) (y - 1) (by omega) (by omega) (by omega) (by omega), hh x (y - 1) (by omega) (by omega) (by omega) (by omega), hh (x + 1) (y - 1) (by omega) (by omega) (by omega) (by omega), hh (x - 1) y (by omega) (by omega) (by omega) (by omega), hh (x + 1) y (by omega) (by omega) (by omega) (by omega), hh (x - 1) (y + 1) (by omega) (by omega) (by omega) (by omega), hh x (y + 1) (by omega) (by omega) (by omega) (by omega), hh (x + 1) (y + 1) (by omega) (by omega) (by omega) (by omega)]
theorem iter_agr : ∀ (n : Nat) {g h : Gr} {a b c d : Int}, Agr g h a b c d → Agr (iter R n g) (iter R n h) (a + n) (b - n) (c + n) (d - n)
  | 0, g, h, a, b, c, d, hh => by intro x y h1 h2 h3 h4; exact hh x y (by omega) (by omega) (by omega) (by omega)
  | n + 1, g, h, a, b, c, d, hh => by
    intro x y h1 h2 h3 h4
    exact iter_agr n (step_agr hh) x y (by omega) (by omega) (by omega) (by omega)
abbrev Qs4 := Int → Option (Int × Int × Int × Int)
def pick4 (q : Int × Int × Int × Int) (x y : Bool) : Int := if y then (if x then q.2.2.2 else q.2.2.1) else (if x then q.2.1 else q.1)
def cellV (Q : Qs4) : Nat → Int → Nat → Nat → Bool
  | 0, id, _, _ => decide (id = 1)
  | n + 1, id, x, y => match Q id with
    | some q => cellV Q n (pick4 q (decide (2 ^ n ≤ x)) (decide (2 ^ n ≤ y))) (x % 2 ^ n) (y % 2 ^ n)
    | none => false
def IsSq (Q : Qs4) : Nat → Int → Prop
  | 0, id => id = 0 ∨ id = 1
  | n + 1, id => ∃ q, Q id = some q ∧ IsSq Q n q.1 ∧ IsSq Q n q.2.1 ∧ IsSq Q n q.2.2.1 ∧ IsSq Q n q.2.2.2
def Ext (Q Q' : Qs4) : Prop := ∀ id q, Q id = some q → Q' id = some q
theorem Ext.trans {Q Q1 Q2 : Qs4} (h : Ext Q Q1) (k : Ext Q1 Q2) : Ext Q Q2 := fun id q hq => k id q (h id q hq)
variable {Q Q' : Qs4}
theorem IsSq.ext (he : Ext Q Q') : ∀ {n : Nat} {id : Int}, IsSq Q n id → IsSq Q' n id
  | 0, _, h => h
  | _ + 1, _, ⟨q, h, h0, h1, h2, h3⟩ => ⟨q, he _ _ h, IsSq.ext he h0, IsSq.ext he h1, IsSq.ext he h2, IsSq.ext he h3⟩
theorem IsSq.pick {n : Nat} {q : Int × Int × Int × Int} (h0 : IsSq Q n q.1) (h1 : IsSq Q n q.2.1) (h2 : IsSq Q n q.2.2.1) (h3 : IsSq Q n q.2.2.2) (x y : Bool) : IsSq Q n (pick4 q x y) := by
  unfold pick4
  cases x <;> cases y <;> assumption
theorem cell_ext (he : Ext Q Q') : ∀ {n : Nat} {id : Int}, IsSq Q n id → ∀ x y, cellV Q' n id x y = cellV Q n id x y
  | 0, _, _, _, _ => rfl
  | n + 1, id, ⟨q, h, h0, h1, h2, h3⟩, x, y => by
    rw [cellV, cellV, h, he _ _ h]
    exact cell_ext he (IsSq.pick h0 h1 h2 h3 _ _) _ _
def Shows (Q : Qs4) (n : Nat) (id : Int) (g : Gr) (a b : Int) : Prop := ∀ x y : Nat, x < 2 ^ n → y < 2 ^ n → cellV Q n id x y = g (a + x) (b + y)
theorem Shows.ext {n : Nat} {id : Int} {g : Gr} {a b : Int} (h : Shows Q n id g a b) (hs : IsSq Q n id) (he : Ext Q Q') : Shows Q' n id g a b := fun x y hx hy => (cell_ext he hs x y).trans (h x y hx hy)
theorem Shows.back {n : Nat} {id : Int} {g : Gr} {a b : Int} (h : Shows Q' n id g a b) (hs : IsSq Q n id) (he : Ext Q Q') : Shows Q n id g a b := fun x y hx hy => (cell_ext he hs x y).symm.trans (h x y hx hy)
theorem two_pow (n : Nat) : 2 ^ (n + 1) = 2 ^ n + 2 ^ n := by rw [Nat.pow_succ]; omega
theorem two_powI (n : Nat) : (2 : Int) ^ (n + 1) = 2 ^ n + 2 ^ n := by rw [Int.pow_succ]; omega
theorem powI (n : Nat) : ((2 ^ n : Nat) : Int) = 2 ^ n := by rw [Int.natCast_pow]; rfl
theorem shows_join {n : Nat} {id : Int} {q : Int × Int × Int × Int} {g : Gr} {a b : Int} (hq : Q id = some q) (h0 : Shows Q n q.1 g a b) (h1 : Shows Q n q.2.1 g (a + 2 ^ n) b) (h2 : Shows Q n q.2.2.1 g a (b + 2 ^ n)) (h3 : Shows Q n q.2.2.2 g (a + 2 ^ n) (b + 2 ^ n)) : Shows Q (n + 1) id g a b := by
  intro x y hx hy
  rw [two_pow] at hx hy
  have hp : 0 < 2 ^ n := Nat.pow_pos (by omega)
  have hI := powI n
  rw [cellV, hq]
  show cellV Q n (pick4 q (decide (2 ^ n ≤ x)) (decide (2 ^ n ≤ y))) (x % 2 ^ n) (y % 2 ^ n) = _
  by_cases hx1 : 2 ^ n ≤ x
  · have ex : x % 2 ^ n = x - 2 ^ n := by rw [Nat.mod_eq_sub_mod hx1, Nat.mod_eq_of_lt (by omega)]
    by_cases hy1 : 2 ^ n ≤ y
    · have ey : y % 2 ^ n = y - 2 ^ n := by rw [Nat.mod_eq_sub_mod hy1, Nat.mod_eq_of_lt (by omega)]
      rw [decide_eq_true hx1, decide_eq_true hy1, ex, ey]
      have := h3 (x - 2 ^ n) (y - 2 ^ n) (by omega) (by omega)
      rw [show a + (x : Int) = a + 2 ^ n + ((x - 2 ^ n : Nat) : Int) by omega, show b + (y : Int) = b + 2 ^ n + ((y - 2 ^ n : Nat) : Int) by omega]
      exact this
    · rw [decide_eq_true hx1, decide_eq_false hy1, ex, Nat.mod_eq_of_lt (show y < 2 ^ n by omega)]
      have := h1 (x - 2 ^ n) y (by omega) (by omega)
      rw [show a + (x : Int) = a + 2 ^ n + ((x - 2 ^ n : Nat) : Int) by omega]
      exact this
  · by_cases hy1 : 2 ^ n ≤ y
    · have ey : y % 2 ^ n = y - 2 ^ n := by rw [Nat.mod_eq_sub_mod hy1, Nat.mod_eq_of_lt (by omega)]
      rw [decide_eq_false hx1, decide_eq_true hy1, ey, Nat.mod_eq_of_lt (show x < 2 ^ n by omega)]
      have := h2 x (y - 2 ^ n) (by omega) (by omega)
      rw [show b + (y : Int) = b + 2 ^ n + ((y - 2 ^ n : Nat) : Int) by omega]
      exact this
    · rw [decide_eq_false hx1, decide_eq_false hy1, Nat.mod_eq_of_lt (show x < 2 ^ n by omega), Nat.mod_eq_of_lt (show y < 2 ^ n by omega)]
      exact h0 x y (by omega) (by omega)
theorem shows_kids {n : Nat} {id : Int} {q : Int × Int × Int × Int} {g : Gr} {a b : Int} (hq : Q id = some q) (h : Shows Q (n + 1) id g a b) : Shows Q n q.1 g a b ∧ Shows Q n q.2.1 g (a + 2 ^ n) b ∧ Shows Q n q.2.2.1 g a (b + 2 ^ n) ∧ Shows Q n q.2.2.2 g (a + 2 ^ n) (b + 2 ^ n) := by
  have hI := powI n
  have hp : 0 < 2 ^ n := Nat.pow_pos (by omega)
  have key : ∀ (X Y : Bool) (x y : Nat), x < 2 ^ n → y < 2 ^ n → cellV Q n (pick4 q X Y) x y = g (a + (if X then 2 ^ n else 0) + x) (b + (if Y then 2 ^ n else 0) + y) := by
    intro X Y x y hx hy
    have h1 := h (x + if X then 2 ^ n else 0) (y + if Y then 2 ^ n else 0) (by rw [two_pow]; split <;> omega) (by rw [two_pow]; split <;> omega)
    rw [cellV, hq] at h1
    have h2 : cellV Q n (pick4 q (decide (2 ^ n ≤ x + if X then 2 ^ n else 0)) (decide (2 ^ n ≤ y + if Y then 2 ^ n else 0))) ((x + if X then 2 ^ n else 0) % 2 ^ n) ((y + if Y then 2 ^ n else 0) % 2 ^ n) = g (a + ((x + if X then 2 ^ n else 0 : Nat) : Int)) (b + ((y + if Y then 2 ^ n else 0 : Nat) : Int)) := h1
    cases X <;> cases Y <;> simp only [Bool.false_eq_true, if_false, if_true, Nat.add_zero, Int.add_zero] at h2 ⊢
    · rw [decide_eq_false (by omega), decide_eq_false (by omega), Nat.mod_eq_of_lt hx, Nat.mod_eq_of_lt hy] at h2
      exact h2
    · rw [decide_eq_false (by omega), decide_eq_true (by omega), Nat.mod_eq_of_lt hx, Nat.add_mod_right, Nat.mod_eq_of_lt hy] at h2
      rw [show b + 2 ^ n + (y : Int) = b + ((y + 2 ^ n : Nat) : Int) by omega]
      exact h2
    · rw [decide_eq_true (by omega), decide_eq_false (by omega), Nat.add_mod_right, Nat.mod_eq_of_lt hx, Nat.mod_eq_of_lt hy] at h2
      rw [show a + 2 ^ n + (x : Int) = a + ((x + 2 ^ n : Nat) : Int) by omega]
      exact h2
    · rw [decide_eq_true (by omega), decide_eq_true (by omega), Nat.add_mod_right, Nat.mod_eq_of_lt hx, Nat.add_mod_right, Nat.mod_eq_of_lt hy] at h2
      rw [show a + 2 ^ n + (x : Int) = a + ((x + 2 ^ n : Nat) : Int) by omega, show b + 2 ^ n + (y : Int) = b + ((y + 2 ^ n : Nat) : Int) by omega]
      exact h2
  refine ⟨fun x y hx hy => ?_, fun x y hx hy => ?_, fun x y hx hy => ?_, fun x y hx hy => ?_⟩
  · simpa [pick4] using key false false x y hx hy
  · simpa [pick4] using key true false x y hx hy
  · simpa [pick4] using key false true x y hx hy
  · simpa [pick4] using key true true x y hx hy
end Go.Proofs.YtofbcngcblleaabGreat.L

namespace Go.Proofs.YtofbcngcblleaabGreat.L
def Nx (R : Bool → Nat → Bool) (Q : Qs4) (n : Nat) (id : Int) (j : Nat) (res : Int) : Prop := IsSq Q (n + 1) res ∧ ∀ g a b, Shows Q (n + 2) id g a b → Shows Q (n + 1) res (iter R (2 ^ j) g) (a + 2 ^ n) (b + 2 ^ n)
def At (R : Bool → Nat → Bool) (Q : Qs4) (n0 : Nat) (id0 : Int) (k : Nat) (id : Int) (T : Nat) (dx dy : Int) : Prop := IsSq Q k id ∧ ∀ g a b, Shows Q n0 id0 g a b → Shows Q k id (iter R T g) (a + dx) (b + dy)
variable {R : Bool → Nat → Bool} {Q Q' : Qs4} {n0 k T : Nat} {id0 id : Int} {dx dy : Int}
theorem At.root (h : IsSq Q n0 id0) : At R Q n0 id0 n0 id0 0 0 0 := ⟨h, fun g a b hs => by rw [Int.add_zero, Int.add_zero]; exact hs⟩
theorem At.ext (h : At R Q n0 id0 k id T dx dy) (h0 : IsSq Q n0 id0) (he : Ext Q Q') : At R Q' n0 id0 k id T dx dy :=
  ⟨h.1.ext he, fun g a b hs => (h.2 g a b (hs.back h0 he)).ext h.1 he⟩
theorem At.to {dx' dy' : Int} {T' : Nat} (h : At R Q n0 id0 k id T dx dy) (hx : dx = dx') (hy : dy = dy') (hT : T = T') : At R Q n0 id0 k id T' dx' dy' := by subst hx hy hT; exact h
theorem At.kids {q : Int × Int × Int × Int} (h : At R Q n0 id0 (k + 1) id T dx dy) (hq : Q id = some q) :
    At R Q n0 id0 k q.1 T dx dy ∧ At R Q n0 id0 k q.2.1 T (dx + 2 ^ k) dy ∧ At R Q n0 id0 k q.2.2.1 T dx (dy + 2 ^ k) ∧ At R Q n0 id0 k q.2.2.2 T (dx + 2 ^ k) (dy + 2 ^ k) := by
  obtain ⟨⟨q', hq', s0, s1, s2, s3⟩, h2⟩ := h
  rw [hq] at hq'
  cases hq'
  refine ⟨⟨s0, fun g a b hs => (shows_kids hq (h2 g a b hs)).1⟩, ⟨s1, fun g a b hs => ?_⟩, ⟨s2, fun g a b hs => ?_⟩, s3, fun g a b hs => ?_⟩
  · have := (shows_kids hq (h2 g a b hs)).2.1
    rwa [Int.add_assoc] at this
  · have := (shows_kids hq (h2 g a b hs)).2.2.1
    rwa [Int.add_assoc b] at this
  · have := (shows_kids hq (h2 g a b hs)).2.2.2
    rwa [Int.add_assoc, Int.add_assoc b] at this
theorem At.join {q : Int × Int × Int × Int} (hq : Q id = some q) (h0 : At R Q n0 id0 k q.1 T dx dy) (h1 : At R Q n0 id0 k q.2.1 T (dx + 2 ^ k) dy) (h2 : At R Q n0 id0 k q.2.2.1 T dx (dy + 2 ^ k)) (h3 : At R Q n0 id0 k q.2.2.2 T (dx + 2 ^ k) (dy + 2 ^ k)) : At R Q n0 id0 (k + 1) id T dx dy := by
  refine ⟨⟨q, hq, h0.1, h1.1, h2.1, h3.1⟩, fun g a b hs => shows_join hq (h0.2 g a b hs) ?_ ?_ ?_⟩
  · have := h1.2 g a b hs
    rwa [← Int.add_assoc] at this
  · have := h2.2 g a b hs
    rwa [← Int.add_assoc b] at this
  · have := h3.2 g a b hs
    rwa [← Int.add_assoc, ← Int.add_assoc b] at this
theorem At.next {j : Nat} {res : Int} (h : At R Q n0 id0 (k + 2) id T dx dy) (hn : Nx R Q k id j res) : At R Q n0 id0 (k + 1) res (T + 2 ^ j) (dx + 2 ^ k) (dy + 2 ^ k) := by
  refine ⟨hn.1, fun g a b hs => ?_⟩
  have := hn.2 _ _ _ (h.2 g a b hs)
  rw [iter_add, Int.add_assoc, Int.add_assoc b] at this
  exact this
theorem Nx.of {n j : Nat} {res : Int} (h : At R Q (n + 2) id (n + 1) res (2 ^ j) (2 ^ n) (2 ^ n)) : Nx R Q n id j res := h
theorem Nx.ext {n j : Nat} {res : Int} (h : Nx R Q n id j res) (h0 : IsSq Q (n + 2) id) (he : Ext Q Q') : Nx R Q' n id j res := At.ext (R := R) (Q := Q) (n0 := n + 2) h h0 he
def nth4 (q : Int × Int × Int × Int) : Nat → Int
  | 0 => q.1
  | 1 => q.2.1
  | 2 => q.2.2.1
  | _ => q.2.2.2
theorem At.kid {q : Int × Int × Int × Int} (h : At R Q n0 id0 (k + 1) id T dx dy) (hq : Q id = some q) (i : Nat) (hi : i < 4) : At R Q n0 id0 k (nth4 q i) T (dx + (i % 2 : Nat) * 2 ^ k) (dy + (i / 2 : Nat) * 2 ^ k) := by
  obtain ⟨h0, h1, h2, h3⟩ := h.kids hq
  have : i = 0 ∨ i = 1 ∨ i = 2 ∨ i = 3 := by omega
  rcases this with rfl | rfl | rfl | rfl
  · exact h0.to (by simp) (by simp) rfl
  · exact h1.to (by simp) (by simp) rfl
  · exact h2.to (by simp) (by simp) rfl
  · exact h3.to (by simp) (by simp) rfl
theorem At.part {q p : Int × Int × Int × Int} (h : At R Q n0 id0 (k + 2) id T dx dy) (hq : Q id = some q) (i j : Nat) (hi : i < 4) (hj : j < 4) (hp : Q (nth4 q i) = some p) : At R Q n0 id0 k (nth4 p j) T (dx + (i % 2 * 2 + j % 2 : Nat) * 2 ^ k) (dy + (i / 2 * 2 + j / 2 : Nat) * 2 ^ k) := by
  have h1 : i = 0 ∨ i = 1 ∨ i = 2 ∨ i = 3 := by omega
  have h2 : j = 0 ∨ j = 1 ∨ j = 2 ∨ j = 3 := by omega
  refine ((h.kid hq i hi).kid hp j hj).to ?_ ?_ rfl
  all_goals
    rw [two_powI]
    generalize (2 : Int) ^ k = p2
    rcases h1 with rfl | rfl | rfl | rfl <;> rcases h2 with rfl | rfl | rfl | rfl <;> simp <;> omega
theorem At.window {P : Nat → Nat → Int} {x y : Nat} (hq : Q id = some (P x y, P (x + 1) y, P x (y + 1), P (x + 1) (y + 1))) (hP : ∀ u v, x ≤ u → u ≤ x + 1 → y ≤ v → v ≤ y + 1 → At R Q n0 id0 k (P u v) T (dx + u * 2 ^ k) (dy + v * 2 ^ k)) : At R Q n0 id0 (k + 1) id T (dx + x * 2 ^ k) (dy + y * 2 ^ k) := by
  refine At.join hq (hP x y (by omega) (by omega) (by omega) (by omega)) ((hP (x + 1) y (by omega) (by omega) (by omega) (by omega)).to ?_ rfl rfl) ((hP x (y + 1) (by omega) (by omega) (by omega) (by omega)).to rfl ?_ rfl) ((hP (x + 1) (y + 1) (by omega) (by omega) (by omega) (by omega)).to ?_ ?_ rfl)
  all_goals
    rw [Int.natCast_add, Int.add_mul]
    simp only [Int.natCast_one, Int.one_mul]
    omega
theorem At.cell {P : Nat → Nat → Int} {x y : Nat} {z : Int} (hx : 1 ≤ x) (hy : 1 ≤ y) (hP : ∀ u v, x - 1 ≤ u → u ≤ x + 1 → y - 1 ≤ v → v ≤ y + 1 → At R Q n0 id0 0 (P u v) T (dx + u) (dy + v))
    (hz : z = if R (decide (P x y = 1)) (b2n (decide (P (x - 1) (y - 1) = 1)) + b2n (decide (P x (y - 1) = 1)) + b2n (decide (P (x + 1) (y - 1) = 1)) + b2n (decide (P (x - 1) y = 1)) + b2n (decide (P (x + 1) y = 1)) + b2n (decide (P (x - 1) (y + 1) = 1)) + b2n (decide (P x (y + 1) = 1)) + b2n (decide (P (x + 1) (y + 1) = 1))) then 1 else 0) :
    At R Q n0 id0 0 z (T + 1) (dx + x) (dy + y) := by
  refine ⟨?_, fun g a b hs => ?_⟩
  · rw [hz]
    split
    · exact .inr rfl
    · exact .inl rfl
  · have hc : ∀ u v, x - 1 ≤ u → u ≤ x + 1 → y - 1 ≤ v → v ≤ y + 1 → decide (P u v = 1) = iter R T g (a + dx + u) (b + dy + v) := fun u v h1 h2 h3 h4 => by
      have := (hP u v h1 h2 h3 h4).2 g a b hs 0 0 (by decide) (by decide)
      rw [cellV] at this
      rw [this]
      congr 1 <;> omega
    intro i j hi hj
    have hi0 : i = 0 := by simpa using hi
    have hj0 : j = 0 := by simpa using hj
    subst hi0 hj0
    rw [cellV, ← iter_add T 1]
    show decide (z = 1) = stepG R (iter R T g) _ _
    unfold stepG nbr
    rw [hc x y (by omega) (by omega) (by omega) (by omega), hc (x - 1) (y - 1) (by omega) (by omega) (by omega) (by omega), hc x (y - 1) (by omega) (by omega) (by omega) (by omega), hc (x + 1) (y - 1) (by omega) (by omega) (by omega) (by omega), hc (x - 1) y (by omega) (by omega) (by omega) (by omega), hc (x + 1) y (by omega) (by omega) (by omega) (by omega), hc (x - 1) (y + 1) (by omega) (by omega) (by omega) (by omega), hc x (y + 1) (by omega) (by omega) (by omega) (by omega), hc (x + 1) (y + 1) (by omega) (by omega) (by omega) (by omega)] at hz
    have e1 : a + (dx + (x : Int)) + ((0 : Nat) : Int) = a + dx + x := by omega
    have e2 : b + (dy + (y : Int)) + ((0 : Nat) : Int) = b + dy + y := by omega
    rw [e1, e2, show a + dx + (x : Int) - 1 = a + dx + ((x - 1 : Nat) : Int) by omega, show b + dy + (y : Int) - 1 = b + dy + ((y - 1 : Nat) : Int) by omega, show a + dx + (x : Int) + 1 = a + dx + ((x + 1 : Nat) : Int) by omega, show b + dy + (y : Int) + 1 = b + dy + ((y + 1 : Nat) : Int) by omega, hz]
    cases R _ _ <;> simp
end Go.Proofs.YtofbcngcblleaabGreat.L

namespace Go.Proofs.YtofbcngcblleaabGreat.L
def Uq (Q : Qs4) : Prop := (∀ i j q, Q i = some q → Q j = some q → i = j) ∧ Q 0 = none ∧ Q 1 = none
theorem shows_self {Q : Qs4} (n : Nat) (id : Int) : Shows Q n id (fun x y => cellV Q n id x.toNat y.toNat) 0 0 := fun x y _ _ => by simp
theorem sq_one {Q : Qs4} (hu : Uq Q) : ∀ (n : Nat) {i j : Int}, IsSq Q n i → IsSq Q n j → (∀ x y, x < 2 ^ n → y < 2 ^ n → cellV Q n i x y = cellV Q n j x y) → i = j
  | 0, i, j, hi, hj, h => by
    have := h 0 0 (by decide) (by decide)
    rw [cellV, cellV] at this
    rcases hi with rfl | rfl <;> rcases hj with rfl | rfl <;> first | rfl | simp at this
  | n + 1, i, j, ⟨p, hp, p0, p1, p2, p3⟩, ⟨q, hq, q0, q1, q2, q3⟩, h => by
    have hs : Shows Q (n + 1) j (fun x y => cellV Q (n + 1) i x.toNat y.toNat) 0 0 := fun x y hx hy => by
      have := h x y hx hy
      simpa using this.symm
    obtain ⟨a0, a1, a2, a3⟩ := shows_kids hp (shows_self (n + 1) i)
    obtain ⟨b0, b1, b2, b3⟩ := shows_kids hq hs
    have e0 := sq_one hu n p0 q0 fun x y hx hy => (a0 x y hx hy).trans (b0 x y hx hy).symm
    have e1 := sq_one hu n p1 q1 fun x y hx hy => (a1 x y hx hy).trans (b1 x y hx hy).symm
    have e2 := sq_one hu n p2 q2 fun x y hx hy => (a2 x y hx hy).trans (b2 x y hx hy).symm
    have e3 := sq_one hu n p3 q3 fun x y hx hy => (a3 x y hx hy).trans (b3 x y hx hy).symm
    have e : p = q := by
      obtain ⟨x0, x1, x2, x3⟩ := p
      obtain ⟨y0, y1, y2, y3⟩ := q
      simp only at e0 e1 e2 e3
      rw [e0, e1, e2, e3]
    exact hu.1 i j p hp (by rw [e]; exact hq)
theorem nx_one {R : Bool → Nat → Bool} {Q : Qs4} (hu : Uq Q) {n j : Nat} {id v v' : Int} (h : Nx R Q n id j v) (k : Nx R Q n id j v') : v = v' := by
  refine sq_one hu (n + 1) h.1 k.1 fun x y hx hy => ?_
  rw [h.2 _ _ _ (shows_self (n + 2) id) x y hx hy, k.2 _ _ _ (shows_self (n + 2) id) x y hx hy]
theorem Nx.less {R : Bool → Nat → Bool} {Q Q' : Qs4} {n j : Nat} {id v : Int} (h : Nx R Q' n id j v) (he : Ext Q Q') (hi : IsSq Q (n + 2) id) (hv : IsSq Q (n + 1) v) : Nx R Q n id j v :=
  ⟨hv, fun g a b hs => (h.2 g a b (hs.ext hi he)).back hv he⟩
end Go.Proofs.YtofbcngcblleaabGreat.L
