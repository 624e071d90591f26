/- What holds of an arena holds behind Back. -/
import Derived.Test.YtofbcngcblleaaaGreatArReach
import Derived.Lib.MinMax
namespace Go.Proofs.YtofbcngcblleaaaGreat.L

/-- a plane of cells -/
abbrev Gr := Int → Int → Bool
def b2n (b : Bool) : Nat := if b then 1 else 0
/-- how many live beside -/
def nbr (g : Gr) (x y : Int) : Nat := b2n (g (x - 1) (y - 1)) + b2n (g x (y - 1)) + b2n (g (x + 1) (y - 1)) + b2n (g (x - 1) y) + b2n (g (x + 1) y) + b2n (g (x - 1) (y + 1)) + b2n (g x (y + 1)) + b2n (g (x + 1) (y + 1))
variable (R : Bool → Nat → Bool)
/-- one step by a rule -/
def stepG (g : Gr) : Gr := fun x y => R (g x y) (nbr g x y)
/-- so many steps -/
def iter : Nat → Gr → Gr
  | 0, g => g
  | n + 1, g => iter n (stepG R g)
variable {R}
theorem iter_add : ∀ (n m : Nat) (g : Gr), iter R m (iter R n g) = iter R (n + m) g
  | 0, m, g => by rw [Nat.zero_add]; rfl
  | n + 1, m, g => by
    rw [iter, iter_add n m, Nat.add_right_comm, iter]
/-- two planes are alike in a box -/
def Agr (g h : Gr) (a b c d : Int) : Prop := ∀ x y, a ≤ x → x < b → c ≤ y → y < d → g x y = h x y
theorem step_agr {g h : Gr} {a b c d : Int} (hh : Agr g h a b c d) : Agr (stepG R g) (stepG R h) (a + 1) (b - 1) (c + 1) (d - 1) := by
  intro x y h1 h2 h3 h4
  unfold stepG nbr
  rw [hh x y (by omega) (by omega) (by omega) (by omega), hh (x - 1) (y - 1) (by omega) (by omega) (by omega) (by omega), hh x (y - 1) (by omega) (by omega) (by omega) (by omega), hh (x + 1) (y - 1) (by omega) (by omega) (by omega) (by omega), hh (x - 1) y (by omega) (by omega) (by omega) (by omega), hh (x + 1) y (by omega) (by omega) (by omega) (by omega), hh (x - 1) (y + 1) (by omega) (by omega) (by omega) (by omega), hh x (y + 1) (by omega) (by omega) (by omega) (by omega), hh (x + 1) (y + 1) (by omega) (by omega) (by omega) (by omega)]
theorem iter_agr : ∀ (n : Nat) {g h : Gr} {a b c d : Int}, Agr g h a b c d → Agr (iter R n g) (iter R n h) (a + n) (b - n) (c + n) (d - n)
  | 0, g, h, a, b, c, d, hh => by intro x y h1 h2 h3 h4; exact hh x y (by omega) (by omega) (by omega) (by omega)
  | n + 1, g, h, a, b, c, d, hh => by
    intro x y h1 h2 h3 h4
    exact iter_agr n (step_agr hh) x y (by omega) (by omega) (by omega) (by omega)

/-- a square's four quarters -/
abbrev Qs4 := Int → Option (Int × Int × Int × Int)
/-- which of four -/
def pick4 (q : Int × Int × Int × Int) (x y : Bool) : Int := if y then (if x then q.2.2.2 else q.2.2.1) else (if x then q.2.1 else q.1)
/-- a cell of a square of a level, its corner at 0 -/
def cellV (Q : Qs4) : Nat → Int → Nat → Nat → Bool
  | 0, id, _, _ => decide (id = 1)
  | n + 1, id, x, y => match Q id with
    | some q => cellV Q n (pick4 q (decide (2 ^ n ≤ x)) (decide (2 ^ n ≤ y))) (x % 2 ^ n) (y % 2 ^ n)
    | none => false
/-- a square of a level, all of which is there -/
def IsSq (Q : Qs4) : Nat → Int → Prop
  | 0, id => id = 0 ∨ id = 1
  | n + 1, id => ∃ q, Q id = some q ∧ IsSq Q n q.1 ∧ IsSq Q n q.2.1 ∧ IsSq Q n q.2.2.1 ∧ IsSq Q n q.2.2.2
/-- more squares are there -/
def Ext (Q Q' : Qs4) : Prop := ∀ id q, Q id = some q → Q' id = some q
theorem Ext.trans {Q Q1 Q2 : Qs4} (h : Ext Q Q1) (k : Ext Q1 Q2) : Ext Q Q2 := fun id q hq => k id q (h id q hq)
variable {Q Q' : Qs4}
theorem IsSq.ext (he : Ext Q Q') : ∀ {n : Nat} {id : Int}, IsSq Q n id → IsSq Q' n id
  | 0, _, h => h
  | _ + 1, _, ⟨q, h, h0, h1, h2, h3⟩ => ⟨q, he _ _ h, IsSq.ext he h0, IsSq.ext he h1, IsSq.ext he h2, IsSq.ext he h3⟩
theorem IsSq.pick {n : Nat} {q : Int × Int × Int × Int} (h0 : IsSq Q n q.1) (h1 : IsSq Q n q.2.1) (h2 : IsSq Q n q.2.2.1) (h3 : IsSq Q n q.2.2.2) (x y : Bool) : IsSq Q n (pick4 q x y) := by
  unfold pick4
  cases x <;> cases y <;> assumption
theorem cell_ext (he : Ext Q Q') : ∀ {n : Nat} {id : Int}, IsSq Q n id → ∀ x y, cellV Q' n id x y = cellV Q n id x y
  | 0, _, _, _, _ => rfl
  | n + 1, id, ⟨q, h, h0, h1, h2, h3⟩, x, y => by
    rw [cellV, cellV, h, he _ _ h]
    exact cell_ext he (IsSq.pick h0 h1 h2 h3 _ _) _ _
/-- what a square shows of a plane -/
def Shows (Q : Qs4) (n : Nat) (id : Int) (g : Gr) (a b : Int) : Prop := ∀ x y : Nat, x < 2 ^ n → y < 2 ^ n → cellV Q n id x y = g (a + x) (b + y)
theorem Shows.ext {n : Nat} {id : Int} {g : Gr} {a b : Int} (h : Shows Q n id g a b) (hs : IsSq Q n id) (he : Ext Q Q') : Shows Q' n id g a b := fun x y hx hy => (cell_ext he hs x y).trans (h x y hx hy)
theorem Shows.back {n : Nat} {id : Int} {g : Gr} {a b : Int} (h : Shows Q' n id g a b) (hs : IsSq Q n id) (he : Ext Q Q') : Shows Q n id g a b := fun x y hx hy => (cell_ext he hs x y).symm.trans (h x y hx hy)
theorem two_pow (n : Nat) : 2 ^ (n + 1) = 2 ^ n + 2 ^ n := by rw [Nat.pow_succ]; omega
theorem two_powI (n : Nat) : (2 : Int) ^ (n + 1) = 2 ^ n + 2 ^ n := by rw [Int.pow_succ]; omega
theorem powI (n : Nat) : ((2 ^ n : Nat) : Int) = 2 ^ n := by rw [Int.natCast_pow]; rfl
/-- four squares make one -/
theorem shows_join {n : Nat} {id : Int} {q : Int × Int × Int × Int} {g : Gr} {a b : Int} (hq : Q id = some q) (h0 : Shows Q n q.1 g a b) (h1 : Shows Q n q.2.1 g (a + 2 ^ n) b) (h2 : Shows Q n q.2.2.1 g a (b + 2 ^ n)) (h3 : Shows Q n q.2.2.2 g (a + 2 ^ n) (b + 2 ^ n)) : Shows Q (n + 1) id g a b := by
  intro x y hx hy
  rw [two_pow] at hx hy
  have hp : 0 < 2 ^ n := Nat.pow_pos (by omega)
  have hI := powI n
  rw [cellV, hq]
  show cellV Q n (pick4 q (decide (2 ^ n ≤ x)) (decide (2 ^ n ≤ y))) (x % 2 ^ n) (y % 2 ^ n) = _
  by_cases hx1 : 2 ^ n ≤ x
  · have ex : x % 2 ^ n = x - 2 ^ n := by rw [Nat.mod_eq_sub_mod hx1, Nat.mod_eq_of_lt (by omega)]
    by_cases hy1 : 2 ^ n ≤ y
    · have ey : y % 2 ^ n = y - 2 ^ n := by rw [Nat.mod_eq_sub_mod hy1, Nat.mod_eq_of_lt (by omega)]
      rw [decide_eq_true hx1, decide_eq_true hy1, ex, ey]
      have := h3 (x - 2 ^ n) (y - 2 ^ n) (by omega) (by omega)
      rw [show a + (x : Int) = a + 2 ^ n + ((x - 2 ^ n : Nat) : Int) by omega, show b + (y : Int) = b + 2 ^ n + ((y - 2 ^ n : Nat) : Int) by omega]
      exact this
    · rw [decide_eq_true hx1, decide_eq_false hy1, ex, Nat.mod_eq_of_lt (show y < 2 ^ n by omega)]
      have := h1 (x - 2 ^ n) y (by omega) (by omega)
      rw [show a + (x : Int) = a + 2 ^ n + ((x - 2 ^ n : Nat) : Int) by omega]
      exact this
  · by_cases hy1 : 2 ^ n ≤ y
    · have ey : y % 2 ^ n = y - 2 ^ n := by rw [Nat.mod_eq_sub_mod hy1, Nat.mod_eq_of_lt (by omega)]
      rw [decide_eq_false hx1, decide_eq_true hy1, ey, Nat.mod_eq_of_lt (show x < 2 ^ n by omega)]
      have := h2 x (y - 2 ^ n) (by omega) (by omega)
      rw [show b + (y : Int) = b + 2 ^ n + ((y - 2 ^ n : Nat) : Int) by omega]
      exact this
    · rw [decide_eq_false hx1, decide_eq_false hy1, Nat.mod_eq_of_lt (show x < 2 ^ n by omega), Nat.mod_eq_of_lt (show y < 2 ^ n by omega)]
      exact h0 x y (by omega) (by omega)
/-- and one is made of four -/
theorem shows_kids {n : Nat} {id : Int} {q : Int × Int × Int × Int} {g : Gr} {a b : Int} (hq : Q id = some q) (h : Shows Q (n + 1) id g a b) : Shows Q n q.1 g a b ∧ Shows Q n q.2.1 g (a + 2 ^ n) b ∧ Shows Q n q.2.2.1 g a (b + 2 ^ n) ∧ Shows Q n q.2.2.2 g (a + 2 ^ n) (b + 2 ^ n) := by
  have hI := powI n
  have hp : 0 < 2 ^ n := Nat.pow_pos (by omega)
  have key : ∀ (X Y : Bool) (x y : Nat), x < 2 ^ n → y < 2 ^ n → cellV Q n (pick4 q X Y) x y = g (a + (if X then 2 ^ n else 0) + x) (b + (if Y then 2 ^ n else 0) + y) := by
    intro X Y x y hx hy
    have h1 := h (x + if X then 2 ^ n else 0) (y + if Y then 2 ^ n else 0) (by rw [two_pow]; split <;> omega) (by rw [two_pow]; split <;> omega)
    rw [cellV, hq] at h1
    have h2 : cellV Q n (pick4 q (decide (2 ^ n ≤ x + if X then 2 ^ n else 0)) (decide (2 ^ n ≤ y + if Y then 2 ^ n else 0))) ((x + if X then 2 ^ n else 0) % 2 ^ n) ((y + if Y then 2 ^ n else 0) % 2 ^ n) = g (a + ((x + if X then 2 ^ n else 0 : Nat) : Int)) (b + ((y + if Y then 2 ^ n else 0 : Nat) : Int)) := h1
    cases X <;> cases Y <;> simp only [Bool.false_eq_true, if_false, if_true, Nat.add_zero, Int.add_zero] at h2 ⊢
    · rw [decide_eq_false (by omega), decide_eq_false (by omega), Nat.mod_eq_of_lt hx, Nat.mod_eq_of_lt hy] at h2
      exact h2
    · rw [decide_eq_false (by omega), decide_eq_true (by omega), Nat.mod_eq_of_lt hx, Nat.add_mod_right, Nat.mod_eq_of_lt hy] at h2
      rw [show b + 2 ^ n + (y : Int) = b + ((y + 2 ^ n : Nat) : Int) by omega]
      exact h2
    · rw [decide_eq_true (by omega), decide_eq_false (by omega), Nat.add_mod_right, Nat.mod_eq_of_lt hx, Nat.mod_eq_of_lt hy] at h2
      rw [show a + 2 ^ n + (x : Int) = a + ((x + 2 ^ n : Nat) : Int) by omega]
      exact h2
    · rw [decide_eq_true (by omega), decide_eq_true (by omega), Nat.add_mod_right, Nat.mod_eq_of_lt hx, Nat.add_mod_right, Nat.mod_eq_of_lt hy] at h2
      rw [show a + 2 ^ n + (x : Int) = a + ((x + 2 ^ n : Nat) : Int) by omega, show b + 2 ^ n + (y : Int) = b + ((y + 2 ^ n : Nat) : Int) by omega]
      exact h2
  refine ⟨fun x y hx hy => ?_, fun x y hx hy => ?_, fun x y hx hy => ?_, fun x y hx hy => ?_⟩
  · simpa [pick4] using key false false x y hx hy
  · simpa [pick4] using key true false x y hx hy
  · simpa [pick4] using key false true x y hx hy
  · simpa [pick4] using key true true x y hx hy
end Go.Proofs.YtofbcngcblleaaaGreat.L

namespace Go.Proofs.YtofbcngcblleaaaGreat.L

/-- a square is the middle of another one, 2^j steps later -/
def Nx (R : Bool → Nat → Bool) (Q : Qs4) (n : Nat) (id : Int) (j : Nat) (res : Int) : Prop := IsSq Q (n + 1) res ∧ ∀ g a b, Shows Q (n + 2) id g a b → Shows Q (n + 1) res (iter R (2 ^ j) g) (a + 2 ^ n) (b + 2 ^ n)
/-- a square shows, of what the first one shows, what lies so far off, so many steps later -/
def At (R : Bool → Nat → Bool) (Q : Qs4) (n0 : Nat) (id0 : Int) (k : Nat) (id : Int) (T : Nat) (dx dy : Int) : Prop := IsSq Q k id ∧ ∀ g a b, Shows Q n0 id0 g a b → Shows Q k id (iter R T g) (a + dx) (b + dy)
variable {R : Bool → Nat → Bool} {Q Q' : Qs4} {n0 k T : Nat} {id0 id : Int} {dx dy : Int}
theorem At.root (h : IsSq Q n0 id0) : At R Q n0 id0 n0 id0 0 0 0 := ⟨h, fun g a b hs => by rw [Int.add_zero, Int.add_zero]; exact hs⟩
theorem At.ext (h : At R Q n0 id0 k id T dx dy) (h0 : IsSq Q n0 id0) (he : Ext Q Q') : At R Q' n0 id0 k id T dx dy :=
  ⟨h.1.ext he, fun g a b hs => (h.2 g a b (hs.back h0 he)).ext h.1 he⟩
theorem At.to {dx' dy' : Int} {T' : Nat} (h : At R Q n0 id0 k id T dx dy) (hx : dx = dx') (hy : dy = dy') (hT : T = T') : At R Q n0 id0 k id T' dx' dy' := by subst hx hy hT; exact h
theorem At.kids {q : Int × Int × Int × Int} (h : At R Q n0 id0 (k + 1) id T dx dy) (hq : Q id = some q) :
    At R Q n0 id0 k q.1 T dx dy ∧ At R Q n0 id0 k q.2.1 T (dx + 2 ^ k) dy ∧ At R Q n0 id0 k q.2.2.1 T dx (dy + 2 ^ k) ∧ At R Q n0 id0 k q.2.2.2 T (dx + 2 ^ k) (dy + 2 ^ k) := by
  obtain ⟨⟨q', hq', s0, s1, s2, s3⟩, h2⟩ := h
  rw [hq] at hq'
  cases hq'
  refine ⟨⟨s0, fun g a b hs => (shows_kids hq (h2 g a b hs)).1⟩, ⟨s1, fun g a b hs => ?_⟩, ⟨s2, fun g a b hs => ?_⟩, s3, fun g a b hs => ?_⟩
  · have := (shows_kids hq (h2 g a b hs)).2.1
    rwa [Int.add_assoc] at this
  · have := (shows_kids hq (h2 g a b hs)).2.2.1
    rwa [Int.add_assoc b] at this
  · have := (shows_kids hq (h2 g a b hs)).2.2.2
    rwa [Int.add_assoc, Int.add_assoc b] at this
theorem At.join {q : Int × Int × Int × Int} (hq : Q id = some q) (h0 : At R Q n0 id0 k q.1 T dx dy) (h1 : At R Q n0 id0 k q.2.1 T (dx + 2 ^ k) dy) (h2 : At R Q n0 id0 k q.2.2.1 T dx (dy + 2 ^ k)) (h3 : At R Q n0 id0 k q.2.2.2 T (dx + 2 ^ k) (dy + 2 ^ k)) : At R Q n0 id0 (k + 1) id T dx dy := by
  refine ⟨⟨q, hq, h0.1, h1.1, h2.1, h3.1⟩, fun g a b hs => shows_join hq (h0.2 g a b hs) ?_ ?_ ?_⟩
  · have := h1.2 g a b hs
    rwa [← Int.add_assoc] at this
  · have := h2.2 g a b hs
    rwa [← Int.add_assoc b] at this
  · have := h3.2 g a b hs
    rwa [← Int.add_assoc, ← Int.add_assoc b] at this
theorem At.next {j : Nat} {res : Int} (h : At R Q n0 id0 (k + 2) id T dx dy) (hn : Nx R Q k id j res) : At R Q n0 id0 (k + 1) res (T + 2 ^ j) (dx + 2 ^ k) (dy + 2 ^ k) := by
  refine ⟨hn.1, fun g a b hs => ?_⟩
  have := hn.2 _ _ _ (h.2 g a b hs)
  rw [iter_add, Int.add_assoc, Int.add_assoc b] at this
  exact this
theorem Nx.of {n j : Nat} {res : Int} (h : At R Q (n + 2) id (n + 1) res (2 ^ j) (2 ^ n) (2 ^ n)) : Nx R Q n id j res := h
theorem Nx.ext {n j : Nat} {res : Int} (h : Nx R Q n id j res) (h0 : IsSq Q (n + 2) id) (he : Ext Q Q') : Nx R Q' n id j res := At.ext (R := R) (Q := Q) (n0 := n + 2) h h0 he
/-- a quarter by its number -/
def nth4 (q : Int × Int × Int × Int) : Nat → Int
  | 0 => q.1
  | 1 => q.2.1
  | 2 => q.2.2.1
  | _ => q.2.2.2
theorem At.kid {q : Int × Int × Int × Int} (h : At R Q n0 id0 (k + 1) id T dx dy) (hq : Q id = some q) (i : Nat) (hi : i < 4) : At R Q n0 id0 k (nth4 q i) T (dx + (i % 2 : Nat) * 2 ^ k) (dy + (i / 2 : Nat) * 2 ^ k) := by
  obtain ⟨h0, h1, h2, h3⟩ := h.kids hq
  have : i = 0 ∨ i = 1 ∨ i = 2 ∨ i = 3 := by omega
  rcases this with rfl | rfl | rfl | rfl
  · exact h0.to (by simp) (by simp) rfl
  · exact h1.to (by simp) (by simp) rfl
  · exact h2.to (by simp) (by simp) rfl
  · exact h3.to (by simp) (by simp) rfl
/-- a quarter of a quarter, by its place among sixteen -/
theorem At.part {q p : Int × Int × Int × Int} (h : At R Q n0 id0 (k + 2) id T dx dy) (hq : Q id = some q) (i j : Nat) (hi : i < 4) (hj : j < 4) (hp : Q (nth4 q i) = some p) : At R Q n0 id0 k (nth4 p j) T (dx + (i % 2 * 2 + j % 2 : Nat) * 2 ^ k) (dy + (i / 2 * 2 + j / 2 : Nat) * 2 ^ k) := by
  have h1 : i = 0 ∨ i = 1 ∨ i = 2 ∨ i = 3 := by omega
  have h2 : j = 0 ∨ j = 1 ∨ j = 2 ∨ j = 3 := by omega
  refine ((h.kid hq i hi).kid hp j hj).to ?_ ?_ rfl
  all_goals
    rw [two_powI]
    generalize (2 : Int) ^ k = p2
    rcases h1 with rfl | rfl | rfl | rfl <;> rcases h2 with rfl | rfl | rfl | rfl <;> simp <;> omega
/-- four of a row of squares, at a distance, joined -/
theorem At.window {P : Nat → Nat → Int} {x y : Nat} (hq : Q id = some (P x y, P (x + 1) y, P x (y + 1), P (x + 1) (y + 1))) (hP : ∀ u v, x ≤ u → u ≤ x + 1 → y ≤ v → v ≤ y + 1 → At R Q n0 id0 k (P u v) T (dx + u * 2 ^ k) (dy + v * 2 ^ k)) : At R Q n0 id0 (k + 1) id T (dx + x * 2 ^ k) (dy + y * 2 ^ k) := by
  refine At.join hq (hP x y (by omega) (by omega) (by omega) (by omega)) ((hP (x + 1) y (by omega) (by omega) (by omega) (by omega)).to ?_ rfl rfl) ((hP x (y + 1) (by omega) (by omega) (by omega) (by omega)).to rfl ?_ rfl) ((hP (x + 1) (y + 1) (by omega) (by omega) (by omega) (by omega)).to ?_ ?_ rfl)
  all_goals
    rw [Int.natCast_add, Int.add_mul]
    simp only [Int.natCast_one, Int.one_mul]
    omega
/-- a cell one step later, of the nine around it -/
theorem At.cell {P : Nat → Nat → Int} {x y : Nat} {z : Int} (hx : 1 ≤ x) (hy : 1 ≤ y) (hP : ∀ u v, x - 1 ≤ u → u ≤ x + 1 → y - 1 ≤ v → v ≤ y + 1 → At R Q n0 id0 0 (P u v) T (dx + u) (dy + v))
    (hz : z = if R (decide (P x y = 1)) (b2n (decide (P (x - 1) (y - 1) = 1)) + b2n (decide (P x (y - 1) = 1)) + b2n (decide (P (x + 1) (y - 1) = 1)) + b2n (decide (P (x - 1) y = 1)) + b2n (decide (P (x + 1) y = 1)) + b2n (decide (P (x - 1) (y + 1) = 1)) + b2n (decide (P x (y + 1) = 1)) + b2n (decide (P (x + 1) (y + 1) = 1))) then 1 else 0) :
    At R Q n0 id0 0 z (T + 1) (dx + x) (dy + y) := by
  refine ⟨?_, fun g a b hs => ?_⟩
  · rw [hz]
    split
    · exact .inr rfl
    · exact .inl rfl
  · have hc : ∀ u v, x - 1 ≤ u → u ≤ x + 1 → y - 1 ≤ v → v ≤ y + 1 → decide (P u v = 1) = iter R T g (a + dx + u) (b + dy + v) := fun u v h1 h2 h3 h4 => by
      have := (hP u v h1 h2 h3 h4).2 g a b hs 0 0 (by decide) (by decide)
      rw [cellV] at this
      rw [this]
      congr 1 <;> omega
    intro i j hi hj
    have hi0 : i = 0 := by simpa using hi
    have hj0 : j = 0 := by simpa using hj
    subst hi0 hj0
    rw [cellV, ← iter_add T 1]
    show decide (z = 1) = stepG R (iter R T g) _ _
    unfold stepG nbr
    rw [hc x y (by omega) (by omega) (by omega) (by omega), hc (x - 1) (y - 1) (by omega) (by omega) (by omega) (by omega), hc x (y - 1) (by omega) (by omega) (by omega) (by omega), hc (x + 1) (y - 1) (by omega) (by omega) (by omega) (by omega), hc (x - 1) y (by omega) (by omega) (by omega) (by omega), hc (x + 1) y (by omega) (by omega) (by omega) (by omega), hc (x - 1) (y + 1) (by omega) (by omega) (by omega) (by omega), hc x (y + 1) (by omega) (by omega) (by omega) (by omega), hc (x + 1) (y + 1) (by omega) (by omega) (by omega) (by omega)] at hz
    have e1 : a + (dx + (x : Int)) + ((0 : Nat) : Int) = a + dx + x := by omega
    have e2 : b + (dy + (y : Int)) + ((0 : Nat) : Int) = b + dy + y := by omega
    rw [e1, e2, show a + dx + (x : Int) - 1 = a + dx + ((x - 1 : Nat) : Int) by omega, show b + dy + (y : Int) - 1 = b + dy + ((y - 1 : Nat) : Int) by omega, show a + dx + (x : Int) + 1 = a + dx + ((x + 1 : Nat) : Int) by omega, show b + dy + (y : Int) + 1 = b + dy + ((y + 1 : Nat) : Int) by omega, hz]
    cases R _ _ <;> simp
end Go.Proofs.YtofbcngcblleaaaGreat.L

namespace Go.Proofs.YtofbcngcblleaaaGreat.A
open Go.RowKit Go.Maps

/-- the level of a square, whosever it is -/
def glev (l : List Th) (id : Int) : Option Int := if id = 0 ∨ id = 1 then some 0 else if 2 ≤ id then (match l[(id - 2).toNat]? with | some x => if x.k = 1 then some x.lv else none | none => none) else none
theorem glev_iff {l : List Th} {id a : Int} : glev l id = some a ↔ (id = 0 ∨ id = 1) ∧ a = 0 ∨ 2 ≤ id ∧ ∃ x, l[(id - 2).toNat]? = some x ∧ x.k = 1 ∧ x.lv = a := by
  unfold glev
  by_cases h : id = 0 ∨ id = 1
  · rw [if_pos h]
    constructor
    · intro e; exact .inl ⟨h, (Option.some.inj e).symm⟩
    · rintro (⟨_, e⟩ | ⟨e, _⟩)
      · rw [e]
      · omega
  · rw [if_neg h]
    by_cases h2 : 2 ≤ id
    · rw [if_pos h2]
      constructor
      · intro e
        split at e
        · rename_i x hx
          split at e
          · exact .inr ⟨h2, x, hx, by assumption, Option.some.inj e⟩
          · cases e
        · cases e
      · rintro (⟨e, _⟩ | ⟨_, x, hx, hk, e⟩)
        · exact absurd e h
        · rw [hx]; simp only; rw [if_pos hk, e]
    · rw [if_neg h2]
      constructor
      · intro e; cases e
      · rintro (⟨e, _⟩ | ⟨e, _⟩)
        · exact absurd e h
        · exact absurd e h2
theorem levV_iff {V : Int → Option (Ky × Int × Int)} {id a : Int} : levV V id = some a ↔ (id = 0 ∨ id = 1) ∧ a = 0 ∨ ¬ (id = 0 ∨ id = 1) ∧ ∃ f, V id = some f ∧ f.1.k = 1 ∧ f.2.1 = a := by
  unfold levV
  by_cases h : id = 0 ∨ id = 1
  · rw [if_pos h]
    constructor
    · intro e; exact .inl ⟨h, (Option.some.inj e).symm⟩
    · rintro (⟨_, e⟩ | ⟨e, _⟩)
      · rw [e]
      · exact absurd h e
  · rw [if_neg h]
    constructor
    · intro e
      split at e
      · rename_i f hf
        split at e
        · exact .inr ⟨h, f, hf, by assumption, Option.some.inj e⟩
        · cases e
      · cases e
    · rintro (⟨e, _⟩ | ⟨_, f, hf, hk, e⟩)
      · exact absurd e h
      · rw [hf]; simp only; rw [if_pos hk, e]
theorem level_own {l : List Th} {u : Nat} {id a : Int} (h : levV (ownV l u) id = some a) : (id = 0 ∨ id = 1) ∧ a = 0 ∨ 2 ≤ id ∧ ∃ x, l[(id - 2).toNat]? = some x ∧ x.mask.testBit u = true ∧ x.k = 1 ∧ x.lv = a := by
  rcases levV_iff.1 h with e | ⟨_, f, hf, hk, e⟩
  · exact .inl e
  · obtain ⟨h1, x, h2, h3, h4⟩ := ownV_iff.1 hf
    subst h4
    exact .inr ⟨h1, x, h2, h3, hk, e⟩
theorem level_glev {l : List Th} {u : Nat} {id a : Int} (h : levV (ownV l u) id = some a) : glev l id = some a := by
  rcases level_own h with e | ⟨h1, x, h2, _, h4, h5⟩
  · exact glev_iff.2 (.inl e)
  · exact glev_iff.2 (.inr ⟨h1, x, h2, h4, h5⟩)
/-- all squares fit together -/
structure GL (l : List Th) : Prop where
  sq : ∀ x ∈ l, x.k = 1 → ∀ r ∈ partsT x, glev l r = some (x.lv - 1)
  va : ∀ x ∈ l, x.k = 1 → x.va = 0
  lv : ∀ x ∈ l, x.k ≠ 1 → x.lv = 0
/-- what a tenant sees is whole -/
structure Wel (v : Vw) : Prop where
  two : ∀ id f, v.V id = some f → 2 ≤ id
  clo : ∀ id f, v.V id = some f → ∀ r ∈ refsV f, (levV v.V r).isSome = true
  lev : ∀ id f, v.V id = some f → f.1.k = 1 → ∀ r ∈ refsV f, levV v.V r = some (f.2.1 - 1)
  fr : ∀ n id f, v.V id = some f → id ∉ v.fresh.drop n → ∀ r ∈ refsV f, r ∉ v.fresh.drop n
  fo : ∀ id ∈ v.fresh, ∃ f, v.V id = some f
theorem levV_more {v : Vw} {id r : Int} {f : Ky × Int × Int} (hn : v.V id = none) (h : (levV v.V r).isSome = true) : levV (v.more id f).V r = levV v.V r := by
  obtain ⟨a, ha⟩ := Option.isSome_iff_exists.1 h
  rw [ha]
  rcases levV_iff.1 ha with e | ⟨h1, g, hg, hk, e⟩
  · exact levV_iff.2 (.inl e)
  · refine levV_iff.2 (.inr ⟨h1, g, ?_, hk, e⟩)
    show (if r = id then some f else v.V r) = _
    rw [if_neg fun e => by rw [e, hn] at hg; cases hg]
    exact hg
theorem known_ne {v : Vw} {id r : Int} (hid : 2 ≤ id) (hn : v.V id = none) (hr : (levV v.V r).isSome = true) : r ≠ id := fun e => by
  obtain ⟨a, ha⟩ := Option.isSome_iff_exists.1 hr
  rcases levV_iff.1 ha with ⟨e', _⟩ | ⟨_, g, hg, _⟩
  · omega
  · rw [e, hn] at hg; cases hg
theorem Wel.more {v : Vw} (h : Wel v) {id : Int} {f : Ky × Int × Int} (hid : 2 ≤ id) (hn : v.V id = none) (hr : ∀ r ∈ refsV f, (levV v.V r).isSome = true) (hl : f.1.k = 1 → ∀ r ∈ refsV f, levV v.V r = some (f.2.1 - 1)) : Wel (v.more id f) := by
  have get : ∀ k g, (v.more id f).V k = some g → k = id ∧ g = f ∨ k ≠ id ∧ v.V k = some g := fun k g hk => by
    have hk : (if k = id then some f else v.V k) = some g := hk
    by_cases e : k = id
    · rw [if_pos e] at hk; exact .inl ⟨e, (Option.some.inj hk).symm⟩
    · rw [if_neg e] at hk; exact .inr ⟨e, hk⟩
  have hidf : id ∉ v.fresh := fun hm => by obtain ⟨g, hg⟩ := h.fo id hm; rw [hn] at hg; cases hg
  refine ⟨fun k g hk => ?_, fun k g hk r hr' => ?_, fun k g hk h1 r hr' => ?_, fun n k g hk hnf r hr' => ?_, fun k hk => ?_⟩
  · rcases get k g hk with ⟨e, _⟩ | ⟨_, e⟩
    · omega
    · exact h.two k g e
  · rcases get k g hk with ⟨_, e⟩ | ⟨_, e⟩
    · subst e; rw [levV_more hn (hr r hr')]; exact hr r hr'
    · have := h.clo k g e r hr'
      rw [levV_more hn this]; exact this
  · rcases get k g hk with ⟨_, e⟩ | ⟨_, e⟩
    · subst e; rw [levV_more hn (hr r hr')]; exact hl h1 r hr'
    · rw [levV_more hn (h.clo k g e r hr')]; exact h.lev k g e h1 r hr'
  · have hf : (v.more id f).fresh = v.fresh ++ [id] := rfl
    rw [hf] at hnf ⊢
    by_cases hle : n ≤ v.fresh.length
    · rw [List.drop_append_of_le_length hle, List.mem_append, not_or] at hnf ⊢
      rcases get k g hk with ⟨e, _⟩ | ⟨_, e⟩
      · exact absurd (by simpa using e) hnf.2
      · refine ⟨h.fr n k g e hnf.1 r hr', ?_⟩
        simp only [List.mem_singleton]
        exact known_ne hid hn (h.clo k g e r hr')
    · rw [List.drop_eq_nil_of_le (by simp; omega)]
      simp
  · rcases List.mem_append.1 (show k ∈ v.fresh ++ [id] from hk) with e | e
    · obtain ⟨g, hg⟩ := h.fo k e
      refine ⟨g, ?_⟩
      show (if k = id then some f else v.V k) = _
      rw [if_neg (show ¬ k = id from fun e' => hidf (by rw [← e']; exact e))]; exact hg
    · simp at e
      subst e
      exact ⟨f, if_pos rfl⟩
theorem levV_less {v : Vw} {ids f' : List Int} {r : Int} (h : (levV v.V r).isSome = true) (hr : r ∉ ids) : levV (v.less ids f').V r = levV v.V r := by
  obtain ⟨a, ha⟩ := Option.isSome_iff_exists.1 h
  rw [ha]
  rcases levV_iff.1 ha with e | ⟨h1, g, hg, hk, e⟩
  · exact levV_iff.2 (.inl e)
  · refine levV_iff.2 (.inr ⟨h1, g, ?_, hk, e⟩)
    show (if r ∈ ids then none else v.V r) = _
    rw [if_neg hr]; exact hg
theorem Wel.less {v : Vw} (h : Wel v) {ids f' : List Int} (hup : ∀ id f, v.V id = some f → id ∉ ids → ∀ r ∈ refsV f, r ∉ ids)
    (hf : ∀ n id f, v.V id = some f → id ∉ ids → id ∉ f'.drop n → ∀ r ∈ refsV f, r ∉ f'.drop n) (ho : ∀ id ∈ f', id ∉ ids ∧ ∃ f, v.V id = some f) : Wel (v.less ids f') := by
  have get : ∀ k g, (v.less ids f').V k = some g → k ∉ ids ∧ v.V k = some g := fun k g hk => by
    have hk : (if k ∈ ids then none else v.V k) = some g := hk
    by_cases e : k ∈ ids
    · rw [if_pos e] at hk; cases hk
    · rw [if_neg e] at hk; exact ⟨e, hk⟩
  refine ⟨fun k g hk => h.two k g (get k g hk).2, fun k g hk r hr => ?_, fun k g hk h1 r hr => ?_, fun n k g hk hn r hr => hf n k g (get k g hk).2 (get k g hk).1 hn r hr, fun k hk => ?_⟩
  · obtain ⟨e1, e2⟩ := get k g hk
    have := h.clo k g e2 r hr
    rw [levV_less this (hup k g e2 e1 r hr)]; exact this
  · obtain ⟨e1, e2⟩ := get k g hk
    rw [levV_less (h.clo k g e2 r hr) (hup k g e2 e1 r hr)]; exact h.lev k g e2 h1 r hr
  · obtain ⟨e1, g, hg⟩ := ho k hk
    refine ⟨g, ?_⟩
    show (if k ∈ ids then none else v.V k) = _
    rw [if_neg e1]; exact hg
/-- an arena in which all fits together -/
structure Glob (A : Ar) : Prop where
  gl : GL A.ths
  wel : ∀ u, u < 64 → Wel (view A u)
theorem gl_masks {l l' : List Th} (h : GL l) (hb : ∀ (j : Nat) (y : Th), l'[j]? = some y → ∃ x, l[j]? = some x ∧ y.face = x.face) (hf : ∀ (j : Nat) (x : Th), l[j]? = some x → ∃ y, l'[j]? = some y ∧ y.face = x.face) : GL l' := by
  have back : ∀ y ∈ l', ∃ x ∈ l, y.face = x.face := fun y hy => by
    obtain ⟨j, hj⟩ := List.getElem?_of_mem hy
    obtain ⟨x, h1, h2⟩ := hb j y hj
    exact ⟨x, List.mem_of_getElem? h1, h2⟩
  have gl : ∀ id a, glev l id = some a → glev l' id = some a := fun id a ha => by
    rcases glev_iff.1 ha with e | ⟨h1, x, h2, h3, h4⟩
    · exact glev_iff.2 (.inl e)
    · obtain ⟨y, g1, g2⟩ := hf _ x h2
      simp only [Th.face, Prod.mk.injEq] at g2
      exact glev_iff.2 (.inr ⟨h1, y, g1, by rw [key_k g2.1]; exact h3, by rw [g2.2.1]; exact h4⟩)
  have parts : ∀ {x y : Th}, y.face = x.face → y.k = x.k ∧ y.lv = x.lv ∧ y.va = x.va ∧ partsT y = partsT x := fun {x y} e => by
    simp only [Th.face, Th.key, Prod.mk.injEq, Ky.mk.injEq] at e
    obtain ⟨⟨e0, e1, e2, e3, e4⟩, e5, e6⟩ := e
    exact ⟨e0, e5, e6, by unfold partsT; rw [e1, e2, e3, e4]⟩
  refine ⟨fun y hy hk r hr => ?_, fun y hy hk => ?_, fun y hy hk => ?_⟩
  · obtain ⟨x, hx, e⟩ := back y hy
    obtain ⟨e0, e5, _, e7⟩ := parts e
    rw [e7] at hr
    rw [e5]
    exact gl _ _ (h.sq x hx (by rw [← e0]; exact hk) r hr)
  · obtain ⟨x, hx, e⟩ := back y hy
    obtain ⟨e0, _, e6, _⟩ := parts e
    rw [e6]; exact h.va x hx (by rw [← e0]; exact hk)
  · obtain ⟨x, hx, e⟩ := back y hy
    obtain ⟨e0, e5, _, _⟩ := parts e
    rw [e5]; exact h.lv x hx (by rw [← e0]; exact hk)
theorem gl_give {A : Ar} {t i : Nat} {x : Th} (h : GL A.ths) (hx : A.ths[i]? = some x) : GL (A.give t i x).ths := by
  have hi := (List.getElem?_eq_some_iff.1 hx).1
  have hget : ∀ j : Nat, (A.give t i x).ths[j]? = if i = j then some { x with mask := x.mask ||| bitN t } else A.ths[j]? := fun j => by
    show (A.ths.set i _)[j]? = _
    rw [List.getElem?_set]
    by_cases e : i = j
    · subst e; simp [hi]
    · simp [e]
  refine gl_masks h (fun j y hy => ?_) (fun j z hz => ?_)
  · rw [hget] at hy
    by_cases e : i = j
    · rw [if_pos e] at hy
      obtain rfl := Option.some.inj hy
      exact ⟨x, e ▸ hx, rfl⟩
    · rw [if_neg e] at hy
      exact ⟨y, hy, rfl⟩
  · rw [hget]
    by_cases e : i = j
    · rw [if_pos e]
      subst e
      rw [hx] at hz
      obtain rfl := Option.some.inj hz
      exact ⟨_, rfl, rfl⟩
    · rw [if_neg e]
      exact ⟨z, hz, rfl⟩
theorem gl_lose {A : Ar} {t : Nat} {ids f : List Int} (h : GL A.ths) (hS : Sound A) (ht : t < 64) (ho : OwnIds A.ths t ids) : GL (A.lose t ids f).ths := by
  refine gl_masks h (fun j y hy => ?_) (fun j x hx => ?_)
  · obtain ⟨x, hx, e1, e2, e3, _⟩ := takes_back ht ho hS.mask hy
    exact ⟨x, hx, by unfold Th.face; rw [e1, e2, e3]⟩
  · obtain ⟨y, y1, e1, e2, e3, _⟩ := takes_get t ht ids A (fun k hk => by
      obtain ⟨a, z, hz, _⟩ := ho.2 k hk
      exact ⟨a, (List.getElem?_eq_some_iff.1 hz).1⟩) hS.mask j x hx
    exact ⟨y, y1, by unfold Th.face; rw [e1, e2, e3]⟩
theorem gl_swept {A : Ar} (h : Glob A) (hS : Sound A) : GL A.swept.ths := by
  have hl : ∀ u id a, levV (ownV A.ths u) id = some a → glev A.swept.ths id = some a := fun u id a ha => by
    rcases level_own ha with e | ⟨h1, x, h2, h3, h4, h5⟩
    · exact glev_iff.2 (.inl e)
    · refine glev_iff.2 (.inr ⟨h1, x, ?_, h4, h5⟩)
      show (swL A.ths)[_]? = _
      rw [swL_get, h2, Option.map_some, clrT_keep (own_not_gone h3)]
  refine ⟨fun x hx hk r hr => ?_, fun x hx hk => ?_, fun x hx hk => ?_⟩
  · obtain ⟨y, hy, rfl⟩ := List.mem_map.1 hx
    cases hg : gone y with
    | true => rw [clrT_gone hg] at hk; cases hk
    | false =>
      rw [clrT_keep hg] at hk hr ⊢
      have hm0 : y.mask ≠ 0 := fun e => by
        unfold gone at hg
        rw [e, hk] at hg
        simp at hg
      obtain ⟨u, hu, hb⟩ := mask_bit hm0 (hS.mask y hy)
      obtain ⟨j, hj⟩ := List.getElem?_of_mem hy
      have hV : (view A u).V ((j : Int) + 2) = some y.face := ownV_iff.2 ⟨by omega, y, by rw [show (((j : Int) + 2 - 2).toNat) = j by omega]; exact hj, hb, rfl⟩
      have hrf : refsV y.face = partsT y := by unfold refsV; rw [if_pos (show y.face.1.k = 1 from hk)]; rfl
      exact hl u r _ ((h.wel u hu).lev _ _ hV hk r (by rw [hrf]; exact hr))
  · obtain ⟨y, hy, rfl⟩ := List.mem_map.1 hx
    cases hg : gone y with
    | true => rw [clrT_gone hg] at hk; cases hk
    | false => rw [clrT_keep hg] at hk ⊢; exact h.gl.va y hy hk
  · obtain ⟨y, hy, rfl⟩ := List.mem_map.1 hx
    cases hg : gone y with
    | true => rw [clrT_gone hg]; rfl
    | false => rw [clrT_keep hg] at hk ⊢; exact h.gl.lv y hy hk
theorem gl_laid {A : Ar} {x : Th} {t : Nat} (h : GL A.ths) (hv : x.k = 1 → x.va = 0) (hl : x.k ≠ 1 → x.lv = 0) (hr : x.k = 1 → ∀ r ∈ partsT x, levV (ownV A.ths t) r = some (x.lv - 1)) : GL (A.laid x).1.ths := by
  have gl : ∀ id a, glev A.ths id = some a → glev (A.laid x).1.ths id = some a := fun id a ha => by
    rcases glev_iff.1 ha with e | ⟨h1, y, h2, h3, h4⟩
    · exact glev_iff.2 (.inl e)
    · exact glev_iff.2 (.inr ⟨h1, y, (laid_other A x _ y h2 (by rw [h3]; decide)).1, h3, h4⟩)
  have back : ∀ y ∈ (A.laid x).1.ths, y = x ∨ y ∈ A.ths := fun y hy => by
    obtain ⟨j, hj⟩ := List.getElem?_of_mem hy
    rcases laid_back A x j y hj with ⟨_, e⟩ | ⟨_, e⟩
    · exact .inl e
    · exact .inr (List.mem_of_getElem? e)
  refine ⟨fun y hy hk r hr' => ?_, fun y hy hk => ?_, fun y hy hk => ?_⟩
  · rcases back y hy with rfl | e
    · exact gl _ _ (level_glev (hr hk r hr'))
    · exact gl _ _ (h.sq y e hk r hr')
  · rcases back y hy with rfl | e
    · exact hv hk
    · exact h.va y e hk
  · rcases back y hy with rfl | e
    · exact hl hk
    · exact h.lv y e hk
theorem glob_swept {A : Ar} (h : Glob A) (hS : Sound A) : Glob A.swept := ⟨gl_swept h hS, fun u hu => by
  rw [show view A.swept u = view A u from view_ext (fun id => ownV_swept _ _ _) rfl rfl rfl]; exact h.wel u hu⟩
theorem glob_made {A : Ar} (h : Glob A) (hS : Sound A) : Glob A.made := by
  unfold Ar.made
  split
  · exact glob_swept h hS
  · exact h
/-- a thing becomes a tenant's own: all fits together still -/
theorem glob_beco {A : Ar} {t : Nat} {x : Th} (h : Glob A) (hS : Sound A) (ht : t < 64) (hk : x.k ≠ 0) (hx : x.mask = 0) (hfull : (A.beco t x).2.2 ≠ 5) (hface : ∀ (i : Nat) (y : Th), A.ths[i]? = some y → y.key = x.key → y.lv = x.lv ∧ y.va = x.va)
    (hv : x.k = 1 → x.va = 0) (hl : x.k ≠ 1 → x.lv = 0) (hr : ∀ r ∈ refsV x.face, (levV (ownV A.ths t) r).isSome = true) (hr1 : x.k = 1 → ∀ r ∈ partsT x, levV (ownV A.ths t) r = some (x.lv - 1)) : Glob (A.beco t x).1 := by
  refine ⟨?_, fun u hu => ?_⟩
  · unfold Ar.beco
    cases hs : spotF A.ths x.key with
    | some i =>
      obtain ⟨y, h1, _, h3⟩ := spot_at hs
      simp only
      split
      · exact h.gl
      · split
        · exact h.gl
        · rw [h3]; exact gl_give h.gl h1
    | none =>
      simp only
      split
      · exact h.gl
      · split
        · exact (glob_made h hS).gl
        · exact gl_give (gl_laid (t := t) (glob_made h hS).gl hv hl (fun e r hr' => by
            rw [show ownV A.made.ths t = ownV A.ths t from funext (ownV_made A t)]
            exact hr1 e r hr')) (laid_at _ _)
  · rcases beco_view hS ht hk hx hfull hface with ⟨id, _, e⟩ | ⟨_, ⟨_, e⟩ | ⟨_, id, h1, h2, _, h4, h5⟩⟩
    · rw [e]; exact h.wel u hu
    · rw [e]; exact h.wel u hu
    · by_cases e : u = t
      · subst e
        rw [h4]
        refine (h.wel u hu).more h1 h2 hr fun e r hr' => ?_
        refine hr1 e r ?_
        have : refsV x.face = partsT x := by unfold refsV; rw [if_pos e]; rfl
        rw [← this]; exact hr'
      · rw [h5 u e]; exact h.wel u hu
theorem square_face {A : Ar} (h : Glob A) {t : Nat} {q0 q1 q2 q3 a : Int} (h0 : levelF A.ths t q0 = some a) (i : Nat) (y : Th) (hy : A.ths[i]? = some y) (hk : y.key = (sqTh q0 q1 q2 q3 a).key) : y.lv = (sqTh q0 q1 q2 q3 a).lv ∧ y.va = (sqTh q0 q1 q2 q3 a).va := by
  have hm := List.mem_of_getElem? hy
  have hk1 : y.k = 1 := key_k hk
  have hp : y.p0 = q0 := congrArg Ky.p0 hk
  have g1 := h.gl.sq y hm hk1 y.p0 (by simp [partsT])
  rw [levelF_V] at h0
  rw [hp, level_glev h0] at g1
  have := Option.some.inj g1
  refine ⟨?_, h.gl.va y hm hk1⟩
  show y.lv = a + 1
  omega
theorem joinE_zero {A : Ar} {t : Nat} {q0 q1 q2 q3 : Int} (h : (joinE A t q0 q1 q2 q3).1 = 0) : ∃ a, joinE A t q0 q1 q2 q3 = (0, a) ∧ a < 44 ∧ levelF A.ths t q0 = some a ∧ levelF A.ths t q1 = some a ∧ levelF A.ths t q2 = some a ∧ levelF A.ths t q3 = some a := by
  unfold joinE at h ⊢
  cases h0 : levelF A.ths t q0 with
  | none => rw [h0, joinL0] at h; cases h
  | some a =>
    cases h1 : levelF A.ths t q1 with
    | none => rw [h1, joinL1] at h; cases h
    | some b =>
      cases h2 : levelF A.ths t q2 with
      | none => rw [h2, joinL2] at h; cases h
      | some c =>
        cases h3 : levelF A.ths t q3 with
        | none => rw [h3, joinL3] at h; cases h
        | some d =>
          rw [h0, h1, h2, h3, joinL4] at h
          rw [joinL4]
          by_cases hc : a < 44 ∧ b = a ∧ c = a ∧ d = a
          · obtain ⟨h4, rfl, rfl, rfl⟩ := hc
            exact ⟨_, by rw [if_pos ⟨h4, rfl, rfl, rfl⟩], h4, rfl, rfl, rfl, rfl⟩
          · rw [if_neg hc] at h; cases h
theorem glob_join {A : Ar} (h : Glob A) (hS : Sound A) {t : Nat} (ht : t < 64) {q0 q1 q2 q3 : Int} (hfull : (A.joinP t q0 q1 q2 q3).2.2 ≠ 5) : Glob (A.joinP t q0 q1 q2 q3).1 := by
  unfold Ar.joinP at hfull ⊢
  by_cases hj : (joinE A t q0 q1 q2 q3).1 = 0
  · rw [if_pos hj] at hfull ⊢
    obtain ⟨a, he, _, l0, l1, l2, l3⟩ := joinE_zero hj
    rw [he] at hfull ⊢
    have hp : ∀ r ∈ partsT (sqTh q0 q1 q2 q3 a), levV (ownV A.ths t) r = some ((sqTh q0 q1 q2 q3 a).lv - 1) := fun r hr => by
      have e : (sqTh q0 q1 q2 q3 a).lv - 1 = a := by show a + 1 - 1 = a; omega
      rw [e, ← levelF_V]
      simp only [partsT, sqTh, List.mem_cons, List.not_mem_nil, or_false] at hr
      rcases hr with rfl | rfl | rfl | rfl
      · exact l0
      · exact l1
      · exact l2
      · exact l3
    refine glob_beco h hS ht (by show (1 : Int) ≠ 0; decide) rfl hfull (square_face h l0) (fun _ => rfl) (fun e => absurd rfl e) (fun r hr => ?_) (fun _ => hp)
    have : r ∈ partsT (sqTh q0 q1 q2 q3 a) := hr
    rw [hp r this]; rfl
  · rw [if_neg hj]; exact h
theorem note_face {A : Ar} (hS : Sound A) (h : Glob A) {s r j v : Int} (ht : twiceF A.ths s r j v = false) (i : Nat) (y : Th) (hy : A.ths[i]? = some y) (hk : y.key = (noteTh s r j v).key) : y.lv = (noteTh s r j v).lv ∧ y.va = (noteTh s r j v).va := by
  have hk2 : y.k = 2 := key_k hk
  refine ⟨h.gl.lv y (List.mem_of_getElem? hy) (by rw [hk2]; decide), ?_⟩
  unfold twiceF at ht
  cases hs : spotF A.ths (nkey s r j) with
  | none => exact absurd hk (spot_none hs y (List.mem_of_getElem? hy))
  | some m =>
    rw [hs] at ht
    obtain ⟨z, h1, h2, h3⟩ := spot_at hs
    simp only at ht
    rw [h3] at ht
    have := hS.uniq i m y z hy h1 (by rw [hk2]; decide) (hk.trans h2.symm)
    rw [this, h1] at hy
    obtain rfl := Option.some.inj hy
    show z.va = v
    simpa using ht
theorem glob_note {A : Ar} (h : Glob A) (hS : Sound A) {t : Nat} (ht : t < 64) {s r j v : Int} (hfull : (A.noteP t s r j v).2 ≠ 5) : Glob (A.noteP t s r j v).1 := by
  unfold Ar.noteP at hfull ⊢
  by_cases hl : (levelF A.ths t s).isSome = true ∧ (levelF A.ths t v).isSome = true
  · rw [if_pos hl] at hfull ⊢
    by_cases h2 : twiceF A.ths s r j v = true
    · rw [if_pos h2]; exact h
    · rw [if_neg h2] at hfull ⊢
      refine glob_beco h hS ht (by show (2 : Int) ≠ 0; decide) rfl hfull (note_face hS h (by simpa using h2)) (fun e => by cases e) (fun _ => rfl) (fun r hr => ?_) (fun e => by cases e)
      rw [← levelF_V]
      have hr : r ∈ [s, v] := hr
      simp only [List.mem_cons, List.not_mem_nil, or_false] at hr
      rcases hr with rfl | rfl
      · exact hl.1
      · exact hl.2
  · rw [if_neg hl]; exact h
theorem glob_new (room : Int) : Glob (arNew room) := by
  have no : ∀ u id, ownV (arNew room).ths u id = none := fun u id => by
    cases e : ownV (arNew room).ths u id with
    | none => rfl
    | some f => obtain ⟨_, x, hx, _⟩ := ownV_iff.1 e; cases hx
  have no' : ∀ u id f, (view (arNew room) u).V id = some f → False := fun u id f hf => by
    have := (no u id).symm.trans hf
    cases this
  exact ⟨⟨fun _ h => (by cases h), fun _ h => (by cases h), fun _ h => (by cases h)⟩, fun u _ => ⟨fun id f hf => (no' u id f hf).elim, fun id f hf => (no' u id f hf).elim, fun id f hf => (no' u id f hf).elim, fun n id f hf => (no' u id f hf).elim, fun id hid => (by cases hid)⟩⟩
end Go.Proofs.YtofbcngcblleaaaGreat.A

namespace Go.Proofs.YtofbcngcblleaaaGreat.A
open Go.RowKit Go.Proofs.YtofbcngcblleaaaGreat.L

/-- the quarters of the squares that a tenant sees -/
def QV (v : Vw) : Qs4 := fun id => match v.V id with
  | some f => if f.1.k = 1 then some (f.1.p0, f.1.p1, f.1.p2, f.1.p3) else none
  | none => none
theorem QV_some {v : Vw} {id : Int} {f : Ky × Int × Int} (h : v.V id = some f) (hk : f.1.k = 1) : QV v id = some (f.1.p0, f.1.p1, f.1.p2, f.1.p3) := by
  unfold QV
  rw [h]
  exact if_pos hk
/-- a tenant sees more -/
def Sees (v v' : Vw) : Prop := ∀ id f, v.V id = some f → v'.V id = some f
theorem Sees.refl (v : Vw) : Sees v v := fun _ _ h => h
theorem Sees.trans {v v1 v2 : Vw} (h : Sees v v1) (k : Sees v1 v2) : Sees v v2 := fun id f hf => k id f (h id f hf)
theorem Sees.ext {v v' : Vw} (h : Sees v v') : Ext (QV v) (QV v') := fun id q hq => by
  unfold QV at hq ⊢
  cases hv : v.V id with
  | none => rw [hv] at hq; cases hq
  | some f => rw [hv] at hq; rw [h id f hv]; exact hq
theorem Sees.more {v : Vw} {id : Int} {f : Ky × Int × Int} (hn : v.V id = none) : Sees v (v.more id f) := fun k g hg => by
  show (if k = id then some f else v.V k) = some g
  rw [if_neg fun e => by rw [e, hn] at hg; cases hg]
  exact hg
theorem Sees.lev {v v' : Vw} (h : Sees v v') {id a : Int} (hl : levV v.V id = some a) : levV v'.V id = some a := by
  unfold levV at hl ⊢
  split at hl
  · rename_i h0; rw [if_pos h0]; exact hl
  · rename_i h0
    rw [if_neg h0]
    cases hv : v.V id with
    | none => rw [hv] at hl; cases hl
    | some f => rw [hv] at hl; rw [h id f hv]; exact hl
/-- squares are of a level from 1 on -/
def PosL (v : Vw) : Prop := ∀ id f, v.V id = some f → f.1.k = 1 → 1 ≤ f.2.1
theorem isSq_of_lev {v : Vw} (hw : Wel v) (hp : PosL v) : ∀ (n : Nat) (id : Int), levV v.V id = some (n : Int) → IsSq (QV v) n id
  | 0, id, h => by
    unfold levV at h
    split at h
    · rename_i h0; exact h0
    · cases hv : v.V id with
      | none => rw [hv] at h; cases h
      | some f =>
        rw [hv] at h
        simp only at h
        split at h
        · rename_i hk
          have := hp id f hv hk
          have h2 := Option.some.inj h
          omega
        · cases h
  | n + 1, id, h => by
    unfold levV at h
    split at h
    · have := Option.some.inj h; omega
    · cases hv : v.V id with
      | none => rw [hv] at h; cases h
      | some f =>
        rw [hv] at h
        simp only at h
        split at h
        · rename_i hk
          have h2 := Option.some.inj h
          have hr : refsV f = [f.1.p0, f.1.p1, f.1.p2, f.1.p3] := by unfold refsV; rw [if_pos hk]
          have hl : ∀ r ∈ refsV f, levV v.V r = some (n : Int) := fun r hr => by rw [hw.lev id f hv hk r hr, h2]; congr 1; omega
          rw [hr] at hl
          exact ⟨_, QV_some hv hk, isSq_of_lev hw hp n _ (hl _ (by simp)), isSq_of_lev hw hp n _ (hl _ (by simp)), isSq_of_lev hw hp n _ (hl _ (by simp)), isSq_of_lev hw hp n _ (hl _ (by simp))⟩
        · cases h
/-- every note of a rule is right -/
def NotesOk (R : Bool → Nat → Bool) (rn : Int) (v : Vw) : Prop := ∀ id f (n j : Nat), v.V id = some f → f.1.k = 2 → f.1.p1 = rn → levV v.V f.1.p0 = some ((n + 2 : Nat) : Int) → f.1.p2 = (j : Int) → j ≤ n → Nx R (QV v) n f.1.p0 j f.2.2
theorem pos_more {v : Vw} {id : Int} {f : Ky × Int × Int} (h : PosL v) (hf : f.1.k = 1 → 1 ≤ f.2.1) : PosL (v.more id f) := by
  intro k g hg hk
  change (if k = id then some f else v.V k) = some g at hg
  split at hg
  · cases hg; exact hf hk
  · exact h k g hg hk
end Go.Proofs.YtofbcngcblleaaaGreat.A

namespace Go.Proofs.YtofbcngcblleaaaGreat.A
open Go.RowKit Go.Maps

theorem IntRow.cutk {w : World} {g n c : Nat} {l : List Int} (h : IntRow w (.slice (some ⟨g, 0, none⟩) n c) l) {k : Nat} (hk : k ≤ l.length) : IntRow w (.slice (some ⟨g, 0, none⟩) k c) (l.take k) := by
  have hn : n = l.length := by
    obtain ⟨a, c', e⟩ := h.shape
    simp only [Value.slice.injEq] at e
    exact e.2.1
  subst hn
  have hlk : (l.take k).length = k := by rw [List.length_take]; omega
  rcases h.2 with ⟨h1, _⟩ | ⟨g', cap, cur, hv, hB, hg, h1, h2, h3, h4⟩
  · simp at h1
  · simp only [Value.slice.injEq, Option.some.injEq, Addr.mk.injEq] at hv
    obtain ⟨⟨rfl, _, _⟩, _, rfl⟩ := hv
    refine ⟨by rw [hlk]; simp; omega, Or.inr ⟨g, c, cur, by rw [hlk], hB, hg, by rw [hlk]; omega, h2, h3, ?_⟩⟩
    rw [hlk]
    have h5 := congrArg (fun L => L.take (k * 1)) h4
    simp only [List.take_take] at h5
    rw [show min (k * 1) (l.length * 1) = k * 1 by omega] at h5
    rw [h5, Nat.mul_one, List.map_take]
set_option maxRecDepth 20000 in
set_option maxHeartbeats 4000000 in
theorem backN_any (b t n k : Nat) (m : Int) (F : Nat → Prop) (A : Ar) (r : Raw) (D : DataW Unit) (w : World) (h : ArRaw w b F n A r D) (ht : t < 64) (hl : (A.fresh t).length < 10000000) (hid : ∀ id ∈ A.fresh t, 2 ≤ id ∧ (id - 2).toNat < A.ths.length) (hm : ∀ x ∈ A.ths, x.mask < 18446744073709551616)
    (hn : A.ths.length < 1000000) (hcnt : ((A.fresh t).length : Int) ≤ A.cnt t ∧ A.cnt t < 4611686018427387904) (hk : min (max m 0) ((A.fresh t).length : Int) = (k : Int)) :
    Calls Tryz.prog 61 #[.pointer (some ⟨b, 0, none⟩), .int .i64 t, .int .i64 m] w fun e w' => e = .returned (.int .i64 (((A.fresh t).length : Int) - (k : Int))) ∧ ArAt w' b F n (A.lose t ((A.fresh t).drop k) ((A.fresh t).take k)) ∧ Apart F w w' := by
  have hi := fun W => tenant_yes t ht W
  have cf := h.raw.at (4 + t * 3 + 2) (by omega)
  rw [Raw.cf] at cf
  have HH : Hid (ArRaw w b F n A r D) := h
  have h0 : (0 : Int) ≤ t := by omega
  have h1 : (t : Int) < 64 := by omega
  obtain ⟨L, hL⟩ : ∃ L, L = A.fresh t := ⟨_, rfl⟩
  obtain ⟨a, c, hv⟩ := (h.fresh t ht).shape
  rw [hv] at cf
  rw [← hL] at hl hid hcnt hv cf hk ⊢
  have HL : Hid (L = A.fresh t) := hL
  obtain ⟨fl, hfl⟩ : ∃ n, n = L.length := ⟨_, rfl⟩
  rw [← hfl] at hl hcnt hv cf hk ⊢
  have HFL : Hid (fl = L.length) := hfl
  have HV : Hid ((r.tn t).fr = .slice a fl c) := hv
  have HA : Hid (a = none ∧ fl = 0 ∧ c = 0 ∨ ∃ g, a = some ⟨g, 0, none⟩) := by
    rcases (h.fresh t ht).2 with ⟨e1, e2⟩ | ⟨g, cap, cur, e1, _⟩
    · rw [hv] at e1
      simp only [Value.slice.injEq] at e1
      exact Or.inl ⟨e1.1, e1.2.1, e1.2.2⟩
    · rw [hv] at e1
      simp only [Value.slice.injEq] at e1
      exact Or.inr ⟨g, e1.1⟩
  have hflc : fl ≤ c := by
    rcases (h.fresh t ht).2 with ⟨e1, e2⟩ | ⟨g, cap, cur, e1, _, _, e4, _⟩
    · rw [hv] at e1
      simp only [Value.slice.injEq] at e1
      omega
    · rw [hv] at e1
      simp only [Value.slice.injEq] at e1
      rw [e1.2.1, e1.2.2]
      exact e4
  have HID : Hid (∀ id ∈ L, 2 ≤ id ∧ (id - 2).toNat < A.ths.length) := hid
  have HM : Hid (∀ x ∈ A.ths, x.mask < 18446744073709551616) := hm
  have hkf : k ≤ fl := by omega
  have k0' : (0 : Int) ≤ (k : Int) := by omega
  have kf' : (k : Int) ≤ (fl : Int) := by omega
  have kc' : (k : Int) ≤ (c : Int) := by omega
  clear h hv hL hfl hid hm
  obtain ⟨d, hd⟩ : ∃ d, d = fl - k := ⟨_, rfl⟩
  have HD : Hid (d = fl - k) := hd
  have hdi : (fl : Int) - (k : Int) = (d : Int) := by omega
  clear hd
  by_cases hkk : k = fl
  · subst hkk
    have hdr : L.drop k = [] := List.drop_of_length_le (by rw [← HFL.out]; exact Nat.le_refl _)
    have htk : L.take k = L := List.take_of_length_le (by rw [← HFL.out]; exact Nat.le_refl _)
    rw [hdr, htk]
    have z2 := HH.out.raw.frozen (4 + t * 3 + 2)
    have H9 := HH.out.setFresh (F' := F) (l := L) (v := .slice a k c) ht (by have h2 := HH.out.fresh t ht; rw [HV.out, ← HL.out] at h2; exact h2) (fun _ _ _ => rfl) (Nat.le_refl _) (fun q hq => Or.inl (by rw [HV.out]; exact hq)) (fun _ h => h) (fun q hq => HH.out.ft t ht q (by rw [HV.out]; exact hq)) HH.out.flt
    have HEND : Hid (ArAt (w.setCell ⟨b, 4 + t * 3 + 2, none⟩ (.slice a k c)) b F n (A.lose t [] L) ∧ Apart F w (w.setCell ⟨b, 4 + t * 3 + 2, none⟩ (.slice a k c))) := ⟨⟨_, _, H9⟩, Apart.set w _ HH.out.fb⟩
    clear H9 hdr htk
    rcases HA.out with ⟨rfl, rfl, rfl⟩ | ⟨g, rfl⟩
    · have hk0 : min (max m (0 : Int)) 0 = 0 := by omega
      clear hk
      go_enter Tryz.func61, Tryz.ntmps61
      go_wp2_with fail
      refine (hi _).mono ?_
      rintro e w1 ⟨rfl, rfl⟩
      clear hi
      go_wp2_with fail
      refine wp_loop_rounds 1 ?_
      rw [rounds_succ]
      go_wp2_with fail
      go_region
      all_goals
        go_wp2_with fail
        go_ret
        exact ⟨by go_num, (let ⟨r9, D9, h9⟩ := HEND.out.1; ⟨r9, D9, h9.drew⟩), HEND.out.2.drew⟩
    · by_cases hc : c = k
      · subst hc
        go_enter Tryz.func61, Tryz.ntmps61
        go_wp2_with fail
        refine (hi _).mono ?_
        rintro e w1 ⟨rfl, rfl⟩
        clear hi
        go_wp2_with fail
        refine wp_loop_rounds 1 ?_
        rw [rounds_succ]
        go_wp2_with fail
        go_region
        all_goals
          go_wp2_with fail
          go_ret
          exact ⟨by go_num, (let ⟨r9, D9, h9⟩ := HEND.out.1; ⟨r9, D9, h9.drew⟩), HEND.out.2.drew⟩
      · have hck' : ¬ (c : Int) = (k : Int) := by omega
        go_enter Tryz.func61, Tryz.ntmps61
        go_wp2_with fail
        refine (hi _).mono ?_
        rintro e w1 ⟨rfl, rfl⟩
        clear hi
        go_wp2_with fail
        refine wp_loop_rounds 1 ?_
        rw [rounds_succ]
        go_wp2_with fail
        go_region
        all_goals
          go_wp2_with fail
          go_ret
          exact ⟨by go_num, (let ⟨r9, D9, h9⟩ := HEND.out.1; ⟨r9, D9, h9.drew⟩), HEND.out.2.drew⟩
  · have hck : ¬ c = k := by omega
    have hck' : ¬ (c : Int) = (k : Int) := by omega
    obtain ⟨g, rfl⟩ : ∃ g, a = some ⟨g, 0, none⟩ := by
      rcases HA.out with ⟨_, h, _⟩ | h
      · omega
      · exact h
    obtain ⟨M, hM⟩ : ∃ M, M = L.drop k := ⟨_, rfl⟩
    have HMD : Hid (M = L.drop k ∧ M.length = d) := ⟨hM, by rw [hM, List.length_drop, ← HFL.out]; exact HD.out.symm⟩
    rw [← hM]
    clear hM
    go_enter Tryz.func61, Tryz.ntmps61
    go_wp2_with fail
    refine (hi _).mono ?_
    rintro e w1 ⟨rfl, rfl⟩
    clear hi
    go_wp2_with fail
    have hdn : (fl - k : Nat) = d := HD.out.symm
    rw [hdn]
    clear hdn
    go_loopg [33] d (fun gh s33 wr => ∃ (i : Nat) (r' : Raw), i + gh = d ∧ s33 = .int .i64 i ∧ ArRaw wr b F n (A.takes t (M.take i)) r' D ∧ (r'.tn t).fr = .slice (some ⟨g, 0, none⟩) fl c ∧ Apart F w1 wr)
    case atStart => exact ⟨0, r, by omega, rfl, HH.out, HV.out, Apart.refl _ _⟩
    case round =>
      obtain ⟨i, r', hi', rfl, hr, hfr, P⟩ := hrel
      have HI : Hid (i + gk = d) := hi'
      have hin : i ≤ d := by omega
      clear hi' cf
      by_cases hlt : i < d
      · have k0 : (0 : Int) ≤ (i : Int) := by omega
        have k1 : (i : Int) < (d : Int) := by omega
        have hiL : i < M.length := by rw [HMD.out.2]; exact hlt
        have hrow := hr.fresh t ht
        rw [hfr, (takes_rest A t _).1, ← HL.out] at hrow
        have cg := hrow.get (k + i) (by rw [← HFL.out]; have := HD.out; omega)
        have hget : L[k + i]! = M[i]! := by
          rw [HMD.out.1, getElem!_pos L (k + i) (by rw [← HFL.out]; have := HD.out; omega), getElem!_pos (L.drop k) i (by rw [← HMD.out.1]; exact hiL), List.getElem_drop]
        rw [hget] at cg
        have hmem : M[i]! ∈ L := by rw [getElem!_pos M i hiL]; exact List.mem_of_mem_drop (by rw [← HMD.out.1]; exact List.getElem_mem _)
        have hti : M.take (i + 1) = M.take i ++ [M[i]!] := by rw [getElem!_pos M i hiL, List.take_add_one, List.getElem?_eq_getElem hiL]; rfl
        obtain ⟨q2, q3⟩ := HID.out _ hmem
        have HS : Hid (A.takes t (M.take (i + 1)) = (A.takes t (M.take i)).take t (M[i]! - 2).toNat (thAt (A.takes t (M.take i)).ths M[i]!)) := by rw [hti, takes_snoc]; exact Eq.refl _
        have hlen := takes_len A t (M.take i)
        have hth : (A.takes t (M.take i)).ths[(M[i]! - 2).toNat]? = some (thAt (A.takes t (M.take i)).ths M[i]!) := by
          unfold thAt
          rw [List.getElem?_eq_getElem (by rw [hlen]; exact q3)]; rfl
        have hmk : (thAt (A.takes t (M.take i)).ths M[i]!).mask < 18446744073709551616 := by
          obtain ⟨y, y1, _, _, _, y5, _⟩ := takes_get t ht (M.take i) A (fun z hz => HID.out z (List.mem_of_mem_drop (by rw [← HMD.out.1]; exact List.mem_of_mem_take hz))) HM.out _ _ (List.getElem?_eq_getElem q3)
          rw [hth] at y1
          obtain rfl := Option.some.inj y1
          exact y5
        have hcn : (A.takes t (M.take i)).cnt t = A.cnt t - (i : Int) := by
          rw [takes_cnt, upd_same, List.length_take, HMD.out.2]
          congr 2
          omega
        have c7 := take_any b t (M[i]! - 2).toNat n F M[i]! _ r' D _ wr hr hth (by omega) ht hmk (by rw [hlen]; omega) (by rw [hcn]; have := HD.out; omega)
        rw [← HS.out] at c7
        generalize M[i]! = id at *
        clear hrow hmem hti hth hmk hcn hlen hget
        go_wp2_with fail
        refine c7.mono ?_
        rintro e w2 ⟨rfl, hr2, P2⟩
        clear c7 cg
        go_wp2_with fail
        go_roundg (gk - 1)
        case measure => have := HI.out; omega
        case rel => exact ⟨i + 1, _, by have := HI.out; omega, by go_num, hr2, by rw [turn_same]; exact hfr, P.trans P2 fun k hk => Or.inl hk⟩
      · have k1 : ¬ (i : Int) < (d : Int) := by omega
        have hte : M.take i = M := List.take_of_length_le (by rw [HMD.out.2]; omega)
        rw [hte] at hr
        have cf2 := hr.raw.at (4 + t * 3 + 2) (by omega)
        have z2 := hr.raw.frozen (4 + t * 3 + 2)
        have hrow := hr.fresh t ht
        rw [Raw.cf, hfr] at cf2
        rw [hfr, (takes_rest A t _).1, ← HL.out] at hrow
        have hrow0 : IntRow wr (.slice (some ⟨g, 0, none⟩) k c) (L.take k) := hrow.cutk (by rw [← HFL.out]; exact hkf)
        have H9 := hr.setFresh (F' := F) (l := L.take k) ht hrow0 (fun _ _ _ => rfl) (Nat.le_refl _) (fun k hk => Or.inl (by rw [hfr]; exact hk)) (fun _ h => h) (fun k hk => hr.ft t ht k (by rw [hfr]; exact hk)) hr.flt
        have HEQ : Hid (({ A.takes t M with fresh := upd (A.takes t M).fresh t (L.take k) } : Ar) = A.lose t M (L.take k)) := by
          unfold Ar.lose
          rw [(takes_rest A t M).1]
          exact Eq.refl _
        rw [HEQ.out] at H9
        have hfb := hr.fb
        have HEND : Hid (ArAt (wr.setCell ⟨b, 4 + t * 3 + 2, none⟩ (.slice (some ⟨g, 0, none⟩) k c)) b F n (A.lose t M (L.take k)) ∧ Apart F w1 (wr.setCell ⟨b, 4 + t * 3 + 2, none⟩ (.slice (some ⟨g, 0, none⟩) k c))) := ⟨⟨_, _, H9⟩, P.trans (Apart.set wr _ hfb) fun k hk => Or.inl hk⟩
        clear hrow hrow0 hte H9 P
        go_wp2_with fail
        go_region
        all_goals
          go_wp2_with fail
          go_ret
          exact ⟨by go_num, (let ⟨r9, D9, h9⟩ := HEND.out.1; ⟨r9, D9, h9.drew⟩), HEND.out.2.drew⟩
/-- how many of what is fresh are kept -/
def backK (m : Int) (l : List Int) : Nat := (min (max m 0) (l.length : Int)).toNat
theorem backN_sound {A : Ar} (hS : Sound A) {t : Nat} (ht : t < 64) (k : Nat) : Sound (A.lose t ((A.fresh t).drop k) ((A.fresh t).take k)) := by
  obtain ⟨h1, h2⟩ := fresh_own hS ht
  refine lose_sound hS ht ⟨h1.sublist (List.drop_sublist _ _), fun id hid => h2 id (List.mem_of_mem_drop hid)⟩ ⟨h1.sublist (List.take_sublist _ _), fun id hid => h2 id (List.mem_of_mem_take hid)⟩ fun id hid hd => ?_
  have h3 : ((A.fresh t).take k ++ (A.fresh t).drop k).Nodup := by rw [List.take_append_drop]; exact h1
  exact (List.nodup_append.1 h3).2.2 id hid id hd rfl
theorem backP_any (b t : Nat) (m : Int) (F : Nat → Prop) (A : Ar) (w : World) (h : AtP w b F A) (hS : Sound A) (ht : t < 64) :
    Calls Tryz.prog 61 #[.pointer (some ⟨b, 0, none⟩), .int .i64 t, .int .i64 m] w fun e w' => e = .returned (.int .i64 (((A.fresh t).length : Int) - (backK m (A.fresh t) : Int))) ∧ Led w b F (A.lose t ((A.fresh t).drop (backK m (A.fresh t))) ((A.fresh t).take (backK m (A.fresh t)))) w' := by
  obtain ⟨L, r, D, h, hp, hH⟩ := h
  have hl := hS.len
  have hrm := hS.room1
  have hfl := hS.freshLe ht
  have hc := hS.cnt t ht
  have hon : ownN A.ths t ≤ A.ths.length := List.countP_le_length
  have ho := takes_own t ht t (A.fresh t) A (fresh_own hS ht) hS.mask
  rw [if_pos rfl] at ho
  have hOw : OwnIds A.ths t ((A.fresh t).drop (backK m (A.fresh t))) := by
    obtain ⟨h1, h2⟩ := fresh_own hS ht
    exact ⟨h1.sublist (List.drop_sublist _ _), fun id hid => h2 id (List.mem_of_mem_drop hid)⟩
  have c := backN_any b t _ (backK m (A.fresh t)) m F { A with free := L } r D w h ht (by show (A.fresh t).length < _; omega) (fun id hid => by
    obtain ⟨h2, x, hx, _⟩ := (hS.fresh t ht).2 id hid
    exact ⟨h2, (List.getElem?_eq_some_iff.1 hx).1⟩) hS.mask (by show A.ths.length < _; omega) (by show ((A.fresh t).length : Int) ≤ A.cnt t ∧ A.cnt t < _; omega) (by unfold backK; show min (max m 0) ((A.fresh t).length : Int) = _; omega)
  refine c.mono ?_
  rintro e w' ⟨he, ⟨r', D', h'⟩, P⟩
  refine ⟨he, F, fun k hk => .inl hk, ⟨L, r', D', ?_, ?_, hH⟩, P⟩
  · have e1 := (live_takes ht hOw hS.mask).2
    have e2 : ({ A.lose t ((A.fresh t).drop (backK m (A.fresh t))) ((A.fresh t).take (backK m (A.fresh t))) with free := L } : Ar) = ({ A with free := L } : Ar).lose t ((A.fresh t).drop (backK m (A.fresh t))) ((A.fresh t).take (backK m (A.fresh t))) := by
      unfold Ar.lose
      rw [takes_free L t _ A]
    show ArRaw w' b F (liveN (A.takes t ((A.fresh t).drop (backK m (A.fresh t)))).ths) _ _ _
    rw [e1, e2]; exact h'
  · show L.Perm (freeIds (A.takes t ((A.fresh t).drop (backK m (A.fresh t)))).ths)
    rw [(live_takes ht hOw hS.mask).1]; exact hp
end Go.Proofs.YtofbcngcblleaaaGreat.A

namespace Go.Proofs.YtofbcngcblleaaaGreat.L

/-- no two squares have the same quarters, and neither cell is one -/
def Uq (Q : Qs4) : Prop := (∀ i j q, Q i = some q → Q j = some q → i = j) ∧ Q 0 = none ∧ Q 1 = none
theorem shows_self {Q : Qs4} (n : Nat) (id : Int) : Shows Q n id (fun x y => cellV Q n id x.toNat y.toNat) 0 0 := fun x y _ _ => by simp
/-- two squares of a level that show the same are one -/
theorem sq_one {Q : Qs4} (hu : Uq Q) : ∀ (n : Nat) {i j : Int}, IsSq Q n i → IsSq Q n j → (∀ x y, x < 2 ^ n → y < 2 ^ n → cellV Q n i x y = cellV Q n j x y) → i = j
  | 0, i, j, hi, hj, h => by
    have := h 0 0 (by decide) (by decide)
    rw [cellV, cellV] at this
    rcases hi with rfl | rfl <;> rcases hj with rfl | rfl <;> first | rfl | simp at this
  | n + 1, i, j, ⟨p, hp, p0, p1, p2, p3⟩, ⟨q, hq, q0, q1, q2, q3⟩, h => by
    have hs : Shows Q (n + 1) j (fun x y => cellV Q (n + 1) i x.toNat y.toNat) 0 0 := fun x y hx hy => by
      have := h x y hx hy
      simpa using this.symm
    obtain ⟨a0, a1, a2, a3⟩ := shows_kids hp (shows_self (n + 1) i)
    obtain ⟨b0, b1, b2, b3⟩ := shows_kids hq hs
    have e0 := sq_one hu n p0 q0 fun x y hx hy => (a0 x y hx hy).trans (b0 x y hx hy).symm
    have e1 := sq_one hu n p1 q1 fun x y hx hy => (a1 x y hx hy).trans (b1 x y hx hy).symm
    have e2 := sq_one hu n p2 q2 fun x y hx hy => (a2 x y hx hy).trans (b2 x y hx hy).symm
    have e3 := sq_one hu n p3 q3 fun x y hx hy => (a3 x y hx hy).trans (b3 x y hx hy).symm
    have e : p = q := by
      obtain ⟨x0, x1, x2, x3⟩ := p
      obtain ⟨y0, y1, y2, y3⟩ := q
      simp only at e0 e1 e2 e3
      rw [e0, e1, e2, e3]
    exact hu.1 i j p hp (by rw [e]; exact hq)
/-- what becomes of a square is one -/
theorem nx_one {R : Bool → Nat → Bool} {Q : Qs4} (hu : Uq Q) {n j : Nat} {id v v' : Int} (h : Nx R Q n id j v) (k : Nx R Q n id j v') : v = v' := by
  refine sq_one hu (n + 1) h.1 k.1 fun x y hx hy => ?_
  rw [h.2 _ _ _ (shows_self (n + 2) id) x y hx hy, k.2 _ _ _ (shows_self (n + 2) id) x y hx hy]
/-- in fewer squares it is so, too -/
theorem Nx.less {R : Bool → Nat → Bool} {Q Q' : Qs4} {n j : Nat} {id v : Int} (h : Nx R Q' n id j v) (he : Ext Q Q') (hi : IsSq Q (n + 2) id) (hv : IsSq Q (n + 1) v) : Nx R Q n id j v :=
  ⟨hv, fun g a b hs => (h.2 g a b (hs.ext hi he)).back hv he⟩
end Go.Proofs.YtofbcngcblleaaaGreat.L

namespace Go.Proofs.YtofbcngcblleaaaGreat.A
open Go.RowKit Go.Proofs.YtofbcngcblleaaaGreat.L

/-- the quarters of all squares -/
def QG (l : List Th) : Qs4 := fun id => if 2 ≤ id then (match l[(id - 2).toNat]? with
  | some x => if x.k = 1 then some (x.p0, x.p1, x.p2, x.p3) else none
  | none => none) else none
theorem QG_iff {l : List Th} {id : Int} {q : Int × Int × Int × Int} : QG l id = some q ↔ 2 ≤ id ∧ ∃ x, l[(id - 2).toNat]? = some x ∧ x.k = 1 ∧ q = (x.p0, x.p1, x.p2, x.p3) := by
  unfold QG
  constructor
  · intro h
    split at h
    · rename_i h2
      cases hx : l[(id - 2).toNat]? with
      | none => rw [hx] at h; cases h
      | some x =>
        rw [hx] at h
        simp only at h
        split at h
        · rename_i hk; exact ⟨h2, x, rfl, hk, (Option.some.inj h).symm⟩
        · cases h
    · cases h
  · rintro ⟨h2, x, hx, hk, rfl⟩
    rw [if_pos h2, hx]
    exact if_pos hk
theorem QG_uq {l : List Th} (hu : Uniq l) : Uq (QG l) := by
  refine ⟨fun i j q hi hj => ?_, ?_, ?_⟩
  · obtain ⟨h1, x, hx, kx, ex⟩ := QG_iff.1 hi
    obtain ⟨h2, y, hy, ky, ey⟩ := QG_iff.1 hj
    have e : x.key = y.key := by
      rw [ex] at ey
      simp only [Prod.mk.injEq] at ey
      unfold Th.key
      rw [kx, ky, ey.1, ey.2.1, ey.2.2.1, ey.2.2.2]
    have := hu _ _ x y hx hy (by rw [kx]; decide) e
    omega
  · unfold QG; rw [if_neg (by decide)]
  · unfold QG; rw [if_neg (by decide)]
theorem sq_level {Q : Qs4} (hu : Uq Q) : ∀ {n k : Nat} {id : Int}, IsSq Q n id → IsSq Q k id → n = k
  | 0, 0, _, _, _ => rfl
  | 0, k + 1, id, h, ⟨q, hq, _⟩ => by
    rcases h with rfl | rfl
    · rw [hu.2.1] at hq; cases hq
    · rw [hu.2.2] at hq; cases hq
  | n + 1, 0, id, ⟨q, hq, _⟩, h => by
    rcases h with rfl | rfl
    · rw [hu.2.1] at hq; cases hq
    · rw [hu.2.2] at hq; cases hq
  | n + 1, k + 1, id, ⟨q, hq, h1, _⟩, ⟨p, hp, k1, _⟩ => by
    rw [hq] at hp
    cases hp
    rw [sq_level hu h1 k1]
/-- what is there is there in the other, too -/
def Inc (l l' : List Th) : Prop := ∀ (j : Nat) (x : Th), l[j]? = some x → x.k ≠ 0 → ∃ y, l'[j]? = some y ∧ y.face = x.face
theorem face_all {x y : Th} (h : y.face = x.face) : y.k = x.k ∧ y.p0 = x.p0 ∧ y.p1 = x.p1 ∧ y.p2 = x.p2 ∧ y.p3 = x.p3 ∧ y.lv = x.lv ∧ y.va = x.va := by
  simp only [Th.face, Th.key, Prod.mk.injEq, Ky.mk.injEq] at h
  obtain ⟨⟨a, b, c, d, e⟩, f, g⟩ := h
  exact ⟨a, b, c, d, e, f, g⟩
theorem Inc.ext {l l' : List Th} (h : Inc l l') : Ext (QG l) (QG l') := fun id q hq => by
  obtain ⟨h2, x, hx, hk, rfl⟩ := QG_iff.1 hq
  obtain ⟨y, hy, e⟩ := h _ x hx (by rw [hk]; decide)
  obtain ⟨e0, e1, e2, e3, e4, _⟩ := face_all e
  exact QG_iff.2 ⟨h2, y, hy, e0.trans hk, by rw [e1, e2, e3, e4]⟩
theorem Inc.glev {l l' : List Th} (h : Inc l l') {id a : Int} (hl : glev l id = some a) : glev l' id = some a := by
  rcases glev_iff.1 hl with e | ⟨h1, x, h2, h3, h4⟩
  · exact glev_iff.2 (.inl e)
  · obtain ⟨y, hy, e⟩ := h _ x h2 (by rw [h3]; decide)
    obtain ⟨e0, _, _, _, _, e5, _⟩ := face_all e
    exact glev_iff.2 (.inr ⟨h1, y, hy, e0.trans h3, e5.trans h4⟩)
/-- levels are no less than 0 -/
def Lv0 (l : List Th) : Prop := ∀ x ∈ l, 0 ≤ x.lv
theorem glev_nn {l : List Th} (h : Lv0 l) {id a : Int} (hl : glev l id = some a) : 0 ≤ a := by
  rcases glev_iff.1 hl with ⟨_, e⟩ | ⟨_, x, h2, _, h4⟩
  · omega
  · rw [← h4]; exact h x (List.mem_of_getElem? h2)
theorem isSq_glev {l : List Th} (hg : GL l) (h0 : Lv0 l) : ∀ (n : Nat) (id : Int), glev l id = some (n : Int) → IsSq (QG l) n id
  | 0, id, h => by
    rcases glev_iff.1 h with ⟨e, _⟩ | ⟨_, x, h2, h3, h4⟩
    · exact e
    · have := glev_nn h0 (hg.sq x (List.mem_of_getElem? h2) h3 x.p0 (by simp [partsT]))
      omega
  | n + 1, id, h => by
    rcases glev_iff.1 h with ⟨_, e⟩ | ⟨h1, x, h2, h3, h4⟩
    · omega
    · have hl : ∀ r ∈ partsT x, glev l r = some (n : Int) := fun r hr => by rw [hg.sq x (List.mem_of_getElem? h2) h3 r hr, h4]; congr 1; omega
      exact ⟨_, QG_iff.2 ⟨h1, x, h2, h3, rfl⟩, isSq_glev hg h0 n _ (hl _ (by simp [partsT])), isSq_glev hg h0 n _ (hl _ (by simp [partsT])), isSq_glev hg h0 n _ (hl _ (by simp [partsT])), isSq_glev hg h0 n _ (hl _ (by simp [partsT]))⟩
/-- a note is right -/
structure NoteR (R : Bool → Nat → Bool) (rn : Int) (l : List Th) (x : Th) : Prop where
  sub : (glev l x.p0).isSome = true
  val : (glev l x.va).isSome = true
  nx : x.p1 = rn → ∀ n j : Nat, glev l x.p0 = some ((n + 2 : Nat) : Int) → x.p2 = (j : Int) → j ≤ n → Nx R (QG l) n x.p0 j x.va
/-- all notes are -/
def NotesG (R : Bool → Nat → Bool) (rn : Int) (l : List Th) : Prop := ∀ x ∈ l, x.k = 2 → NoteR R rn l x
theorem some_of {o : Option Int} (h : o.isSome = true) : ∃ a, o = some a := Option.isSome_iff_exists.1 h
/-- more is there: a note that was right stays so -/
theorem NoteR.inc {R : Bool → Nat → Bool} {rn : Int} {l l' : List Th} {x y : Th} (h : NoteR R rn l x) (e : y.face = x.face) (hi : Inc l l') (hg : GL l) (h0 : Lv0 l) : NoteR R rn l' y := by
  obtain ⟨_, e0, e1, e2, _, _, e3⟩ := face_all e
  obtain ⟨a, ha⟩ := some_of h.sub
  obtain ⟨c, hc⟩ := some_of h.val
  refine ⟨by rw [e0, hi.glev ha]; rfl, by rw [e3, hi.glev hc]; rfl, fun hr n j hl hj hjn => ?_⟩
  rw [e0, hi.glev ha] at hl
  have h3 : glev l x.p0 = some ((n + 2 : Nat) : Int) := ha.trans hl
  rw [e0, e3]
  exact (h.nx (by rw [← e1]; exact hr) n j h3 (by rw [← e2]; exact hj) hjn).ext (isSq_glev hg h0 _ _ h3) hi.ext
/-- less is there: a note that was right stays so, if what it speaks of is there -/
theorem NoteR.dec {R : Bool → Nat → Bool} {rn : Int} {l l' : List Th} {x : Th} (h : NoteR R rn l x) (hi : Inc l' l) (hu : Uniq l) (hg : GL l') (h0 : Lv0 l') (hs : (glev l' x.p0).isSome = true) (hv : (glev l' x.va).isSome = true) : NoteR R rn l' x := by
  refine ⟨hs, hv, fun hr n j hl hj hjn => ?_⟩
  have h1 := h.nx hr n j (hi.glev hl) hj hjn
  obtain ⟨a, ha⟩ := some_of hv
  obtain ⟨k, rfl⟩ : ∃ k : Nat, a = k := ⟨a.toNat, by have := glev_nn h0 ha; omega⟩
  have h2 := isSq_glev hg h0 k _ ha
  have h3 : k = n + 1 := sq_level (QG_uq hu) (h2.ext hi.ext) h1.1
  exact h1.less hi.ext (isSq_glev hg h0 _ _ hl) (by rw [← h3]; exact h2)
theorem inc_swept (l : List Th) : Inc (swL l) l := fun j y hy hk => by
  rw [swL_get] at hy
  obtain ⟨x, hx, rfl⟩ := Option.map_eq_some_iff.1 hy
  cases hg : gone x with
  | false => rw [clrT_keep hg]; exact ⟨x, hx, rfl⟩
  | true => rw [clrT_gone hg] at hk; exact absurd rfl hk
theorem lv0_of {A : Ar} (hS : Sound A) : Lv0 A.ths := fun x hx => (hS.lv x hx).1
theorem mem_get {l : List Th} {x : Th} (h : x ∈ l) : ∃ j : Nat, l[j]? = some x := List.getElem?_of_mem h
/-- the squares that a tenant sees are squares -/
theorem view_QG (A : Ar) (t : Nat) : Ext (QV (view A t)) (QG A.ths) := fun id q hq => by
  unfold QV at hq
  cases hv : (view A t).V id with
  | none => rw [hv] at hq; cases hq
  | some f =>
    rw [hv] at hq
    simp only at hq
    split at hq
    · rename_i hk
      obtain ⟨h2, x, hx, _, e⟩ := ownV_iff.1 hv
      subst e
      exact QG_iff.2 ⟨h2, x, hx, hk, (Option.some.inj hq).symm⟩
    · cases hq
theorem notes_made {R : Bool → Nat → Bool} {rn : Int} {A : Ar} (h : NotesG R rn A.ths) (hS : Sound A) (hG : Glob A) : NotesG R rn A.made.ths := by
  unfold Ar.made
  split
  · intro x hx hk
    obtain ⟨j, hj⟩ := mem_get hx
    have hj' : (swL A.ths)[j]? = some x := hj
    rw [swL_get] at hj'
    obtain ⟨z, hz, e⟩ := Option.map_eq_some_iff.1 hj'
    have hng : gone z = false := by
      cases hg : gone z with
      | false => rfl
      | true => rw [clrT_gone hg] at e; rw [← e] at hk; cases hk
    rw [clrT_keep hng] at e
    subst e
    have hm0 : z.mask ≠ 0 := fun e0 => by
      have : gone z = true := by unfold gone; rw [e0, hk]; decide
      rw [this] at hng
      cases hng
    obtain ⟨u, hu, hb⟩ := mask_bit hm0 (hS.mask z (List.mem_of_getElem? hz))
    have hV : (view A u).V ((j : Int) + 2) = some z.face := ownV_iff.2 ⟨by omega, z, by rw [show (((j : Int) + 2 - 2).toNat) = j by omega]; exact hz, hb, rfl⟩
    have hcl : ∀ r ∈ [z.p0, z.va], (glev A.swept.ths r).isSome = true := fun r hr => by
      have h1 := (hG.wel u hu).clo _ _ hV r (by unfold refsV; rw [if_neg (show ¬ z.face.1.k = 1 by show ¬ z.k = 1; omega)]; exact hr)
      obtain ⟨a, ha⟩ := some_of h1
      have h2 : levV (ownV A.swept.ths u) r = some a := by
        rw [show ownV A.swept.ths u = ownV A.ths u from funext fun id => ownV_swept _ _ _]
        exact ha
      rw [level_glev h2]
      rfl
    exact (h z (List.mem_of_getElem? hz) hk).dec (inc_swept A.ths) hS.uniq (gl_swept hG hS) (lv0_of (swept_sound hS)) (hcl _ (by simp)) (hcl _ (by simp))
  · exact h
theorem inc_laid {A : Ar} (x : Th) : Inc A.ths (A.laid x).1.ths ∧ ∀ (j : Nat) (y : Th), (A.laid x).1.ths[j]? = some y → y = x ∨ A.ths[j]? = some y := by
  unfold Ar.laid
  cases hf : A.ths.findIdx? isNo with
  | none =>
    refine ⟨fun j y hy _ => ⟨y, ?_, rfl⟩, fun j y hy => ?_⟩
    · show (A.ths ++ [x])[j]? = some y
      rw [List.getElem?_append_left (List.getElem?_eq_some_iff.1 hy).1]; exact hy
    · change (A.ths ++ [x])[j]? = some y at hy
      rcases Nat.lt_or_ge j A.ths.length with h | h
      · rw [List.getElem?_append_left h] at hy; exact .inr hy
      · rw [List.getElem?_append_right h] at hy
        left
        have := List.mem_of_getElem? hy
        simpa using this
  | some i =>
    have hi : ∃ z, A.ths[i]? = some z ∧ z.k = 0 := by
      obtain ⟨h1, h2, _⟩ := List.findIdx?_eq_some_iff_getElem.1 hf
      exact ⟨A.ths[i], List.getElem?_eq_getElem h1, by unfold isNo at h2; simpa using h2⟩
    obtain ⟨z, hz, hzk⟩ := hi
    refine ⟨fun j y hy hk => ⟨y, ?_, rfl⟩, fun j y hy => ?_⟩
    · show (A.ths.set i x)[j]? = some y
      rw [List.getElem?_set]
      by_cases e : i = j
      · subst e; rw [hz] at hy; cases hy; exact absurd hzk hk
      · rw [if_neg e]; exact hy
    · change (A.ths.set i x)[j]? = some y at hy
      rw [List.getElem?_set] at hy
      by_cases e : i = j
      · subst e
        rw [if_pos rfl] at hy
        split at hy
        · exact .inl (Option.some.inj hy).symm
        · cases hy
      · rw [if_neg e] at hy; exact .inr hy
theorem notes_laid {R : Bool → Nat → Bool} {rn : Int} {A : Ar} {x : Th} (h : NotesG R rn A.ths) (hg : GL A.ths) (h0 : Lv0 A.ths) (hx : x.k = 2 → NoteR R rn A.ths x) : NotesG R rn (A.laid x).1.ths := by
  obtain ⟨i1, i2⟩ := inc_laid (A := A) x
  intro y hy hk
  obtain ⟨j, hj⟩ := mem_get hy
  rcases i2 j y hj with rfl | e
  · exact (hx hk).inc rfl i1 hg h0
  · exact (h y (List.mem_of_getElem? e) hk).inc rfl i1 hg h0
theorem notes_give {R : Bool → Nat → Bool} {rn : Int} {A : Ar} {t i : Nat} {x : Th} (h : NotesG R rn A.ths) (hg : GL A.ths) (h0 : Lv0 A.ths) (hx : A.ths[i]? = some x) : NotesG R rn (A.give t i x).ths := by
  have hget : ∀ j, (A.give t i x).ths[j]? = if i = j then some { x with mask := x.mask ||| bitN t } else A.ths[j]? := fun j => by
    show (A.ths.set i _)[j]? = _
    rw [List.getElem?_set]
    by_cases e : i = j
    · rw [if_pos e, if_pos e, if_pos (e ▸ (List.getElem?_eq_some_iff.1 hx).1)]
    · rw [if_neg e, if_neg e]
  have hi : Inc A.ths (A.give t i x).ths := fun j y hy _ => by
    rw [hget]
    by_cases e : i = j
    · subst e
      rw [hx] at hy
      cases hy
      exact ⟨_, if_pos rfl, rfl⟩
    · exact ⟨y, by rw [if_neg e]; exact hy, rfl⟩
  intro y hy hk
  obtain ⟨j, hj⟩ := mem_get hy
  rw [hget] at hj
  by_cases e : i = j
  · rw [if_pos e] at hj
    cases hj
    exact (h x (List.mem_of_getElem? hx) hk).inc rfl hi hg h0
  · rw [if_neg e] at hj
    exact (h y (List.mem_of_getElem? hj) hk).inc rfl hi hg h0
theorem gl_made {A : Ar} (hG : Glob A) (hS : Sound A) : GL A.made.ths := by
  unfold Ar.made
  split
  · exact gl_swept hG hS
  · exact hG.gl
theorem notes_beco {R : Bool → Nat → Bool} {rn : Int} {A : Ar} {t : Nat} {x : Th} (h : NotesG R rn A.ths) (hS : Sound A) (hG : Glob A) (hv : x.k = 1 → x.va = 0) (hl : x.k ≠ 1 → x.lv = 0) (hr1 : x.k = 1 → ∀ r ∈ partsT x, levV (ownV A.ths t) r = some (x.lv - 1)) (hx0 : 0 ≤ x.lv) (hx : x.k = 2 → NoteR R rn A.made.ths x) : NotesG R rn (A.beco t x).1.ths := by
  have hgl : GL (A.made.laid x).1.ths := gl_laid (t := t) (gl_made hG hS) hv hl fun e r hr' => by
    rw [show ownV A.made.ths t = ownV A.ths t from funext (ownV_made A t)]
    exact hr1 e r hr'
  have hm := notes_made h hS hG
  have hm0 := lv0_of (made_sound hS)
  unfold Ar.beco
  cases hs : spotF A.ths x.key with
  | some i =>
    obtain ⟨z, h1, _, h3⟩ := spot_at hs
    simp only
    split
    · exact h
    · split
      · exact h
      · rw [h3]
        exact notes_give h hG.gl (lv0_of hS) h1
  | none =>
    simp only
    split
    · exact h
    · split
      · exact hm
      · obtain ⟨i1, i2⟩ := inc_laid (A := A.made) x
        refine notes_give (notes_laid hm (gl_made hG hS) hm0 hx) hgl (fun y hy => ?_) (laid_at A.made x)
        obtain ⟨j, hj⟩ := mem_get hy
        rcases i2 j y hj with rfl | e
        · exact hx0
        · exact hm0 y (List.mem_of_getElem? e)
end Go.Proofs.YtofbcngcblleaaaGreat.A

namespace Go.Proofs.YtofbcngcblleaaaGreat.A
open Go.RowKit Go.Proofs.YtofbcngcblleaaaGreat.L

/-- what lies in a square of a plane; outside nothing lives -/
def pic (g : Gr) (a b : Int) (n : Nat) : Gr := fun x y => if 0 ≤ x ∧ x < 2 ^ n ∧ 0 ≤ y ∧ y < 2 ^ n then g (a + x) (b + y) else false
/-- what a square shows -/
def picQ (Q : Qs4) (n : Nat) (id : Int) : Gr := pic (fun x y => cellV Q n id x.toNat y.toNat) 0 0 n
section
variable {Q Q' : Qs4} {n : Nat} {id : Int} {g : Gr} {a b : Int}
theorem pic_agr {h : Gr} {c d : Int} (hh : ∀ x y : Nat, x < 2 ^ n → y < 2 ^ n → g (a + x) (b + y) = h (c + x) (d + y)) : pic g a b n = pic h c d n := by
  funext x y
  unfold pic
  have hp := powI n
  split
  · have := hh x.toNat y.toNat (by omega) (by omega)
    rw [show ((x.toNat : Nat) : Int) = x by omega, show ((y.toNat : Nat) : Int) = y by omega] at this
    exact this
  · rfl
theorem pic_at (x y : Nat) (hx : x < 2 ^ n) (hy : y < 2 ^ n) : pic g a b n x y = g (a + x) (b + y) := by
  have hp := powI n
  unfold pic
  rw [if_pos ⟨by omega, by omega, by omega, by omega⟩]
theorem pic_shows (h : Shows Q n id g a b) : picQ Q n id = pic g a b n := by
  refine pic_agr fun x y hx hy => ?_
  rw [← h x y hx hy]
  simp
theorem shows_pic : Shows Q n id (picQ Q n id) 0 0 := fun x y hx hy => by
  rw [Int.zero_add, Int.zero_add]
  unfold picQ
  rw [pic_at x y hx hy]
  simp
theorem shows_mv {Q : Qs4} {n : Nat} {i : Int} {g : Gr} {a1 b1 a2 b2 : Int} (h : Shows Q n i g a1 b1) (e1 : a1 = a2) (e2 : b1 = b2) : Shows Q n i g a2 b2 := by subst e1 e2; exact h
theorem picQ_ext (he : Ext Q Q') (hs : IsSq Q n id) : picQ Q' n id = picQ Q n id := by
  have : (fun x y : Int => cellV Q' n id x.toNat y.toNat) = fun x y => cellV Q n id x.toNat y.toNat := funext fun x => funext fun y => cell_ext he hs _ _
  unfold picQ
  rw [this]
/-- four pictures make one -/
def joinPic (n : Nat) (p0 p1 p2 p3 : Gr) : Gr := fun x y => if x < 2 ^ n then (if y < 2 ^ n then p0 x y else p2 x (y - 2 ^ n)) else (if y < 2 ^ n then p1 (x - 2 ^ n) y else p3 (x - 2 ^ n) (y - 2 ^ n))
theorem pic_join : joinPic n (pic g a b n) (pic g (a + 2 ^ n) b n) (pic g a (b + 2 ^ n) n) (pic g (a + 2 ^ n) (b + 2 ^ n) n) = pic g a b (n + 1) := by
  funext x y
  have hp := two_powI n
  have h0 : (0 : Int) < 2 ^ n := by have := powI n; have : 0 < 2 ^ n := Nat.pow_pos (by omega); omega
  unfold joinPic pic
  by_cases hx : x < 2 ^ n
  · by_cases hy : y < 2 ^ n
    · rw [if_pos hx, if_pos hy]
      by_cases h : 0 ≤ x ∧ 0 ≤ y
      · rw [if_pos (by omega), if_pos (by omega)]
      · rw [if_neg (by omega), if_neg (by omega)]
    · rw [if_pos hx, if_neg hy]
      by_cases h : 0 ≤ x ∧ y - 2 ^ n < 2 ^ n
      · rw [if_pos (by omega), if_pos (by omega), show b + 2 ^ n + (y - 2 ^ n) = b + y by omega]
      · rw [if_neg (by omega), if_neg (by omega)]
  · by_cases hy : y < 2 ^ n
    · rw [if_neg hx, if_pos hy]
      by_cases h : x - 2 ^ n < 2 ^ n ∧ 0 ≤ y
      · rw [if_pos (by omega), if_pos (by omega), show a + 2 ^ n + (x - 2 ^ n) = a + x by omega]
      · rw [if_neg (by omega), if_neg (by omega)]
    · rw [if_neg hx, if_neg hy]
      by_cases h : x - 2 ^ n < 2 ^ n ∧ y - 2 ^ n < 2 ^ n
      · rw [if_pos (by omega), if_pos (by omega), show b + 2 ^ n + (y - 2 ^ n) = b + y by omega, show a + 2 ^ n + (x - 2 ^ n) = a + x by omega]
      · rw [if_neg (by omega), if_neg (by omega)]
theorem join_pic {q0 q1 q2 q3 : Int} (h0 : Shows Q n q0 g a b) (h1 : Shows Q n q1 g (a + 2 ^ n) b) (h2 : Shows Q n q2 g a (b + 2 ^ n)) (h3 : Shows Q n q3 g (a + 2 ^ n) (b + 2 ^ n)) : joinPic n (picQ Q n q0) (picQ Q n q1) (picQ Q n q2) (picQ Q n q3) = pic g a b (n + 1) := by
  rw [pic_shows h0, pic_shows h1, pic_shows h2, pic_shows h3]
  exact pic_join
theorem join_picQ {q : Int × Int × Int × Int} (hq : Q id = some q) : joinPic n (picQ Q n q.1) (picQ Q n q.2.1) (picQ Q n q.2.2.1) (picQ Q n q.2.2.2) = picQ Q (n + 1) id := by
  obtain ⟨h0, h1, h2, h3⟩ := shows_kids hq (shows_self (n + 1) id)
  exact join_pic h0 h1 h2 h3
/-- four pictures by the one that they make -/
theorem join_inj {q q' : Int × Int × Int × Int} (h : joinPic n (picQ Q n q.1) (picQ Q n q.2.1) (picQ Q n q.2.2.1) (picQ Q n q.2.2.2) = joinPic n (picQ Q n q'.1) (picQ Q n q'.2.1) (picQ Q n q'.2.2.1) (picQ Q n q'.2.2.2)) :
    (∀ x y, x < 2 ^ n → y < 2 ^ n → cellV Q n q.1 x y = cellV Q n q'.1 x y) ∧ (∀ x y, x < 2 ^ n → y < 2 ^ n → cellV Q n q.2.1 x y = cellV Q n q'.2.1 x y) ∧ (∀ x y, x < 2 ^ n → y < 2 ^ n → cellV Q n q.2.2.1 x y = cellV Q n q'.2.2.1 x y) ∧ (∀ x y, x < 2 ^ n → y < 2 ^ n → cellV Q n q.2.2.2 x y = cellV Q n q'.2.2.2 x y) := by
  have hp := powI n
  have key : ∀ (i : Int) (x y : Nat), x < 2 ^ n → y < 2 ^ n → picQ Q n i x y = cellV Q n i x y := fun i x y hx hy => by
    unfold picQ
    rw [pic_at x y hx hy]
    simp
  refine ⟨fun x y hx hy => ?_, fun x y hx hy => ?_, fun x y hx hy => ?_, fun x y hx hy => ?_⟩
  · have h1 := congrFun (congrFun h x) y
    unfold joinPic at h1
    rw [if_pos (by omega), if_pos (by omega), if_pos (by omega), if_pos (by omega)] at h1
    rw [← key _ x y hx hy, ← key _ x y hx hy]
    exact h1
  · have h1 := congrFun (congrFun h (x + 2 ^ n)) y
    unfold joinPic at h1
    rw [if_neg (by omega), if_pos (by omega), if_neg (by omega), if_pos (by omega), show (x : Int) + 2 ^ n - 2 ^ n = x by omega] at h1
    rw [← key _ x y hx hy, ← key _ x y hx hy]
    exact h1
  · have h1 := congrFun (congrFun h x) (y + 2 ^ n)
    unfold joinPic at h1
    rw [if_pos (by omega), if_neg (by omega), if_pos (by omega), if_neg (by omega), show (y : Int) + 2 ^ n - 2 ^ n = y by omega] at h1
    rw [← key _ x y hx hy, ← key _ x y hx hy]
    exact h1
  · have h1 := congrFun (congrFun h (x + 2 ^ n)) (y + 2 ^ n)
    unfold joinPic at h1
    rw [if_neg (by omega), if_neg (by omega), if_neg (by omega), if_neg (by omega), show (x : Int) + 2 ^ n - 2 ^ n = x by omega, show (y : Int) + 2 ^ n - 2 ^ n = y by omega] at h1
    rw [← key _ x y hx hy, ← key _ x y hx hy]
    exact h1
theorem picQ_cells {n : Nat} {i j : Int} (h : picQ Q n i = picQ Q n j) : ∀ x y, x < 2 ^ n → y < 2 ^ n → cellV Q n i x y = cellV Q n j x y := fun x y hx hy => by
  have h1 := congrFun (congrFun h x) y
  unfold picQ at h1
  rw [pic_at x y hx hy, pic_at x y hx hy] at h1
  simpa using h1
end
/-- a thing by its picture: a square of a level, or a note of a square -/
inductive Item where
  | sq (n : Nat) (p : Gr)
  | nt (rn : Int) (n : Nat) (p : Gr) (j : Int)
/-- what a thing is -/
def Is (v : Vw) (id : Int) : Item → Prop
  | .sq n p => 1 ≤ n ∧ levV v.V id = some (n : Int) ∧ picQ (QV v) n id = p
  | .nt rn n p j => ∃ f, v.V id = some f ∧ f.1.k = 2 ∧ f.1.p1 = rn ∧ f.1.p2 = j ∧ f.1.p3 = 0 ∧ levV v.V f.1.p0 = some (n : Int) ∧ picQ (QV v) n f.1.p0 = p
/-- what a tenant has -/
def Has (v : Vw) (i : Item) : Prop := ∃ id, Is v id i
theorem Is.sees {v v' : Vw} {id : Int} {i : Item} (h : Is v id i) (hw : Wel v) (hp : PosL v) (hs : Sees v v') : Is v' id i := by
  cases i with
  | sq n p =>
    obtain ⟨h1, h2, h3⟩ := h
    exact ⟨h1, hs.lev h2, (picQ_ext hs.ext (isSq_of_lev hw hp _ _ h2)).trans h3⟩
  | nt rn n p j =>
    obtain ⟨f, h1, h2, h3, h4, hz, h5, h6⟩ := h
    exact ⟨f, hs _ _ h1, h2, h3, h4, hz, hs.lev h5, (picQ_ext hs.ext (isSq_of_lev hw hp _ _ h5)).trans h6⟩
theorem Has.sees {v v' : Vw} {i : Item} (h : Has v i) (hw : Wel v) (hp : PosL v) (hs : Sees v v') : Has v' i := let ⟨id, k⟩ := h; ⟨id, k.sees hw hp hs⟩
theorem is_one {v : Vw} {id : Int} {i i' : Item} (h : Is v id i) (k : Is v id i') : i = i' := by
  have key : ∀ {n : Nat} {p : Gr} {rn : Int} {m : Nat} {p' : Gr} {j : Int}, Is v id (.sq n p) → Is v id (.nt rn m p' j) → False := fun {n p rn m p' j} a c => by
    obtain ⟨a1, a2, _⟩ := a
    obtain ⟨f, c1, c2, _⟩ := c
    unfold levV at a2
    split at a2
    · have := Option.some.inj a2; omega
    · rw [c1] at a2
      simp only at a2
      rw [if_neg (by omega)] at a2
      cases a2
  cases i with
  | sq n p =>
    cases i' with
    | sq n' p' =>
      obtain ⟨h1, h2, h3⟩ := h
      obtain ⟨k1, k2, k3⟩ := k
      rw [h2] at k2
      have e : n = n' := by have := Option.some.inj k2; omega
      subst e
      rw [← h3, ← k3]
    | nt rn m p' j => exact (key h k).elim
  | nt rn n p j =>
    cases i' with
    | sq n' p' => exact (key k h).elim
    | nt rn' n' p' j' =>
      obtain ⟨f, h1, h2, h3, h4, _, h5, h6⟩ := h
      obtain ⟨f', k1, k2, k3, k4, _, k5, k6⟩ := k
      rw [h1] at k1
      cases k1
      rw [h5] at k5
      have e : n = n' := by have := Option.some.inj k5; omega
      subst e
      rw [← h3, ← k3, ← h4, ← k4, ← h6, ← k6]
/-- the squares that a leap looks at: the nine, the four at full speed, the four where it is slower -/
def W9 (m : Nat) (p : Gr) (r : Nat) : Gr := pic p ((r % 3 : Nat) * 2 ^ (m + 1)) ((r / 3 : Nat) * 2 ^ (m + 1)) (m + 2)
def W4 (R : Bool → Nat → Bool) (m j : Nat) (p : Gr) (r : Nat) : Gr := pic (iter R (2 ^ j) p) (2 ^ m + (r % 2 : Nat) * 2 ^ (m + 1)) (2 ^ m + (r / 2 : Nat) * 2 ^ (m + 1)) (m + 2)
def M4 (R : Bool → Nat → Bool) (m j : Nat) (p : Gr) (r : Nat) : Gr := pic (iter R (2 ^ j) p) (2 ^ (m + 1) + (r % 2 : Nat) * 2 ^ (m + 1)) (2 ^ (m + 1) + (r / 2 : Nat) * 2 ^ (m + 1)) (m + 1)
/-- how fast the nine go -/
def jf (m j : Nat) : Nat := if j = m + 1 then m else j
/-- what a leap makes, if S is there already: of a square of level n + 2, its picture p, 2^j steps -/
def Dem (R : Bool → Nat → Bool) (rn : Int) (S : Item → Prop) : Nat → Gr → Nat → Item → Prop
  | 0, p, j, i => ¬ S (.nt rn 2 p j) ∧ (i = .nt rn 2 p j ∨ i = .sq 1 (pic (iter R (2 ^ j) p) 1 1 1))
  | m + 1, p, j, i => ¬ S (.nt rn (m + 3) p j) ∧ (i = .nt rn (m + 3) p j ∨ i = .sq (m + 2) (pic (iter R (2 ^ j) p) (2 ^ (m + 1)) (2 ^ (m + 1)) (m + 2)) ∨ (∃ r, r < 9 ∧ (i = .sq (m + 2) (W9 m p r) ∨ Dem R rn S m (W9 m p r) (jf m j) i)) ∨ (∃ r, r < 4 ∧ if j = jf m j then i = .sq (m + 1) (M4 R m (jf m j) p r) else (i = .sq (m + 2) (W4 R m (jf m j) p r) ∨ Dem R rn S m (W4 R m (jf m j) p r) (jf m j) i)))
/-- what the first k of nine make -/
def D9 (R : Bool → Nat → Bool) (rn : Int) (S : Item → Prop) (m : Nat) (p : Gr) (j k : Nat) (i : Item) : Prop := ∃ r, r < k ∧ (i = .sq (m + 2) (W9 m p r) ∨ Dem R rn S m (W9 m p r) j i)
/-- what one of four makes -/
def F4 (R : Bool → Nat → Bool) (rn : Int) (S : Item → Prop) (m : Nat) (p : Gr) (j jj r : Nat) (i : Item) : Prop := if jj = j then i = .sq (m + 1) (M4 R m j p r) else (i = .sq (m + 2) (W4 R m j p r) ∨ Dem R rn S m (W4 R m j p r) j i)
/-- what is made on the way to what is noted -/
def FindD (R : Bool → Nat → Bool) (rn : Int) (S : Item → Prop) : Nat → Gr → Nat → Item → Prop
  | 0, p, j, i => i = .sq 1 (pic (iter R (2 ^ j) p) 1 1 1)
  | m + 1, p, j, i => i = .sq (m + 2) (pic (iter R (2 ^ j) p) (2 ^ (m + 1)) (2 ^ (m + 1)) (m + 2)) ∨ D9 R rn S m p (jf m j) 9 i ∨ ∃ r, r < 4 ∧ F4 R rn S m p (jf m j) j r i
theorem Dem_eq (R : Bool → Nat → Bool) (rn : Int) (S : Item → Prop) (n : Nat) (p : Gr) (j : Nat) (i : Item) : Dem R rn S n p j i ↔ ¬ S (.nt rn (n + 2) p j) ∧ (i = .nt rn (n + 2) p j ∨ FindD R rn S n p j i) := by
  cases n with
  | zero => exact Iff.rfl
  | succ m => exact Iff.rfl
/-- all that was noted since S has been made whole -/
structure Cl (R : Bool → Nat → Bool) (rn : Int) (S : Item → Prop) (v : Vw) : Prop where
  sub : ∀ i, S i → Has v i
  clo : ∀ (n : Nat) (p : Gr) (j : Nat), j ≤ n → Has v (.nt rn (n + 2) p j) → ¬ S (.nt rn (n + 2) p j) → ∀ i, Dem R rn S n p j i → Has v i
theorem Cl.refl (R : Bool → Nat → Bool) (rn : Int) (v : Vw) : Cl R rn (Has v) v := ⟨fun _ h => h, fun _ _ _ _ h k => absurd h k⟩
end Go.Proofs.YtofbcngcblleaaaGreat.A

namespace Go.Proofs.YtofbcngcblleaaaGreat.A
open Go.RowKit Go.Maps

theorem glob_back {A : Ar} (h : Glob A) (hS : Sound A) {t : Nat} (ht : t < 64) (k : Nat) : Glob (A.lose t ((A.fresh t).drop k) ((A.fresh t).take k)) := by
  obtain ⟨hnd, hown⟩ := fresh_own hS ht
  have ho : OwnIds A.ths t ((A.fresh t).drop k) := ⟨hnd.sublist (List.drop_sublist _ _), fun id hid => hown id (List.mem_of_mem_drop hid)⟩
  refine ⟨gl_lose h.gl hS ht ho, fun u hu => ?_⟩
  obtain ⟨v1, v2⟩ := view_lose (f := (A.fresh t).take k) hS ht ho
  by_cases e : u = t
  · subst e
    rw [v1]
    refine (h.wel u hu).less (fun id f hf hn => ?_) (fun n id f hf hn hn2 r hr => ?_) (fun id hid => ?_)
    · exact (h.wel u hu).fr k id f hf hn
    · by_cases hl : n ≤ ((A.fresh u).take k).length
      · have hd : (A.fresh u).drop n = ((A.fresh u).take k).drop n ++ (A.fresh u).drop k := by
          rw [← List.drop_append_of_le_length hl, List.take_append_drop]
        have h1 := (h.wel u hu).fr n id f hf (by
          show id ∉ (A.fresh u).drop n
          rw [hd]
          exact fun hm => (List.mem_append.1 hm).elim hn2 hn) r hr
        have h1 : r ∉ (A.fresh u).drop n := h1
        rw [hd] at h1
        exact fun hm => h1 (List.mem_append_left _ hm)
      · rw [List.drop_of_length_le (by omega)]
        simp
    · refine ⟨fun hd => ?_, (h.wel u hu).fo id (List.mem_of_mem_take hid)⟩
      have h3 : ((A.fresh u).take k ++ (A.fresh u).drop k).Nodup := by rw [List.take_append_drop]; exact hnd
      exact (List.nodup_append.1 h3).2.2 id hid id hd rfl
  · rw [v2 u e]; exact h.wel u hu
end Go.Proofs.YtofbcngcblleaaaGreat.A
