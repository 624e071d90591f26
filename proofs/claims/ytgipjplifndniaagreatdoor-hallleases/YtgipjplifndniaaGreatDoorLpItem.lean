/- What a tenant has, told by pictures: nothing of it hangs on numbers. -/
import Derived.Test.YtgipjplifndniaaGreatDoorArGlob
namespace Go.Proofs.YtgipjplifndniaaGreatDoor.L

abbrev Gr := Int → Int → Bool
def b2n (b : Bool) : Nat := if b then 1 else 0
def nbr (g : Gr) (x y : Int) : Nat := b2n (g (x - 1) (y - 1)) + b2n (g x (y - 1)) + b2n (g (x + 1) (y - 1)) + b2n (g (x - 1) y) + b2n (g (x + 1) y) + b2n (g (x - 1) (y + 1)) + b2n (g x (y + 1)) + b2n (g (x + 1) (y + 1))
variable (R : Bool → Nat → Bool)
def stepG (g : Gr) : Gr := fun x y => R (g x y) (nbr g x y)
def iter : Nat → Gr → Gr
  | 0, g => g
  | n + 1, g => iter n (stepG R g)
variable {R}
abbrev Qs4 := Int → Option (Int × Int × Int × Int)
def pick4 (q : Int × Int × Int × Int) (x y : Bool) : Int := if y then (if x then q.2.2.2 else q.2.2.1) else (if x then q.2.1 else q.1)
def cellV (Q : Qs4) : Nat → Int → Nat → Nat → Bool
  | 0, id, _, _ => decide (id = 1)
  | n + 1, id, x, y => match Q id with
    | some q => cellV Q n (pick4 q (decide (2 ^ n ≤ x)) (decide (2 ^ n ≤ y))) (x % 2 ^ n) (y % 2 ^ n)
    | none => false
def IsSq (Q : Qs4) : Nat → Int → Prop
  | 0, id => id = 0 ∨ id = 1
  | n + 1, id => ∃ q, Q id = some q ∧ IsSq Q n q.1 ∧ IsSq Q n q.2.1 ∧ IsSq Q n q.2.2.1 ∧ IsSq Q n q.2.2.2
def Ext (Q Q' : Qs4) : Prop := ∀ id q, Q id = some q → Q' id = some q
variable {Q Q' : Qs4}
theorem IsSq.ext (he : Ext Q Q') : ∀ {n : Nat} {id : Int}, IsSq Q n id → IsSq Q' n id
  | 0, _, h => h
  | _ + 1, _, ⟨q, h, h0, h1, h2, h3⟩ => ⟨q, he _ _ h, IsSq.ext he h0, IsSq.ext he h1, IsSq.ext he h2, IsSq.ext he h3⟩
theorem IsSq.pick {n : Nat} {q : Int × Int × Int × Int} (h0 : IsSq Q n q.1) (h1 : IsSq Q n q.2.1) (h2 : IsSq Q n q.2.2.1) (h3 : IsSq Q n q.2.2.2) (x y : Bool) : IsSq Q n (pick4 q x y) := by
  unfold pick4
  cases x <;> cases y <;> assumption
theorem cell_ext (he : Ext Q Q') : ∀ {n : Nat} {id : Int}, IsSq Q n id → ∀ x y, cellV Q' n id x y = cellV Q n id x y
  | 0, _, _, _, _ => rfl
  | n + 1, id, ⟨q, h, h0, h1, h2, h3⟩, x, y => by
    rw [cellV, cellV, h, he _ _ h]
    exact cell_ext he (IsSq.pick h0 h1 h2 h3 _ _) _ _
def Shows (Q : Qs4) (n : Nat) (id : Int) (g : Gr) (a b : Int) : Prop := ∀ x y : Nat, x < 2 ^ n → y < 2 ^ n → cellV Q n id x y = g (a + x) (b + y)
theorem Shows.ext {n : Nat} {id : Int} {g : Gr} {a b : Int} (h : Shows Q n id g a b) (hs : IsSq Q n id) (he : Ext Q Q') : Shows Q' n id g a b := fun x y hx hy => (cell_ext he hs x y).trans (h x y hx hy)
theorem Shows.back {n : Nat} {id : Int} {g : Gr} {a b : Int} (h : Shows Q' n id g a b) (hs : IsSq Q n id) (he : Ext Q Q') : Shows Q n id g a b := fun x y hx hy => (cell_ext he hs x y).symm.trans (h x y hx hy)
theorem two_pow (n : Nat) : 2 ^ (n + 1) = 2 ^ n + 2 ^ n := by rw [Nat.pow_succ]; omega
theorem two_powI (n : Nat) : (2 : Int) ^ (n + 1) = 2 ^ n + 2 ^ n := by rw [Int.pow_succ]; omega
theorem powI (n : Nat) : ((2 ^ n : Nat) : Int) = 2 ^ n := by rw [Int.natCast_pow]; rfl
theorem shows_join {n : Nat} {id : Int} {q : Int × Int × Int × Int} {g : Gr} {a b : Int} (hq : Q id = some q) (h0 : Shows Q n q.1 g a b) (h1 : Shows Q n q.2.1 g (a + 2 ^ n) b) (h2 : Shows Q n q.2.2.1 g a (b + 2 ^ n)) (h3 : Shows Q n q.2.2.2 g (a + 2 ^ n) (b + 2 ^ n)) : Shows Q (n + 1) id g a b := by
  intro x y hx hy
  rw [two_pow] at hx hy
  have hp : 0 < 2 ^ n := Nat.pow_pos (by omega)
  have hI := powI n
  rw [cellV, hq]
  show cellV Q n (pick4 q (decide (2 ^ n ≤ x)) (decide (2 ^ n ≤ y))) (x % 2 ^ n) (y % 2 ^ n) = _
  by_cases hx1 : 2 ^ n ≤ x
  · have ex : x % 2 ^ n = x - 2 ^ n := by rw [Nat.mod_eq_sub_mod hx1, Nat.mod_eq_of_lt (by omega)]
    by_cases hy1 : 2 ^ n ≤ y
    · have ey : y % 2 ^ n = y - 2 ^ n := by rw [Nat.mod_eq_sub_mod hy1, Nat.mod_eq_of_lt (by omega)]
      rw [decide_eq_true hx1, decide_eq_true hy1, ex, ey]
      have := h3 (x - 2 ^ n) (y - 2 ^ n) (by omega) (by omega)
      rw [show a + (x : Int) = a + 2 ^ n + ((x - 2 ^ n : Nat) : Int) by omega, show b + (y : Int) = b + 2 ^ n + ((y - 2 ^ n : Nat) : Int) by omega]
      exact this
    · rw [decide_eq_true hx1, decide_eq_false hy1, ex, Nat.mod_eq_of_lt (show y < 2 ^ n by omega)]
      have := h1 (x - 2 ^ n) y (by omega) (by omega)
      rw [show a + (x : Int) = a + 2 ^ n + ((x - 2 ^ n : Nat) : Int) by omega]
      exact this
  · by_cases hy1 : 2 ^ n ≤ y
    · have ey : y % 2 ^ n = y - 2 ^ n := by rw [Nat.mod_eq_sub_mod hy1, Nat.mod_eq_of_lt (by omega)]
      rw [decide_eq_false hx1, decide_eq_true hy1, ey, Nat.mod_eq_of_lt (show x < 2 ^ n by omega)]
      have := h2 x (y - 2 ^ n) (by omega) (by omega)
      rw [show b + (y : Int) = b + 2 ^ n + ((y - 2 ^ n : Nat) : Int) by omega]
      exact this
    · rw [decide_eq_false hx1, decide_eq_false hy1, Nat.mod_eq_of_lt (show x < 2 ^ n by omega), Nat.mod_eq_of_lt (show y < 2 ^ n by omega)]
      exact h0 x y (by omega) (by omega)
theorem shows_kids {n : Nat} {id : Int} {q : Int × Int × Int × Int} {g : Gr} {a b : Int} (hq : Q id = some q) (h : Shows Q (n + 1) id g a b) : Shows Q n q.1 g a b ∧ Shows Q n q.2.1 g (a + 2 ^ n) b ∧ Shows Q n q.2.2.1 g a (b + 2 ^ n) ∧ Shows Q n q.2.2.2 g (a + 2 ^ n) (b + 2 ^ n) := by
  have hI := powI n
  have hp : 0 < 2 ^ n := Nat.pow_pos (by omega)
  have key : ∀ (X Y : Bool) (x y : Nat), x < 2 ^ n → y < 2 ^ n → cellV Q n (pick4 q X Y) x y = g (a + (if X then 2 ^ n else 0) + x) (b + (if Y then 2 ^ n else 0) + y) := by
    intro X Y x y hx hy
    have h1 := h (x + if X then 2 ^ n else 0) (y + if Y then 2 ^ n else 0) (by rw [two_pow]; split <;> omega) (by rw [two_pow]; split <;> omega)
    rw [cellV, hq] at h1
    have h2 : cellV Q n (pick4 q (decide (2 ^ n ≤ x + if X then 2 ^ n else 0)) (decide (2 ^ n ≤ y + if Y then 2 ^ n else 0))) ((x + if X then 2 ^ n else 0) % 2 ^ n) ((y + if Y then 2 ^ n else 0) % 2 ^ n) = g (a + ((x + if X then 2 ^ n else 0 : Nat) : Int)) (b + ((y + if Y then 2 ^ n else 0 : Nat) : Int)) := h1
    cases X <;> cases Y <;> simp only [Bool.false_eq_true, if_false, if_true, Nat.add_zero, Int.add_zero] at h2 ⊢
    · rw [decide_eq_false (by omega), decide_eq_false (by omega), Nat.mod_eq_of_lt hx, Nat.mod_eq_of_lt hy] at h2
      exact h2
    · rw [decide_eq_false (by omega), decide_eq_true (by omega), Nat.mod_eq_of_lt hx, Nat.add_mod_right, Nat.mod_eq_of_lt hy] at h2
      rw [show b + 2 ^ n + (y : Int) = b + ((y + 2 ^ n : Nat) : Int) by omega]
      exact h2
    · rw [decide_eq_true (by omega), decide_eq_false (by omega), Nat.add_mod_right, Nat.mod_eq_of_lt hx, Nat.mod_eq_of_lt hy] at h2
      rw [show a + 2 ^ n + (x : Int) = a + ((x + 2 ^ n : Nat) : Int) by omega]
      exact h2
    · rw [decide_eq_true (by omega), decide_eq_true (by omega), Nat.add_mod_right, Nat.mod_eq_of_lt hx, Nat.add_mod_right, Nat.mod_eq_of_lt hy] at h2
      rw [show a + 2 ^ n + (x : Int) = a + ((x + 2 ^ n : Nat) : Int) by omega, show b + 2 ^ n + (y : Int) = b + ((y + 2 ^ n : Nat) : Int) by omega]
      exact h2
  refine ⟨fun x y hx hy => ?_, fun x y hx hy => ?_, fun x y hx hy => ?_, fun x y hx hy => ?_⟩
  · simpa [pick4] using key false false x y hx hy
  · simpa [pick4] using key true false x y hx hy
  · simpa [pick4] using key false true x y hx hy
  · simpa [pick4] using key true true x y hx hy
end Go.Proofs.YtgipjplifndniaaGreatDoor.L

namespace Go.Proofs.YtgipjplifndniaaGreatDoor.L

def Nx (R : Bool → Nat → Bool) (Q : Qs4) (n : Nat) (id : Int) (j : Nat) (res : Int) : Prop := IsSq Q (n + 1) res ∧ ∀ g a b, Shows Q (n + 2) id g a b → Shows Q (n + 1) res (iter R (2 ^ j) g) (a + 2 ^ n) (b + 2 ^ n)
def At (R : Bool → Nat → Bool) (Q : Qs4) (n0 : Nat) (id0 : Int) (k : Nat) (id : Int) (T : Nat) (dx dy : Int) : Prop := IsSq Q k id ∧ ∀ g a b, Shows Q n0 id0 g a b → Shows Q k id (iter R T g) (a + dx) (b + dy)
variable {R : Bool → Nat → Bool} {Q Q' : Qs4} {n0 k T : Nat} {id0 id : Int} {dx dy : Int}
theorem At.ext (h : At R Q n0 id0 k id T dx dy) (h0 : IsSq Q n0 id0) (he : Ext Q Q') : At R Q' n0 id0 k id T dx dy :=
  ⟨h.1.ext he, fun g a b hs => (h.2 g a b (hs.back h0 he)).ext h.1 he⟩
theorem Nx.ext {n j : Nat} {res : Int} (h : Nx R Q n id j res) (h0 : IsSq Q (n + 2) id) (he : Ext Q Q') : Nx R Q' n id j res := At.ext (R := R) (Q := Q) (n0 := n + 2) h h0 he
end Go.Proofs.YtgipjplifndniaaGreatDoor.L

namespace Go.Proofs.YtgipjplifndniaaGreatDoor.A
open Go.RowKit Go.Proofs.YtgipjplifndniaaGreatDoor.L

def QV (v : Vw) : Qs4 := fun id => match v.V id with
  | some f => if f.1.k = 1 then some (f.1.p0, f.1.p1, f.1.p2, f.1.p3) else none
  | none => none
theorem QV_some {v : Vw} {id : Int} {f : Ky × Int × Int} (h : v.V id = some f) (hk : f.1.k = 1) : QV v id = some (f.1.p0, f.1.p1, f.1.p2, f.1.p3) := by
  unfold QV
  rw [h]
  exact if_pos hk
def Sees (v v' : Vw) : Prop := ∀ id f, v.V id = some f → v'.V id = some f
theorem Sees.refl (v : Vw) : Sees v v := fun _ _ h => h
theorem Sees.trans {v v1 v2 : Vw} (h : Sees v v1) (k : Sees v1 v2) : Sees v v2 := fun id f hf => k id f (h id f hf)
theorem Sees.ext {v v' : Vw} (h : Sees v v') : Ext (QV v) (QV v') := fun id q hq => by
  unfold QV at hq ⊢
  cases hv : v.V id with
  | none => rw [hv] at hq; cases hq
  | some f => rw [hv] at hq; rw [h id f hv]; exact hq
theorem Sees.more {v : Vw} {id : Int} {f : Ky × Int × Int} (hn : v.V id = none) : Sees v (v.more id f) := fun k g hg => by
  show (if k = id then some f else v.V k) = some g
  rw [if_neg fun e => by rw [e, hn] at hg; cases hg]
  exact hg
theorem Sees.lev {v v' : Vw} (h : Sees v v') {id a : Int} (hl : levV v.V id = some a) : levV v'.V id = some a := by
  unfold levV at hl ⊢
  split at hl
  · rename_i h0; rw [if_pos h0]; exact hl
  · rename_i h0
    rw [if_neg h0]
    cases hv : v.V id with
    | none => rw [hv] at hl; cases hl
    | some f => rw [hv] at hl; rw [h id f hv]; exact hl
def PosL (v : Vw) : Prop := ∀ id f, v.V id = some f → f.1.k = 1 → 1 ≤ f.2.1
theorem isSq_of_lev {v : Vw} (hw : Wel v) (hp : PosL v) : ∀ (n : Nat) (id : Int), levV v.V id = some (n : Int) → IsSq (QV v) n id
  | 0, id, h => by
    unfold levV at h
    split at h
    · rename_i h0; exact h0
    · cases hv : v.V id with
      | none => rw [hv] at h; cases h
      | some f =>
        rw [hv] at h
        simp only at h
        split at h
        · rename_i hk
          have := hp id f hv hk
          have h2 := Option.some.inj h
          omega
        · cases h
  | n + 1, id, h => by
    unfold levV at h
    split at h
    · have := Option.some.inj h; omega
    · cases hv : v.V id with
      | none => rw [hv] at h; cases h
      | some f =>
        rw [hv] at h
        simp only at h
        split at h
        · rename_i hk
          have h2 := Option.some.inj h
          have hr : refsV f = [f.1.p0, f.1.p1, f.1.p2, f.1.p3] := by unfold refsV; rw [if_pos hk]
          have hl : ∀ r ∈ refsV f, levV v.V r = some (n : Int) := fun r hr => by rw [hw.lev id f hv hk r hr, h2]; congr 1; omega
          rw [hr] at hl
          exact ⟨_, QV_some hv hk, isSq_of_lev hw hp n _ (hl _ (by simp)), isSq_of_lev hw hp n _ (hl _ (by simp)), isSq_of_lev hw hp n _ (hl _ (by simp)), isSq_of_lev hw hp n _ (hl _ (by simp))⟩
        · cases h
theorem pos_more {v : Vw} {id : Int} {f : Ky × Int × Int} (h : PosL v) (hf : f.1.k = 1 → 1 ≤ f.2.1) : PosL (v.more id f) := by
  intro k g hg hk
  change (if k = id then some f else v.V k) = some g at hg
  split at hg
  · cases hg; exact hf hk
  · exact h k g hg hk
end Go.Proofs.YtgipjplifndniaaGreatDoor.A

namespace Go.Proofs.YtgipjplifndniaaGreatDoor.L

def Uq (Q : Qs4) : Prop := (∀ i j q, Q i = some q → Q j = some q → i = j) ∧ Q 0 = none ∧ Q 1 = none
theorem shows_self {Q : Qs4} (n : Nat) (id : Int) : Shows Q n id (fun x y => cellV Q n id x.toNat y.toNat) 0 0 := fun x y _ _ => by simp
theorem sq_one {Q : Qs4} (hu : Uq Q) : ∀ (n : Nat) {i j : Int}, IsSq Q n i → IsSq Q n j → (∀ x y, x < 2 ^ n → y < 2 ^ n → cellV Q n i x y = cellV Q n j x y) → i = j
  | 0, i, j, hi, hj, h => by
    have := h 0 0 (by decide) (by decide)
    rw [cellV, cellV] at this
    rcases hi with rfl | rfl <;> rcases hj with rfl | rfl <;> first | rfl | simp at this
  | n + 1, i, j, ⟨p, hp, p0, p1, p2, p3⟩, ⟨q, hq, q0, q1, q2, q3⟩, h => by
    have hs : Shows Q (n + 1) j (fun x y => cellV Q (n + 1) i x.toNat y.toNat) 0 0 := fun x y hx hy => by
      have := h x y hx hy
      simpa using this.symm
    obtain ⟨a0, a1, a2, a3⟩ := shows_kids hp (shows_self (n + 1) i)
    obtain ⟨b0, b1, b2, b3⟩ := shows_kids hq hs
    have e0 := sq_one hu n p0 q0 fun x y hx hy => (a0 x y hx hy).trans (b0 x y hx hy).symm
    have e1 := sq_one hu n p1 q1 fun x y hx hy => (a1 x y hx hy).trans (b1 x y hx hy).symm
    have e2 := sq_one hu n p2 q2 fun x y hx hy => (a2 x y hx hy).trans (b2 x y hx hy).symm
    have e3 := sq_one hu n p3 q3 fun x y hx hy => (a3 x y hx hy).trans (b3 x y hx hy).symm
    have e : p = q := by
      obtain ⟨x0, x1, x2, x3⟩ := p
      obtain ⟨y0, y1, y2, y3⟩ := q
      simp only at e0 e1 e2 e3
      rw [e0, e1, e2, e3]
    exact hu.1 i j p hp (by rw [e]; exact hq)
theorem Nx.less {R : Bool → Nat → Bool} {Q Q' : Qs4} {n j : Nat} {id v : Int} (h : Nx R Q' n id j v) (he : Ext Q Q') (hi : IsSq Q (n + 2) id) (hv : IsSq Q (n + 1) v) : Nx R Q n id j v :=
  ⟨hv, fun g a b hs => (h.2 g a b (hs.ext hi he)).back hv he⟩
end Go.Proofs.YtgipjplifndniaaGreatDoor.L

namespace Go.Proofs.YtgipjplifndniaaGreatDoor.A
open Go.RowKit Go.Proofs.YtgipjplifndniaaGreatDoor.L

def pic (g : Gr) (a b : Int) (n : Nat) : Gr := fun x y => if 0 ≤ x ∧ x < 2 ^ n ∧ 0 ≤ y ∧ y < 2 ^ n then g (a + x) (b + y) else false
def picQ (Q : Qs4) (n : Nat) (id : Int) : Gr := pic (fun x y => cellV Q n id x.toNat y.toNat) 0 0 n
section
variable {Q Q' : Qs4} {n : Nat} {id : Int} {g : Gr} {a b : Int}
theorem pic_agr {h : Gr} {c d : Int} (hh : ∀ x y : Nat, x < 2 ^ n → y < 2 ^ n → g (a + x) (b + y) = h (c + x) (d + y)) : pic g a b n = pic h c d n := by
  funext x y
  unfold pic
  have hp := powI n
  split
  · have := hh x.toNat y.toNat (by omega) (by omega)
    rw [show ((x.toNat : Nat) : Int) = x by omega, show ((y.toNat : Nat) : Int) = y by omega] at this
    exact this
  · rfl
theorem pic_at (x y : Nat) (hx : x < 2 ^ n) (hy : y < 2 ^ n) : pic g a b n x y = g (a + x) (b + y) := by
  have hp := powI n
  unfold pic
  rw [if_pos ⟨by omega, by omega, by omega, by omega⟩]
theorem pic_shows (h : Shows Q n id g a b) : picQ Q n id = pic g a b n := by
  refine pic_agr fun x y hx hy => ?_
  rw [← h x y hx hy]
  simp
theorem shows_pic : Shows Q n id (picQ Q n id) 0 0 := fun x y hx hy => by
  rw [Int.zero_add, Int.zero_add]
  unfold picQ
  rw [pic_at x y hx hy]
  simp
theorem picQ_ext (he : Ext Q Q') (hs : IsSq Q n id) : picQ Q' n id = picQ Q n id := by
  have : (fun x y : Int => cellV Q' n id x.toNat y.toNat) = fun x y => cellV Q n id x.toNat y.toNat := funext fun x => funext fun y => cell_ext he hs _ _
  unfold picQ
  rw [this]
def joinPic (n : Nat) (p0 p1 p2 p3 : Gr) : Gr := fun x y => if x < 2 ^ n then (if y < 2 ^ n then p0 x y else p2 x (y - 2 ^ n)) else (if y < 2 ^ n then p1 (x - 2 ^ n) y else p3 (x - 2 ^ n) (y - 2 ^ n))
theorem pic_join : joinPic n (pic g a b n) (pic g (a + 2 ^ n) b n) (pic g a (b + 2 ^ n) n) (pic g (a + 2 ^ n) (b + 2 ^ n) n) = pic g a b (n + 1) := by
  funext x y
  have hp := two_powI n
  have h0 : (0 : Int) < 2 ^ n := by have := powI n; have : 0 < 2 ^ n := Nat.pow_pos (by omega); omega
  unfold joinPic pic
  by_cases hx : x < 2 ^ n
  · by_cases hy : y < 2 ^ n
    · rw [if_pos hx, if_pos hy]
      by_cases h : 0 ≤ x ∧ 0 ≤ y
      · rw [if_pos (by omega), if_pos (by omega)]
      · rw [if_neg (by omega), if_neg (by omega)]
    · rw [if_pos hx, if_neg hy]
      by_cases h : 0 ≤ x ∧ y - 2 ^ n < 2 ^ n
      · rw [if_pos (by omega), if_pos (by omega), show b + 2 ^ n + (y - 2 ^ n) = b + y by omega]
      · rw [if_neg (by omega), if_neg (by omega)]
  · by_cases hy : y < 2 ^ n
    · rw [if_neg hx, if_pos hy]
      by_cases h : x - 2 ^ n < 2 ^ n ∧ 0 ≤ y
      · rw [if_pos (by omega), if_pos (by omega), show a + 2 ^ n + (x - 2 ^ n) = a + x by omega]
      · rw [if_neg (by omega), if_neg (by omega)]
    · rw [if_neg hx, if_neg hy]
      by_cases h : x - 2 ^ n < 2 ^ n ∧ y - 2 ^ n < 2 ^ n
      · rw [if_pos (by omega), if_pos (by omega), show b + 2 ^ n + (y - 2 ^ n) = b + y by omega, show a + 2 ^ n + (x - 2 ^ n) = a + x by omega]
      · rw [if_neg (by omega), if_neg (by omega)]
theorem join_pic {q0 q1 q2 q3 : Int} (h0 : Shows Q n q0 g a b) (h1 : Shows Q n q1 g (a + 2 ^ n) b) (h2 : Shows Q n q2 g a (b + 2 ^ n)) (h3 : Shows Q n q3 g (a + 2 ^ n) (b + 2 ^ n)) : joinPic n (picQ Q n q0) (picQ Q n q1) (picQ Q n q2) (picQ Q n q3) = pic g a b (n + 1) := by
  rw [pic_shows h0, pic_shows h1, pic_shows h2, pic_shows h3]
  exact pic_join
theorem join_picQ {q : Int × Int × Int × Int} (hq : Q id = some q) : joinPic n (picQ Q n q.1) (picQ Q n q.2.1) (picQ Q n q.2.2.1) (picQ Q n q.2.2.2) = picQ Q (n + 1) id := by
  obtain ⟨h0, h1, h2, h3⟩ := shows_kids hq (shows_self (n + 1) id)
  exact join_pic h0 h1 h2 h3
theorem join_inj {q q' : Int × Int × Int × Int} (h : joinPic n (picQ Q n q.1) (picQ Q n q.2.1) (picQ Q n q.2.2.1) (picQ Q n q.2.2.2) = joinPic n (picQ Q n q'.1) (picQ Q n q'.2.1) (picQ Q n q'.2.2.1) (picQ Q n q'.2.2.2)) :
    (∀ x y, x < 2 ^ n → y < 2 ^ n → cellV Q n q.1 x y = cellV Q n q'.1 x y) ∧ (∀ x y, x < 2 ^ n → y < 2 ^ n → cellV Q n q.2.1 x y = cellV Q n q'.2.1 x y) ∧ (∀ x y, x < 2 ^ n → y < 2 ^ n → cellV Q n q.2.2.1 x y = cellV Q n q'.2.2.1 x y) ∧ (∀ x y, x < 2 ^ n → y < 2 ^ n → cellV Q n q.2.2.2 x y = cellV Q n q'.2.2.2 x y) := by
  have hp := powI n
  have key : ∀ (i : Int) (x y : Nat), x < 2 ^ n → y < 2 ^ n → picQ Q n i x y = cellV Q n i x y := fun i x y hx hy => by
    unfold picQ
    rw [pic_at x y hx hy]
    simp
  refine ⟨fun x y hx hy => ?_, fun x y hx hy => ?_, fun x y hx hy => ?_, fun x y hx hy => ?_⟩
  · have h1 := congrFun (congrFun h x) y
    unfold joinPic at h1
    rw [if_pos (by omega), if_pos (by omega), if_pos (by omega), if_pos (by omega)] at h1
    rw [← key _ x y hx hy, ← key _ x y hx hy]
    exact h1
  · have h1 := congrFun (congrFun h (x + 2 ^ n)) y
    unfold joinPic at h1
    rw [if_neg (by omega), if_pos (by omega), if_neg (by omega), if_pos (by omega), show (x : Int) + 2 ^ n - 2 ^ n = x by omega] at h1
    rw [← key _ x y hx hy, ← key _ x y hx hy]
    exact h1
  · have h1 := congrFun (congrFun h x) (y + 2 ^ n)
    unfold joinPic at h1
    rw [if_pos (by omega), if_neg (by omega), if_pos (by omega), if_neg (by omega), show (y : Int) + 2 ^ n - 2 ^ n = y by omega] at h1
    rw [← key _ x y hx hy, ← key _ x y hx hy]
    exact h1
  · have h1 := congrFun (congrFun h (x + 2 ^ n)) (y + 2 ^ n)
    unfold joinPic at h1
    rw [if_neg (by omega), if_neg (by omega), if_neg (by omega), if_neg (by omega), show (x : Int) + 2 ^ n - 2 ^ n = x by omega, show (y : Int) + 2 ^ n - 2 ^ n = y by omega] at h1
    rw [← key _ x y hx hy, ← key _ x y hx hy]
    exact h1
theorem picQ_cells {n : Nat} {i j : Int} (h : picQ Q n i = picQ Q n j) : ∀ x y, x < 2 ^ n → y < 2 ^ n → cellV Q n i x y = cellV Q n j x y := fun x y hx hy => by
  have h1 := congrFun (congrFun h x) y
  unfold picQ at h1
  rw [pic_at x y hx hy, pic_at x y hx hy] at h1
  simpa using h1
end
inductive Item where
  | sq (n : Nat) (p : Gr)
  | nt (rn : Int) (n : Nat) (p : Gr) (j : Int)
def Is (v : Vw) (id : Int) : Item → Prop
  | .sq n p => 1 ≤ n ∧ levV v.V id = some (n : Int) ∧ picQ (QV v) n id = p
  | .nt rn n p j => ∃ f, v.V id = some f ∧ f.1.k = 2 ∧ f.1.p1 = rn ∧ f.1.p2 = j ∧ f.1.p3 = 0 ∧ levV v.V f.1.p0 = some (n : Int) ∧ picQ (QV v) n f.1.p0 = p
def Has (v : Vw) (i : Item) : Prop := ∃ id, Is v id i
theorem Is.sees {v v' : Vw} {id : Int} {i : Item} (h : Is v id i) (hw : Wel v) (hp : PosL v) (hs : Sees v v') : Is v' id i := by
  cases i with
  | sq n p =>
    obtain ⟨h1, h2, h3⟩ := h
    exact ⟨h1, hs.lev h2, (picQ_ext hs.ext (isSq_of_lev hw hp _ _ h2)).trans h3⟩
  | nt rn n p j =>
    obtain ⟨f, h1, h2, h3, h4, hz, h5, h6⟩ := h
    exact ⟨f, hs _ _ h1, h2, h3, h4, hz, hs.lev h5, (picQ_ext hs.ext (isSq_of_lev hw hp _ _ h5)).trans h6⟩
theorem Has.sees {v v' : Vw} {i : Item} (h : Has v i) (hw : Wel v) (hp : PosL v) (hs : Sees v v') : Has v' i := let ⟨id, k⟩ := h; ⟨id, k.sees hw hp hs⟩
def W9 (m : Nat) (p : Gr) (r : Nat) : Gr := pic p ((r % 3 : Nat) * 2 ^ (m + 1)) ((r / 3 : Nat) * 2 ^ (m + 1)) (m + 2)
def W4 (R : Bool → Nat → Bool) (m j : Nat) (p : Gr) (r : Nat) : Gr := pic (iter R (2 ^ j) p) (2 ^ m + (r % 2 : Nat) * 2 ^ (m + 1)) (2 ^ m + (r / 2 : Nat) * 2 ^ (m + 1)) (m + 2)
def M4 (R : Bool → Nat → Bool) (m j : Nat) (p : Gr) (r : Nat) : Gr := pic (iter R (2 ^ j) p) (2 ^ (m + 1) + (r % 2 : Nat) * 2 ^ (m + 1)) (2 ^ (m + 1) + (r / 2 : Nat) * 2 ^ (m + 1)) (m + 1)
def jf (m j : Nat) : Nat := if j = m + 1 then m else j
def Dem (R : Bool → Nat → Bool) (rn : Int) (S : Item → Prop) : Nat → Gr → Nat → Item → Prop
  | 0, p, j, i => ¬ S (.nt rn 2 p j) ∧ (i = .nt rn 2 p j ∨ i = .sq 1 (pic (iter R (2 ^ j) p) 1 1 1))
  | m + 1, p, j, i => ¬ S (.nt rn (m + 3) p j) ∧ (i = .nt rn (m + 3) p j ∨ i = .sq (m + 2) (pic (iter R (2 ^ j) p) (2 ^ (m + 1)) (2 ^ (m + 1)) (m + 2)) ∨ (∃ r, r < 9 ∧ (i = .sq (m + 2) (W9 m p r) ∨ Dem R rn S m (W9 m p r) (jf m j) i)) ∨ (∃ r, r < 4 ∧ if j = jf m j then i = .sq (m + 1) (M4 R m (jf m j) p r) else (i = .sq (m + 2) (W4 R m (jf m j) p r) ∨ Dem R rn S m (W4 R m (jf m j) p r) (jf m j) i)))
def F4 (R : Bool → Nat → Bool) (rn : Int) (S : Item → Prop) (m : Nat) (p : Gr) (j jj r : Nat) (i : Item) : Prop := if jj = j then i = .sq (m + 1) (M4 R m j p r) else (i = .sq (m + 2) (W4 R m j p r) ∨ Dem R rn S m (W4 R m j p r) j i)
structure Cl (R : Bool → Nat → Bool) (rn : Int) (S : Item → Prop) (v : Vw) : Prop where
  sub : ∀ i, S i → Has v i
  clo : ∀ (n : Nat) (p : Gr) (j : Nat), j ≤ n → Has v (.nt rn (n + 2) p j) → ¬ S (.nt rn (n + 2) p j) → ∀ i, Dem R rn S n p j i → Has v i
end Go.Proofs.YtgipjplifndniaaGreatDoor.A
