/- square over any ground: the arms that go no further. -/
import Derived.Test.YtgipjplifndniaaGreatDoorLpSquare
import Derived.Test.YtgipjplifndniaaGreatDoorLpGood
namespace Go.Proofs.YtgipjplifndniaaGreatDoor.A
open Go.RowKit Go.Maps Go.Proofs.YtgipjplifndniaaGreatDoor.L

def gV (p : Int × Int × Int) : Value := .agg #[.int .i64 p.1, .int .i64 p.2.1, .int .i64 p.2.2]
def gV4 (p : Nat → Int × Int × Int) : Value := .agg #[.int .i64 (p 0).1, .int .i64 (p 0).2.1, .int .i64 (p 0).2.2, .int .i64 (p 1).1, .int .i64 (p 1).2.1, .int .i64 (p 1).2.2, .int .i64 (p 2).1, .int .i64 (p 2).2.1, .int .i64 (p 2).2.2, .int .i64 (p 3).1, .int .i64 (p 3).2.1, .int .i64 (p 3).2.2]
def noG : Int × Int × Int := (-1, 0, 0)
def dnG (id c d : Int) (r : Nat) : Int × Int × Int := if (r : Int) = c then (id, c, d - 1) else noG
variable {w w1 w2 : World} {o o1 o2 : Nat → Nat} {hb b t : Nat} {e : Int} {A A' : Ar} {PR : (Bool → Nat → Bool) → Int → Prop} {q : Nat → Int} {E : List Int}
theorem GOk.go (hst : NxSt PR t q A) (ht : t < 64) (k : Goes1 t A A') : ∀ (g : Gd) {n : Nat} {id c d : Int}, GOk (view A t) g n id c d → GOk (view A' t) g n id c d
  | .no, _, _, _, _, h => h
  | .here _, _, _, _, _, ⟨h1, h0, h2, h3⟩ => ⟨h1, h0, k.sees.lev h2, (picQ_ext k.sees.ext (isSq_of_lev (hst.g.wel t ht) hst.p _ _ h2)).trans h3⟩
  | .four _, _, _, _, _, h => h
  | .dn _ g, _, _, _, _, ⟨m, h1, h2, h3, h4, h5, h6, h7⟩ => ⟨m, h1, h2, h3, h4, h5, h6, GOk.go hst ht k g h7⟩
theorem GOk.dn {v : Vw} {c' : Nat} {g : Gd} {n : Nat} {id c d : Int} (h : GOk v (.dn c' g) (n + 1) id c d) : ∀ r, r < 4 → GOk v (Gd.sub n (.dn c' g) r) n (dnG id c d r).1 (dnG id c d r).2.1 (dnG id c d r).2.2 := fun r _ => by
  obtain ⟨m, h1, h2, h3, h4, h5, h6, h7⟩ := h
  obtain rfl : m = n := by omega
  unfold dnG Gd.sub
  by_cases hr : r = c'
  · rw [if_pos (by omega), hr]
    simp only [if_true]
    exact h7
  · rw [if_neg (by omega)]
    simp only [hr, if_false]
    exact ⟨rfl, rfl, rfl⟩
theorem GOk.here {v : Vw} {P : Gr} {n : Nat} {id c d : Int} {k : Nat → Int} (h : GOk v (.here P) (n + 1) id c d) (hq : QV v id = some (k 0, k 1, k 2, k 3)) (hl : ∀ i, i < 4 → levV v.V (k i) = some (n : Int)) (h0 : ∀ i, i < 4 → 0 ≤ k i) : ∀ r, r < 4 → GOk v (Gd.sub n (.here P) r) n (k r) 0 0 := fun r hr => by
  obtain ⟨_, _, h2, h3⟩ := h
  refine ⟨rfl, h0 r hr, hl r hr, ?_⟩
  rw [← h3, ← join_picQ (n := n) hq]
  have h4 : r = 0 ∨ r = 1 ∨ r = 2 ∨ r = 3 := by omega
  have hp := two_powI n
  have hpos : (0 : Int) < 2 ^ n := by have := powI n; have : 0 < 2 ^ n := Nat.pow_pos (by omega); omega
  have hout : ∀ (i : Nat) (X Y : Int), ¬ (0 ≤ X ∧ X < 2 ^ n ∧ 0 ≤ Y ∧ Y < 2 ^ n) → picQ (QV v) n (k i) X Y = false := fun i X Y hn => by
    unfold picQ pic
    rw [if_neg hn]
  funext X Y
  unfold qpic pic
  split
  · rename_i hin
    rcases h4 with rfl | rfl | rfl | rfl <;> simp only [joinPic, Nat.reduceMod, Nat.reduceDiv, Int.natCast_zero, Int.natCast_one, Int.zero_mul, Int.one_mul, Int.zero_add]
    · rw [if_pos (by omega), if_pos (by omega)]
    · rw [if_neg (by omega), if_pos (by omega), show 2 ^ n + X - 2 ^ n = X by omega]
    · rw [if_pos (by omega), if_neg (by omega), show 2 ^ n + Y - 2 ^ n = Y by omega]
    · rw [if_neg (by omega), if_neg (by omega), show 2 ^ n + X - 2 ^ n = X by omega, show 2 ^ n + Y - 2 ^ n = Y by omega]
  · rename_i hn
    exact hout r X Y hn
end Go.Proofs.YtgipjplifndniaaGreatDoor.A

namespace Go.Proofs.YtgipjplifndniaaGreatDoor.A
open Go.RowKit Go.Maps Go.Proofs.YtgipjplifndniaaGreatDoor.L

variable {w w1 w2 : World} {o o1 o2 : Nat → Nat} {hb b t : Nat} {e : Int} {A A' : Ar} {PR : (Bool → Nat → Bool) → Int → Prop} {q : Nat → Int} {E : List Int}
def dnk (c : Nat) : Nat → Gd → Gd
  | 0, g => g
  | k + 1, g => .dn c (dnk c k g)
theorem dnk_ok {v : Vw} {c : Nat} (hc : c < 4) {P : Gr} {m : Nat} {x : Int} (h : GOk v (.here P) m x c 0) : ∀ k : Nat, k ≤ 44 → GOk v (dnk c k (.here P)) (m + k) x c (k : Int)
  | 0, _ => h
  | k + 1, hk => by
    refine ⟨m + k, rfl, rfl, hc, by omega, by omega, h.2.1, ?_⟩
    have := dnk_ok hc h k (by omega)
    rwa [show ((k + 1 : Nat) : Int) - 1 = (k : Int) by omega]
theorem pic_off {P : Gr} {a b : Int} {n : Nat} {X Y : Int} (h : ¬ (0 ≤ X ∧ X < 2 ^ n ∧ 0 ≤ Y ∧ Y < 2 ^ n)) : pic P a b n X Y = false := by
  unfold pic
  rw [if_neg h]
theorem pic_on {P : Gr} {a b : Int} {n : Nat} {X Y : Int} (h : 0 ≤ X ∧ X < 2 ^ n ∧ 0 ≤ Y ∧ Y < 2 ^ n) : pic P a b n X Y = P (a + X) (b + Y) := by
  unfold pic
  rw [if_pos h]
theorem pow_pos (n : Nat) : (0 : Int) < 2 ^ n := by have := powI n; have : 0 < 2 ^ n := Nat.pow_pos (by omega); omega
theorem pow_le {m n : Nat} (h : m ≤ n) : (2 : Int) ^ m ≤ 2 ^ n := by
  have h1 : 2 ^ m ≤ 2 ^ n := Nat.pow_le_pow_right (by omega) h
  have := powI m
  have := powI n
  omega
def cofs (b m n : Nat) : Int := if b = 0 then 0 else 2 ^ n - 2 ^ m
theorem dnk_show (c : Nat) (hc : c < 4) (P : Gr) (m : Nat) : ∀ (k : Nat) (X Y : Int), (dnk c k (.here P)).show (m + k) X Y = pic P 0 0 m (X - cofs (c % 2) m (m + k)) (Y - cofs (c / 2) m (m + k))
  | 0, X, Y => by
    have e : ∀ b, cofs b m (m + 0) = 0 := fun b => by unfold cofs; rw [Nat.add_zero]; split <;> omega
    rw [e, e, Int.sub_zero, Int.sub_zero]
    show Gd.show m (.here P) X Y = _
    rw [here_show]
  | k + 1, X, Y => by
    have ih := fun X Y => dnk_show c hc P m k X Y
    have hp := two_powI (m + k)
    have hs := pow_pos m
    have hle : (2 : Int) ^ m ≤ 2 ^ (m + k) := pow_le (by omega)
    have e : ∀ b, cofs b m (m + (k + 1)) = if b = 0 then 0 else 2 ^ (m + k) + (2 ^ (m + k) - 2 ^ m) := fun b => by
      unfold cofs
      rw [show m + (k + 1) = m + k + 1 from rfl, hp]
      split <;> omega
    have e' : ∀ b, cofs b m (m + k) = if b = 0 then 0 else 2 ^ (m + k) - 2 ^ m := fun b => rfl
    rw [e, e]
    show joinPic (m + k) (if 0 = c then (dnk c k (.here P)).show (m + k) else noP) (if 1 = c then (dnk c k (.here P)).show (m + k) else noP) (if 2 = c then (dnk c k (.here P)).show (m + k) else noP) (if 3 = c then (dnk c k (.here P)).show (m + k) else noP) X Y = _
    unfold joinPic
    generalize (2 : Int) ^ (m + k) = p at *
    have hc4 : c = 0 ∨ c = 1 ∨ c = 2 ∨ c = 3 := by omega
    have off : ∀ X' Y' : Int, X' < 0 ∨ 2 ^ m ≤ X' ∨ Y' < 0 ∨ 2 ^ m ≤ Y' → pic P 0 0 m X' Y' = false := fun X' Y' h => pic_off (by omega)
    rcases hc4 with rfl | rfl | rfl | rfl <;> simp only [Nat.reduceMod, Nat.reduceDiv, if_true, if_false, Nat.reduceEqDiff, Nat.zero_ne_one, e', Int.sub_zero, show ¬ (0 = 2) by omega, show ¬ (0 = 3) by omega, show ¬ (1 = 2) by omega, show ¬ (1 = 3) by omega, show ¬ (2 = 3) by omega, show ¬ (1 = 0) by omega, show ¬ (2 = 0) by omega, show ¬ (3 = 0) by omega] at ih ⊢ <;> by_cases hx : X < p <;> by_cases hy : Y < p <;> simp only [hx, hy, if_true, if_false, ih] <;>
      first
      | rfl
      | (rw [show X - p - (p - 2 ^ m) = X - (p + (p - 2 ^ m)) by omega, show Y - p - (p - 2 ^ m) = Y - (p + (p - 2 ^ m)) by omega])
      | (rw [show X - p - (p - 2 ^ m) = X - (p + (p - 2 ^ m)) by omega])
      | (rw [show Y - p - (p - 2 ^ m) = Y - (p + (p - 2 ^ m)) by omega])
      | exact (off _ _ (by omega)).symm
def rootG (g : Gr) (m k : Nat) : Gd := .four fun i => dnk (3 - i) k (.here (qpic m (pic g (-(2 ^ m)) (-(2 ^ m)) (m + 1)) i))
theorem qpic_at (g : Gr) (m i : Nat) (hi : i < 4) {U V : Int} (h : 0 ≤ U ∧ U < 2 ^ m ∧ 0 ≤ V ∧ V < 2 ^ m) : pic (qpic m (pic g (-(2 ^ m)) (-(2 ^ m)) (m + 1)) i) 0 0 m U V = g (U + ((i % 2 : Nat) : Int) * 2 ^ m - 2 ^ m) (V + ((i / 2 : Nat) : Int) * 2 ^ m - 2 ^ m) := by
  have hp := two_powI m
  unfold qpic
  rw [pic_on h, Int.zero_add, Int.zero_add, pic_on h]
  have hi4 : i = 0 ∨ i = 1 ∨ i = 2 ∨ i = 3 := by omega
  rcases hi4 with rfl | rfl | rfl | rfl <;> simp only [Nat.reduceMod, Nat.reduceDiv, Int.natCast_zero, Int.natCast_one, Int.zero_mul, Int.one_mul, Int.zero_add, Int.add_zero] <;> rw [pic_on (by omega)] <;> congr 1 <;> omega
theorem rootG_show (g : Gr) (m k : Nat) (hout : ∀ X Y, g X Y = true → -(2 ^ m) ≤ X ∧ X < 2 ^ m ∧ -(2 ^ m) ≤ Y ∧ Y < 2 ^ m) (X Y : Int) (_hX : 0 ≤ X ∧ X < 2 ^ (m + k + 1)) (_hY : 0 ≤ Y ∧ Y < 2 ^ (m + k + 1)) : (rootG g m k).show (m + k + 1) X Y = g (X - 2 ^ (m + k)) (Y - 2 ^ (m + k)) := by
  have hp := two_powI (m + k)
  have hs := pow_pos m
  have hle : (2 : Int) ^ m ≤ 2 ^ (m + k) := pow_le (by omega)
  have hno : ∀ X' Y', ¬ (-(2 ^ m) ≤ X' ∧ X' < 2 ^ m ∧ -(2 ^ m) ≤ Y' ∧ Y' < 2 ^ m) → g X' Y' = false := fun X' Y' h => by
    cases hg : g X' Y' with
    | false => rfl
    | true => exact absurd (hout _ _ hg) h
  show joinPic (m + k) ((dnk 3 k (.here (qpic m (pic g (-(2 ^ m)) (-(2 ^ m)) (m + 1)) 0))).show (m + k)) ((dnk 2 k (.here (qpic m (pic g (-(2 ^ m)) (-(2 ^ m)) (m + 1)) 1))).show (m + k)) ((dnk 1 k (.here (qpic m (pic g (-(2 ^ m)) (-(2 ^ m)) (m + 1)) 2))).show (m + k)) ((dnk 0 k (.here (qpic m (pic g (-(2 ^ m)) (-(2 ^ m)) (m + 1)) 3))).show (m + k)) X Y = _
  have d0 := dnk_show 3 (by omega) (qpic m (pic g (-(2 ^ m)) (-(2 ^ m)) (m + 1)) 0) m k
  have d1 := dnk_show 2 (by omega) (qpic m (pic g (-(2 ^ m)) (-(2 ^ m)) (m + 1)) 1) m k
  have d2 := dnk_show 1 (by omega) (qpic m (pic g (-(2 ^ m)) (-(2 ^ m)) (m + 1)) 2) m k
  have d3 := dnk_show 0 (by omega) (qpic m (pic g (-(2 ^ m)) (-(2 ^ m)) (m + 1)) 3) m k
  have c0 : cofs 0 m (m + k) = 0 := rfl
  have c1 : cofs 1 m (m + k) = 2 ^ (m + k) - 2 ^ m := rfl
  have q0 := fun U V h => qpic_at g m 0 (by omega) (U := U) (V := V) h
  have q1 := fun U V h => qpic_at g m 1 (by omega) (U := U) (V := V) h
  have q2 := fun U V h => qpic_at g m 2 (by omega) (U := U) (V := V) h
  have q3 := fun U V h => qpic_at g m 3 (by omega) (U := U) (V := V) h
  simp only [Nat.reduceMod, Nat.reduceDiv, c0, c1, Int.sub_zero, Int.natCast_zero, Int.natCast_one, Int.zero_mul, Int.one_mul, Int.add_zero] at d0 d1 d2 d3 q0 q1 q2 q3
  unfold joinPic
  rw [hp] at _hX _hY
  generalize (2 : Int) ^ (m + k) = p at *
  by_cases hx : X < p <;> by_cases hy : Y < p <;> simp only [hx, hy, if_true, if_false, d0, d1, d2, d3]
  · by_cases h : 0 ≤ X - (p - 2 ^ m) ∧ X - (p - 2 ^ m) < 2 ^ m ∧ 0 ≤ Y - (p - 2 ^ m) ∧ Y - (p - 2 ^ m) < 2 ^ m
    · rw [q0 _ _ h]; congr 1 <;> omega
    · rw [pic_off h, hno _ _ (by omega)]
  · by_cases h : 0 ≤ X - (p - 2 ^ m) ∧ X - (p - 2 ^ m) < 2 ^ m ∧ 0 ≤ Y - p ∧ Y - p < 2 ^ m
    · rw [q2 _ _ h]; congr 1 <;> omega
    · rw [pic_off h, hno _ _ (by omega)]
  · by_cases h : 0 ≤ X - p ∧ X - p < 2 ^ m ∧ 0 ≤ Y - (p - 2 ^ m) ∧ Y - (p - 2 ^ m) < 2 ^ m
    · rw [q1 _ _ h]; congr 1 <;> omega
    · rw [pic_off h, hno _ _ (by omega)]
  · by_cases h : 0 ≤ X - p ∧ X - p < 2 ^ m ∧ 0 ≤ Y - p ∧ Y - p < 2 ^ m
    · rw [q3 _ _ h]; congr 1 <;> omega
    · rw [pic_off h, hno _ _ (by omega)]
theorem rootG_ok {g : Gr} {m : Nat} {x : Int} {r : Nat → Int} (_ : NxSt PR t q A) (_ : t < 64) (hrt : Rt A t m x g) (hq : QV (view A t) x = some (r 0, r 1, r 2, r 3)) (hl : ∀ i, i < 4 → levV (view A t).V (r i) = some (m : Int)) (h0 : ∀ i, i < 4 → 0 ≤ r i) (h0x : 0 ≤ x) (k : Nat) (hk : k ≤ 44) : ∀ i, i < 4 → GOk (view A t) ((rootG g m k).sub (m + k) i) (m + k) (r i) (3 - (i : Int)) (k : Int) := fun i hi => by
  have hP : picQ (QV (view A t)) (m + 1) x = pic g (-(2 ^ m)) (-(2 ^ m)) (m + 1) := pic_shows hrt.shows
  have h1 : GOk (view A t) (.here (pic g (-(2 ^ m)) (-(2 ^ m)) (m + 1))) (m + 1) x 0 0 := ⟨rfl, h0x, hrt.lev, hP⟩
  have h2 := GOk.here h1 hq hl h0 i hi
  have h3 : GOk (view A t) (.here (qpic m (pic g (-(2 ^ m)) (-(2 ^ m)) (m + 1)) i)) m (r i) ((3 - i : Nat) : Int) 0 := h2
  have h4 := dnk_ok (by omega) h3 k hk
  rw [show (3 - (i : Int)) = ((3 - i : Nat) : Int) by omega]
  exact h4
def addG (g : Gr) (ys : List (Int × Int)) : Gr := fun X Y => g X Y || decide ((X, Y) ∈ ys)
theorem rt_of_add {g : Gr} {m N : Nat} {x : Int} {ys : List (Int × Int)} (hm : m ≤ N) (hout : ∀ X Y, g X Y = true → -(2 ^ m) ≤ X ∧ X < 2 ^ m ∧ -(2 ^ m) ≤ Y ∧ Y < 2 ^ m) (hys : ∀ p ∈ ys, -(2 ^ N) ≤ p.1 ∧ p.1 < 2 ^ N ∧ -(2 ^ N) ≤ p.2 ∧ p.2 < 2 ^ N)
    (hl : levV (view A t).V x = some ((N + 1 : Nat) : Int)) (hp : picQ (QV (view A t)) (N + 1) x = litP (N + 1) (rootG g m (N - m)) ys (-(2 ^ N)) (-(2 ^ N))) : Rt A t N x (addG g ys) := by
  obtain ⟨k, rfl⟩ : ∃ k, N = m + k := ⟨N - m, by omega⟩
  rw [show m + k - m = k by omega] at hp
  refine ⟨hl, fun X Y hx hy => ?_, fun X Y h => ?_⟩
  · have h := shows_pic (Q := QV (view A t)) (n := m + k + 1) (id := x) X Y hx hy
    have h2 := two_pow (m + k)
    have hpI := powI (m + k + 1)
    rw [h, hp, Int.zero_add, Int.zero_add]
    unfold litP addG
    rw [rootG_show g m k hout _ _ ⟨by omega, by omega⟩ ⟨by omega, by omega⟩, show (X : Int) - 2 ^ (m + k) = -(2 ^ (m + k)) + X by omega, show (Y : Int) - 2 ^ (m + k) = -(2 ^ (m + k)) + Y by omega]
  · unfold addG at h
    rw [Bool.or_eq_true] at h
    rcases h with h | h
    · have h1 := hout _ _ h
      have h2 : (2 : Int) ^ m ≤ 2 ^ (m + k) := pow_le hm
      omega
    · exact hys (X, Y) (by simpa using h)
end Go.Proofs.YtgipjplifndniaaGreatDoor.A

namespace Go.Proofs.YtgipjplifndniaaGreatDoor.A
open Go.RowKit Go.Maps Go.Proofs.YtgipjplifndniaaGreatDoor.L

variable {w w1 w2 : World} {o o1 o2 : Nat → Nat} {hb b t : Nat} {e : Int} {A A' : Ar} {PR : (Bool → Nat → Bool) → Int → Prop} {q : Nat → Int} {E : List Int}
def SqGC (n : Nat) : Prop := ∀ (PR : (Bool → Nat → Bool) → Int → Prop) (w : World) (o : Nat → Nat) (hb b t : Nat) (q : Nat → Int) (e : Int) (E : List Int) (A : Ar) (g : Gd) (id c d : Int) (zs : List (Int × Int)) (v : Value) (x y level : Int), HE w o hb b t e E A → NxSt PR t q A → t < 64 → (e = 0 ∨ Er e) → (1 ≤ E.length ∧ E.length ≤ 45) → (e = 0 → EOk A t E) → (e = 0 → GOk (view A t) g n id c d) → RowL w v zs → (∀ k, v.ownBlock = some k → o k = 0) → zs.length ≤ 4096 →
  (∀ p ∈ zs, x ≤ p.1 ∧ p.1 < x + 2 ^ n ∧ y ≤ p.2 ∧ p.2 < y + 2 ^ n) → n ≤ 44 → level = (n : Int) → -1152921504606846976 ≤ x → x + 2 ^ n ≤ 1152921504606846976 → -1152921504606846976 ≤ y → y + 2 ^ n ≤ 1152921504606846976 →
  Calls Tryz.prog 93 #[.pointer (some ⟨hb, 0, none⟩), gV (id, c, d), v, .int .i64 level, .int .i64 x, .int .i64 y] w fun r w' => ∃ k, r = .returned (.int .i64 k) ∧ SqCalls PR w o hb b t q e A n g zs x y (SqD n g zs x y) k w'
theorem ground_newG (w : World) (id c d : Int) : Below w.heap.size w (w.alloc (.cells #[.int .i64 id, .int .i64 c, .int .i64 d] 151)) ∧ (w.alloc (.cells #[.int .i64 id, .int .i64 c, .int .i64 d] 151)).cell? ⟨w.heap.size, 0, none⟩ = some (.int .i64 id) ∧ (w.alloc (.cells #[.int .i64 id, .int .i64 c, .int .i64 d] 151)).cell? ⟨w.heap.size, 1, none⟩ = some (.int .i64 c) ∧ (w.alloc (.cells #[.int .i64 id, .int .i64 c, .int .i64 d] 151)).cell? ⟨w.heap.size, 2, none⟩ = some (.int .i64 d) :=
  ⟨(Below.refl _ _).alloc (Nat.le_refl _) _, by rw [World.cell?_alloc_new]; rfl, by rw [World.cell?_alloc_new]; rfl, by rw [World.cell?_alloc_new]; rfl⟩
set_option maxHeartbeats 1000000 in
theorem square_deadG (id c d : Int) (a : Option Addr) (ln cp : Nat) (x y level : Int) (h : HE w o hb b t e E A) (he : e ≠ 0) :
    Calls Tryz.prog 93 #[.pointer (some ⟨hb, 0, none⟩), gV (id, c, d), .slice a ln cp, .int .i64 level, .int .i64 x, .int .i64 y] w fun r w' => r = .returned (.int .i64 0) ∧ Below w.heap.size w w' := by
  obtain ⟨hb0, _, _, _⟩ := ground_newG w id c d
  obtain ⟨v, hh, _⟩ := h.below hb0
  have c2 := hh.hand.c2
  have HB : Hid (Below w.heap.size w (w.alloc (.cells #[.int .i64 id, .int .i64 c, .int .i64 d] 151))) := hb0
  clear hh hb0 h
  unfold gV
  simp only
  go_enter Tryz.func93, Tryz.ntmps93
  go_wp2_with fail
  go_ret
  exact ⟨rfl, HB.out⟩
theorem square_ndG (n : Nat) (g : Gd) (id c d : Int) (a : Option Addr) (ln cp : Nat) (x y level : Int) (zs : List (Int × Int)) (h : HE w o hb b t e E A) (hst : NxSt PR t q A) (hl : 1 ≤ E.length ∧ E.length ≤ 45) (he : Er e) :
    Calls Tryz.prog 93 #[.pointer (some ⟨hb, 0, none⟩), gV (id, c, d), .slice a ln cp, .int .i64 level, .int .i64 x, .int .i64 y] w fun r w' => ∃ k, r = .returned (.int .i64 k) ∧ SqCalls PR w o hb b t q e A n g zs x y (SqD n g zs x y) k w' := by
  refine (square_deadG id c d a ln cp x y level h he.ne).mono ?_
  rintro r w' ⟨rfl, hb⟩
  exact ⟨0, rfl, e, E, A, _, h.below hb, Ch.ofBelow hb 0, hst, Gx.no he t A _, hl, .inr he, fun e0 => absurd e0 he.ne⟩
theorem litP_here {n : Nat} {P : Gr} {x y : Int} {Q : Qs4} {id : Int} (h : picQ Q n id = P) : picQ Q n id = litP n (.here P) [] x y := by
  funext X Y
  unfold litP
  rw [here_show, ← h]
  have := congrFun (congrFun (pic_pic (P := fun x y => cellV Q n id x.toNat y.toNat) (a := 0) (b := 0) (n := n)) X) Y
  simp only [List.not_mem_nil, decide_false, Bool.or_false]
  exact this.symm
theorem sqD_here (n : Nat) (P : Gr) (x y : Int) (i : Item) : ¬ SqD n (.here P) [] x y i := by
  cases n with
  | zero => exact fun h => h
  | succ n =>
    rintro (⟨_, h, _⟩ | ⟨h, _⟩)
    · cases h
    · exact h ⟨rfl, trivial⟩
set_option maxHeartbeats 1000000 in
theorem square_hereG (n : Nat) (P : Gr) (id c d : Int) (a : Option Addr) (cp : Nat) (x y level : Int) (h : HE w o hb b t 0 E A) (hst : NxSt PR t q A) (hl : 1 ≤ E.length ∧ E.length ≤ 45) (hE : EOk A t E) (hg : GOk (view A t) (.here P) n id c d) :
    Calls Tryz.prog 93 #[.pointer (some ⟨hb, 0, none⟩), gV (id, c, d), .slice a 0 cp, .int .i64 level, .int .i64 x, .int .i64 y] w fun r w' => ∃ k, r = .returned (.int .i64 k) ∧ SqCalls PR w o hb b t q 0 A n (.here P) [] x y (SqD n (.here P) [] x y) k w' := by
  obtain ⟨rfl, hid, hlv, hp⟩ := hg
  obtain ⟨hb0, g0, _, g2⟩ := ground_newG w id c 0
  have hS := h.below hb0
  have HF : Hid (SqCalls PR w o hb b t q 0 A n (.here P) [] x y (SqD n (.here P) [] x y) id (w.alloc (.cells #[.int .i64 id, .int .i64 c, .int .i64 0] 151))) := ⟨0, E, A, _, hS, Ch.ofBelow hb0 0, hst, (Gx.nil t A).eqv (fun _ i => ⟨fun h => h.elim, fun h => (sqD_here n P x y i h).elim⟩) (.inl rfl), hl, .inl rfl, fun _ => ⟨rfl, hE, hlv, litP_here hp⟩⟩
  obtain ⟨v, hh, _⟩ := hS
  have c2 := hh.hand.c2
  have hne : (id == -1) = false := by simp; omega
  clear hh hb0 h hst hE hlv hp
  unfold gV
  simp only
  go_enter Tryz.func93, Tryz.ntmps93
  go_wp2_with fail
  go_ret
  exact ⟨id, rfl, HF.out⟩
set_option maxHeartbeats 2000000 in
theorem square_oneG (g : Gd) (id c d : Int) (a : Option Addr) (cp : Nat) (zs : List (Int × Int)) (x y : Int) (h : HE w o hb b t 0 E A) (hst : NxSt PR t q A) (hl : 1 ≤ E.length ∧ E.length ≤ 45) (hE : EOk A t E) (h0 : zs ≠ []) (hin : ∀ p ∈ zs, x ≤ p.1 ∧ p.1 < x + 1 ∧ y ≤ p.2 ∧ p.2 < y + 1) :
    Calls Tryz.prog 93 #[.pointer (some ⟨hb, 0, none⟩), gV (id, c, d), .slice a zs.length cp, .int .i64 0, .int .i64 x, .int .i64 y] w fun r w' => ∃ k, r = .returned (.int .i64 k) ∧ SqCalls PR w o hb b t q 0 A 0 g zs x y (SqD 0 g zs x y) k w' := by
  obtain ⟨hb0, g0, g1, g2⟩ := ground_newG w id c d
  have hS := h.below hb0
  have HF : Hid (SqCalls PR w o hb b t q 0 A 0 g zs x y (SqD 0 g zs x y) 1 (w.alloc (.cells #[.int .i64 id, .int .i64 c, .int .i64 d] 151))) := ⟨0, E, A, _, hS, Ch.ofBelow hb0 0, hst, (Gx.nil t A).eqv (fun _ i => Iff.rfl) (.inl rfl), hl, .inl rfl, fun _ => ⟨rfl, hE, rfl, litP_one h0 hin⟩⟩
  obtain ⟨v, hh, _⟩ := hS
  have c2 := hh.hand.c2
  have hl0 : 0 < zs.length := List.length_pos_iff.2 h0
  have hl1 : ((zs.length : Int) == 0) = false := by simp; omega
  generalize zs.length = len at *
  clear hh hb0 h hst hE
  unfold gV
  simp only
  go_enter Tryz.func93, Tryz.ntmps93
  go_wp2_with fail
  go_ret
  exact ⟨1, rfl, HF.out⟩
end Go.Proofs.YtgipjplifndniaaGreatDoor.A
