/- Patterns as texts, in plain words: pieces, lines, and what is read of them. -/
import Derived.Lib.ItoaLen
import Derived.Lib.Atoi
import Derived.Lib.SlTrimSet
import Derived.Lib.IndexMore
import Derived.Lib.Strings
namespace Go.Proofs.YtnklpjoeopcbbaaDoor

/-- how many cells go on from a place to the right, at the beginning of a list -/
def runN (x y : Int) : List (Int × Int) → Nat
  | [] => 0
  | c :: r => if c.2 = y ∧ c.1 = x then runN (x + 1) y r + 1 else 0
theorem runN_le : ∀ (x y : Int) (l : List (Int × Int)), runN x y l ≤ l.length
  | _, _, [] => Nat.le_refl _
  | x, y, c :: r => by
    have := runN_le (x + 1) y r
    rw [runN]
    split <;> simp <;> omega
theorem runN_stop : ∀ (x y : Int) (l : List (Int × Int)) (c : Int × Int), (l.drop (runN x y l)).head? = some c → ¬ (c.2 = y ∧ c.1 = x + runN x y l)
  | _, _, [], _, h => by simp at h
  | x, y, c :: r, d, h => by
    rw [runN] at h ⊢
    split at h
    · rename_i hc
      rw [if_pos hc]
      have := runN_stop (x + 1) y r d (by simpa using h)
      intro k
      refine this ⟨k.1, ?_⟩
      have := k.2
      simp at this
      omega
    · rename_i hc
      rw [if_neg hc]
      simp at h
      subst h
      simpa using hc

/-- n cells from a place on -/
def cellsAt (x y : Int) : Nat → List (Int × Int)
  | 0 => []
  | n + 1 => (x, y) :: cellsAt (x + 1) y n
theorem cellsAt_length (y : Int) : ∀ (n : Nat) (x : Int), (cellsAt x y n).length = n
  | 0, _ => rfl
  | n + 1, x => by simp [cellsAt, cellsAt_length y n]
theorem cellsAt_snoc (y : Int) : ∀ (n : Nat) (x : Int), cellsAt x y (n + 1) = cellsAt x y n ++ [(x + n, y)]
  | 0, x => by simp [cellsAt]
  | n + 1, x => by
    rw [cellsAt, cellsAt_snoc y n (x + 1), cellsAt]
    simp
    omega
theorem runN_take : ∀ (x y : Int) (l : List (Int × Int)), l.take (runN x y l) = cellsAt x y (runN x y l)
  | _, _, [] => rfl
  | x, y, c :: r => by
    rw [runN]
    split
    · rename_i hc
      rw [List.take_succ_cons, cellsAt, runN_take (x + 1) y r]
      obtain ⟨a, b⟩ := c
      simp at hc
      simp [hc.1, hc.2]
    · rfl

/-- the pieces of a list's body: numbers and letters; x and y are the place that is told next -/
def pieces (x0 : Int) : Nat → Int → Int → List (Int × Int) → List (Int × UInt8)
  | 0, _, _, _ => []
  | _ + 1, _, _, [] => []
  | f + 1, x, y, c :: r =>
    let n := 1 + runN (c.1 + 1) c.2 r
    let x' := if y < c.2 then x0 else x
    (if y < c.2 then [(c.2 - y, 36)] else []) ++ (if x' < c.1 then [(c.1 - x', 98)] else []) ++ ((n : Int), 111) :: pieces x0 f (c.1 + n) c.2 (r.drop (n - 1))

/-- a piece's text -/
def pieceT (p : Int × UInt8) : List UInt8 := (if 1 < p.1 then Lib.itoa p.1 else []) ++ [p.2]
/-- pieces in lines: k bytes stand in the last line -/
def lay : Nat → List (List UInt8) → List UInt8
  | _, [] => []
  | k, t :: ts => if 70 < k + t.length then 10 :: (t ++ lay t.length ts) else t ++ lay (k + t.length) ts
/-- how many bytes the last line has then -/
def layK : Nat → List (List UInt8) → Nat
  | k, [] => k
  | k, t :: ts => if 70 < k + t.length then layK t.length ts else layK (k + t.length) ts
theorem lay_append : ∀ (k : Nat) (a b : List (List UInt8)), lay k (a ++ b) = lay k a ++ lay (layK k a) b
  | _, [], _ => rfl
  | k, t :: a, b => by
    rw [List.cons_append, lay, lay, layK]
    split
    · rw [lay_append]; simp
    · rw [lay_append]; simp
theorem layK_append : ∀ (k : Nat) (a b : List (List UInt8)), layK k (a ++ b) = layK (layK k a) b
  | _, [], _ => rfl
  | k, t :: a, b => by
    rw [List.cons_append, layK, layK]
    split <;> rw [layK_append]

/-- the body of a list whose box has its corner at x0, y0 -/
def bodyT (x0 y0 : Int) (l : List (Int × Int)) : List UInt8 := lay 0 ((pieces x0 l.length x0 y0 l).map pieceT ++ [[33]]) ++ [10]
/-- the line ahead of a body -/
def headT (W H : Int) (rt : List UInt8) : List UInt8 := [120, 32, 61, 32] ++ Lib.itoa W ++ ([44, 32, 121, 32, 61, 32] ++ Lib.itoa H) ++ ([44, 32, 114, 117, 108, 101, 32, 61, 32] ++ rt ++ [10])

/-! What is read. -/
def digs : List UInt8 := [48, 49, 50, 51, 52, 53, 54, 55, 56, 57]
def blks : List UInt8 := [32, 9, 10, 13]
/-- the number that a text begins with, what stands behind its digits, and whether it may stand there -/
def numberF (s : List UInt8) : Int × List UInt8 × Bool :=
  let rest := Lib.trimLeftS s digs
  let told := s.take (s.length - rest.length)
  if 12 < told.length ∨ 1 < told.length ∧ told.head? = some 48 then (0, rest, false)
  else match Lib.atoi told with
    | some n => (n, rest, true)
    | none => (0, rest, false)
/-- the number ahead of a piece's letter -/
def countF (s : List UInt8) : Int × List UInt8 × Bool :=
  let r := numberF s
  if r.2.1 = s then (1, s, true) else (r.1, r.2.1, r.2.2 && decide (0 < r.1))
/-- a piece is put on the page -/
def putF (W H x y : Int) (cs : List (Int × Int)) (n : Int) (c : UInt8) : Int × Int × Int × List (Int × Int) :=
  if c = 98 then (0, x + n, y, cs)
  else if c = 36 then (0, 0, y + n, cs)
  else if c = 111 then
    if W < x + n ∨ H ≤ y then (3, x, y, cs)
    else if 4096 < (cs.length : Int) + n then (5, x, y, cs)
    else (0, x + n, y, cs ++ cellsAt x y n.toNat)
  else (2, x, y, cs)
/-- a body: the error's number, and the cells -/
def drawF (W H : Int) : Nat → Int → Int → List (Int × Int) → List UInt8 → Int × List (Int × Int)
  | 0, _, _, _, _ => (2, [])
  | f + 1, x, y, cs, s =>
    let t := Lib.trimLeftS s blks
    if Lib.hasPrefix t [33] then (0, cs)
    else
      let r := countF t
      if r.2.2 = false ∨ r.2.1 = [] then (2, [])
      else
        let q := putF W H x y cs r.1 (r.2.1.headD 0)
        if q.1 ≠ 0 then (q.1, []) else drawF W H f q.2.1 q.2.2.1 q.2.2.2 (r.2.1.drop 1)

/-! A numeral, read. -/
theorem dec_digits (u : Nat) : ∀ a : Nat, Lib.decFrom a (Lib.decDigits u) = some (a * 10 ^ Lib.nDigits u + u) := by
  induction u using Nat.strongRecOn with
  | _ u ih =>
    intro a
    by_cases h : u < 10
    · rw [Lib.decDigits_one h, Lib.nDigits_small h]
      have hd : Lib.digitVal (UInt8.ofNat (48 + u)) = some u := by
        unfold Lib.digitVal
        have : (UInt8.ofNat (48 + u)).toNat = 48 + u := by rw [UInt8.toNat_ofNat']; omega
        rw [this, if_pos (by omega)]
        simp
      simp only [Lib.decFrom, hd, Nat.pow_one]
    · rw [Lib.decDigits, dif_neg h, Lib.nDigits_big h]
      have key : ∀ (l m : List UInt8) (b : Nat), Lib.decFrom b (l ++ m) = (Lib.decFrom b l).bind fun v => Lib.decFrom v m := by
        intro l
        induction l with
        | nil => intro m b; rfl
        | cons c l il =>
          intro m b
          simp only [List.cons_append, Lib.decFrom]
          cases Lib.digitVal c with
          | none => rfl
          | some d => exact il m _
      rw [key, ih (u / 10) (by omega) a]
      have hd : Lib.digitVal (UInt8.ofNat (48 + u % 10)) = some (u % 10) := by
        unfold Lib.digitVal
        have : (UInt8.ofNat (48 + u % 10)).toNat = 48 + u % 10 := by rw [UInt8.toNat_ofNat']; omega
        rw [this, if_pos (by omega)]
        simp
      simp only [Option.bind_some, Lib.decFrom, hd, Nat.pow_succ]
      generalize 10 ^ Lib.nDigits (u / 10) = P
      rw [Nat.add_mul, Nat.mul_assoc]
      congr 1
      omega
theorem decDigits_ne (u : Nat) : Lib.decDigits u ≠ [] := by
  intro h
  have := Lib.decDigits_length u
  rw [h] at this
  have := Lib.nDigits_pos u
  simp at *
  omega
theorem decDigits_digs (u : Nat) : ∀ c ∈ Lib.decDigits u, 48 ≤ c.toNat ∧ c.toNat ≤ 57 := by
  intro c hc
  obtain ⟨k, hk, e⟩ := List.getElem_of_mem hc
  obtain ⟨d, hd⟩ := Lib.digit_of_decFrom _ _ _ (dec_digits u 0) k c (by rw [List.getElem?_eq_getElem hk, e])
  unfold Lib.digitVal at hd
  split at hd
  · assumption
  · cases hd
theorem digs_iff (c : UInt8) : digs.contains c = true ↔ 48 ≤ c.toNat ∧ c.toNat ≤ 57 := by
  have h : ∀ n : Fin 256, (digs.contains (UInt8.ofNat n.val) = true ↔ 48 ≤ n.val ∧ n.val ≤ 57) := by decide +kernel
  have := h ⟨c.toNat, c.toNat_lt⟩
  simpa using this
theorem decDigits_head (u : Nat) (h : 1 ≤ u) : (Lib.decDigits u).head? ≠ some 48 := by
  induction u using Nat.strongRecOn with
  | _ u ih =>
    by_cases h10 : u < 10
    · rw [Lib.decDigits_one h10]
      have hm : u = 1 ∨ u = 2 ∨ u = 3 ∨ u = 4 ∨ u = 5 ∨ u = 6 ∨ u = 7 ∨ u = 8 ∨ u = 9 := by omega
      rcases hm with rfl | rfl | rfl | rfl | rfl | rfl | rfl | rfl | rfl <;> decide
    · rw [Lib.decDigits, dif_neg h10]
      have := ih (u / 10) (by omega) (by omega)
      have hne := decDigits_ne (u / 10)
      cases hd : Lib.decDigits (u / 10) with
      | nil => exact absurd hd hne
      | cons a l => rw [hd] at this; simpa using this
theorem dropWhile_append_all {p : UInt8 → Bool} : ∀ (a b : List UInt8), (∀ c ∈ a, p c = true) → (a ++ b).dropWhile p = b.dropWhile p
  | [], _, _ => rfl
  | c :: a, b, h => by
    rw [List.cons_append, List.dropWhile_cons, if_pos (h c (by simp))]
    exact dropWhile_append_all a b fun d hd => h d (by simp [hd])
theorem trim_stop (cs b : List UInt8) (h : ∀ c, b.head? = some c → cs.contains c = false) : Lib.trimLeftS b cs = b := by
  unfold Lib.trimLeftS
  cases b with
  | nil => rfl
  | cons c r => rw [List.dropWhile_cons, if_neg (by rw [h c rfl]; simp)]

/-- a numeral of at most 12 digits ahead of what is no digit is read -/
theorem number_itoa (u : Nat) (hu : u < 1000000000000) (b : List UInt8) (hb : ∀ c, b.head? = some c → digs.contains c = false) : numberF (Lib.itoa u ++ b) = ((u : Int), b, true) := by
  have e0 : Lib.itoa (u : Int) = Lib.decDigits u := Lib.itoa_nonneg u
  have e1 : Lib.trimLeftS (Lib.decDigits u ++ b) digs = b := by
    unfold Lib.trimLeftS
    rw [dropWhile_append_all _ _ fun c hc => (digs_iff c).2 (decDigits_digs u c hc)]
    exact trim_stop digs b hb
  have e2 : (Lib.decDigits u ++ b).take ((Lib.decDigits u ++ b).length - b.length) = Lib.decDigits u := by simp
  have e3 : (Lib.decDigits u).length ≤ 12 := by
    rw [Lib.decDigits_length]
    by_cases h0 : u < 10
    · rw [Lib.nDigits_small h0]; omega
    · have hp := Lib.nDigits_pos u
      rcases Nat.lt_or_ge 12 (Lib.nDigits u) with h | h
      · have hlow : 10 ^ (Lib.nDigits u - 1) ≤ u := by
          have : ∀ v : Nat, 1 ≤ v → 10 ^ (Lib.nDigits v - 1) ≤ v := by
            intro v
            induction v using Nat.strongRecOn with
            | _ v ih =>
              intro hv
              by_cases h9 : v < 10
              · rw [Lib.nDigits_small h9]; simpa using hv
              · rw [Lib.nDigits_big h9]
                have := ih (v / 10) (by omega) (by omega)
                have hp := Lib.nDigits_pos (v / 10)
                rw [show Lib.nDigits (v / 10) + 1 - 1 = (Lib.nDigits (v / 10) - 1) + 1 by omega, Nat.pow_succ]
                omega
          exact this u (by omega)
        have : 10 ^ 12 ≤ 10 ^ (Lib.nDigits u - 1) := Nat.pow_le_pow_right (by decide) (by omega)
        have e12 : (10 : Nat) ^ 12 = 1000000000000 := by decide
        omega
      · exact h
  have e4 : Lib.atoi (Lib.decDigits u) = some (u : Int) := by
    cases hd : Lib.decDigits u with
    | nil => exact absurd hd (decDigits_ne u)
    | cons c r =>
      have hc := decDigits_digs u c (by rw [hd]; simp)
      have h45 : (c == 45) = false := by
        rw [beq_eq_false_iff_ne]; intro h; subst h; simp at hc
      have h43 : (c == 43) = false := by
        rw [beq_eq_false_iff_ne]; intro h; subst h; simp at hc
      rw [Lib.atoi, h45, h43]
      have := dec_digits u 0
      rw [hd] at this
      simp [Lib.decNat, this]
  have e5 : ¬ (12 < (Lib.decDigits u).length ∨ 1 < (Lib.decDigits u).length ∧ (Lib.decDigits u).head? = some 48) := by
    rintro (h | ⟨h1, h2⟩)
    · omega
    · refine decDigits_head u ?_ h2
      rcases Nat.eq_zero_or_pos u with rfl | h
      · rw [Lib.decDigits_one (by omega)] at h1; simp at h1
      · exact h
  unfold numberF
  rw [e0]
  simp only [e1, e2, e4]
  rw [if_neg e5]
theorem number_none (b : List UInt8) (hb : ∀ c, b.head? = some c → digs.contains c = false) : (numberF b).2.1 = b := by
  have e1 : Lib.trimLeftS b digs = b := trim_stop digs b hb
  unfold numberF
  simp only [e1]
  split
  · rfl
  · split <;> rfl

/-- a piece ahead of anything is read -/
theorem count_piece (n : Int) (c : UInt8) (b : List UInt8) (hc : digs.contains c = false) (h0 : 1 ≤ n) (h1 : n < 1000000000000) : countF (pieceT (n, c) ++ b) = (n, c :: b, true) := by
  unfold countF pieceT
  by_cases h : 1 < n
  · obtain ⟨u, rfl⟩ := Int.eq_ofNat_of_zero_le (show 0 ≤ n by omega)
    have e := number_itoa u (by omega) (c :: b) (by intro d hd; simp at hd; rw [← hd]; exact hc)
    simp only [h, if_true, List.append_assoc, List.singleton_append, e]
    rw [if_neg]
    · simp; omega
    · intro k
      have := congrArg List.length k
      rw [Lib.itoa_nonneg] at this
      have hne := decDigits_ne u
      cases hd : Lib.decDigits u with
      | nil => exact absurd hd hne
      | cons a l => rw [hd] at this; simp at this; omega
  · have hn : n = 1 := by omega
    subst hn
    have e := number_none (c :: b) (by intro d hd; simp at hd; rw [← hd]; exact hc)
    simp only [h, if_false, List.nil_append, List.singleton_append, e, if_true]
end Go.Proofs.YtnklpjoeopcbbaaDoor
