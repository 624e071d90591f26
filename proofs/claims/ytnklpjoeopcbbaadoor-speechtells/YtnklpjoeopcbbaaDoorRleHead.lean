/- A pattern's text, whole: what is written is read; what is read is in order and in its box. -/
import Derived.Test.YtnklpjoeopcbbaaDoorRleFeed
namespace Go.Proofs.YtnklpjoeopcbbaaDoor

def kx : List UInt8 := [120, 32, 61, 32]
def ky : List UInt8 := [44, 32, 121, 32, 61, 32]
def kr : List UInt8 := [44, 32, 114, 117, 108, 101, 32, 61, 32]
/-- the number behind some bytes -/
def behindF (ahead s : List UInt8) : Int × List UInt8 × Bool := if Lib.hasPrefix s ahead = true then numberF (s.drop ahead.length) else (0, s, false)
/-- a head line: width and height, the rule, whether it is one; rd reads rules -/
def headF (rd : List UInt8 → Int × Int × Int) (line : List UInt8) : (Int × Int) × (Int × Int) × Bool :=
  let a := behindF kx line
  let b := behindF ky a.2.1
  let rest := if b.2.1 = [] then kr ++ [66, 51, 47, 83, 50, 51] else b.2.1
  let r := rd (Lib.trimPrefix rest kr)
  if a.2.2 = true ∧ b.2.2 = true ∧ Lib.hasPrefix rest kr = true ∧ r.2.2 = 0 then ((a.1, b.1), (r.1, r.2.1), true) else ((0, 0), (0, 0), false)
/-- remarks are passed over -/
def skipF : Nat → List UInt8 → List UInt8
  | 0, s => s
  | f + 1, s => if Lib.hasPrefix s [35] = true then skipF f (Lib.cut s [10]).2.1 else s
/-- what Decode answers: the cells, the rule, the error's number -/
def decF (rd : List UInt8 → Int × Int × Int) (s : List UInt8) : List (Int × Int) × (Int × Int) × Int :=
  if 20000 < s.length then ([], (0, 0), 1)
  else
    let c := Lib.cut (skipF s.length s) [10]
    let h := headF rd c.1
    if c.2.2 = false ∨ h.2.2 = false then ([], (0, 0), 2)
    else
      let d := drawF h.1.1 h.1.2 (c.2.1.length + 1) 0 0 [] c.2.1
      if d.1 ≠ 0 then ([], (0, 0), d.1) else (d.2, h.2.1, 0)

/-! ### Cut at the first byte 10 -/
theorem index_nl : ∀ (a b : List UInt8), (∀ c ∈ a, c ≠ 10) → Lib.index (a ++ 10 :: b) [10] = a.length
  | [], b, _ => by simp [Lib.index, List.isPrefixOf]
  | d :: a, b, h => by
    have hd := h d (by simp)
    have ih := index_nl a b fun e he => h e (List.mem_cons_of_mem _ he)
    rw [List.cons_append, Lib.index, ih]
    have hp : [10].isPrefixOf (d :: (a ++ 10 :: b)) = false := by simp [List.isPrefixOf]; intro e; exact absurd e.symm hd
    rw [hp]
    simp
theorem index_none : ∀ (a : List UInt8), (∀ c ∈ a, c ≠ 10) → Lib.index a [10] = -1
  | [], _ => by simp [Lib.index]
  | d :: a, h => by
    have hd := h d (by simp)
    have ih := index_none a fun e he => h e (List.mem_cons_of_mem _ he)
    rw [Lib.index, ih]
    have hp : [10].isPrefixOf (d :: a) = false := by simp [List.isPrefixOf]; intro e; exact absurd e.symm hd
    rw [hp]
    simp
theorem cut_nl (a b : List UInt8) (h : ∀ c ∈ a, c ≠ 10) : Lib.cut (a ++ 10 :: b) [10] = (a, b, true) := by
  unfold Lib.cut
  rw [index_nl a b h, if_pos (by omega)]
  simp
theorem cut_no (a : List UInt8) (h : ∀ c ∈ a, c ≠ 10) : Lib.cut a [10] = (a, [], false) := by
  unfold Lib.cut
  rw [index_none a h, if_neg (by omega)]
theorem nl_or (s : List UInt8) : (∀ c ∈ s, c ≠ 10) ∨ ∃ a b, s = a ++ 10 :: b ∧ ∀ c ∈ a, c ≠ 10 := by
  induction s with
  | nil => exact Or.inl (by simp)
  | cons d s ih =>
    by_cases hd : d = 10
    · exact Or.inr ⟨[], s, by simp [hd], by simp⟩
    · rcases ih with h | ⟨a, b, e, h⟩
      · refine Or.inl fun c hc => ?_
        rcases List.mem_cons.1 hc with rfl | hc
        · exact hd
        · exact h c hc
      · refine Or.inr ⟨d :: a, b, by simp [e], fun c hc => ?_⟩
        rcases List.mem_cons.1 hc with rfl | hc
        · exact hd
        · exact h c hc
theorem cut_le (s : List UInt8) : (Lib.cut s [10]).1.length ≤ s.length ∧ (Lib.cut s [10]).2.1.length ≤ s.length ∧ (s ≠ [] → (Lib.cut s [10]).2.1.length < s.length) := by
  rcases nl_or s with h | ⟨a, b, rfl, h⟩
  · rw [cut_no s h]
    refine ⟨by simp, by simp, fun hs => ?_⟩
    simp
    exact List.length_pos_iff.2 hs
  · rw [cut_nl a b h]
    refine ⟨by simp, by simp; omega, fun _ => by simp; omega⟩

/-! ### Written, read -/
theorem hasPrefix_append (p s : List UInt8) : Lib.hasPrefix (p ++ s) p = true := by
  unfold Lib.hasPrefix
  induction p with
  | nil => simp
  | cons c p ih => simp
theorem trim_append (p s : List UInt8) : Lib.trimPrefix (p ++ s) p = s := by
  unfold Lib.trimPrefix
  rw [hasPrefix_append]
  simp
theorem behind_itoa (p : List UInt8) (u : Nat) (hu : u < 1000000000000) (b : List UInt8) (hb : ∀ c, b.head? = some c → digs.contains c = false) : behindF p (p ++ (Lib.itoa u ++ b)) = ((u : Int), b, true) := by
  unfold behindF
  rw [if_pos (hasPrefix_append _ _), List.drop_left, number_itoa u hu b hb]

theorem head_read (rd : List UInt8 → Int × Int × Int) (W H : Nat) (rt : List UInt8) (b l : Int) (hW : W < 1000000000000) (hH : H < 1000000000000) (hrd : rd rt = (b, l, 0)) :
    headF rd (kx ++ (Lib.itoa W ++ (ky ++ (Lib.itoa H ++ (kr ++ rt))))) = (((W : Int), (H : Int)), (b, l), true) := by
  have e1 := behind_itoa kx W hW (ky ++ (Lib.itoa H ++ (kr ++ rt))) (by intro c hc; simp [ky] at hc; subst hc; decide)
  have e2 := behind_itoa ky H hH (kr ++ rt) (by intro c hc; simp [kr] at hc; subst hc; decide)
  unfold headF
  rw [e1]
  simp only
  rw [e2]
  simp only
  rw [if_neg (show ¬ (kr ++ rt = []) by simp [kr]), trim_append, hasPrefix_append, hrd]
  simp

theorem skip_no (f : Nat) (s : List UInt8) (h : Lib.hasPrefix s [35] = false) : skipF f s = s := by
  cases f with
  | zero => rfl
  | succ f => rw [skipF, if_neg (by rw [h]; simp)]

theorem dec_enc (rd : List UInt8 → Int × Int × Int) (x0 y0 : Int) (W H : Nat) (rt : List UInt8) (b lv : Int) (l : List (Int × Int)) (hW : W < 1000000000000) (hH : H < 1000000000000) (hrd : rd rt = (b, lv, 0)) (hr : ∀ c ∈ rt, c ≠ 10)
    (ht : Told x0 y0 W H x0 y0 l) (hl : l.length ≤ 4096) (hlen : (headT W H rt ++ bodyT x0 y0 l).length ≤ 20000) : decF rd (headT W H rt ++ bodyT x0 y0 l) = (l.map (toCorner x0 y0), (b, lv), 0) := by
  have e : headT W H rt ++ bodyT x0 y0 l = (kx ++ (Lib.itoa W ++ (ky ++ (Lib.itoa H ++ (kr ++ rt))))) ++ 10 :: bodyT x0 y0 l := by
    simp [headT, kx, ky, kr]
  have hskip : skipF (headT W H rt ++ bodyT x0 y0 l).length (headT W H rt ++ bodyT x0 y0 l) = headT W H rt ++ bodyT x0 y0 l := by
    apply skip_no
    simp [headT, Lib.hasPrefix, List.isPrefixOf]
  have hno : ∀ c ∈ kx ++ (Lib.itoa W ++ (ky ++ (Lib.itoa H ++ (kr ++ rt)))), c ≠ 10 := by
    intro c hc
    simp only [List.mem_append] at hc
    rcases hc with hc | hc | hc | hc | hc | hc
    · revert c; decide
    · exact itoa_no W c hc
    · revert c; decide
    · exact itoa_no H c hc
    · revert c; decide
    · exact hr c hc
  unfold decF
  rw [if_neg (by omega), hskip, e, cut_nl _ _ hno]
  simp only
  rw [head_read rd W H rt b lv hW hH hrd]
  simp only
  rw [draw_body x0 y0 W H l _ (by omega) (by omega) ht hl (by omega)]
  simp

/-! ### What is read -/
theorem dec_lt : ∀ (l : List UInt8) (acc A v : Nat), acc < A → Lib.decFrom acc l = some v → v < A * 10 ^ l.length
  | [], acc, A, v, h, e => by simp [Lib.decFrom] at e; simp; omega
  | c :: l, acc, A, v, h, e => by
    rw [Lib.decFrom] at e
    cases hd : Lib.digitVal c with
    | none => rw [hd] at e; cases e
    | some d =>
      rw [hd] at e
      have hd10 : d < 10 := by
        unfold Lib.digitVal at hd
        split at hd
        · injection hd; omega
        · cases hd
      have := dec_lt l (acc * 10 + d) (A * 10) v (by omega) e
      rw [List.length_cons, Nat.pow_succ, Nat.mul_comm (10 ^ l.length), ← Nat.mul_assoc]
      exact this
theorem told_digs (s : List UInt8) : ∀ c ∈ s.take (s.length - (Lib.trimLeftS s digs).length), digs.contains c = true := by
  induction s with
  | nil => simp
  | cons a s ih =>
    intro c hc
    unfold Lib.trimLeftS at hc ih
    rw [List.dropWhile_cons] at hc
    split at hc
    · rename_i ha
      have hle : (s.dropWhile (digs.contains ·)).length ≤ s.length := (List.dropWhile_sublist _).length_le
      rw [show (a :: s).length - (s.dropWhile (digs.contains ·)).length = s.length - (s.dropWhile (digs.contains ·)).length + 1 by rw [List.length_cons]; omega, List.take_succ_cons] at hc
      rcases List.mem_cons.1 hc with rfl | hc
      · exact ha
      · exact ih c hc
    · simp at hc
theorem number_bound (s : List UInt8) (h : (numberF s).2.2 = true) : 0 ≤ (numberF s).1 ∧ (numberF s).1 < 1000000000000 := by
  have hdig := told_digs s
  unfold numberF at h ⊢
  simp only at h ⊢
  generalize s.take (s.length - (Lib.trimLeftS s digs).length) = told at *
  generalize Lib.trimLeftS s digs = rest at *
  split at h
  · simp at h
  · rename_i hc
    rw [if_neg hc]
    cases ha : Lib.atoi told with
    | none => rw [ha] at h; simp at h
    | some n =>
      simp only
      cases told with
      | nil => simp [Lib.atoi] at ha
      | cons a r =>
        have hd := (digs_iff a).1 (hdig a (by simp))
        have h45 : (a == 45) = false := by
          rw [beq_eq_false_iff_ne]; intro e; subst e; simp at hd
        have h43 : (a == 43) = false := by
          rw [beq_eq_false_iff_ne]; intro e; subst e; simp at hd
        rw [Lib.atoi, h45, h43] at ha
        simp only [Bool.false_eq_true, if_false, Option.map_eq_some_iff] at ha
        obtain ⟨m, hm, rfl⟩ := ha
        have := dec_lt _ 0 1 m (by omega) (Lib.decNat_some hm).2
        have h12 : (a :: r).length ≤ 12 := by omega
        have hp : 10 ^ (a :: r).length ≤ 10 ^ 12 := Nat.pow_le_pow_right (by decide) h12
        have e12 : (10 : Nat) ^ 12 = 1000000000000 := by decide
        omega
theorem count_bound (s : List UInt8) (h : (countF s).2.2 = true) : 1 ≤ (countF s).1 ∧ (countF s).1 < 1000000000000 := by
  unfold countF at h ⊢
  simp only at h ⊢
  split at h
  · rename_i e
    rw [if_pos e]
    simp
  · rename_i e
    rw [if_neg e]
    simp only [Bool.and_eq_true, decide_eq_true_eq] at h
    have := number_bound s h.1
    simp only
    omega
theorem count_len (s : List UInt8) : (countF s).2.1.length ≤ s.length := by
  have h : (numberF s).2.1.length ≤ s.length := by
    have : (numberF s).2.1 = Lib.trimLeftS s digs := by
      unfold numberF
      simp only
      split
      · rfl
      · split <;> rfl
    rw [this]
    exact (List.dropWhile_sublist _).length_le
  unfold countF
  simp only
  split
  · exact Nat.le_refl _
  · exact h

/-- what holds on a page -/
structure Page (W H x y : Int) (cs : List (Int × Int)) : Prop where
  order : cs.Pairwise fun p q => p.2 < q.2 ∨ p.2 = q.2 ∧ p.1 < q.1
  box : ∀ p ∈ cs, 0 ≤ p.1 ∧ p.1 < W ∧ 0 ≤ p.2 ∧ p.2 < H
  past : ∀ p ∈ cs, p.2 < y ∨ p.2 = y ∧ p.1 < x
  at0 : 0 ≤ x ∧ 0 ≤ y
  few : cs.length ≤ 4096
theorem cellsAt_mem (y : Int) : ∀ (n : Nat) (x : Int) (p : Int × Int), p ∈ cellsAt x y n → p.2 = y ∧ x ≤ p.1 ∧ p.1 < x + n
  | 0, _, p, h => by simp [cellsAt] at h
  | n + 1, x, p, h => by
    rw [cellsAt] at h
    rcases List.mem_cons.1 h with rfl | h
    · exact ⟨rfl, by simp only; omega, by simp only; omega⟩
    · have := cellsAt_mem y n (x + 1) p h
      omega
theorem cellsAt_order (y : Int) : ∀ (n : Nat) (x : Int), (cellsAt x y n).Pairwise fun p q => p.2 < q.2 ∨ p.2 = q.2 ∧ p.1 < q.1
  | 0, _ => List.Pairwise.nil
  | n + 1, x => by
    rw [cellsAt]
    refine List.pairwise_cons.2 ⟨fun q hq => ?_, cellsAt_order y n (x + 1)⟩
    have := cellsAt_mem y n (x + 1) q hq
    exact Or.inr ⟨by simp only; omega, by simp only; omega⟩
theorem put_page {W H x y : Int} {cs : List (Int × Int)} (h : Page W H x y cs) (n : Int) (hn : 1 ≤ n) (c : UInt8) (h0 : (putF W H x y cs n c).1 = 0) : Page W H (putF W H x y cs n c).2.1 (putF W H x y cs n c).2.2.1 (putF W H x y cs n c).2.2.2 := by
  have hat := h.at0
  unfold putF at h0 ⊢
  by_cases hb : c = 98
  · simp only [hb, if_true]
    exact ⟨h.order, h.box, fun p hp => by have := h.past p hp; omega, by omega, h.few⟩
  · rw [if_neg hb] at h0 ⊢
    by_cases hd : c = 36
    · simp only [hd, if_true]
      exact ⟨h.order, h.box, fun p hp => by have := h.past p hp; omega, by omega, h.few⟩
    · rw [if_neg hd] at h0 ⊢
      by_cases ho : c = 111
      · rw [if_pos ho] at h0 ⊢
        by_cases h1 : W < x + n ∨ H ≤ y
        · rw [if_pos h1] at h0; simp at h0
        · rw [if_neg h1] at h0 ⊢
          by_cases h2 : 4096 < (cs.length : Int) + n
          · rw [if_pos h2] at h0; simp at h0
          · rw [if_neg h2] at h0 ⊢
            simp only
            obtain ⟨m, rfl⟩ := Int.eq_ofNat_of_zero_le (show 0 ≤ n by omega)
            rw [Int.toNat_natCast]
            refine ⟨?_, ?_, ?_, by omega, ?_⟩
            · refine List.pairwise_append.2 ⟨h.order, cellsAt_order y m x, fun p hp q hq => ?_⟩
              have h3 := h.past p hp
              have h4 := cellsAt_mem y m x q hq
              omega
            · intro p hp
              rcases List.mem_append.1 hp with hp | hp
              · exact h.box p hp
              · have := cellsAt_mem y m x p hp
                omega
            · intro p hp
              rcases List.mem_append.1 hp with hp | hp
              · have := h.past p hp; omega
              · have := cellsAt_mem y m x p hp
                omega
            · rw [List.length_append, cellsAt_length]; omega
      · rw [if_neg ho] at h0; simp at h0
theorem draw_page (W H : Int) : ∀ (f : Nat) (x y : Int) (cs : List (Int × Int)) (s : List UInt8), Page W H x y cs → (drawF W H f x y cs s).1 = 0 → ∃ x' y', Page W H x' y' (drawF W H f x y cs s).2
  | 0, _, _, _, _, _, h => by simp [drawF] at h
  | f + 1, x, y, cs, s, hp, h => by
    rw [drawF] at h ⊢
    simp only at h ⊢
    by_cases h1 : Lib.hasPrefix (Lib.trimLeftS s blks) [33] = true
    · rw [if_pos h1]
      exact ⟨x, y, hp⟩
    · rw [if_neg h1] at h ⊢
      by_cases h2 : (countF (Lib.trimLeftS s blks)).2.2 = false ∨ (countF (Lib.trimLeftS s blks)).2.1 = []
      · rw [if_pos h2] at h; simp at h
      · rw [if_neg h2] at h ⊢
        have hc := count_bound (Lib.trimLeftS s blks) (by
          cases hh : (countF (Lib.trimLeftS s blks)).2.2 with
          | true => rfl
          | false => exact absurd (Or.inl hh) h2)
        generalize countF (Lib.trimLeftS s blks) = q at *
        by_cases h3 : (putF W H x y cs q.1 (q.2.1.headD 0)).1 ≠ 0
        · rw [if_pos h3] at h; exact absurd h h3
        · rw [if_neg h3] at h ⊢
          exact draw_page W H f _ _ _ _ (put_page hp q.1 hc.1 _ (by simpa using h3)) h

/-- what Decode answers without an error is in order, in a box of at most 12 digits, and has a rule that was read -/
theorem dec_page (rd : List UInt8 → Int × Int × Int) (s : List UInt8) (h : (decF rd s).2.2 = 0) : ∃ W H x y, W < 1000000000000 ∧ H < 1000000000000 ∧ Page W H x y (decF rd s).1 ∧ ∃ t : List UInt8, rd t = ((decF rd s).2.1.1, (decF rd s).2.1.2, 0) ∧ t.length ≤ 20000 := by
  unfold decF at h ⊢
  by_cases h0 : 20000 < s.length
  · rw [if_pos h0] at h; simp at h
  · rw [if_neg h0] at h ⊢
    simp only at h ⊢
    have hsk : (skipF s.length s).length ≤ s.length := by
      have : ∀ f (t : List UInt8), (skipF f t).length ≤ t.length := by
        intro f
        induction f with
        | zero => intro t; exact Nat.le_refl _
        | succ f ih =>
          intro t
          rw [skipF]
          split
          · exact Nat.le_trans (ih _) (cut_le t).2.1
          · exact Nat.le_refl _
      exact this _ _
    have hcl := (cut_le (skipF s.length s)).1
    generalize Lib.cut (skipF s.length s) [10] = c at *
    by_cases h1 : c.2.2 = false ∨ (headF rd c.1).2.2 = false
    · rw [if_pos h1] at h; simp at h
    · rw [if_neg h1] at h ⊢
      have hhd : (headF rd c.1).2.2 = true := by
        cases hh : (headF rd c.1).2.2 with
        | true => rfl
        | false => exact absurd (Or.inr hh) h1
      by_cases h2 : (drawF (headF rd c.1).1.1 (headF rd c.1).1.2 (c.2.1.length + 1) 0 0 [] c.2.1).1 ≠ 0
      · rw [if_pos h2] at h; exact absurd h h2
      · rw [if_neg h2] at h ⊢
        obtain ⟨x', y', hpg⟩ := draw_page (headF rd c.1).1.1 (headF rd c.1).1.2 (c.2.1.length + 1) 0 0 [] c.2.1 ⟨List.Pairwise.nil, by simp, by simp, by omega, by simp⟩ (by simpa using h2)
        have hb : (headF rd c.1).1.1 < 1000000000000 ∧ (headF rd c.1).1.2 < 1000000000000 ∧ ∃ t : List UInt8, rd t = ((headF rd c.1).2.1.1, (headF rd c.1).2.1.2, 0) ∧ t.length ≤ 20000 := by
          unfold headF at hhd ⊢
          simp only at hhd ⊢
          generalize hre : (if (behindF ky (behindF kx c.1).2.1).2.1 = [] then kr ++ [66, 51, 47, 83, 50, 51] else (behindF ky (behindF kx c.1).2.1).2.1) = rest at *
          by_cases hk : (behindF kx c.1).2.2 = true ∧ (behindF ky (behindF kx c.1).2.1).2.2 = true ∧ Lib.hasPrefix rest kr = true ∧ (rd (Lib.trimPrefix rest kr)).2.2 = 0
          · rw [if_pos hk]
            obtain ⟨k1, k2, k3, k4⟩ := hk
            have hbe : ∀ p s, (behindF p s).2.2 = true → (behindF p s).1 < 1000000000000 := by
              intro p s hq
              unfold behindF at hq ⊢
              split at hq
              · rename_i hp
                rw [if_pos hp]
                exact (number_bound _ hq).2
              · simp at hq
            have hbl : ∀ p s, (behindF p s).2.1.length ≤ s.length := by
              intro p s
              unfold behindF
              split
              · have : (numberF (s.drop p.length)).2.1 = Lib.trimLeftS (s.drop p.length) digs := by
                  unfold numberF
                  simp only
                  split
                  · rfl
                  · split <;> rfl
                rw [this]
                refine Nat.le_trans (List.dropWhile_sublist _).length_le ?_
                simp
              · exact Nat.le_refl _
            refine ⟨hbe _ _ k1, hbe _ _ k2, Lib.trimPrefix rest kr, ?_, ?_⟩
            · generalize rd _ = q at *
              obtain ⟨q1, q2, q3⟩ := q
              simp only at k4
              rw [k4]
            · have hl2 : rest.length ≤ 20000 := by
                rw [← hre]
                split
                · simp [kr]
                · have h3 := hbl ky (behindF kx c.1).2.1
                  have h4 := hbl kx c.1
                  omega
              rw [Lib.trimPrefix, if_pos k3, List.length_drop]
              omega
          · rw [if_neg hk] at hhd
            simp at hhd
        exact ⟨_, _, x', y', hb.1, hb.2.1, hpg, hb.2.2⟩
end Go.Proofs.YtnklpjoeopcbbaaDoor
