/- The document's reading of a pattern's text, in plain words, and that it is the program's. -/
import Derived.Test.YtpldnhlancjlnaaDoorPlain
import Derived.Test.YtpldnhlancjlnaaDoorRleHead
import Derived.Test.YtpldnhlancjlnaaDoorScan
namespace Go.Proofs.YtpldnhlancjlnaaDoor

theorem dig_in (c : UInt8) : digs.contains c = isDig c := by
  have h : ∀ n : Fin 256, digs.contains (UInt8.ofNat n.val) = isDig (UInt8.ofNat n.val) := by decide +kernel
  have := h ⟨c.toNat, c.toNat_lt⟩
  simpa using this
theorem trim_dgs : ∀ s : List UInt8, Lib.trimLeftS s digs = s.drop (dgs s)
  | [] => rfl
  | c :: r => by
    have ih := trim_dgs r
    unfold Lib.trimLeftS at *
    rw [List.dropWhile_cons, dig_in, dgs]
    cases hc : isDig c with
    | true => rw [if_pos rfl, if_pos rfl, List.drop_succ_cons]; exact ih
    | false => rw [if_neg (by simp), if_neg (by simp)]; rfl
theorem told_dgs (s : List UInt8) : s.take (s.length - (Lib.trimLeftS s digs).length) = s.take (dgs s) := by
  rw [trim_dgs, List.length_drop]
  have := dgs_le s
  rw [show s.length - (s.length - dgs s) = dgs s by omega]
theorem dec_from : ∀ (D : List UInt8) (a : Nat), (∀ c ∈ D, isDig c = true) → Lib.decFrom a D = some (D.foldl (fun a c => a * 10 + (c.toNat - 48)) a)
  | [], a, _ => rfl
  | c :: r, a, h => by
    have hc := h c (by simp)
    simp [isDig] at hc
    have hv : Lib.digitVal c = some (c.toNat - 48) := by unfold Lib.digitVal; rw [if_pos hc]
    rw [Lib.decFrom, hv]
    simp only
    rw [dec_from r _ fun x hx => h x (List.mem_cons_of_mem _ hx)]
    rfl
theorem atoi_digs (D : List UInt8) (h : ∀ c ∈ D, isDig c = true) (h0 : D ≠ []) : Lib.atoi D = some (decV D : Int) := by
  cases D with
  | nil => exact absurd rfl h0
  | cons c r =>
    have hc := h c (by simp)
    simp [isDig] at hc
    have h1 : (c == 45) = false := by
      rw [beq_eq_false_iff_ne]; rintro rfl; exact absurd hc.1 (by decide)
    have h2 : (c == 43) = false := by
      rw [beq_eq_false_iff_ne]; rintro rfl; exact absurd hc.1 (by decide)
    rw [Lib.atoi, h1, h2]
    simp only [Bool.false_eq_true, if_false]
    unfold Lib.decNat
    rw [show (c :: r).isEmpty = false from rfl]
    simp only [Bool.false_eq_true, if_false]
    rw [dec_from _ 0 h]
    rfl
/-- may no number stand here? -/
def badN (s : List UInt8) : Prop := dgs s < 1 ∨ 12 < dgs s ∨ (1 < dgs s ∧ s.head? = some 48)
instance (s : List UInt8) : Decidable (badN s) := by unfold badN; infer_instance
theorem head_take (s : List UInt8) (k : Nat) (h : 0 < k) : (s.take k).head? = s.head? := by
  cases s with
  | nil => simp
  | cons c r => cases k with
    | zero => omega
    | succ k => rfl
theorem number_is (s : List UInt8) : numberF s = if badN s then ((0 : Int), s.drop (dgs s), false) else (((decV (s.take (dgs s)) : Nat) : Int), s.drop (dgs s), true) := by
  have hl : (s.take (dgs s)).length = dgs s := by rw [List.length_take]; have := dgs_le s; omega
  unfold numberF
  simp only
  rw [told_dgs, trim_dgs, hl]
  by_cases h0 : dgs s < 1
  · have h1 : dgs s = 0 := by omega
    have hb : badN s := Or.inl h0
    rw [if_neg (by omega), if_pos hb, h1]
    simp [Lib.atoi]
  · by_cases h2 : 12 < dgs s ∨ 1 < dgs s ∧ (s.take (dgs s)).head? = some 48
    · have hb : badN s := by
        rcases h2 with h | ⟨h, h'⟩
        · exact Or.inr (Or.inl h)
        · exact Or.inr (Or.inr ⟨h, by rw [head_take s _ (by omega)] at h'; exact h'⟩)
      rw [if_pos h2, if_pos hb]
    · have hb : ¬ badN s := by
        rintro (h | h | ⟨h, h'⟩)
        · exact h0 h
        · exact h2 (Or.inl h)
        · exact h2 (Or.inr ⟨h, by rw [head_take s _ (by omega)]; exact h'⟩)
      rw [if_neg h2, atoi_digs _ (dgs_all s) (by intro e; rw [e] at hl; simp at hl; omega), if_neg hb]
theorem plain_is (s : List UInt8) (p : Nat) : plainF s p = if badN s then ((0 : Int), (-1 : Int)) else (((decV (s.take (dgs s)) : Nat) : Int), ((p + dgs s : Nat) : Int)) := rfl

theorem prefix_is (s t : List UInt8) : Lib.hasPrefix s t = decide (s.take t.length = t) := by
  unfold Lib.hasPrefix
  rw [Bool.eq_iff_iff, List.isPrefixOf_iff_prefix, List.prefix_iff_eq_take, decide_eq_true_eq]
  exact eq_comm
/-- a text at a place -/
theorem starts_is (T : List UInt8) (p : Nat) (t : List UInt8) (_hp : p ≤ T.length) : startsF T p t = if Lib.hasPrefix (T.drop p) t = true then (p : Int) + t.length else -1 := by
  rw [prefix_is]
  unfold startsF
  rw [Int.toNat_natCast]
  by_cases h : (T.drop p).take t.length = t
  · have hl := congrArg List.length h
    rw [List.length_take, List.length_drop] at hl
    rw [if_neg (by rintro (h1 | h1 | h1) <;> first | omega | exact h1 h), if_pos (by simpa using h)]
  · rw [if_pos (Or.inr (Or.inr h)), if_neg (by simpa using h)]
theorem starts_neg (T : List UInt8) (p : Int) (t : List UInt8) (h : p < 0) : startsF T p t = -1 := by
  unfold startsF
  rw [if_pos (Or.inl h)]

/-! ### A body, piece by piece -/
theorem draw_blank (W H : Int) (f : Nat) (x y : Int) (cs : List (Int × Int)) (c : UInt8) (r : List UInt8) (h : blks.contains c = true) : drawF W H f x y cs (c :: r) = drawF W H f x y cs r := by
  cases f with
  | zero => rfl
  | succ f =>
    have e : Lib.trimLeftS (c :: r) blks = Lib.trimLeftS r blks := by unfold Lib.trimLeftS; rw [List.dropWhile_cons, if_pos h]
    rw [drawF, drawF, e]
theorem draw_none (W H : Int) (f : Nat) (x y : Int) (cs : List (Int × Int)) : drawF W H f x y cs [] = (2, []) := by
  cases f with
  | zero => rfl
  | succ f => rw [drawF]; simp [Lib.trimLeftS, Lib.hasPrefix, countF, numberF, Lib.atoi]
theorem trim_keep (c : UInt8) (r cs : List UInt8) (h : cs.contains c = false) : Lib.trimLeftS (c :: r) cs = c :: r := by
  unfold Lib.trimLeftS
  rw [List.dropWhile_cons, if_neg (by rw [h]; simp)]
theorem draw_end (W H : Int) (f : Nat) (x y : Int) (cs : List (Int × Int)) (r : List UInt8) : drawF W H (f + 1) x y cs (33 :: r) = (0, cs) := by
  rw [drawF, trim_keep 33 r blks (by decide)]
  simp [Lib.hasPrefix]
/-- a letter without a number -/
theorem drawF_one (W H : Int) (f : Nat) (x y : Int) (cs : List (Int × Int)) (c : UInt8) (r : List UInt8) (h1 : blks.contains c = false) (h2 : c ≠ 33) (h3 : isDig c = false) :
    drawF W H (f + 1) x y cs (c :: r) = if (putF W H x y cs 1 c).1 ≠ 0 then ((putF W H x y cs 1 c).1, []) else drawF W H f (putF W H x y cs 1 c).2.1 (putF W H x y cs 1 c).2.2.1 (putF W H x y cs 1 c).2.2.2 r := by
  have hd : dgs (c :: r) = 0 := by rw [dgs, if_neg (by rw [h3]; simp)]
  have hc : countF (c :: r) = (1, c :: r, true) := by
    unfold countF
    rw [number_is, hd]
    by_cases hb : badN (c :: r)
    · rw [if_pos hb]; simp
    · rw [if_neg hb]; simp
  have hp : Lib.hasPrefix (c :: r) [33] = false := by
    rw [prefix_is]
    simpa using h2
  rw [drawF, trim_keep c r blks h1, hp, hc]
  simp
/-- a letter behind a number -/
theorem draw_many (W H : Int) (f : Nat) (x y : Int) (cs : List (Int × Int)) (L : List UInt8) (h0 : 0 < dgs L) :
    drawF W H (f + 1) x y cs L = if badN L ∨ decV (L.take (dgs L)) = 0 ∨ L.drop (dgs L) = [] then (2, []) else
      (let q := putF W H x y cs (decV (L.take (dgs L)) : Nat) ((L.drop (dgs L)).headD 0)
       if q.1 ≠ 0 then (q.1, []) else drawF W H f q.2.1 q.2.2.1 q.2.2.2 (L.drop (dgs L + 1))) := by
  cases L with
  | nil => simp [dgs] at h0
  | cons c r =>
    have hdc : isDig c = true := by
      rw [dgs] at h0
      split at h0
      · assumption
      · omega
    have hb1 : blks.contains c = false := by
      simp [isDig] at hdc
      have : ∀ n : Fin 256, 48 ≤ (UInt8.ofNat n.val).toNat ∧ (UInt8.ofNat n.val).toNat ≤ 57 → blks.contains (UInt8.ofNat n.val) = false := by decide +kernel
      have := this ⟨c.toNat, c.toNat_lt⟩
      simp only [UInt8.ofNat_toNat] at this
      exact this hdc
    have h33 : c ≠ 33 := by rintro rfl; simp [isDig] at hdc
    have hp : Lib.hasPrefix (c :: r) [33] = false := by
      rw [prefix_is]
      simpa using h33
    have hne : ¬ (c :: r).drop (dgs (c :: r)) = c :: r := by
      intro e
      have := congrArg List.length e
      rw [List.length_drop] at this
      simp at this
      omega
    have hc : countF (c :: r) = if badN (c :: r) then ((0 : Int), (c :: r).drop (dgs (c :: r)), false) else (((decV ((c :: r).take (dgs (c :: r))) : Nat) : Int), (c :: r).drop (dgs (c :: r)), decide (0 < decV ((c :: r).take (dgs (c :: r))))) := by
      unfold countF
      rw [number_is]
      by_cases hb : badN (c :: r)
      · rw [if_pos hb, if_pos hb]; simp [hne]
      · rw [if_neg hb, if_neg hb]; simp [hne]
    rw [drawF, trim_keep c r blks hb1, hp, hc]
    generalize hL : c :: r = L at *
    by_cases hb : badN L
    · rw [if_pos hb, if_pos (Or.inl hb)]; simp
    · rw [if_neg hb]
      by_cases hz : decV (L.take (dgs L)) = 0
      · rw [if_pos (Or.inr (Or.inl hz)), hz]; simp
      · by_cases he : L.drop (dgs L) = []
        · rw [if_pos (Or.inr (Or.inr he)), he]; simp
        · have hR : ¬ (badN L ∨ decV (L.take (dgs L)) = 0 ∨ L.drop (dgs L) = []) := by rintro (h | h | h) <;> contradiction
          have hS : ¬ (decide (0 < decV (L.take (dgs L))) = false ∨ L.drop (dgs L) = []) := by
            rintro (h | h)
            · simp at h; omega
            · exact he h
          rw [if_neg hR]
          simp only [Bool.false_eq_true, if_false]
          rw [if_neg hS, show L.drop (dgs L + 1) = (L.drop (dgs L)).drop 1 by rw [List.drop_drop]]
end Go.Proofs.YtpldnhlancjlnaaDoor
