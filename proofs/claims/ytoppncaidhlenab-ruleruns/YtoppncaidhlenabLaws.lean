/- Steps, in plain words: how many neighbours live, and that a step goes with moves and mirrors and reaches one cell. -/
import Derived.Test.YtoppncaidhlenabNext
import Derived.Test.YtoppncaidhlenabMade
namespace Go.Proofs.Ytoppncaidhlenab
open Go.RowKit

/-- whether a place is beside a cell -/
def beside (p c : Int × Int) : Prop := p ≠ c ∧ c.1 - 1 ≤ p.1 ∧ p.1 ≤ c.1 + 1 ∧ c.2 - 1 ≤ p.2 ∧ p.2 ≤ c.2 + 1
instance (p c : Int × Int) : Decidable (beside p c) := by unfold beside; infer_instance

theorem total_ones : ∀ (qs : List (Int × Int)) (p : Int × Int), total (qs.map (fun q => (q, 1))) p = (qs.filter (fun q => decide (q = p))).length
  | [], p => rfl
  | q :: r, p => by
    rw [List.map_cons, total, total_ones r p]
    by_cases e : q = p
    · simp [e]; omega
    · simp [e]

theorem nine_but (cx cy : Int) : ((nine (cx, cy)).take 9).filter (fun q => !decide (q = (cx, cy))) = [(cx - 1, cy - 1), (cx, cy - 1), (cx + 1, cy - 1), (cx - 1, cy), (cx + 1, cy), (cx - 1, cy + 1), (cx, cy + 1), (cx + 1, cy + 1)] := by
  have h1 : ¬ cx - 1 = cx := by omega
  have h2 : ¬ cx + 1 = cx := by omega
  have h3 : ¬ cy - 1 = cy := by omega
  have h4 : ¬ cy + 1 = cy := by omega
  simp [nine, List.filter, h1, h2, h3, h4]

theorem pick3 (c p : Int) : (c - 1 = p ∧ ¬ c = p ∧ ¬ c + 1 = p) ∨ (¬ c - 1 = p ∧ c = p ∧ ¬ c + 1 = p) ∨ (¬ c - 1 = p ∧ ¬ c = p ∧ c + 1 = p) ∨ (¬ c - 1 = p ∧ ¬ c = p ∧ ¬ c + 1 = p) := by omega
set_option linter.unusedSimpArgs false in
theorem total_one (c p : Int × Int) : total (opsTo c 9) p = if beside p c then 1 else 0 := by
  obtain ⟨cx, cy⟩ := c
  obtain ⟨px, py⟩ := p
  rw [opsTo, total, nine_but]
  simp only [List.map, total, Prod.mk.injEq]
  have e1 : ∀ z : Int, ¬ z - 1 = z := fun z => by omega
  have e2 : ∀ z : Int, ¬ z + 1 = z := fun z => by omega
  rcases pick3 cx px with ⟨a1, a2, a3⟩ | ⟨a1, a2, a3⟩ | ⟨a1, a2, a3⟩ | ⟨a1, a2, a3⟩ <;> rcases pick3 cy py with ⟨b1, b2, b3⟩ | ⟨b1, b2, b3⟩ | ⟨b1, b2, b3⟩ | ⟨b1, b2, b3⟩
  all_goals first
    | rw [if_pos (show beside (px, py) (cx, cy) by unfold beside; simp only [ne_eq, Prod.mk.injEq]; omega)]
    | rw [if_neg (show ¬ beside (px, py) (cx, cy) by unfold beside; simp only [ne_eq, Prod.mk.injEq]; omega)]
  all_goals simp [a1, a2, a3, b1, b2, b3, e1, e2]

/-- how many live cells are beside a place -/
def around : List (Int × Int) → Int × Int → Int
  | [], _ => 0
  | c :: r, p => (if beside p c then 1 else 0) + around r p
theorem total_around : ∀ (ys : List (Int × Int)) (p : Int × Int), total (opsL ys) p = around ys p
  | [], p => rfl
  | c :: r, p => by
    have h : opsL (c :: r) = opsTo c 9 ++ opsL r := by simp [opsL]
    rw [h, total_append, total_one, total_around r p, around]
theorem around_perm {a b : List (Int × Int)} (h : a.Perm b) (p : Int × Int) : around a p = around b p := by
  induction h with
  | nil => rfl
  | cons x _ ih => rw [around, around, ih]
  | swap x y l => rw [around, around, around, around]; omega
  | trans _ _ h1 h2 => rw [h1, h2]
theorem around_map (f : Int × Int → Int × Int) (hf : ∀ p c, beside (f p) (f c) ↔ beside p c) : ∀ (ys : List (Int × Int)) (p : Int × Int), around (ys.map f) (f p) = around ys p
  | [], p => rfl
  | c :: r, p => by
    rw [List.map_cons, around, around, around_map f hf r p]
    by_cases h : beside p c
    · rw [if_pos h, if_pos ((hf p c).2 h)]
    · rw [if_neg h, if_neg (fun k => h ((hf p c).1 k))]

/-- two lists, each cell once, of the same cells: one is the other in another order -/
theorem perm_of {a b : List (Int × Int)} (ha : a.Nodup) (hb : b.Nodup) (h : ∀ p, p ∈ a ↔ p ∈ b) : a.Perm b := (List.perm_ext_iff_of_nodup ha hb).2 h
theorem tidy_nodup {l : List (Int × Int)} (h : Tidy l) : l.Nodup := by
  unfold Tidy at h
  refine h.imp ?_
  intro a b hab e
  subst e
  unfold ahead at hab
  omega

/-- whether a cell lives next, in these words -/
theorem lv_around (b l : Int) (ys : List (Int × Int)) (p : Int × Int) : lvB b l ys p = livesB b l (decide (p ∈ ys)) (around ys p) := by rw [lvB, total_around]
theorem lv_same (b l : Int) {ys zs : List (Int × Int)} (hp : ys.Perm zs) (p : Int × Int) : lvB b l ys p = lvB b l zs p := by
  rw [lv_around, lv_around, around_perm hp]
  have : (p ∈ ys) = (p ∈ zs) := propext hp.mem_iff
  simp only [this]
theorem lv_map (b l : Int) (f : Int × Int → Int × Int) (hf : ∀ p c, beside (f p) (f c) ↔ beside p c) (hi : ∀ p q, f p = f q → p = q) (ys : List (Int × Int)) (p : Int × Int) : lvB b l (ys.map f) (f p) = lvB b l ys p := by
  rw [lv_around, lv_around, around_map f hf]
  have : (f p ∈ ys.map f) = (p ∈ ys) := propext ⟨fun h => by
    obtain ⟨q, hq, e⟩ := List.mem_map.1 h
    rw [← hi q p e]; exact hq, fun h => List.mem_map.2 ⟨p, h, rfl⟩⟩
  simp only [this]

/-- the keys that may live -/
theorem lv_key {b l : Int} {ys : List (Int × Int)} (hg : goodB b l = true) {p : Int × Int} (hv : lvB b l ys p = true) : ∃ c ∈ ys, c.1 - 1 ≤ p.1 ∧ p.1 ≤ c.1 + 1 ∧ c.2 - 1 ≤ p.2 ∧ p.2 ≤ c.2 + 1 := by
  by_cases hp : p ∈ ys
  · exact ⟨p, hp, by omega, by omega, by omega, by omega⟩
  · have key : ∀ zs : List (Int × Int), around zs p ≠ 0 → ∃ c ∈ zs, beside p c := by
      intro zs
      induction zs with
      | nil => intro h; exact absurd rfl h
      | cons c r ih =>
        intro h
        rw [around] at h
        by_cases hb : beside p c
        · exact ⟨c, by simp, hb⟩
        · rw [if_neg hb, Int.zero_add] at h
          obtain ⟨d, hd, hbd⟩ := ih h
          exact ⟨d, List.mem_cons_of_mem _ hd, hbd⟩
    by_cases h0 : around ys p = 0
    · exfalso
      rw [lv_around, h0] at hv
      simp only [hp, decide_false, livesB] at hv
      simp [goodB] at hg
      simp at hv
      rw [hg.2] at hv
      cases hv
    · obtain ⟨c, hc, _, h1, h2, h3, h4⟩ := key ys h0
      exact ⟨c, hc, h1, h2, h3, h4⟩

/-- a step of few cells near 0: no error -/
theorem next_code {b l : Int} {ys out : List (Int × Int)} {m : Int} (hg : goodB b l = true) (h : NextSet b l ys out) (hlen : ys.length ≤ 400) (hm : m ≤ 1000000000) (hin : ∀ p ∈ ys, -m ≤ p.1 ∧ p.1 ≤ m ∧ -m ≤ p.2 ∧ p.2 ≤ m) :
    tcode out = 0 ∧ ∀ p ∈ out, -m - 1 ≤ p.1 ∧ p.1 ≤ m + 1 ∧ -m - 1 ≤ p.2 ∧ p.2 ≤ m + 1 := by
  have hnear : ∀ p ∈ out, -m - 1 ≤ p.1 ∧ p.1 ≤ m + 1 ∧ -m - 1 ≤ p.2 ∧ p.2 ≤ m + 1 := fun p hp => by
    obtain ⟨c, hc, h1, h2, h3, h4⟩ := lv_key hg ((h.2 p).1 hp)
    have := hin c hc
    omega
  refine ⟨tcode_zero.2 ⟨?_, ?_⟩, hnear⟩
  · have hsub : ∀ p, p ∈ out → p ∈ ys.flatMap nine := fun p hp => by
      obtain ⟨c, hc, h1, h2, h3, h4⟩ := lv_key hg ((h.2 p).1 hp)
      rw [List.mem_flatMap]
      refine ⟨c, hc, ?_⟩
      obtain ⟨px, py⟩ := p
      obtain ⟨cx, cy⟩ := c
      simp only [nine, List.mem_cons, Prod.mk.injEq, List.not_mem_nil, or_false]
      simp only at h1 h2 h3 h4
      omega
    have h1 := len_le h.1 hsub
    have h2 : ∀ zs : List (Int × Int), (zs.flatMap nine).length = 9 * zs.length := by
      intro zs
      induction zs with
      | nil => rfl
      | cons c r ih => rw [List.flatMap_cons, List.length_append, ih, List.length_cons]; simp [nine]; omega
    rw [h2] at h1
    omega
  · rw [List.any_eq_false]
    intro p hp
    have := hnear p hp
    have e1 : farI p.1 = false := by unfold farI; simp; omega
    have e2 : farI p.2 = false := by unfold farI; simp; omega
    simp [farP, e1, e2]
end Go.Proofs.Ytoppncaidhlenab
