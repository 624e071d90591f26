/- What is read is written as the same line. -/
import Derived.Test.YtpghbchbhjbbiaaGreatDoorSpWrites
import Derived.Test.YtpghbchbhjbbiaaGreatDoorSpRuPure
namespace Go.Proofs.YtpghbchbhjbbiaaGreatDoor
open Go.RowKit

theorem need_ok {r : Rd} {ok : Bool} {e0 : Int} (he : e0 ≠ 0) (h : (r.need ok e0).e = 0) : r.e = 0 ∧ ok = true ∧ r.need ok e0 = r := by
  unfold Rd.need at h ⊢
  by_cases hc : r.e = 0 ∧ ok = false
  · rw [if_pos hc] at h
    exact absurd h he
  · rw [if_neg hc] at h ⊢
    refine ⟨h, ?_, rfl⟩
    cases ok
    · exact absurd ⟨h, rfl⟩ hc
    · rfl
theorem word_ok {r : Rd} (h : r.word.2.e = 0) : ∃ x t, r = ⟨x :: t, 0⟩ ∧ r.word = (x, ⟨t, 0⟩) := by
  obtain ⟨ws, e⟩ := r
  by_cases he : e = 0
  · subst he
    cases ws with
    | nil => exact absurd h (by simp [Rd.word])
    | cons x t => exact ⟨x, t, rfl, rfl⟩
  · have : Rd.word ⟨ws, e⟩ = (⟨#[]⟩, ⟨ws, e⟩) := by unfold Rd.word; rw [if_neg he]
    rw [this] at h
    exact absurd h he
theorem name_ok {r : Rd} (h : r.name.2.e = 0) : ∃ x t, r = ⟨x :: t, 0⟩ ∧ namedB x = true ∧ r.name = (x, ⟨t, 0⟩) := by
  unfold Rd.name at h ⊢
  obtain ⟨h1, h2, h3⟩ := need_ok (by decide) h
  obtain ⟨x, t, hr, hw⟩ := word_ok h1
  refine ⟨x, t, hr, ?_, ?_⟩
  · rw [hw] at h2; exact h2
  · rw [h3, hw]
theorem place_ok {r : Rd} (h : r.place.2.e = 0) : ∃ x t, r = ⟨x :: t, 0⟩ ∧ (namedB x || keyedB x) = true ∧ r.place = (x, ⟨t, 0⟩) := by
  unfold Rd.place at h ⊢
  obtain ⟨h1, h2, h3⟩ := need_ok (by decide) h
  obtain ⟨x, t, hr, hw⟩ := word_ok h1
  refine ⟨x, t, hr, ?_, ?_⟩
  · rw [hw] at h2; exact h2
  · rw [h3, hw]
theorem rule_ok {r : Rd} (h : r.rule.2.e = 0) : ∃ x t, r = ⟨x :: t, 0⟩ ∧ (readF x.data.toList).2.2 = 0 ∧ r.rule = (((readF x.data.toList).1, (readF x.data.toList).2.1), ⟨t, 0⟩) := by
  unfold Rd.rule at h ⊢
  obtain ⟨h1, h2, h3⟩ := need_ok (by decide) h
  obtain ⟨x, t, hr, hw⟩ := word_ok h1
  refine ⟨x, t, hr, ?_, ?_⟩
  · rw [hw] at h2; exact of_decide_eq_true h2
  · rw [h3, hw]
theorem num_ok {r : Rd} (h : r.num.2.e = 0) : ∃ x t, r = ⟨x :: t, 0⟩ ∧ (numOf x.data.toList).2 = true ∧ r.num = ((numOf x.data.toList).1, ⟨t, 0⟩) := by
  unfold Rd.num at h ⊢
  obtain ⟨h1, h2, h3⟩ := need_ok (by decide) h
  obtain ⟨x, t, hr, hw⟩ := word_ok h1
  refine ⟨x, t, hr, ?_, ?_⟩
  · rw [hw] at h2; exact h2
  · rw [h3, hw]
theorem cell_ok {r : Rd} (h : r.cell.2.e = 0) : ∃ x t, r = ⟨x :: t, 0⟩ ∧ ((numOf (Lib.cut x.data.toList [44]).1).2 && (numOf (Lib.cut x.data.toList [44]).2.1).2) = true ∧ r.cell = (((numOf (Lib.cut x.data.toList [44]).1).1, (numOf (Lib.cut x.data.toList [44]).2.1).1), ⟨t, 0⟩) := by
  unfold Rd.cell at h ⊢
  obtain ⟨h1, h2, h3⟩ := need_ok (by decide) h
  obtain ⟨x, t, hr, hw⟩ := word_ok h1
  refine ⟨x, t, hr, ?_, ?_⟩
  · rw [hw] at h2; exact h2
  · rw [hw] at h3
    simp only [hw]
    rw [h3]
theorem verb_ok {r : Rd} (h : r.verb.2.e = 0) : ∃ x t, r = ⟨x :: t, 0⟩ ∧ verbF x ≠ 0 ∧ r.verb = (verbF x, ⟨t, 0⟩) := by
  unfold Rd.verb at h ⊢
  obtain ⟨h1, h2, h3⟩ := need_ok (by decide) h
  obtain ⟨x, t, hr, hw⟩ := word_ok h1
  refine ⟨x, t, hr, ?_, ?_⟩
  · rw [hw] at h2; simpa using h2
  · rw [h3, hw]
theorem end_ok {r : Rd} (h : r.end_.e = 0) : r = ⟨[], 0⟩ := by
  unfold Rd.end_ at h
  obtain ⟨h1, h2, _⟩ := need_ok (by decide) h
  obtain ⟨ws, e⟩ := r
  simp only at h1 h2
  have := of_decide_eq_true h2
  rw [List.eq_nil_of_length_eq_zero this, h1]
theorem verb_back (x : ByteArray) (h : verbF x ≠ 0) : verbL.getD (verbF x) ⟨#[]⟩ = x := by
  by_cases hx : ∃ j, j < 11 ∧ verbL.getD j ⟨#[]⟩ = x
  · obtain ⟨j, hj, rfl⟩ := hx
    rw [verb_at j hj]
  · exact absurd (verb_no x fun j hj e => hx ⟨j, hj, e⟩) h
theorem num_text {l : List UInt8} (h : (numOf l).2 = true) : Lib.itoa (numOf l).1 = l ∧ -1000000000000000000 < (numOf l).1 ∧ (numOf l).1 < 1000000000000000000 := by
  unfold numOf at h ⊢
  cases h1 : Lib.atoiAll l with
  | ok v =>
    rw [h1] at h
    simp only [Bool.and_eq_true, decide_eq_true_eq] at h ⊢
    exact ⟨h.1.1, h.1.2, h.2⟩
  | «syntax» => rw [h1] at h; cases h
  | range => rw [h1] at h; cases h
theorem index_found (c : UInt8) : ∀ (l : List UInt8) (i : Nat), Lib.index l [c] = (i : Int) → l = l.take i ++ c :: l.drop (i + 1)
  | [], i, h => by simp [Lib.index] at h
  | b :: l, i, h => by
    rw [Lib.index] at h
    by_cases hb : b = c
    · subst hb
      rw [if_pos (by simp [List.isPrefixOf])] at h
      have : i = 0 := by omega
      subst this
      rfl
    · have hp : [c].isPrefixOf (b :: l) = false := by simp [List.isPrefixOf]; exact fun e => hb e.symm
      rw [hp] at h
      simp only [Bool.false_eq_true, if_false] at h
      by_cases h1 : Lib.index l [c] = -1
      · rw [h1] at h; simp at h
      · have e1 : (Lib.index l [c] == -1) = false := by simpa using h1
        rw [e1] at h
        simp only [Bool.false_eq_true, if_false] at h
        obtain ⟨j, rfl⟩ : ∃ j, i = j + 1 := ⟨i - 1, by have := index_ge c l; omega⟩
        have ih := index_found c l j (by omega)
        rw [List.take_succ_cons, List.drop_succ_cons, List.cons_append]
        exact congrArg (b :: ·) ih
theorem dec_ne (u : Nat) : Lib.decDigits u ≠ [] := by
  rw [Lib.decDigits]
  split <;> simp
theorem itoa_ne (n : Int) : Lib.itoa n ≠ [] := by
  unfold Lib.itoa
  split
  · simp
  · exact dec_ne _
theorem cell_word {x : ByteArray} (h : ((numOf (Lib.cut x.data.toList [44]).1).2 && (numOf (Lib.cut x.data.toList [44]).2.1).2) = true) : cellW ((numOf (Lib.cut x.data.toList [44]).1).1, (numOf (Lib.cut x.data.toList [44]).2.1).1) = x := by
  rw [Bool.and_eq_true] at h
  obtain ⟨h1, _⟩ := num_text h.1
  obtain ⟨h2, _⟩ := num_text h.2
  unfold cellW
  simp only [h1, h2]
  have hc : x.data.toList = (Lib.cut x.data.toList [44]).1 ++ 44 :: (Lib.cut x.data.toList [44]).2.1 := by
    unfold Lib.cut at h2 ⊢
    split at h2
    · rename_i hi
      rw [if_pos hi]
      obtain ⟨i, hi2⟩ := Int.eq_ofNat_of_zero_le hi
      have := index_found 44 x.data.toList i hi2
      rw [hi2]
      exact this
    · exact absurd h2 (itoa_ne _)
  clear h h1 h2
  generalize Lib.cut x.data.toList [44] = c at *
  apply ByteArray.ext
  rw [← Array.toList_inj, hc]
  simp [ByteArray.data_append]
/-- what is read: within bounds, and written as the words were -/
def Small (q : Rq) : Prop := In64 q.n ∧ (∀ c ∈ q.cells, In64 c.1 ∧ In64 c.2)
theorem cells_ok : ∀ (n : Nat) (r : Rd), r.ws.length = n → r.cells.2.e = 0 → ∃ ws, r = ⟨ws, 0⟩ ∧ r.cells.2 = ⟨[], 0⟩ ∧ r.cells.1.map cellW = ws ∧ ∀ c ∈ r.cells.1, In64 c.1 ∧ In64 c.2
  | 0, r, hn, h => by
    have h0 : r.ws = [] := List.eq_nil_of_length_eq_zero hn
    rw [cells_nil h0] at h ⊢
    obtain ⟨ws, e⟩ := r
    simp only at h h0
    subst h0 h
    exact ⟨[], rfl, rfl, rfl, fun c hc => by cases hc⟩
  | n + 1, ⟨ws, e⟩, hn, h => by
    by_cases he : e = 0
    · subst he
      cases ws with
      | nil => simp at hn
      | cons y t =>
        rw [cells_cons] at h ⊢
        simp only at h ⊢
        have hn2 : (Rd.cell ⟨y :: t, 0⟩).2.ws.length = n := by rw [cell_ws]; simpa using hn
        obtain ⟨ws', h1, h2, h3, h4⟩ := cells_ok n _ hn2 h
        have he : (Rd.cell ⟨y :: t, 0⟩).2.e = 0 := by rw [h1]
        obtain ⟨x, t', hr, hok, hc⟩ := cell_ok he
        have hx : y = x ∧ t = t' := by
          have := congrArg Rd.ws hr
          simpa using this
        obtain ⟨rfl, rfl⟩ := hx
        have hw : ws' = t := by
          have := congrArg Rd.ws h1
          rw [cell_ws] at this
          exact this.symm
        subst hw
        refine ⟨y :: ws', rfl, h2, ?_, ?_⟩
        · rw [List.map_cons, h3, hc, cell_word hok]
        · intro c hcm
          rcases List.mem_cons.1 hcm with rfl | hcm
          · rw [Bool.and_eq_true] at hok
            obtain ⟨_, a1, a2⟩ := num_text hok.1
            obtain ⟨_, b1, b2⟩ := num_text hok.2
            rw [hc]
            exact ⟨⟨by simp only; omega, by simp only; omega⟩, by simp only; omega, by simp only; omega⟩
          · exact h4 c hcm
    · rw [cells_err (r := ⟨ws, e⟩) he] at h
      exact absurd h he
theorem ba_of (x : ByteArray) {l : List UInt8} (h : l = x.data.toList) : (⟨l.toArray⟩ : ByteArray) = x := by rw [h, ← ba_list]
theorem begin_ok {s : ByteArray} {z : ByteArray} {t : List ByteArray} (h : beginF s = ⟨z :: t, 0⟩) (hv : verbF z ≠ 0) : s.size ≤ 6000 ∧ wordsOf s = z :: t ∧ verbL.getD (verbF z) ⟨#[]⟩ = z ∧ ∀ x ∈ z :: t, x.size ≤ 6000 := by
  unfold beginF at h
  by_cases hs : s.size > 6000
  · rw [if_pos hs] at h
    cases h
  · rw [if_neg hs] at h
    have hw : wordsOf s = z :: t := congrArg Rd.ws h
    refine ⟨by omega, hw, verb_back z hv, fun x hx => ?_⟩
    rw [← hw] at hx
    have := words_small s x hx
    omega
theorem in64_0 : In64 0 := ⟨by omega, by omega⟩
/-- a line that is read: its words are those of what would be the request's line -/
theorem read_words (s : ByteArray) (h : (readRq s).2 = 0) : s.size ≤ 6000 ∧ lineWords (readRq s).1 = wordsOf s ∧ (1 ≤ (readRq s).1.verb ∧ (readRq s).1.verb ≤ 10) ∧ Small (readRq s).1 ∧ (readRq s).1.name.size ≤ 6000 ∧ (readRq s).1.other.size ≤ 6000 := by
  have he : (beginF s).request.2.end_.e = 0 := by
    unfold readRq at h
    by_cases hc : (beginF s).request.2.end_.e = 0
    · exact hc
    · rw [if_neg hc] at h; exact absurd h hc
  have hq : readRq s = ((beginF s).request.1, 0) := by unfold readRq; rw [if_pos he]
  rw [hq]
  simp only
  have hend := end_ok he
  clear h he hq
  obtain ⟨r, hr⟩ : ∃ r, r = beginF s := ⟨_, rfl⟩
  rw [← hr] at hend ⊢
  have hle := verb_le r
  have hc : r.verb.1 = 1 ∨ r.verb.1 = 2 ∨ r.verb.1 = 3 ∨ r.verb.1 = 4 ∨ r.verb.1 = 5 ∨ r.verb.1 = 6 ∨ r.verb.1 = 7 ∨ r.verb.1 = 8 ∨ r.verb.1 = 9 ∨ r.verb.1 = 0 ∨ r.verb.1 = 10 := by omega
  have h0 : (0 : Nat) ≤ 6000 := by omega
  rcases hc with hv | hv | hv | hv | hv | hv | hv | hv | hv | hv | hv
  · have hreq : r.request = (⟨1, r.verb.2.name.1, ⟨#[]⟩, r.verb.2.name.2.rule.1.1, r.verb.2.name.2.rule.1.2, 0, []⟩, r.verb.2.name.2.rule.2) := by
      unfold Rd.request
      simp only [hv]
      rfl
    rw [hreq] at hend ⊢
    replace hend : r.verb.2.name.2.rule.2 = ⟨[], 0⟩ := hend
    obtain ⟨x1, t1, hr1, hok1, hc1⟩ := rule_ok (r := r.verb.2.name.2) (by rw [hend])
    have ht1 := congrArg Prod.snd hc1
    rw [hend] at ht1
    replace ht1 := congrArg Rd.ws ht1
    simp only at ht1
    subst ht1
    obtain ⟨x0, t0, hr0, hok0, hc0⟩ := name_ok (r := r.verb.2) (by rw [hr1])
    have ht0 := congrArg Prod.snd hc0
    rw [hr1] at ht0
    replace ht0 := congrArg Rd.ws ht0
    simp only at ht0
    subst ht0
    obtain ⟨z, tz, hrz, hvz, hcz⟩ := verb_ok (r := r) (by rw [hr0])
    have htz := congrArg Prod.snd hcz
    rw [hr0] at htz
    replace htz := congrArg Rd.ws htz
    simp only at htz
    subst htz
    have hvv : verbF z = 1 := by rw [← hv, hcz]
    obtain ⟨b1, b2, b3, b4⟩ := begin_ok (hr ▸ hrz) hvz
    rw [hvv] at b3
    obtain ⟨g1, g2⟩ := read_only (L := x1.data.toList) (x := (readF x1.data.toList).1) (y := (readF x1.data.toList).2.1) (by rw [← hok1])
    have hn : r.verb.2.name.1 = x0 := congrArg Prod.fst hc0
    have hru : r.verb.2.name.2.rule.1 = ((readF x1.data.toList).1, (readF x1.data.toList).2.1) := congrArg Prod.fst hc1
    simp only [hn, hru]
    refine ⟨b1, ?_, ⟨by decide, by decide⟩, ⟨in64_0, fun c hc => by cases hc⟩, b4 x0 (by simp), h0⟩
    rw [b2]
    show verbL.getD 1 ⟨#[]⟩ :: [x0, ruleT _ _] = _
    rw [b3]
    unfold ruleT
    rw [if_pos g1, g2, ← ba_list]
  · have hreq : r.request = (⟨2, r.verb.2.place.1, ⟨#[]⟩, 0, 0, 0, r.verb.2.place.2.cells.1⟩, r.verb.2.place.2.cells.2) := by
      unfold Rd.request
      simp only [hv]
      rfl
    rw [hreq] at hend ⊢
    replace hend : r.verb.2.place.2.cells.2 = ⟨[], 0⟩ := hend
    obtain ⟨ws, hr1, _, hmap, hin⟩ := cells_ok _ r.verb.2.place.2 rfl (by rw [hend])
    obtain ⟨x0, t0, hr0, hok0, hc0⟩ := place_ok (r := r.verb.2) (by rw [hr1])
    have ht0 := congrArg Prod.snd hc0
    rw [hr1] at ht0
    replace ht0 := congrArg Rd.ws ht0
    simp only at ht0
    subst ht0
    obtain ⟨z, tz, hrz, hvz, hcz⟩ := verb_ok (r := r) (by rw [hr0])
    have htz := congrArg Prod.snd hcz
    rw [hr0] at htz
    replace htz := congrArg Rd.ws htz
    simp only at htz
    subst htz
    have hvv : verbF z = 2 := by rw [← hv, hcz]
    obtain ⟨b1, b2, b3, b4⟩ := begin_ok (hr ▸ hrz) hvz
    rw [hvv] at b3
    have hn : r.verb.2.place.1 = x0 := congrArg Prod.fst hc0
    simp only [hn]
    refine ⟨b1, ?_, ⟨by decide, by decide⟩, ⟨in64_0, hin⟩, b4 x0 (by simp), h0⟩
    have hlen := words_count s
    rw [b2] at hlen ⊢
    show verbL.getD 2 ⟨#[]⟩ :: x0 :: (r.verb.2.place.2.cells.1.take 6000).map cellW = _
    have hl : r.verb.2.place.2.cells.1.length ≤ 6000 := by
      have := congrArg List.length hmap
      rw [List.length_map] at this
      simp only [List.length_cons] at hlen
      omega
    rw [b3, List.take_of_length_le hl, hmap]
  · have hreq : r.request = (⟨3, r.verb.2.place.1, ⟨#[]⟩, 0, 0, 0, []⟩, r.verb.2.place.2) := by
      unfold Rd.request
      simp only [hv]
      rfl
    rw [hreq] at hend ⊢
    replace hend : r.verb.2.place.2 = ⟨[], 0⟩ := hend
    obtain ⟨x0, t0, hr0, hok0, hc0⟩ := place_ok (r := r.verb.2) (by rw [hend])
    have ht0 := congrArg Prod.snd hc0
    rw [hend] at ht0
    replace ht0 := congrArg Rd.ws ht0
    simp only at ht0
    subst ht0
    obtain ⟨z, tz, hrz, hvz, hcz⟩ := verb_ok (r := r) (by rw [hr0])
    have htz := congrArg Prod.snd hcz
    rw [hr0] at htz
    replace htz := congrArg Rd.ws htz
    simp only at htz
    subst htz
    have hvv : verbF z = 3 := by rw [← hv, hcz]
    obtain ⟨b1, b2, b3, b4⟩ := begin_ok (hr ▸ hrz) hvz
    rw [hvv] at b3
    have hn : r.verb.2.place.1 = x0 := congrArg Prod.fst hc0
    simp only [hn]
    refine ⟨b1, ?_, ⟨by decide, by decide⟩, ⟨in64_0, fun c hc => by cases hc⟩, b4 x0 (by simp), h0⟩
    rw [b2]
    show verbL.getD 3 ⟨#[]⟩ :: [x0] = _
    rw [b3]
  · have hreq : r.request = (⟨4, r.verb.2.place.1, ⟨#[]⟩, 0, 0, r.verb.2.place.2.num.1, []⟩, r.verb.2.place.2.num.2) := by
      unfold Rd.request
      simp only [hv]
      rfl
    rw [hreq] at hend ⊢
    replace hend : r.verb.2.place.2.num.2 = ⟨[], 0⟩ := hend
    obtain ⟨x1, t1, hr1, hok1, hc1⟩ := num_ok (r := r.verb.2.place.2) (by rw [hend])
    have ht1 := congrArg Prod.snd hc1
    rw [hend] at ht1
    replace ht1 := congrArg Rd.ws ht1
    simp only at ht1
    subst ht1
    obtain ⟨x0, t0, hr0, hok0, hc0⟩ := place_ok (r := r.verb.2) (by rw [hr1])
    have ht0 := congrArg Prod.snd hc0
    rw [hr1] at ht0
    replace ht0 := congrArg Rd.ws ht0
    simp only at ht0
    subst ht0
    obtain ⟨z, tz, hrz, hvz, hcz⟩ := verb_ok (r := r) (by rw [hr0])
    have htz := congrArg Prod.snd hcz
    rw [hr0] at htz
    replace htz := congrArg Rd.ws htz
    simp only at htz
    subst htz
    have hvv : verbF z = 4 := by rw [← hv, hcz]
    obtain ⟨b1, b2, b3, b4⟩ := begin_ok (hr ▸ hrz) hvz
    rw [hvv] at b3
    have hn : r.verb.2.place.1 = x0 := congrArg Prod.fst hc0
    have hnn : r.verb.2.place.2.num.1 = (numOf x1.data.toList).1 := congrArg Prod.fst hc1
    obtain ⟨n1, n2, n3⟩ := num_text hok1
    simp only [hn, hnn]
    refine ⟨b1, ?_, ⟨by decide, by decide⟩, ⟨⟨by show _ ≤ (numOf x1.data.toList).1; omega, by show (numOf x1.data.toList).1 ≤ _; omega⟩, fun c hc => by cases hc⟩, b4 x0 (by simp), h0⟩
    rw [b2]
    show verbL.getD 4 ⟨#[]⟩ :: [x0, ⟨(Lib.itoa (numOf x1.data.toList).1).toArray⟩] = _
    rw [b3, n1, ← ba_list]
  · have hreq : r.request = (⟨5, r.verb.2.place.1, ⟨#[]⟩, 0, 0, 0, []⟩, r.verb.2.place.2) := by
      unfold Rd.request
      simp only [hv]
      rfl
    rw [hreq] at hend ⊢
    replace hend : r.verb.2.place.2 = ⟨[], 0⟩ := hend
    obtain ⟨x0, t0, hr0, hok0, hc0⟩ := place_ok (r := r.verb.2) (by rw [hend])
    have ht0 := congrArg Prod.snd hc0
    rw [hend] at ht0
    replace ht0 := congrArg Rd.ws ht0
    simp only at ht0
    subst ht0
    obtain ⟨z, tz, hrz, hvz, hcz⟩ := verb_ok (r := r) (by rw [hr0])
    have htz := congrArg Prod.snd hcz
    rw [hr0] at htz
    replace htz := congrArg Rd.ws htz
    simp only at htz
    subst htz
    have hvv : verbF z = 5 := by rw [← hv, hcz]
    obtain ⟨b1, b2, b3, b4⟩ := begin_ok (hr ▸ hrz) hvz
    rw [hvv] at b3
    have hn : r.verb.2.place.1 = x0 := congrArg Prod.fst hc0
    simp only [hn]
    refine ⟨b1, ?_, ⟨by decide, by decide⟩, ⟨in64_0, fun c hc => by cases hc⟩, b4 x0 (by simp), h0⟩
    rw [b2]
    show verbL.getD 5 ⟨#[]⟩ :: [x0] = _
    rw [b3]
  · have hreq : r.request = (⟨6, r.verb.2.place.1, ⟨#[]⟩, 0, 0, 0, []⟩, r.verb.2.place.2) := by
      unfold Rd.request
      simp only [hv]
      rfl
    rw [hreq] at hend ⊢
    replace hend : r.verb.2.place.2 = ⟨[], 0⟩ := hend
    obtain ⟨x0, t0, hr0, hok0, hc0⟩ := place_ok (r := r.verb.2) (by rw [hend])
    have ht0 := congrArg Prod.snd hc0
    rw [hend] at ht0
    replace ht0 := congrArg Rd.ws ht0
    simp only at ht0
    subst ht0
    obtain ⟨z, tz, hrz, hvz, hcz⟩ := verb_ok (r := r) (by rw [hr0])
    have htz := congrArg Prod.snd hcz
    rw [hr0] at htz
    replace htz := congrArg Rd.ws htz
    simp only at htz
    subst htz
    have hvv : verbF z = 6 := by rw [← hv, hcz]
    obtain ⟨b1, b2, b3, b4⟩ := begin_ok (hr ▸ hrz) hvz
    rw [hvv] at b3
    have hn : r.verb.2.place.1 = x0 := congrArg Prod.fst hc0
    simp only [hn]
    refine ⟨b1, ?_, ⟨by decide, by decide⟩, ⟨in64_0, fun c hc => by cases hc⟩, b4 x0 (by simp), h0⟩
    rw [b2]
    show verbL.getD 6 ⟨#[]⟩ :: [x0] = _
    rw [b3]
  · have hreq : r.request = (⟨7, r.verb.2.name.1, ⟨#[]⟩, 0, 0, 0, []⟩, r.verb.2.name.2) := by
      unfold Rd.request
      simp only [hv]
      rfl
    rw [hreq] at hend ⊢
    replace hend : r.verb.2.name.2 = ⟨[], 0⟩ := hend
    obtain ⟨x0, t0, hr0, hok0, hc0⟩ := name_ok (r := r.verb.2) (by rw [hend])
    have ht0 := congrArg Prod.snd hc0
    rw [hend] at ht0
    replace ht0 := congrArg Rd.ws ht0
    simp only at ht0
    subst ht0
    obtain ⟨z, tz, hrz, hvz, hcz⟩ := verb_ok (r := r) (by rw [hr0])
    have htz := congrArg Prod.snd hcz
    rw [hr0] at htz
    replace htz := congrArg Rd.ws htz
    simp only at htz
    subst htz
    have hvv : verbF z = 7 := by rw [← hv, hcz]
    obtain ⟨b1, b2, b3, b4⟩ := begin_ok (hr ▸ hrz) hvz
    rw [hvv] at b3
    have hn : r.verb.2.name.1 = x0 := congrArg Prod.fst hc0
    simp only [hn]
    refine ⟨b1, ?_, ⟨by decide, by decide⟩, ⟨in64_0, fun c hc => by cases hc⟩, b4 x0 (by simp), h0⟩
    rw [b2]
    show verbL.getD 7 ⟨#[]⟩ :: [x0] = _
    rw [b3]
  · have hreq : r.request = (⟨8, r.verb.2.place.1, r.verb.2.place.2.name.1, 0, 0, 0, []⟩, r.verb.2.place.2.name.2) := by
      unfold Rd.request
      simp only [hv]
      rfl
    rw [hreq] at hend ⊢
    replace hend : r.verb.2.place.2.name.2 = ⟨[], 0⟩ := hend
    obtain ⟨x1, t1, hr1, hok1, hc1⟩ := name_ok (r := r.verb.2.place.2) (by rw [hend])
    have ht1 := congrArg Prod.snd hc1
    rw [hend] at ht1
    replace ht1 := congrArg Rd.ws ht1
    simp only at ht1
    subst ht1
    obtain ⟨x0, t0, hr0, hok0, hc0⟩ := place_ok (r := r.verb.2) (by rw [hr1])
    have ht0 := congrArg Prod.snd hc0
    rw [hr1] at ht0
    replace ht0 := congrArg Rd.ws ht0
    simp only at ht0
    subst ht0
    obtain ⟨z, tz, hrz, hvz, hcz⟩ := verb_ok (r := r) (by rw [hr0])
    have htz := congrArg Prod.snd hcz
    rw [hr0] at htz
    replace htz := congrArg Rd.ws htz
    simp only at htz
    subst htz
    have hvv : verbF z = 8 := by rw [← hv, hcz]
    obtain ⟨b1, b2, b3, b4⟩ := begin_ok (hr ▸ hrz) hvz
    rw [hvv] at b3
    have hn : r.verb.2.place.1 = x0 := congrArg Prod.fst hc0
    have ho : r.verb.2.place.2.name.1 = x1 := congrArg Prod.fst hc1
    simp only [hn, ho]
    refine ⟨b1, ?_, ⟨by decide, by decide⟩, ⟨in64_0, fun c hc => by cases hc⟩, b4 x0 (by simp), b4 x1 (by simp)⟩
    rw [b2]
    show verbL.getD 8 ⟨#[]⟩ :: [x0, x1] = _
    rw [b3]
  · have hreq : r.request = (⟨9, r.verb.2.name.1, ⟨#[]⟩, 0, 0, r.verb.2.name.2.num.1, []⟩, r.verb.2.name.2.num.2) := by
      unfold Rd.request
      simp only [hv]
      rfl
    rw [hreq] at hend ⊢
    replace hend : r.verb.2.name.2.num.2 = ⟨[], 0⟩ := hend
    obtain ⟨x1, t1, hr1, hok1, hc1⟩ := num_ok (r := r.verb.2.name.2) (by rw [hend])
    have ht1 := congrArg Prod.snd hc1
    rw [hend] at ht1
    replace ht1 := congrArg Rd.ws ht1
    simp only at ht1
    subst ht1
    obtain ⟨x0, t0, hr0, hok0, hc0⟩ := name_ok (r := r.verb.2) (by rw [hr1])
    have ht0 := congrArg Prod.snd hc0
    rw [hr1] at ht0
    replace ht0 := congrArg Rd.ws ht0
    simp only at ht0
    subst ht0
    obtain ⟨z, tz, hrz, hvz, hcz⟩ := verb_ok (r := r) (by rw [hr0])
    have htz := congrArg Prod.snd hcz
    rw [hr0] at htz
    replace htz := congrArg Rd.ws htz
    simp only at htz
    subst htz
    have hvv : verbF z = 9 := by rw [← hv, hcz]
    obtain ⟨b1, b2, b3, b4⟩ := begin_ok (hr ▸ hrz) hvz
    rw [hvv] at b3
    have hn : r.verb.2.name.1 = x0 := congrArg Prod.fst hc0
    have hnn : r.verb.2.name.2.num.1 = (numOf x1.data.toList).1 := congrArg Prod.fst hc1
    obtain ⟨n1, n2, n3⟩ := num_text hok1
    simp only [hn, hnn]
    refine ⟨b1, ?_, ⟨by decide, by decide⟩, ⟨⟨by show _ ≤ (numOf x1.data.toList).1; omega, by show (numOf x1.data.toList).1 ≤ _; omega⟩, fun c hc => by cases hc⟩, b4 x0 (by simp), h0⟩
    rw [b2]
    show verbL.getD 9 ⟨#[]⟩ :: [x0, ⟨(Lib.itoa (numOf x1.data.toList).1).toArray⟩] = _
    rw [b3, n1, ← ba_list]
  · have hreq : r.request = (⟨0, ⟨#[]⟩, ⟨#[]⟩, 0, 0, 0, []⟩, r.verb.2) := by
      unfold Rd.request
      simp only [hv]
      rfl
    rw [hreq] at hend ⊢
    replace hend : r.verb.2 = ⟨[], 0⟩ := hend
    obtain ⟨z, tz, hrz, hvz, hcz⟩ := verb_ok (r := r) (by rw [hend])
    exact absurd (by rw [← hv, hcz]) hvz
  · have hreq : r.request = (⟨10, ⟨#[]⟩, ⟨#[]⟩, 0, 0, 0, []⟩, r.verb.2) := by
      unfold Rd.request
      simp only [hv]
      rfl
    rw [hreq] at hend ⊢
    replace hend : r.verb.2 = ⟨[], 0⟩ := hend
    obtain ⟨z, tz, hrz, hvz, hcz⟩ := verb_ok (r := r) (by rw [hend])
    have htz := congrArg Prod.snd hcz
    rw [hend] at htz
    replace htz := congrArg Rd.ws htz
    simp only at htz
    subst htz
    have hvv : verbF z = 10 := by rw [← hv, hcz]
    obtain ⟨b1, b2, b3, b4⟩ := begin_ok (hr ▸ hrz) hvz
    rw [hvv] at b3
    refine ⟨b1, ?_, ⟨by show (1 : Int) ≤ 10; decide, by show (10 : Int) ≤ 10; decide⟩, ⟨in64_0, fun c hc => by cases hc⟩, h0, h0⟩
    rw [b2]
    show verbL.getD 10 ⟨#[]⟩ :: [] = _
    rw [b3]
theorem read_line (s : ByteArray) (h : (readRq s).2 = 0) : writeRq (readRq s).1 = (s, 0) := by
  obtain ⟨_, hw, hv, _⟩ := read_words s h
  have hl : lineF (readRq s).1 = s := by
    unfold lineF
    rw [hw, words_join, ← ba_list]
  have hs : sameRq (readRq s).1 (readRq s).1 = true := by simp [sameRq]
  unfold writeRq
  rw [hl, if_pos hv, if_pos h, if_pos hs]
end Go.Proofs.YtpghbchbhjbbiaaGreatDoor
