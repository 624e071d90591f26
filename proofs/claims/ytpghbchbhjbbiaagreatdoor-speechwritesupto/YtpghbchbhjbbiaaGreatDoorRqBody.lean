/- The document's ReadRequest answers what Read answers: pure. -/
import Derived.Test.YtpghbchbhjbbiaaGreatDoorRqPure
namespace Go.Proofs.YtpghbchbhjbbiaaGreatDoor
open Go.RowKit

theorem need_err (ws : List ByteArray) (e : Int) (ok : Bool) (e0 : Int) (h : e ≠ 0) : Rd.need ⟨ws, e⟩ ok e0 = ⟨ws, e⟩ := by
  unfold Rd.need
  rw [if_neg (fun hc => h hc.1)]
theorem need_yes (r : Rd) (e0 : Int) : r.need true e0 = r := by
  unfold Rd.need
  rw [if_neg (fun hc => by cases hc.2)]
theorem need_not (ws : List ByteArray) (e0 : Int) : Rd.need ⟨ws, 0⟩ false e0 = ⟨ws, e0⟩ := by
  unfold Rd.need
  rw [if_pos ⟨rfl, rfl⟩]
theorem word_cons (x : ByteArray) (t : List ByteArray) : Rd.word ⟨x :: t, 0⟩ = (x, ⟨t, 0⟩) := rfl
theorem word_nil : Rd.word ⟨[], 0⟩ = (⟨#[]⟩, ⟨[], 2⟩) := rfl
theorem word_err (ws : List ByteArray) (e : Int) (h : e ≠ 0) : Rd.word ⟨ws, e⟩ = (⟨#[]⟩, ⟨ws, e⟩) := by
  unfold Rd.word
  rw [if_neg h]
/-- one letter of the form, of a reader -/
def opF (f : UInt8) (i : Nat) (p : Rq × Rd) : Rq × Rd :=
  if f = 110 then (if i = 0 then { p.1 with name := p.2.name.1 } else { p.1 with other := p.2.name.1 }, p.2.name.2)
  else if f = 112 then ({ p.1 with name := p.2.place.1 }, p.2.place.2)
  else if f = 114 then ({ p.1 with born := p.2.rule.1.1, live := p.2.rule.1.2 }, p.2.rule.2)
  else ({ p.1 with n := p.2.num.1 }, p.2.num.2)
theorem op_some (f : UInt8) (i : Nat) (x : ByteArray) (t : List ByteArray) (q : Rq) (h : (stepF f i x q).2 = true) : opF f i (q, ⟨x :: t, 0⟩) = ((stepF f i x q).1, ⟨t, 0⟩) := by
  unfold stepF at h ⊢
  unfold opF
  by_cases h1 : f = 110
  · rw [if_pos h1] at h ⊢
    rw [if_pos h1]
    simp only [Rd.name, word_cons] at h ⊢
    rw [h, need_yes]
  · rw [if_neg h1] at h ⊢
    rw [if_neg h1]
    by_cases h2 : f = 112
    · rw [if_pos h2] at h ⊢
      rw [if_pos h2]
      simp only [Rd.place, word_cons] at h ⊢
      rw [h, need_yes]
    · rw [if_neg h2] at h ⊢
      rw [if_neg h2]
      by_cases h3 : f = 114
      · rw [if_pos h3] at h ⊢
        rw [if_pos h3]
        simp only [Rd.rule, word_cons, ref_is] at h ⊢
        rw [h, need_yes]
      · rw [if_neg h3] at h ⊢
        rw [if_neg h3]
        simp only [Rd.num, word_cons] at h ⊢
        obtain ⟨a, b⟩ := num_is x.data.toList
        rw [a, h, need_yes, b h]
theorem op_bad (f : UInt8) (i : Nat) (x : ByteArray) (t : List ByteArray) (q : Rq) (h : (stepF f i x q).2 = false) : (opF f i (q, ⟨x :: t, 0⟩)).2 = ⟨t, 2⟩ := by
  unfold stepF at h
  unfold opF
  by_cases h1 : f = 110
  · rw [if_pos h1] at h ⊢
    simp only [Rd.name, word_cons] at h ⊢
    rw [h, need_not]
  · rw [if_neg h1] at h ⊢
    by_cases h2 : f = 112
    · rw [if_pos h2] at h ⊢
      simp only [Rd.place, word_cons] at h ⊢
      rw [h, need_not]
    · rw [if_neg h2] at h ⊢
      by_cases h3 : f = 114
      · rw [if_pos h3] at h ⊢
        simp only [Rd.rule, word_cons, ref_is] at h ⊢
        rw [h, need_not]
      · rw [if_neg h3] at h ⊢
        simp only [Rd.num, word_cons] at h ⊢
        obtain ⟨a, b⟩ := num_is x.data.toList
        rw [a, h, need_not]
theorem op_nil (f : UInt8) (i : Nat) (q : Rq) : (opF f i (q, ⟨[], 0⟩)).2 = ⟨[], 2⟩ := by
  unfold opF
  have hn : (2 : Int) ≠ 0 := by decide
  split
  · simp only [Rd.name, word_nil]; exact need_err _ _ _ _ hn
  · split
    · simp only [Rd.place, word_nil]; exact need_err _ _ _ _ hn
    · split
      · simp only [Rd.rule, word_nil]; exact need_err _ _ _ _ hn
      · simp only [Rd.num, word_nil]; exact need_err _ _ _ _ hn
theorem op_err (f : UInt8) (i : Nat) (q : Rq) (ws : List ByteArray) (e : Int) (h : e ≠ 0) : (opF f i (q, ⟨ws, e⟩)).2 = ⟨ws, e⟩ := by
  unfold opF
  split
  · simp only [Rd.name, word_err _ _ h]; exact need_err _ _ _ _ h
  · split
    · simp only [Rd.place, word_err _ _ h]; exact need_err _ _ _ _ h
    · split
      · simp only [Rd.rule, word_err _ _ h]; exact need_err _ _ _ _ h
      · simp only [Rd.num, word_err _ _ h]; exact need_err _ _ _ _ h
def foldF : List UInt8 → Nat → Rq × Rd → Rq × Rd
  | [], _, p => p
  | f :: fs, i, p => foldF fs (i + 1) (opF f i p)
theorem fold_err : ∀ (F : List UInt8) (i : Nat) (q : Rq) (ws : List ByteArray) (e : Int), e ≠ 0 → (foldF F i (q, ⟨ws, e⟩)).2 = ⟨ws, e⟩
  | [], _, _, _, _, _ => rfl
  | f :: fs, i, q, ws, e, h => by
    rw [foldF]
    have h1 := op_err f i q ws e h
    generalize opF f i (q, ⟨ws, e⟩) = p at *
    obtain ⟨q', r'⟩ := p
    simp only at h1
    subst h1
    exact fold_err fs (i + 1) q' ws e h
theorem fold_is (ws : List ByteArray) : ∀ (F : List UInt8) (i : Nat) (q : Rq), (∀ c ∈ F, c ≠ 99) → i ≤ ws.length →
    (∃ q', formF ws F i q = some q' ∧ i + F.length ≤ ws.length ∧ foldF F i (q, ⟨ws.drop i, 0⟩) = (q', ⟨ws.drop (i + F.length), 0⟩)) ∨ (formF ws F i q = none ∧ (foldF F i (q, ⟨ws.drop i, 0⟩)).2.e = 2)
  | [], i, q, _, hi => Or.inl ⟨q, rfl, by simpa using hi, rfl⟩
  | f :: fs, i, q, hF, hi => by
    have hf : f ≠ 99 := hF f List.mem_cons_self
    rw [formF, if_neg hf, foldF]
    by_cases hlt : i < ws.length
    · rw [if_pos hlt]
      have hd : ws.drop i = ws.getD i ⟨#[]⟩ :: ws.drop (i + 1) := by
        rw [List.drop_eq_getElem_cons hlt]
        simp [List.getD, hlt]
      rw [hd]
      by_cases hs : (stepF f i (ws.getD i ⟨#[]⟩) q).2 = true
      · rw [if_pos hs, op_some f i _ _ q hs]
        rcases fold_is ws fs (i + 1) (stepF f i (ws.getD i ⟨#[]⟩) q).1 (fun c hc => hF c (List.mem_cons_of_mem _ hc)) hlt with ⟨q', h1, h2, h3⟩ | ⟨h1, h2⟩
        · refine Or.inl ⟨q', h1, by simp only [List.length_cons]; omega, ?_⟩
          rw [h3]
          simp only [List.length_cons, show i + 1 + fs.length = i + (fs.length + 1) from by omega]
        · exact Or.inr ⟨h1, h2⟩
      · rw [if_neg hs]
        have h1 := op_bad f i (ws.getD i ⟨#[]⟩) (ws.drop (i + 1)) q (Bool.eq_false_iff.2 hs)
        refine Or.inr ⟨rfl, ?_⟩
        generalize opF f i (q, ⟨ws.getD i ⟨#[]⟩ :: ws.drop (i + 1), 0⟩) = p at *
        obtain ⟨q', r'⟩ := p
        simp only at h1
        subst h1
        rw [fold_err _ _ _ _ _ (by decide)]
    · rw [if_neg hlt]
      have hd : ws.drop i = [] := List.drop_eq_nil_of_le (by omega)
      rw [hd]
      have h1 := op_nil f i q
      refine Or.inr ⟨rfl, ?_⟩
      generalize opF f i (q, ⟨[], 0⟩) = p at *
      obtain ⟨q', r'⟩ := p
      simp only at h1
      subst h1
      rw [fold_err _ _ _ _ _ (by decide)]
theorem end_err (r : Rd) (h : r.e ≠ 0) : r.end_.e = r.e := by
  obtain ⟨ws, e⟩ := r
  unfold Rd.end_
  rw [need_err _ _ _ _ h]
theorem end_drop (ws : List ByteArray) : (Rd.end_ ⟨ws, 0⟩).e = if ws.length = 0 then 0 else 2 := by
  unfold Rd.end_
  by_cases h : ws.length = 0
  · rw [if_pos h]
    simp only [h, decide_true]
    rw [need_yes]
  · rw [if_neg h]
    simp only [h, decide_false]
    rw [need_not]
theorem verb_cons (x0 : ByteArray) (ws : List ByteArray) (h : verbF x0 ≠ 0) : Rd.verb ⟨x0 :: ws, 0⟩ = (verbF x0, ⟨ws, 0⟩) := by
  unfold Rd.verb
  rw [word_cons]
  simp only
  rw [show (verbF x0 != 0) = true from by simpa using h, need_yes]
theorem req_fold (x0 : ByteArray) (ws : List ByteArray) (v : Nat) (hv : verbF x0 = v) (h0 : v ≠ 0) (h2 : v ≠ 2) (h11 : v < 11) : Rd.request ⟨x0 :: ws, 0⟩ = foldF (formL.getD v []) 0 ({ noRq with verb := v }, ⟨ws, 0⟩) := by
  have hvc := verb_cons x0 ws (by rw [hv]; exact h0)
  rw [hv] at hvc
  unfold Rd.request
  rw [hvc]
  have hc : v = 1 ∨ v = 3 ∨ v = 4 ∨ v = 5 ∨ v = 6 ∨ v = 7 ∨ v = 8 ∨ v = 9 ∨ v = 10 := by omega
  rcases hc with rfl | rfl | rfl | rfl | rfl | rfl | rfl | rfl | rfl <;> rfl
theorem body_rd (x0 : ByteArray) (ws : List ByteArray) : (if (Rd.request ⟨x0 :: ws, 0⟩).2.end_.e = 0 then ((Rd.request ⟨x0 :: ws, 0⟩).1, (0 : Int)) else (noRq, (Rd.request ⟨x0 :: ws, 0⟩).2.end_.e)) = bodyF x0 ws := by
  obtain ⟨v, hv⟩ : ∃ v, verbF x0 = v := ⟨_, rfl⟩
  have hlt : v < 11 := by rw [← hv]; exact verb_lt x0
  unfold bodyF
  rw [hv]
  by_cases h0 : v = 0
  · subst h0
    have hvc : Rd.verb ⟨x0 :: ws, 0⟩ = (0, ⟨ws, 4⟩) := by
      unfold Rd.verb
      rw [word_cons]
      simp only
      rw [hv]
      exact congrArg (Prod.mk 0) (need_not ws 4)
    have hr : (Rd.request ⟨x0 :: ws, 0⟩).2 = ⟨ws, 4⟩ := by
      unfold Rd.request
      rw [hvc]
      rfl
    have he : (Rd.end_ ⟨ws, 4⟩).e = 4 := end_err ⟨ws, 4⟩ (fun h : (4 : Int) = 0 => absurd h (by decide))
    rw [hr, he, if_pos rfl, if_neg (by decide)]
  · rw [if_neg h0]
    by_cases h2 : v = 2
    · subst h2
      have hvc := verb_cons x0 ws (by rw [hv]; decide)
      rw [hv] at hvc
      have hr : Rd.request ⟨x0 :: ws, 0⟩ = ({ (foldF [112] 0 ({ noRq with verb := 2 }, ⟨ws, 0⟩)).1 with cells := (foldF [112] 0 ({ noRq with verb := 2 }, ⟨ws, 0⟩)).2.cells.1 }, (foldF [112] 0 ({ noRq with verb := 2 }, ⟨ws, 0⟩)).2.cells.2) := by
        unfold Rd.request
        rw [hvc]
        rfl
      have hform : ∀ q, formF ws (formL.getD 2 []) 0 q = formF ws [112] 0 q := fun q => by
        show formF ws [112, 99] 0 q = _
        simp only [formF]
        simp
      rw [hform, hr]
      rcases fold_is ws [112] 0 { noRq with verb := 2 } (by decide) (Nat.zero_le _) with ⟨q', h1, h3, h4⟩ | ⟨h1, h3⟩
      · rw [List.drop_zero] at h4
        have h1' : formF ws [112] 0 { noRq with verb := ((2 : Nat) : Int) } = some q' := h1
        rw [h1', h4]
        simp only [List.length_singleton, Nat.zero_add]
        rcases pairs_is (ws.drop 1) [] with ⟨cs, h5, h6⟩ | ⟨h5, h6⟩
        · have he : (Rd.end_ ⟨[], 0⟩).e = 0 := rfl
          rw [h5, h6]
          simp only [List.nil_append]
          rw [he, if_pos rfl, if_neg (fun h => h rfl)]
        · rw [h5, end_err _ (by rw [h6]; decide), h6]
          rfl
      · rw [List.drop_zero] at h3
        have h1' : formF ws [112] 0 { noRq with verb := ((2 : Nat) : Int) } = none := h1
        rw [h1']
        generalize foldF [112] 0 ({ noRq with verb := 2 }, ⟨ws, 0⟩) = p at *
        rw [cells_err (r := p.2) (by rw [h3]; decide)]
        simp only
        rw [end_err _ (by rw [h3]; decide), h3]
        rfl
    · rw [req_fold x0 ws v hv h0 h2 hlt]
      have hno : ∀ c ∈ formL.getD v [], c ≠ 99 := by
        have hc : v = 1 ∨ v = 3 ∨ v = 4 ∨ v = 5 ∨ v = 6 ∨ v = 7 ∨ v = 8 ∨ v = 9 ∨ v = 10 := by omega
        rcases hc with rfl | rfl | rfl | rfl | rfl | rfl | rfl | rfl | rfl <;> decide
      rcases fold_is ws (formL.getD v []) 0 { noRq with verb := v } hno (Nat.zero_le _) with ⟨q', h1, h3, h4⟩ | ⟨h1, h3⟩
      · rw [List.drop_zero] at h4
        rw [h1, h4]
        simp only [Nat.zero_add]
        rw [end_drop, List.length_drop]
        by_cases hl : ws.length = (formL.getD v []).length
        · rw [if_pos (show ws.length - (formL.getD v []).length = 0 by omega), if_pos rfl, if_pos h2, if_neg (fun h => h hl)]
        · rw [if_neg (show ¬ ws.length - (formL.getD v []).length = 0 by omega), if_neg (show ¬ (2 : Int) = 0 by decide), if_pos h2, if_pos hl]
      · rw [List.drop_zero] at h3
        rw [h1, end_err _ (by rw [h3]; decide), h3]
        rfl
/-- what Read answers of a line that is not too long -/
theorem body_is (s : ByteArray) (x0 : ByteArray) (ws : List ByteArray) (hs : s.size ≤ 6000) (h : pieceL 32 s.data.toList = x0 :: ws) : readRq s = bodyF x0 ws := by
  have hb : beginF s = ⟨x0 :: ws, 0⟩ := by
    unfold beginF
    rw [if_neg (by omega), ← pieceL_words, h]
  unfold readRq
  rw [hb]
  exact body_rd x0 ws
theorem read_long (s : ByteArray) (hs : 6000 < s.size) : readRq s = (noRq, 1) := by
  have hb : beginF s = ⟨[], 1⟩ := by
    unfold beginF
    rw [if_pos hs]
  have hr : (Rd.request ⟨[], 1⟩).2 = ⟨[], 1⟩ := rfl
  unfold readRq
  rw [hb, hr, end_err _ (by decide)]
  rfl
end Go.Proofs.YtpghbchbhjbbiaaGreatDoor
