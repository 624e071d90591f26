/- One frame, read: in plain words, and what that says of texts' frames. -/
import Derived.Test.YtjblaomjadpbfaaDoorFrPure
namespace Go.Proofs.YtjblaomjadpbfaaDoor

/-- the byte at a place -/
def byteAt (f : List UInt8) (i : Nat) : UInt8 := f.getD i 0
/-- what readFrame answers -/
def readF (f : List UInt8) : UInt8 × List UInt8 × Bool :=
  if 126 < (byteAt f 1).toNat then (0, [], false)
  else if (f.drop (2 + (byteAt f 1).toNat)).all (· == 0) = false then (0, [], false)
  else (byteAt f 0, (f.drop 2).take (byteAt f 1).toNat, (byteAt f 0 == 0) || (byteAt f 0 == 1) && (byteAt f 1).toNat == 126)

theorem readF_true {r : List UInt8} (hl : 128 ≤ r.length) {m : UInt8} {p : List UInt8} (h : readF (r.take 128) = (m, p, true)) :
    r = frameOf m p ++ r.drop 128 ∧ p.length ≤ 126 ∧ (m = 0 ∨ m = 1 ∧ p.length = 126) := by
  have hf : (r.take 128).length = 128 := by rw [List.length_take]; omega
  have er := List.take_append_drop 128 r
  generalize r.take 128 = f at *
  rw [readF] at h
  split at h
  · exact absurd (congrArg (·.2.2) h) (by simp)
  · rename_i hn
    split at h
    · exact absurd (congrArg (·.2.2) h) (by simp)
    · rename_i hz
      simp only [Prod.mk.injEq] at h
      obtain ⟨h1, h2, h3⟩ := h
      have hz2 : ∀ b ∈ f.drop (2 + (byteAt f 1).toNat), b = 0 := fun b hb => by
        have := hz
        simp only [Bool.not_eq_false, List.all_eq_true] at this
        simpa using this b hb
      have hb1 : f[1]? = some (UInt8.ofNat (byteAt f 1).toNat) := by
        have : (1 : Nat) < f.length := by omega
        rw [List.getElem?_eq_getElem this, byteAt, List.getD_eq_getElem?_getD, List.getElem?_eq_getElem this]
        simp
      have hb0 : f.headD 0 = byteAt f 0 := by
        cases f with
        | nil => rfl
        | cons a f => rfl
      have e := frame_of_bytes hf _ (by omega) hb1 hz2
      have hpl : p.length = (byteAt f 1).toNat := by rw [← h2, List.length_take, List.length_drop, hf]; omega
      rw [hb0, h1, h2] at e
      refine ⟨by rw [← e, er], by omega, ?_⟩
      rw [h1] at h3
      simp only [Bool.or_eq_true, beq_iff_eq, Bool.and_eq_true] at h3
      rcases h3 with h3 | ⟨h3, h4⟩
      · exact Or.inl h3
      · exact Or.inr ⟨h3, by omega⟩
/-- what is a frame is read as such -/
theorem readF_frame {m : UInt8} {p s : List UInt8} (hp : p.length ≤ 126) (hm : m = 0 ∨ m = 1 ∧ p.length = 126) : readF ((frameOf m p ++ s).take 128) = (m, p, true) := by
  rw [frame_take m p s hp]
  have h1 : (byteAt (frameOf m p) 1).toNat = p.length := ofNat_len hp
  have h0 : byteAt (frameOf m p) 0 = m := rfl
  have hz : (((frameOf m p).drop (2 + p.length)).all (· == 0)) = true := by
    rw [List.all_eq_true]
    intro b hb
    simpa using frame_zeros m p b hb
  have hpt : ((frameOf m p).drop 2).take p.length = p := by have := frame_part m p []; rwa [List.append_nil] at this
  rw [readF, h1, h0, if_neg (by omega), hz, if_neg (by simp), hpt]
  rcases hm with rfl | ⟨rfl, h⟩
  · rfl
  · rw [h]; rfl
theorem Reads.len {acc s t r : List UInt8} (h : Reads acc s t r) : 128 ≤ s.length := by
  cases h with
  | last hl _ => rw [List.length_append, frameOf_len _ hl]; omega
  | more hl _ => rw [List.length_append, frameOf_len _ (Nat.le_of_eq hl)]; omega
theorem readF_false {r : List UInt8} {x : UInt8} {y : List UInt8} (h : readF (r.take 128) = (x, y, false)) (acc t s : List UInt8) : ¬ Reads acc r t s := fun hr => by
  cases hr with
  | last hl _ =>
    rw [readF_frame hl (Or.inl rfl)] at h
    exact absurd (congrArg (·.2.2) h) (by simp)
  | more hl _ =>
    rw [readF_frame (Nat.le_of_eq hl) (Or.inr ⟨rfl, hl⟩)] at h
    exact absurd (congrArg (·.2.2) h) (by simp)
theorem reads_last {acc p s t r : List UInt8} (hp : p.length ≤ 126) (h : Reads acc (frameOf 0 p ++ s) t r) : t = acc ++ p ∧ r = s ∧ (p = [] → acc = []) := by
  generalize hx : frameOf 0 p ++ s = x at h
  cases h with
  | last hl hn =>
    obtain ⟨_, rfl, rfl⟩ := frame_inj hp hl hx
    exact ⟨rfl, rfl, hn⟩
  | more hl _ =>
    have := (frame_inj hp (Nat.le_of_eq hl) hx).1
    exact absurd this (by decide)
theorem reads_more {acc p s t r : List UInt8} (hp : p.length = 126) : Reads acc (frameOf 1 p ++ s) t r ↔ Reads (acc ++ p) s t r := by
  constructor
  · intro h
    generalize hx : frameOf 1 p ++ s = x at h
    cases h with
    | last hl hn =>
      have := (frame_inj (Nat.le_of_eq hp) hl hx).1
      exact absurd this (by decide)
    | more hl h2 =>
      obtain ⟨_, rfl, rfl⟩ := frame_inj (Nat.le_of_eq hp) (Nat.le_of_eq hl) hx
      exact h2
  · exact .more hp
/-- texts' frames, read from here on -/
theorem reads_joinW {s t r : List UInt8} (h : Reads [] s t r) : s = wrapL t ++ r := by
  obtain ⟨u, h1, h2, _⟩ := h.wrap
  rw [List.nil_append] at h1
  rw [h1, h2]
theorem joinW_reads {ts : List (List UInt8)} {s : List UInt8} (h : s = joinW ts) (hs : s ≠ []) : ∃ t r, Reads [] s t r := by
  cases ts with
  | nil => exact absurd h hs
  | cons t r =>
    refine ⟨t, joinW r, ?_⟩
    rw [h]
    have := reads_wrap t.length [] t (joinW r) (Nat.le_refl _) (fun _ => rfl)
    rwa [List.nil_append] at this
end Go.Proofs.YtjblaomjadpbfaaDoor
