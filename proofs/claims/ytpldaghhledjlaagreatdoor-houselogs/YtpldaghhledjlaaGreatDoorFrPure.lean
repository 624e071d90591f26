/- Frames as lists of bytes: what Wrap writes (wrapL), what reads a text back (firstT), and that reading and writing are each other's inverses. -/
namespace Go.Proofs.YtpldaghhledjlaaGreatDoor

/-- one frame -/
def frameOf (mark : UInt8) (p : List UInt8) : List UInt8 := mark :: UInt8.ofNat p.length :: (p ++ List.replicate (126 - p.length) 0)
theorem frameOf_len (m : UInt8) {p : List UInt8} (h : p.length ≤ 126) : (frameOf m p).length = 128 := by
  simp [frameOf]; omega

/-- a text in frames -/
def wrapL (s : List UInt8) : List UInt8 := if 126 < s.length then frameOf 1 (s.take 126) ++ wrapL (s.drop 126) else frameOf 0 s
termination_by s.length
decreasing_by simp only [List.length_drop]; omega

theorem wrapL_long {s : List UInt8} (h : 126 < s.length) : wrapL s = frameOf 1 (s.take 126) ++ wrapL (s.drop 126) := by
  rw [wrapL, if_pos h]
theorem wrapL_short {s : List UInt8} (h : s.length ≤ 126) : wrapL s = frameOf 0 s := by
  rw [wrapL, if_neg (by omega)]
theorem take126 {s : List UInt8} (h : 126 < s.length) : (s.take 126).length = 126 := by rw [List.length_take]; omega

/-- how long: whole frames, at least one, and no fewer bytes than the text -/
theorem wrapL_len : ∀ (n : Nat) (s : List UInt8), s.length ≤ n → ∃ k, (wrapL s).length = 128 * (k + 1) ∧ s.length ≤ 126 * (k + 1) ∧ 126 * k ≤ s.length := by
  intro n
  induction n with
  | zero =>
    intro s h
    refine ⟨0, ?_, by omega, by omega⟩
    rw [wrapL_short (by omega), frameOf_len 0 (by omega)]
  | succ n ih =>
    intro s h
    by_cases hl : 126 < s.length
    · obtain ⟨k, h1, h2, h3⟩ := ih (s.drop 126) (by rw [List.length_drop]; omega)
      rw [List.length_drop] at h2 h3
      refine ⟨k + 1, ?_, by omega, by omega⟩
      rw [wrapL_long hl, List.length_append, frameOf_len 1 (Nat.le_of_eq (take126 hl)), h1]
      omega
    · refine ⟨0, ?_, by omega, by omega⟩
      rw [wrapL_short (by omega), frameOf_len 0 (by omega)]

theorem wrapL_bound (s : List UInt8) : (wrapL s).length ≤ 2 * s.length + 128 := by
  obtain ⟨k, h1, _, h3⟩ := wrapL_len s.length s (Nat.le_refl _)
  omega

/-- all texts' frames, one behind the other -/
def joinW : List (List UInt8) → List UInt8
  | [] => []
  | t :: r => wrapL t ++ joinW r
theorem joinW_append : ∀ a b, joinW (a ++ b) = joinW a ++ joinW b
  | [], b => rfl
  | t :: a, b => by simp only [List.cons_append, joinW, joinW_append a b, List.append_assoc]
theorem joinW_one (t : List UInt8) : joinW [t] = wrapL t := by simp [joinW]

/-- the bytes of a frame: its mark, how many, the part, noughts -/
def Formed (m : UInt8) (p : List UInt8) : Prop := p.length ≤ 126 ∧ (m = 0 ∨ m = 1 ∧ p.length = 126)

theorem frame_part (m : UInt8) (p r : List UInt8) : ((frameOf m p ++ r).drop 2).take p.length = p := by
  simp only [frameOf, List.cons_append, List.drop_succ_cons, List.drop_zero, List.append_assoc]
  rw [List.take_left]
theorem frame_drop (m : UInt8) (p r : List UInt8) (h : p.length ≤ 126) : (frameOf m p ++ r).drop 128 = r := by
  rw [← frameOf_len m h, List.drop_left]
theorem frame_take (m : UInt8) (p r : List UInt8) (h : p.length ≤ 126) : (frameOf m p ++ r).take 128 = frameOf m p := by
  rw [← frameOf_len m h, List.take_left]
theorem ofNat_len {p : List UInt8} (h : p.length ≤ 126) : (UInt8.ofNat p.length).toNat = p.length := by
  rw [UInt8.toNat_ofNat']; omega

/-- two frames of bytes that begin alike -/
theorem frame_inj {m m' : UInt8} {p p' r r' : List UInt8} (h : p.length ≤ 126) (h' : p'.length ≤ 126) (e : frameOf m p ++ r = frameOf m' p' ++ r') : m = m' ∧ p = p' ∧ r = r' := by
  have e0 : m = m' ∧ UInt8.ofNat p.length = UInt8.ofNat p'.length := by
    simp only [frameOf, List.cons_append] at e
    exact ⟨(List.cons.inj e).1, (List.cons.inj (List.cons.inj e).2).1⟩
  have el : p.length = p'.length := by rw [← ofNat_len h, ← ofNat_len h', e0.2]
  refine ⟨e0.1, ?_, ?_⟩
  · rw [← frame_part m p r, e, el, frame_part m' p' r']
  · rw [← frame_drop m p r h, e, frame_drop m' p' r' h']

/-- no text's frames begin another's -/
theorem wrap_inj : ∀ (n : Nat) (a b x y : List UInt8), a.length ≤ n → wrapL a ++ x = wrapL b ++ y → a = b ∧ x = y := by
  intro n
  induction n with
  | zero =>
    intro a b x y h e
    have ha : a.length ≤ 126 := by omega
    rw [wrapL_short ha] at e
    by_cases hb : 126 < b.length
    · rw [wrapL_long hb, List.append_assoc] at e
      have := (frame_inj ha (Nat.le_of_eq (take126 hb)) e).1
      exact absurd this (by decide)
    · rw [wrapL_short (by omega)] at e
      exact (frame_inj ha (by omega) e).2
  | succ n ih =>
    intro a b x y h e
    by_cases ha : 126 < a.length
    · by_cases hb : 126 < b.length
      · rw [wrapL_long ha, wrapL_long hb, List.append_assoc, List.append_assoc] at e
        obtain ⟨_, h2, h3⟩ := frame_inj (Nat.le_of_eq (take126 ha)) (Nat.le_of_eq (take126 hb)) e
        obtain ⟨h4, h5⟩ := ih (a.drop 126) (b.drop 126) x y (by rw [List.length_drop]; omega) h3
        exact ⟨by rw [← List.take_append_drop 126 a, h2, h4, List.take_append_drop], h5⟩
      · rw [wrapL_long ha, wrapL_short (s := b) (by omega), List.append_assoc] at e
        have := (frame_inj (Nat.le_of_eq (take126 ha)) (by omega) e).1
        exact absurd this (by decide)
    · by_cases hb : 126 < b.length
      · rw [wrapL_short (by omega), wrapL_long hb, List.append_assoc] at e
        have := (frame_inj (by omega) (Nat.le_of_eq (take126 hb)) e).1
        exact absurd this (by decide)
      · rw [wrapL_short (by omega), wrapL_short (by omega)] at e
        exact (frame_inj (by omega) (by omega) e).2
theorem wrapL_ne (a x : List UInt8) : wrapL a ++ x ≠ [] := fun e => by
  obtain ⟨k, h, _⟩ := wrapL_len a.length a (Nat.le_refl _)
  have := congrArg List.length e
  rw [List.length_append, h] at this
  simp at this
theorem joinW_inj : ∀ (a b : List (List UInt8)), joinW a = joinW b → a = b
  | [], [], _ => rfl
  | [], t :: r, e => absurd e.symm (wrapL_ne _ _)
  | t :: r, [], e => absurd e (wrapL_ne _ _)
  | t :: r, t' :: r', e => by
    obtain ⟨h1, h2⟩ := wrap_inj t.length t t' _ _ (Nat.le_refl _) e
    rw [h1, joinW_inj r r' h2]
/-- what stands behind texts' frames, where the whole is texts' frames -/
theorem joinW_rest : ∀ (a b : List (List UInt8)) (s : List UInt8), joinW a ++ s = joinW b → ∃ c, s = joinW c ∧ b = a ++ c
  | [], b, s, e => ⟨b, e, rfl⟩
  | t :: r, [], s, e => by
    simp only [joinW, List.append_assoc] at e
    exact absurd e (wrapL_ne _ _)
  | t :: r, t' :: r', s, e => by
    simp only [joinW, List.append_assoc] at e
    obtain ⟨h1, h2⟩ := wrap_inj t.length t t' _ _ (Nat.le_refl _) e
    obtain ⟨c, h3, h4⟩ := joinW_rest r r' s h2
    exact ⟨c, h3, by rw [h1, h4, List.cons_append]⟩
theorem joinW_len : ∀ a : List (List UInt8), 128 * a.length ≤ (joinW a).length
  | [] => by simp [joinW]
  | t :: r => by
    obtain ⟨k, h, _⟩ := wrapL_len t.length t (Nat.le_refl _)
    have := joinW_len r
    simp only [joinW, List.length_append, List.length_cons, h]
    omega

/-- reading: 'frames from here on, behind what was read of the text (acc), give the text t, and r stands behind them' -/
inductive Reads : List UInt8 → List UInt8 → List UInt8 → List UInt8 → Prop
  | last {acc p r : List UInt8} (h : p.length ≤ 126) (hn : p = [] → acc = []) : Reads acc (frameOf 0 p ++ r) (acc ++ p) r
  | more {acc p s t r : List UInt8} (h : p.length = 126) (hr : Reads (acc ++ p) s t r) : Reads acc (frameOf 1 p ++ s) t r

theorem Reads.wrap {acc s t r : List UInt8} (h : Reads acc s t r) : ∃ u, t = acc ++ u ∧ s = wrapL u ++ r ∧ (u = [] → acc = []) := by
  induction h with
  | last hl hn => exact ⟨_, rfl, by rw [wrapL_short hl], hn⟩
  | @more acc p s t r hl hr ih =>
    obtain ⟨u, h1, h2, h3⟩ := ih
    have hu : u ≠ [] := fun e => by
      have := h3 e
      simp only [List.append_eq_nil_iff] at this
      rw [this.2] at hl
      simp at hl
    have hlen : 126 < (p ++ u).length := by
      rw [List.length_append, hl]
      have := List.length_pos_iff.2 hu
      omega
    refine ⟨p ++ u, by rw [h1, List.append_assoc], ?_, fun e => ?_⟩
    · rw [wrapL_long hlen, ← hl, List.take_left, List.drop_left, List.append_assoc, ← h2]
    · exact absurd (List.append_eq_nil_iff.1 e).2 hu
theorem reads_wrap : ∀ (n : Nat) (acc u r : List UInt8), u.length ≤ n → (u = [] → acc = []) → Reads acc (wrapL u ++ r) (acc ++ u) r := by
  intro n
  induction n with
  | zero =>
    intro acc u r h hn
    rw [wrapL_short (by omega)]
    exact .last (by omega) hn
  | succ n ih =>
    intro acc u r h hn
    by_cases hl : 126 < u.length
    · rw [wrapL_long hl, List.append_assoc]
      have := ih (acc ++ u.take 126) (u.drop 126) r (by rw [List.length_drop]; omega) (fun e => by
        have := congrArg List.length e
        rw [List.length_drop] at this
        simp at this
        omega)
      rw [List.append_assoc, List.take_append_drop] at this
      exact .more (take126 hl) this
    · rw [wrapL_short (by omega)]
      exact .last (by omega) hn

/-- a frame of 128 bytes, read: its part is told by its second byte, and noughts stand behind it -/
theorem frame_of_bytes {f : List UInt8} (hf : f.length = 128) (n : Nat) (hn : n ≤ 126) (h1 : f[1]? = some (UInt8.ofNat n)) (hz : ∀ b ∈ f.drop (2 + n), b = 0) : f = frameOf (f.headD 0) ((f.drop 2).take n) := by
  match f, hf with
  | a :: b :: r, hf =>
    simp only [List.length_cons] at hf
    simp only [List.getElem?_cons_succ, List.getElem?_cons_zero, Option.some.injEq] at h1
    have e2 : (a :: b :: r).drop (2 + n) = r.drop n := by rw [Nat.add_comm]; rfl
    rw [e2] at hz
    have hl : (r.take n).length = n := by rw [List.length_take]; omega
    have e3 : r.drop n = List.replicate (126 - n) 0 := List.eq_replicate_iff.2 ⟨by rw [List.length_drop]; omega, hz⟩
    simp only [frameOf, List.headD_cons, List.drop_succ_cons, List.drop_zero, hl, h1]
    rw [← e3, List.take_append_drop]
theorem frame_byte1 (m : UInt8) (p r : List UInt8) : (frameOf m p ++ r)[1]? = some (UInt8.ofNat p.length) := rfl
theorem frame_byte0 (m : UInt8) (p r : List UInt8) : (frameOf m p ++ r)[0]? = some m := rfl
theorem frame_zeros (m : UInt8) (p : List UInt8) : ∀ b ∈ (frameOf m p).drop (2 + p.length), b = 0 := fun b hb => by
  have e : (frameOf m p).drop (2 + p.length) = List.replicate (126 - p.length) 0 := by
    rw [Nat.add_comm]
    simp only [frameOf, List.drop_succ_cons]
    rw [List.drop_left]
  rw [e] at hb
  exact (List.mem_replicate.1 hb).2

/-- the document's reading, block by block: where the whole is texts' frames, what is still to come -/
def StU (ts out : List (List UInt8)) (text s : List UInt8) : Prop := (s = [] ∧ text = [] ∧ ts = out) ∨ ∃ u r, s = wrapL u ++ joinW r ∧ ts = out ++ (text ++ u) :: r
theorem stU_start (ts : List (List UInt8)) : StU ts [] [] (joinW ts) := by
  cases ts with
  | nil => exact Or.inl ⟨rfl, rfl, rfl⟩
  | cons t r => exact Or.inr ⟨t, r, rfl, rfl⟩
/-- one block further -/
theorem stU_step {ts out : List (List UInt8)} {text s : List UInt8} (h : StU ts out text s) (hs : s ≠ []) :
    ∃ m p r, s = frameOf m p ++ r ∧ p.length ≤ 126 ∧ ((m = 0 ∧ StU ts (out ++ [text ++ p]) [] r) ∨ (m = 1 ∧ StU ts out (text ++ p) r)) := by
  rcases h with ⟨h, _⟩ | ⟨u, r, h1, h2⟩
  · exact absurd h hs
  · by_cases hl : 126 < u.length
    · rw [wrapL_long hl, List.append_assoc] at h1
      refine ⟨1, u.take 126, _, h1, Nat.le_of_eq (take126 hl), Or.inr ⟨rfl, Or.inr ⟨u.drop 126, r, rfl, ?_⟩⟩⟩
      rw [List.append_assoc, List.take_append_drop, h2]
    · rw [wrapL_short (by omega)] at h1
      refine ⟨0, u, _, h1, by omega, Or.inl ⟨rfl, ?_⟩⟩
      cases r with
      | nil => exact Or.inl ⟨rfl, rfl, h2⟩
      | cons t r => exact Or.inr ⟨t, r, rfl, by rw [h2, List.append_assoc]; rfl⟩
theorem stU_end {ts out : List (List UInt8)} {text : List UInt8} (h : StU ts out text []) : ts = out := by
  rcases h with ⟨_, _, h⟩ | ⟨u, r, h1, _⟩
  · exact h
  · exact absurd h1.symm (wrapL_ne _ _)
end Go.Proofs.YtpldaghhledjlaaGreatDoor
