/- Pieces that are put on a page one by one: what is written of a list is read as the list, moved to the corner. -/
import Derived.Test.YtnklpjoeopcbbaaDoorRlePure
namespace Go.Proofs.YtnklpjoeopcbbaaDoor

/-- pieces are put on the page -/
def feed (W H : Int) : List (Int × UInt8) → Int → Int → List (Int × Int) → Int × Int × Int × List (Int × Int)
  | [], x, y, cs => (0, x, y, cs)
  | p :: ps, x, y, cs => if (putF W H x y cs p.1 p.2).1 ≠ 0 then putF W H x y cs p.1 p.2 else feed W H ps (putF W H x y cs p.1 p.2).2.1 (putF W H x y cs p.1 p.2).2.2.1 (putF W H x y cs p.1 p.2).2.2.2

/-- a piece that may be told -/
def Fit (p : Int × UInt8) : Prop := 1 ≤ p.1 ∧ p.1 < 1000000000000 ∧ (p.2 = 98 ∨ p.2 = 36 ∨ p.2 = 111)

theorem trim_nl (cs a : List UInt8) (h : cs.contains 10 = true) : Lib.trimLeftS (10 :: a) cs = Lib.trimLeftS a cs := by
  unfold Lib.trimLeftS
  rw [List.dropWhile_cons, if_pos h]
theorem blk_no (c : UInt8) (h : 33 ≤ c.toNat) : blks.contains c = false := by
  have k : ∀ n : Fin 256, 33 ≤ n.val → blks.contains (UInt8.ofNat n.val) = false := by decide +kernel
  have := k ⟨c.toNat, c.toNat_lt⟩ h
  simpa using this
theorem piece_head {p : Int × UInt8} (hp : Fit p) (b : List UInt8) : ∃ c r, pieceT p ++ b = c :: r ∧ 34 ≤ c.toNat := by
  obtain ⟨n, c⟩ := p
  obtain ⟨h0, h1, h2⟩ := hp
  simp only at h0 h1 h2
  unfold pieceT
  by_cases h : 1 < n
  · obtain ⟨u, rfl⟩ := Int.eq_ofNat_of_zero_le (show 0 ≤ n by omega)
    rw [if_pos h, Lib.itoa_nonneg]
    cases hd : Lib.decDigits u with
    | nil => exact absurd hd (decDigits_ne u)
    | cons a l =>
      have := decDigits_digs u a (by rw [hd]; simp)
      exact ⟨a, _, rfl, by omega⟩
  · rw [if_neg h]
    refine ⟨c, _, rfl, ?_⟩
    rcases h2 with rfl | rfl | rfl <;> decide
theorem trim_piece {p : Int × UInt8} (hp : Fit p) (b : List UInt8) : Lib.trimLeftS (pieceT p ++ b) blks = pieceT p ++ b ∧ Lib.hasPrefix (pieceT p ++ b) [33] = false := by
  obtain ⟨c, r, e, hc⟩ := piece_head hp b
  rw [e]
  refine ⟨trim_stop _ _ fun d hd => ?_, ?_⟩
  · simp at hd
    subst hd
    exact blk_no c (by omega)
  · simp [Lib.hasPrefix, List.isPrefixOf]
    intro h
    subst h
    simp at hc
theorem fit_dig {p : Int × UInt8} (hp : Fit p) : digs.contains p.2 = false := by
  rcases hp.2.2 with h | h | h <;> rw [h] <;> decide

theorem draw_step (W H : Int) (f : Nat) (x y : Int) (cs : List (Int × Int)) (p : Int × UInt8) (hp : Fit p) (s b : List UInt8) (hs : Lib.trimLeftS s blks = Lib.trimLeftS (pieceT p ++ b) blks) (hq : (putF W H x y cs p.1 p.2).1 = 0) :
    drawF W H (f + 1) x y cs s = drawF W H f (putF W H x y cs p.1 p.2).2.1 (putF W H x y cs p.1 p.2).2.2.1 (putF W H x y cs p.1 p.2).2.2.2 b := by
  obtain ⟨h1, h2⟩ := trim_piece hp b
  have h3 := count_piece p.1 p.2 b (fit_dig hp) hp.1 hp.2.1
  rw [drawF, hs, h1]
  simp only [h2, Bool.false_eq_true, if_false]
  rw [show pieceT p = pieceT (p.1, p.2) from rfl, h3]
  simp [hq]

theorem draw_lay (W H : Int) : ∀ (ps : List (Int × UInt8)) (k f : Nat) (x y : Int) (cs : List (Int × Int)) (z : List UInt8), (∀ p ∈ ps, Fit p) → ps.length < f → (feed W H ps x y cs).1 = 0 →
    drawF W H f x y cs (lay k (ps.map pieceT ++ [[33]]) ++ z) = (0, (feed W H ps x y cs).2.2.2)
  | [], k, f + 1, x, y, cs, z, _, _, _ => by
    have h : Lib.trimLeftS (lay k [[33]] ++ z) blks = 33 :: z := by
      rw [lay]
      split
      · simp only [lay, List.cons_append, List.append_nil, List.nil_append]
        rw [trim_nl _ _ (by decide)]
        exact trim_stop _ _ fun d hd => by simp at hd; subst hd; decide
      · simp only [lay, List.cons_append, List.append_nil, List.nil_append]
        exact trim_stop _ _ fun d hd => by simp at hd; subst hd; decide
    simp only [List.map_nil, List.nil_append]
    rw [drawF, h]
    simp [Lib.hasPrefix, List.isPrefixOf, feed]
  | [], _, 0, _, _, _, _, _, h, _ => by simp at h
  | p :: ps, k, 0, x, y, cs, z, _, h, _ => by simp at h
  | p :: ps, k, f + 1, x, y, cs, z, hall, hf, hz => by
    have hp := hall p (by simp)
    have hq : (putF W H x y cs p.1 p.2).1 = 0 := by
      rw [feed] at hz
      split at hz
      · exact hz
      · rename_i h; simpa using h
    have hfeed : feed W H (p :: ps) x y cs = feed W H ps (putF W H x y cs p.1 p.2).2.1 (putF W H x y cs p.1 p.2).2.2.1 (putF W H x y cs p.1 p.2).2.2.2 := by
      rw [feed, if_neg (by simp [hq])]
    rw [hfeed] at hz ⊢
    simp only [List.map_cons, List.cons_append]
    rw [lay]
    split
    · rw [draw_step W H f x y cs p hp _ (lay (pieceT p).length (ps.map pieceT ++ [[33]]) ++ z) (by rw [List.cons_append, List.append_assoc, trim_nl _ _ (by decide)]) hq]
      exact draw_lay W H ps _ f _ _ _ z (fun q hq => hall q (by simp [hq])) (by simpa using hf) hz
    · rw [draw_step W H f x y cs p hp _ (lay (k + (pieceT p).length) (ps.map pieceT ++ [[33]]) ++ z) (by rw [List.append_assoc]) hq]
      exact draw_lay W H ps _ f _ _ _ z (fun q hq => hall q (by simp [hq])) (by simpa using hf) hz

/-- a cell, moved -/
def toCorner (x0 y0 : Int) (p : Int × Int) : Int × Int := (p.1 - x0, p.2 - y0)
theorem cells_corner (x0 y0 y : Int) : ∀ (n : Nat) (x : Int), (cellsAt x y n).map (toCorner x0 y0) = cellsAt (x - x0) (y - y0) n
  | 0, _ => rfl
  | n + 1, x => by
    rw [cellsAt, cellsAt, List.map_cons, cells_corner x0 y0 y n (x + 1)]
    simp [toCorner]
    congr 1
    omega

theorem feed_append (W H : Int) : ∀ (a b : List (Int × UInt8)) (x y : Int) (cs : List (Int × Int)), (feed W H a x y cs).1 = 0 →
    feed W H (a ++ b) x y cs = feed W H b (feed W H a x y cs).2.1 (feed W H a x y cs).2.2.1 (feed W H a x y cs).2.2.2
  | [], _, _, _, _, _ => rfl
  | p :: a, b, x, y, cs, h => by
    rw [feed] at h
    rw [List.cons_append, feed, feed]
    by_cases hq : (putF W H x y cs p.1 p.2).1 ≠ 0
    · rw [if_pos hq] at h; exact absurd h hq
    · rw [if_neg hq] at h
      rw [if_neg hq, if_neg hq]
      exact feed_append W H a b _ _ _ h

theorem drop_pred (c : Int × Int) (r : List (Int × Int)) (n : Nat) (h : 1 ≤ n) : (c :: r).drop n = r.drop (n - 1) := by
  obtain ⟨m, rfl⟩ : ∃ m, n = m + 1 := ⟨n - 1, by omega⟩
  simp

/-- what holds of a list that is told from a place on, in a box -/
structure Told (x0 y0 W H x y : Int) (l : List (Int × Int)) : Prop where
  order : l.Pairwise fun p q => p.2 < q.2 ∨ p.2 = q.2 ∧ p.1 < q.1
  left : ∀ p ∈ l, x0 ≤ p.1 ∧ p.1 - x0 < W ∧ p.2 - y0 < H
  next : ∀ p ∈ l, y < p.2 ∨ p.2 = y ∧ x ≤ p.1
  at0 : x0 ≤ x ∧ y0 ≤ y

/-- how a list goes on behind its first run -/
theorem Told.tail {x0 y0 W H x y : Int} {c : Int × Int} {r : List (Int × Int)} (h : Told x0 y0 W H x y (c :: r)) :
    Told x0 y0 W H (c.1 + (1 + runN (c.1 + 1) c.2 r : Nat)) c.2 (r.drop (1 + runN (c.1 + 1) c.2 r - 1)) := by
  have e : 1 + runN (c.1 + 1) c.2 r - 1 = runN (c.1 + 1) c.2 r := by omega
  rw [e]
  have hstop := runN_stop (c.1 + 1) c.2 r
  have htake := runN_take (c.1 + 1) c.2 r
  have hord := List.pairwise_cons.1 h.order
  generalize hn : runN (c.1 + 1) c.2 r = n at *
  have hsub : ∀ p ∈ r.drop n, p ∈ r := fun p hp => List.mem_of_mem_drop hp
  refine ⟨hord.2.sublist (List.drop_sublist _ _), fun p hp => h.left p (by simp [hsub p hp]), ?_, ?_⟩
  · intro p hp
    have h1 := hord.1 p (hsub p hp)
    rcases h1 with h1 | ⟨h1, h2⟩
    · exact Or.inl h1
    · refine Or.inr ⟨h1.symm, ?_⟩
      -- all of the run stand ahead of p
      have hsplit : r = cellsAt (c.1 + 1) c.2 n ++ r.drop n := by rw [← htake, List.take_append_drop]
      have hpw : (cellsAt (c.1 + 1) c.2 n ++ r.drop n).Pairwise fun p q => p.2 < q.2 ∨ p.2 = q.2 ∧ p.1 < q.1 := by rw [← hsplit]; exact hord.2
      have hrun := (List.pairwise_append.1 hpw).2.2
      cases n with
      | zero =>
        have : ((1 + 0 : Nat) : Int) = 1 := rfl
        rw [this]; omega
      | succ m =>
        have hlast := hrun (c.1 + 1 + m, c.2) (by rw [cellsAt_snoc]; simp) p hp
        simp only at hlast
        omega
  · have h0 := h.at0
    have hc := h.next c (by simp)
    have hl := h.left c (by simp)
    omega

theorem put_b (W H x y : Int) (cs : List (Int × Int)) (n : Int) : putF W H x y cs n 98 = (0, x + n, y, cs) := by simp [putF]
theorem put_d (W H x y : Int) (cs : List (Int × Int)) (n : Int) : putF W H x y cs n 36 = (0, 0, y + n, cs) := by simp [putF]
theorem put_o (W H x y : Int) (cs : List (Int × Int)) (n : Nat) (h1 : x + n ≤ W) (h2 : y < H) (h3 : cs.length + n ≤ 4096) : putF W H x y cs n 111 = (0, x + n, y, cs ++ cellsAt x y n) := by
  unfold putF
  rw [if_neg (by decide), if_neg (by decide), if_pos rfl, if_neg (by omega), if_neg (by omega)]
  simp

theorem feed_pieces (x0 y0 W H : Int) : ∀ (f : Nat) (x y : Int) (l cs : List (Int × Int)), l.length ≤ f → Told x0 y0 W H x y l → cs.length + l.length ≤ 4096 →
    (feed W H (pieces x0 f x y l) (x - x0) (y - y0) cs).1 = 0 ∧ (feed W H (pieces x0 f x y l) (x - x0) (y - y0) cs).2.2.2 = cs ++ l.map (toCorner x0 y0)
  | 0, x, y, l, cs, hf, _, _ => by
    have : l = [] := List.eq_nil_of_length_eq_zero (by omega)
    subst this
    simp [pieces, feed]
  | f + 1, x, y, [], cs, _, _, _ => by simp [pieces, feed]
  | f + 1, x, y, c :: r, cs, hf, ht, hcs => by
    have htail := ht.tail
    have hnext := ht.next c (by simp)
    have hleft := ht.left c (by simp)
    have hat := ht.at0
    have hsplit : c :: r = cellsAt c.1 c.2 (1 + runN (c.1 + 1) c.2 r) ++ r.drop (1 + runN (c.1 + 1) c.2 r - 1) := by
      rw [show 1 + runN (c.1 + 1) c.2 r = runN (c.1 + 1) c.2 r + 1 by omega, cellsAt, Nat.add_sub_cancel, ← runN_take, List.cons_append, List.take_append_drop]
    have hlast : c.1 + (1 + runN (c.1 + 1) c.2 r : Nat) - x0 ≤ W := by
      have hm : (c.1 + (runN (c.1 + 1) c.2 r : Int), c.2) ∈ c :: r := by
        rw [hsplit, show 1 + runN (c.1 + 1) c.2 r = runN (c.1 + 1) c.2 r + 1 by omega, cellsAt_snoc]
        simp
      have := ht.left _ hm
      simp only at this
      omega
    have hlen : (c :: r).length = 1 + runN (c.1 + 1) c.2 r + (r.drop (1 + runN (c.1 + 1) c.2 r - 1)).length := by
      rw [hsplit, List.length_append, cellsAt_length]
    have hmap : (c :: r).map (toCorner x0 y0) = cellsAt (c.1 - x0) (c.2 - y0) (1 + runN (c.1 + 1) c.2 r) ++ (r.drop (1 + runN (c.1 + 1) c.2 r - 1)).map (toCorner x0 y0) := by
      rw [hsplit, List.map_append, cells_corner]
    rw [pieces]
    rw [hmap]
    clear hmap hsplit
    have hn1 : 1 ≤ 1 + runN (c.1 + 1) c.2 r := by omega
    generalize 1 + runN (c.1 + 1) c.2 r = n at *
    generalize hr : r.drop (n - 1) = r' at *
    -- ahead of the run
    have hA : ∃ cs0 : Unit, (feed W H ((if y < c.2 then [(c.2 - y, 36)] else []) ++ (if (if y < c.2 then x0 else x) < c.1 then [(c.1 - (if y < c.2 then x0 else x), 98)] else [])) (x - x0) (y - y0) cs) = (0, c.1 - x0, c.2 - y0, cs) := by
      refine ⟨(), ?_⟩
      by_cases h1 : y < c.2
      · simp only [h1, if_true]
        by_cases h2 : x0 < c.1
        · simp only [h2, if_true, List.singleton_append, feed, put_d, put_b]
          simp
          omega
        · have : c.1 = x0 := by omega
          simp only [h2, if_false, List.append_nil, feed, put_d]
          simp
          omega
      · have hy : c.2 = y := by omega
        simp only [h1, if_false, List.nil_append]
        by_cases h2 : x < c.1
        · simp only [h2, if_true, feed, put_b]
          simp
          omega
        · have : c.1 = x := by omega
          simp only [h2, if_false, feed]
          simp
          omega
    obtain ⟨_, hA⟩ := hA
    rw [feed_append _ _ _ _ _ _ _ (by rw [hA]), hA]
    simp only
    have hp : putF W H (c.1 - x0) (c.2 - y0) cs (n : Int) 111 = (0, c.1 - x0 + n, c.2 - y0, cs ++ cellsAt (c.1 - x0) (c.2 - y0) n) := put_o _ _ _ _ _ _ (by omega) (by omega) (by omega)
    have ih := feed_pieces x0 y0 W H f (c.1 + n) c.2 r' (cs ++ cellsAt (c.1 - x0) (c.2 - y0) n) (by simp at hf hlen; omega) htail (by rw [List.length_append, cellsAt_length]; omega)
    rw [feed, hp]
    simp only [ne_eq, not_true_eq_false, if_false]
    rw [show c.1 - x0 + (n : Int) = c.1 + n - x0 by omega]
    rw [List.append_assoc] at ih
    exact ih

theorem pieces_fit (x0 y0 W H : Int) (hW : W ≤ 1000000000000) (hH : H ≤ 1000000000000) : ∀ (f : Nat) (x y : Int) (l : List (Int × Int)), l.length ≤ 4096 → Told x0 y0 W H x y l → ∀ p ∈ pieces x0 f x y l, Fit p
  | 0, _, _, _, _, _, p, hp => by simp [pieces] at hp
  | f + 1, _, _, [], _, _, p, hp => by simp [pieces] at hp
  | f + 1, x, y, c :: r, hl, ht, p, hp => by
    have htail := ht.tail
    have hnext := ht.next c (by simp)
    have hleft := ht.left c (by simp)
    have hat := ht.at0
    have hn := runN_le (c.1 + 1) c.2 r
    have hl' : r.length + 1 ≤ 4096 := by simpa using hl
    rw [pieces] at hp
    simp only [List.mem_append, List.mem_cons] at hp
    rcases hp with (hp | hp) | hp | hp
    · split at hp
      · simp at hp; subst hp; exact ⟨by simp only; omega, by simp only; omega, by simp⟩
      · simp at hp
    · by_cases h3 : y < c.2
      · simp [h3] at hp
        obtain ⟨h4, rfl⟩ := hp
        exact ⟨by simp only; omega, by simp only; omega, by simp⟩
      · simp [h3] at hp
        obtain ⟨h4, rfl⟩ := hp
        exact ⟨by simp only; omega, by simp only; omega, by simp⟩
    · subst hp; exact ⟨by simp only; omega, by simp only; omega, by simp⟩
    · exact pieces_fit x0 y0 W H hW hH f _ _ _ (by rw [List.length_drop]; omega) htail p hp

theorem ite_len {p : Prop} [Decidable p] (a : Int × UInt8) : (if p then [a] else []).length ≤ 1 := by
  split
  · exact Nat.le_refl _
  · exact Nat.zero_le _
theorem pieces_length (x0 : Int) : ∀ (f : Nat) (x y : Int) (l : List (Int × Int)), (pieces x0 f x y l).length ≤ 3 * f
  | 0, _, _, _ => by simp [pieces]
  | f + 1, _, _, [] => by simp [pieces]
  | f + 1, x, y, c :: r => by
    have := pieces_length x0 f (c.1 + (1 + runN (c.1 + 1) c.2 r : Nat)) c.2 (r.drop (1 + runN (c.1 + 1) c.2 r - 1))
    rw [pieces]
    simp only [List.length_append, List.length_cons]
    generalize (pieces x0 f (c.1 + (1 + runN (c.1 + 1) c.2 r : Nat)) c.2 (r.drop (1 + runN (c.1 + 1) c.2 r - 1))).length = q at *
    have h1 : (if y < c.2 then [(c.2 - y, (36 : UInt8))] else []).length ≤ 1 := ite_len _
    have h2 : (if (if y < c.2 then x0 else x) < c.1 then [(c.1 - (if y < c.2 then x0 else x), (98 : UInt8))] else []).length ≤ 1 := ite_len _
    omega

theorem lay_length : ∀ (k : Nat) (ts : List (List UInt8)), (∀ t ∈ ts, t ≠ []) → ts.length ≤ (lay k ts).length
  | _, [], _ => Nat.zero_le _
  | k, t :: ts, h => by
    have ht : 1 ≤ t.length := List.length_pos_iff.2 (h t (by simp))
    have ih := fun q => lay_length q ts fun u hu => h u (by simp [hu])
    rw [lay]
    split
    · have := ih t.length
      simp only [List.length_cons, List.length_append]
      omega
    · have := ih (k + t.length)
      simp only [List.length_cons, List.length_append]
      omega
theorem pieceT_ne (p : Int × UInt8) : pieceT p ≠ [] := by simp [pieceT]
/-- a list's body is read as the list, moved to the corner -/
theorem draw_body (x0 y0 W H : Int) (l : List (Int × Int)) (f : Nat) (hW : W ≤ 1000000000000) (hH : H ≤ 1000000000000) (ht : Told x0 y0 W H x0 y0 l) (hl : l.length ≤ 4096) (hf : (bodyT x0 y0 l).length ≤ f) :
    drawF W H f 0 0 [] (bodyT x0 y0 l) = (0, l.map (toCorner x0 y0)) := by
  have h := feed_pieces x0 y0 W H l.length x0 y0 l [] (Nat.le_refl _) ht (by simpa using hl)
  rw [Int.sub_self, Int.sub_self] at h
  have hp := lay_length 0 ((pieces x0 l.length x0 y0 l).map pieceT ++ [[33]]) (by
    intro t ht
    simp only [List.mem_append, List.mem_map, List.mem_singleton] at ht
    rcases ht with ⟨p, _, rfl⟩ | rfl
    · exact pieceT_ne p
    · simp)
  have := draw_lay W H (pieces x0 l.length x0 y0 l) 0 f 0 0 [] [10] (pieces_fit x0 y0 W H hW hH _ _ _ _ hl ht) (by
    unfold bodyT at hf
    simp only [List.length_append, List.length_map, List.length_singleton] at hp hf
    omega) h.1
  unfold bodyT
  rw [this, h.2]
  simp

/-! Moved cells have the same pieces. -/
def mvP (dx dy : Int) (p : Int × Int) : Int × Int := (p.1 + dx, p.2 + dy)
theorem runN_mv (dx dy y : Int) : ∀ (l : List (Int × Int)) (x : Int), runN (x + dx) (y + dy) (l.map (mvP dx dy)) = runN x y l
  | [], _ => rfl
  | c :: r, x => by
    have ih := runN_mv dx dy y r (x + 1)
    rw [List.map_cons, runN, runN, show x + dx + 1 = x + 1 + dx by omega, ih]
    have : ((mvP dx dy c).2 = y + dy ∧ (mvP dx dy c).1 = x + dx) ↔ (c.2 = y ∧ c.1 = x) := by simp only [mvP]; omega
    simp only [this]
theorem pieces_mv (x0 dx dy : Int) : ∀ (f : Nat) (x y : Int) (l : List (Int × Int)), pieces (x0 + dx) f (x + dx) (y + dy) (l.map (mvP dx dy)) = pieces x0 f x y l
  | 0, _, _, _ => rfl
  | f + 1, _, _, [] => rfl
  | f + 1, x, y, c :: r => by
    have hr : runN ((mvP dx dy c).1 + 1) (mvP dx dy c).2 (r.map (mvP dx dy)) = runN (c.1 + 1) c.2 r := by
      have := runN_mv dx dy c.2 r (c.1 + 1)
      rw [show c.1 + 1 + dx = (mvP dx dy c).1 + 1 by simp only [mvP]; omega] at this
      exact this
    have ih := pieces_mv x0 dx dy f (c.1 + (1 + runN (c.1 + 1) c.2 r : Nat)) c.2 (r.drop (1 + runN (c.1 + 1) c.2 r - 1))
    rw [List.map_cons, pieces, pieces, hr, ← List.map_drop]
    rw [show (mvP dx dy c).1 + (1 + runN (c.1 + 1) c.2 r : Nat) = c.1 + (1 + runN (c.1 + 1) c.2 r : Nat) + dx by simp only [mvP]; omega, show (mvP dx dy c).2 = c.2 + dy from rfl, ih]
    have e1 : (y + dy < c.2 + dy) ↔ (y < c.2) := by omega
    have e2 : c.2 + dy - (y + dy) = c.2 - y := by omega
    have e3 : (mvP dx dy c).1 = c.1 + dx := rfl
    simp only [e1, e2, e3]
    by_cases h1 : y < c.2
    · have e4 : (x0 + dx < c.1 + dx) ↔ (x0 < c.1) := by omega
      have e5 : c.1 + dx - (x0 + dx) = c.1 - x0 := by omega
      simp only [h1, if_true, e4, e5]
    · have e4 : (x + dx < c.1 + dx) ↔ (x < c.1) := by omega
      have e5 : c.1 + dx - (x + dx) = c.1 - x := by omega
      simp only [h1, if_false, e4, e5]
theorem body_mv (x0 y0 dx dy : Int) (l : List (Int × Int)) : bodyT (x0 + dx) (y0 + dy) (l.map (mvP dx dy)) = bodyT x0 y0 l := by
  unfold bodyT
  rw [List.length_map, pieces_mv]

/-! Lines. -/
/-- lines are gone through: how many bytes the last one has, and whether it is the first; none: a line is too long -/
def scanL (n : Nat) (first : Bool) : List UInt8 → Option (Nat × Bool)
  | [] => some (n, first)
  | c :: r => if c = 10 then (if first = false ∧ 71 < n + 1 then none else scanL 0 false r) else scanL (n + 1) first r
theorem scan_append : ∀ (a b : List UInt8) (n : Nat) (f : Bool), scanL n f (a ++ b) = (scanL n f a).bind fun q => scanL q.1 q.2 b
  | [], _, _, _ => rfl
  | c :: a, b, n, f => by
    rw [List.cons_append, scanL, scanL]
    split
    · split
      · rfl
      · exact scan_append a b _ _
    · exact scan_append a b _ _
theorem scan_plain : ∀ (t : List UInt8) (n : Nat) (f : Bool), (∀ c ∈ t, c ≠ 10) → scanL n f t = some (n + t.length, f)
  | [], _, _, _ => rfl
  | c :: t, n, f, h => by
    rw [scanL, if_neg (h c (by simp)), scan_plain t _ _ fun d hd => h d (by simp [hd])]
    simp
    omega
theorem scan_lay : ∀ (ts : List (List UInt8)) (k : Nat), k ≤ 70 → (∀ t ∈ ts, t.length ≤ 70 ∧ ∀ c ∈ t, c ≠ 10) → scanL k false (lay k ts) = some (layK k ts, false) ∧ layK k ts ≤ 70
  | [], k, hk, _ => ⟨rfl, hk⟩
  | t :: ts, k, hk, h => by
    obtain ⟨h1, h2⟩ := h t (by simp)
    have ih := fun q hq => scan_lay ts q hq fun u hu => h u (by simp [hu])
    rw [lay, layK]
    split
    · have := ih t.length h1
      refine ⟨?_, this.2⟩
      rw [scanL, if_pos rfl, if_neg (by omega), scan_append, scan_plain t 0 false h2]
      simpa using this.1
    · have := ih (k + t.length) (by omega)
      refine ⟨?_, this.2⟩
      rw [scan_append, scan_plain t k false h2]
      simpa using this.1
theorem itoa_no (n : Int) : ∀ c ∈ Lib.itoa n, c ≠ 10 := by
  intro c hc h
  subst h
  unfold Lib.itoa at hc
  split at hc
  · rcases List.mem_cons.1 hc with h | h
    · revert h; decide
    · have := decDigits_digs _ _ h; simp at this
  · have := decDigits_digs _ _ hc; simp at this
theorem scan_text (x0 y0 W H : Int) (l : List (Int × Int)) (rt : List UInt8) (hr : ∀ c ∈ rt, c ≠ 10) (hp : ∀ p ∈ pieces x0 l.length x0 y0 l, 1 ≤ p.1 ∧ p.1 ≤ 9223372036854775807 ∧ p.2 ≠ 10) :
    scanL 0 true (headT W H rt ++ bodyT x0 y0 l) = some (0, false) := by
  have hh : scanL 0 true (headT W H rt) = some (0, false) := by
    have e : headT W H rt = ([120, 32, 61, 32] ++ Lib.itoa W ++ ([44, 32, 121, 32, 61, 32] ++ Lib.itoa H) ++ ([44, 32, 114, 117, 108, 101, 32, 61, 32] ++ rt)) ++ [10] := by simp [headT]
    rw [e, scan_append, scan_plain]
    · simp [scanL]
    · intro c hc
      simp only [List.mem_append] at hc
      rcases hc with ((hc | hc) | hc | hc) | hc | hc
      · revert c; decide
      · exact itoa_no W c hc
      · revert c; decide
      · exact itoa_no H c hc
      · revert c; decide
      · exact hr c hc
  have hb := scan_lay ((pieces x0 l.length x0 y0 l).map pieceT ++ [[33]]) 0 (by omega) (by
    intro t ht
    simp only [List.mem_append, List.mem_map, List.mem_singleton] at ht
    rcases ht with ⟨p, hp0, rfl⟩ | rfl
    · obtain ⟨h1, h2, h3⟩ := hp p hp0
      have := Lib.itoa_length_le p.1 (by omega) h2
      refine ⟨?_, ?_⟩
      · unfold pieceT
        split <;> simp <;> omega
      · intro c hc
        unfold pieceT at hc
        rw [List.mem_append, List.mem_singleton] at hc
        rcases hc with hc | hc
        · split at hc
          · exact itoa_no _ c hc
          · simp at hc
        · rw [hc]; exact h3
    · exact ⟨by simp, by decide⟩)
  rw [scan_append, hh]
  simp only [Option.bind_some]
  unfold bodyT
  rw [scan_append, hb.1]
  simp [scanL]
  omega
end Go.Proofs.YtnklpjoeopcbbaaDoor
