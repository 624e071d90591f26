/- How long a pattern's text may be. -/
import Derived.Test.YtnklpjoeopcbbaaDoorBody
import Derived.Test.YtnklpjoeopcbbaaDoorEncPure
import Derived.Test.YtnklpjoeopcbbaaDoorTidyLaw
namespace Go.Proofs.YtnklpjoeopcbbaaDoor
open Go.RowKit

theorem pieces_len (x0 : Int) (hx0 : -2199023255552 ≤ x0 ∧ x0 ≤ 2199023255552) : ∀ (f : Nat) (x y : Int) (l : List (Int × Int)), l.length ≤ 4096 → (∀ c ∈ l, (-2199023255552 ≤ c.1 ∧ c.1 ≤ 2199023255552) ∧ (-2199023255552 ≤ c.2 ∧ c.2 ≤ 2199023255552)) →
    (-2199023255552 ≤ x ∧ x ≤ 2199023265552) → (-2199023255552 ≤ y ∧ y ≤ 2199023255552) → (∀ p ∈ pieces x0 f x y l, -9223372036854775808 ≤ p.1 ∧ p.1 ≤ 9223372036854775807) ∧ (pieces x0 f x y l).length ≤ 3 * l.length
  | 0, x, y, l, _, _, _, _ => by simp [pieces]
  | f + 1, x, y, [], _, _, _, _ => by simp [pieces]
  | f + 1, x, y, c :: r, hl, hc, hx, hy => by
    have hr := runN_le (c.1 + 1) c.2 r
    have hcc := hc c List.mem_cons_self
    simp only [List.length_cons] at hl
    have ih := pieces_len x0 hx0 f (c.1 + (1 + runN (c.1 + 1) c.2 r : Nat)) c.2 (r.drop (1 + runN (c.1 + 1) c.2 r - 1)) (by rw [List.length_drop]; omega) (fun p hp => hc p (List.mem_cons_of_mem _ (List.mem_of_mem_drop hp))) (by omega) hcc.2
    rw [pieces]
    obtain ⟨i1, i2⟩ := ih
    have hx' : -2199023255552 ≤ (if y < c.2 then x0 else x) ∧ (if y < c.2 then x0 else x) ≤ 2199023265552 := by split <;> omega
    generalize (if y < c.2 then x0 else x) = x' at *
    rw [List.length_drop] at i2
    refine ⟨fun p hp => ?_, ?_⟩
    · simp only [List.mem_append, List.mem_cons] at hp
      rcases hp with (hp | hp) | hp | hp
      · split at hp
        · simp at hp; subst hp; simp only; omega
        · simp at hp
      · split at hp
        · simp at hp; subst hp; simp only; omega
        · simp at hp
      · subst hp; simp only; omega
      · exact i1 p hp
    · simp only [List.length_append, List.length_cons]
      have a1 : (if y < c.2 then [(c.2 - y, (36 : UInt8))] else []).length ≤ 1 := by split <;> simp
      have a2 : (if x' < c.1 then [(c.1 - x', (98 : UInt8))] else []).length ≤ 1 := by split <;> simp
      omega
theorem encF_len (zs ys : List (Int × Int)) (b l : Int) (h : Tidied zs ys) : (encF ys (tcode zs) b l).1.length ≤ 1000000 := by
  unfold encF
  split
  · simp
  · rename_i htc
    simp only [ne_eq, Decidable.not_not] at htc
    split
    · have hfar : ys.any farP = false := tidied_near h
      have hlen := tidied_short h htc
      have hbn := box_near ys hfar
      obtain ⟨w1, w2⟩ := wOf_nonneg ys
      obtain ⟨w3, w4⟩ := wOf_le ys hfar
      have h1 := Lib.itoa_length_le (wOf ys) (by omega) (by omega)
      have h2 := Lib.itoa_length_le (hOf ys) (by omega) (by omega)
      have h3 := textL_length b l
      obtain ⟨p1, p2⟩ := pieces_len (loX ys) (by omega) ys.length (loX ys) (loY ys) ys hlen (fun c hc => by have := bounds_of hfar hc; omega) (by omega) (by omega)
      have h4 := lay_le 0 ((pieces (loX ys) ys.length (loX ys) (loY ys) ys).map pieceT ++ [[33]]) (by
        intro t ht
        rcases List.mem_append.1 ht with ht | ht
        · rw [List.mem_map] at ht
          obtain ⟨p, hp, rfl⟩ := ht
          exact pieceT_le p (p1 p hp).1 (p1 p hp).2
        · simp at ht; subst ht; simp)
      unfold encT headT bodyT
      simp only [List.length_append, List.length_cons, List.length_nil, List.length_map] at h4 ⊢
      omega
    · simp
end Go.Proofs.YtnklpjoeopcbbaaDoor
