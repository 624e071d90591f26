/- What plane.Shift answers. -/
import Derived.Test.YtnklpjoeopcbbaaDoorTidyLaw
namespace Go.Proofs.YtnklpjoeopcbbaaDoor
open Go.RowKit Go.Lib Go.Sort

/-- a move that is too far -/
def far2 (n : Int) : Bool := decide (n ≤ -2199023255552) || decide (2199023255552 ≤ n)
def mv (dx dy : Int) (p : Int × Int) : Int × Int := (p.1 + dx, p.2 + dy)
/-- the error's number and the list that Shift answers of a list in order -/
def shiftF (ys : List (Int × Int)) (tc dx dy : Int) : Int × List (Int × Int) :=
  if tc ≠ 0 then (tc, []) else if (far2 dx || far2 dy) = true then (3, []) else if (ys.map (mv dx dy)).any farP = true then (3, []) else (0, ys.map (mv dx dy))

set_option maxHeartbeats 400000 in
theorem nearer2_any (n : Int) (w : World) : Calls Tryd.prog 81 #[.int .i64 n, .int .i64 2199023255552] w fun e w' => e = .returned (.bool (!far2 n)) ∧ w' = w := by
  by_cases h1 : -2199023255552 < n
  · have hd : decide (-2199023255552 < n) = true := by simpa using h1
    go_enter Tryd.func81, Tryd.ntmps81
    go_wp2
    go_ret
    refine ⟨?_, rfl⟩
    congr 2
    simp only [far2]
    by_cases h2 : n < 2199023255552
    · simp [h2]; omega
    · simp [h2]; omega
  · have hd : decide (-2199023255552 < n) = false := by simpa using h1
    go_enter Tryd.func81, Tryd.ntmps81
    go_wp2
    go_ret
    refine ⟨?_, rfl⟩
    congr 2
    simp only [far2]
    simp; omega

/-- a row, its first k cells moved -/
def half (ys : List (Int × Int)) (dx dy : Int) (k : Nat) : List (Int × Int) := (ys.take k).map (mv dx dy) ++ ys.drop k
theorem half_length (ys : List (Int × Int)) (dx dy : Int) (k : Nat) : (half ys dx dy k).length = ys.length := by simp [half]; omega
theorem half_zero (ys : List (Int × Int)) (dx dy : Int) : half ys dx dy 0 = ys := by simp [half]
theorem half_all (ys : List (Int × Int)) (dx dy : Int) : half ys dx dy ys.length = ys.map (mv dx dy) := by simp [half]
theorem half_get (ys : List (Int × Int)) (dx dy : Int) (k : Nat) (h : k < ys.length) : (half ys dx dy k)[k]! = ys[k]! := by
  rw [getElem!_pos (half ys dx dy k) k (by rw [half_length]; exact h), getElem!_pos ys k h]
  unfold half
  rw [List.getElem_append_right (by simp; omega)]
  simp [Nat.min_eq_left (Nat.le_of_lt h)]
theorem half_succ (ys : List (Int × Int)) (dx dy : Int) (k : Nat) (h : k < ys.length) : (half ys dx dy k).toArray.setIfInBounds k (mv dx dy ys[k]!) = (half ys dx dy (k + 1)).toArray := by
  have h1 : ys.take (k + 1) = ys.take k ++ [ys[k]!] := by rw [List.take_succ_eq_append_getElem h, getElem!_pos ys k h]
  have h2 : ys.drop k = ys[k]! :: ys.drop (k + 1) := by rw [getElem!_pos ys k h]; exact List.drop_eq_getElem_cons h
  have hlen : ((ys.take k).map (mv dx dy)).length = k := by simp; omega
  rw [List.setIfInBounds_toArray]
  congr 1
  unfold half
  rw [List.set_append_right _ _ (by omega), hlen, Nat.sub_self, h2, h1, List.map_append, List.append_assoc]
  rfl

theorem bounds_of {ys : List (Int × Int)} (h : ys.any farP = false) {p : Int × Int} (hp : p ∈ ys) : -1099511627776 < p.1 ∧ p.1 < 1099511627776 ∧ -1099511627776 < p.2 ∧ p.2 < 1099511627776 := by
  have := List.any_eq_false.1 h p hp
  simp [farP, farI] at this
  omega
theorem far2_of {n : Int} (h : far2 n = false) : -2199023255552 < n ∧ n < 2199023255552 := by
  simp [far2] at h
  omega
theorem tidied_near {zs ys : List (Int × Int)} (h : Tidied zs ys) : ys.any farP = false := by
  rw [List.any_eq_false]
  intro p hp
  obtain ⟨h1, h2⟩ := (h.2 p).1 hp
  unfold tcode at h2
  by_cases c1 : 4096 < zs.length
  · rw [if_pos c1] at h2; omega
  · rw [if_neg c1] at h2
    by_cases c2 : zs.any farP = true
    · rw [if_pos c2] at h2; omega
    · have := List.any_eq_false.1 (by simpa using c2) p h1
      exact this
theorem len_le : ∀ {ys zs : List (Int × Int)}, ys.Nodup → (∀ p, p ∈ ys → p ∈ zs) → ys.length ≤ zs.length
  | [], _, _, _ => Nat.zero_le _
  | p :: r, zs, hn, hs => by
    have h1 := List.nodup_cons.1 hn
    have hp : p ∈ zs := hs p (by simp)
    have h2 : r.length ≤ (zs.erase p).length := len_le h1.2 fun q hq => by
      have hne : q ≠ p := fun e => h1.1 (by rw [← e]; exact hq)
      exact (List.mem_erase_of_ne hne).2 (hs q (by simp [hq]))
    have h3 := List.length_erase_of_mem hp
    have h4 : 0 < zs.length := List.length_pos_of_mem hp
    rw [List.length_cons]
    omega
theorem tidied_short {zs ys : List (Int × Int)} (h : Tidied zs ys) (hz : tcode zs = 0) : ys.length ≤ 4096 := by
  have h1 : ys.Nodup := by
    refine h.1.imp ?_
    intro a b hab e
    subst e
    exact ahead_irrefl a hab
  have h2 : ys.length ≤ zs.length := len_le h1 (fun p hp => ((h.2 p).1 hp).1)
  have h3 : zs.length ≤ 4096 := by
    unfold tcode at hz
    by_cases c1 : 4096 < zs.length
    · rw [if_pos c1] at hz; omega
    · omega
  omega

theorem HoldsA.alloc {w : World} {b off : Nat} {d : Array (Int × Int)} (h : HoldsA w b off d) (o : Obj) (hb : b < w.heap.size) : HoldsA (w.alloc o) b off d := fun j hj => by
  have hbl : Below w.heap.size w (w.alloc o) := (Below.refl _ _).alloc (Nat.le_refl _) o
  rw [hbl.cell (p := ⟨b, off + j * 2, none⟩) hb, hbl.cell (p := ⟨b, off + j * 2 + 1, none⟩) hb, hbl.frozen (p := ⟨b, off + j * 2, none⟩) hb, hbl.frozen (p := ⟨b, off + j * 2 + 1, none⟩) hb]
  exact h j hj

/-- what Shift answers -/
def ShiftOut (zs : List (Int × Int)) (dx dy : Int) (w : World) (e : Ending) (w' : World) : Prop :=
  ∃ u ys, Tidied zs ys ∧ e = .returned (.tuple #[u, .int .i64 (shiftF ys (tcode zs) dx dy).1]) ∧ Below w.heap.size w w' ∧ ORow w' w.heap.size u (shiftF ys (tcode zs) dx dy).2

theorem shiftF_err {ys : List (Int × Int)} {tc dx dy : Int} (h : tc ≠ 0) : shiftF ys tc dx dy = (tc, []) := by rw [shiftF, if_pos h]
theorem shiftF_far {ys : List (Int × Int)} {dx dy : Int} (h : (far2 dx || far2 dy) = true) : shiftF ys 0 dx dy = (3, []) := by rw [shiftF, if_neg (by simp), if_pos h]
theorem shiftF_out {ys : List (Int × Int)} {dx dy : Int} (h : (far2 dx || far2 dy) = false) (k : (ys.map (mv dx dy)).any farP = true) : shiftF ys 0 dx dy = (3, []) := by rw [shiftF, if_neg (by simp), if_neg (by rw [h]; simp), if_pos k]
theorem shiftF_ok {ys : List (Int × Int)} {dx dy : Int} (h : (far2 dx || far2 dy) = false) (k : (ys.map (mv dx dy)).any farP = false) : shiftF ys 0 dx dy = (0, ys.map (mv dx dy)) := by rw [shiftF, if_neg (by simp), if_neg (by rw [h]; simp), if_neg (by rw [k]; simp)]

end Go.Proofs.YtnklpjoeopcbbaaDoor
