/- take: the oldest is taken out of a row. -/
import Derived.Test.YtpldaghhledjlaaGreatDoorTuRead
namespace Go.Proofs.YtpldaghhledjlaaGreatDoor
open Go.RowKit

theorem heap_setCells {w : World} {g : Nat} {cur : Array Value} {t : TypeId} {fr : Nat × Nat} (vs : List Value) (o : Nat) (h : w.heap[g]? = some (.cells cur t fr)) (hl : o + vs.length ≤ cur.size) : ∃ cur', (w.setCells g o vs).heap[g]? = some (.cells cur' t fr) ∧ cur'.size = cur.size ∧ (∀ j, j < o → cur'[j]? = cur[j]?) ∧ ∀ j, j < vs.length → cur'[o + j]? = vs[j]? := by
  induction vs generalizing o w cur with
  | nil => exact ⟨cur, h, rfl, fun _ _ => rfl, fun j hj => absurd hj (by simp)⟩
  | cons v r ih =>
    have hl' : o + r.length + 1 ≤ cur.size := by simpa [Nat.add_assoc] using hl
    obtain ⟨cur', h1, h2, h3, h4⟩ := ih (o + 1) (Go.Joins.block_setCell (i := o) h v) (by simp; omega)
    refine ⟨cur', h1, by rw [h2]; simp, fun j hj => ?_, fun j hj => ?_⟩
    · rw [h3 j (by omega), Array.getElem?_setIfInBounds_ne (by omega)]
    · cases j with
      | zero => rw [Nat.add_zero, h3 o (by omega), Array.getElem?_setIfInBounds_self_of_lt (by omega)]; rfl
      | succ j => rw [show o + (j + 1) = o + 1 + j by omega, h4 j (by simpa using hj)]; simp
theorem grown_setCells (w : World) (g o : Nat) (vs : List Value) : w.grownBy (w.setCells g o vs) (some g) := by
  induction vs generalizing o w with
  | nil => exact ⟨rfl, rfl, rfl, Nat.le_refl _, fun _ _ _ => rfl⟩
  | cons v r ih =>
    have h := ih (w.setCell ⟨g, o, none⟩ v) (o + 1)
    refine ⟨h.os, h.tape, h.output, Nat.le_trans (by simp [World.setCell]) h.size, fun k hk hne => ?_⟩
    exact (h.block k (by simpa [World.setCell] using hk) hne).trans (Below.heap_setCell _ _ _ _ (fun e => hne (by rw [e])))
theorem zero_str (w : World) : (zeroValue 9).run Tryz.prog w = .ok (Value.string ⟨#[]⟩) w := Tryz.zeroValue9 w

theorem del_any (B g c : Nat) (s : ByteArray) (r : List ByteArray) (w : World) (h : SRow w B (.slice (some ⟨g, 0, none⟩) (r.length + 1) c) (s :: r)) :
    Calls Tryz.prog 51 #[.slice (some ⟨g, 0, none⟩) (r.length + 1 : Nat) c, .int .i64 0, .int .i64 1] w fun e w' => e = .returned (.slice (some ⟨g, 0, none⟩) r.length c) ∧ SRow w' B (.slice (some ⟨g, 0, none⟩) r.length c) r ∧ w.grownBy w' (some g) := by
  obtain ⟨i0, hi, hz0, hz1, hz2⟩ := info_parts Tryz.infoStr
  obtain ⟨g', cap', hv, hb, hlt, hn, hm, hl, hH⟩ := Lib.holds_of_ownsRow (enc := Value.string) (zs := s :: r) h (by intro e; cases e)
  cases hv
  have hd := Tryz.slices_Delete Value.string (fun _ => rfl) (⟨#[]⟩ : ByteArray) zero_str i0 hi hz1 g 0 c 0 1 (s :: r).toArray w hH (by simpa using hn) (by unfold maxLen at hm; omega) (by omega) (by simp)
  have e1 : (s :: r).toArray.size = r.length + 1 := by simp
  rw [e1] at hd
  refine hd.mono ?_
  rintro e w' ⟨rfl, q, rfl⟩
  have e2 : ((s :: r).toArray.toList.take 0 ++ (s :: r).toArray.toList.drop 1 ++ List.replicate (1 - 0) (⟨#[]⟩ : ByteArray)) = r ++ [⟨#[]⟩] := by simp
  have e3 := Lib.putRow_eq_setCells Value.string w g 0 (s :: r).toArray (r ++ [(⟨#[]⟩ : ByteArray)]) q hH (by simp)
  rw [e2, e3]
  refine ⟨by simp, ?_, ?_⟩
  · rcases h.2 with ⟨h0, _⟩ | ⟨g2, cap2, cur, hv, hb2, hg, hnc, hcm, hcs, htk⟩
    · cases h0
    · cases hv
      have hg2 : (w.drewN q).heap[g]? = some (.cells cur 9 (0, 0)) := hg
      obtain ⟨cur', k1, k2, k3, k4⟩ := heap_setCells ((r ++ [(⟨#[]⟩ : ByteArray)]).map Value.string) 0 hg2 (by simp only [List.length_cons] at hnc; simp; omega)
      refine ⟨by simp, .inr ⟨g, c, cur', rfl, hb, k1, by simp only [List.length_cons] at hnc; omega, hcm, by rw [k2, hcs], ?_⟩⟩
      apply List.ext_getElem?
      intro j
      rw [List.getElem?_take]
      by_cases hj : j < r.length
      · rw [if_pos (by omega)]
        have := k4 j (by simp; omega)
        rw [Nat.zero_add] at this
        rw [Array.getElem?_toList, this, List.map_append, List.getElem?_append_left (by simpa using hj)]
      · rw [if_neg (by omega), List.getElem?_eq_none (by simpa using hj)]
  · have := grown_setCells (w.drewN q) g 0 ((r ++ [(⟨#[]⟩ : ByteArray)]).map Value.string)
    exact ⟨this.os, this.tape, this.output, this.size, this.block⟩
end Go.Proofs.YtpldaghhledjlaaGreatDoor
