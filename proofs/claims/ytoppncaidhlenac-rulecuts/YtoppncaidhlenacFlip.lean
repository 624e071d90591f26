/- lifelodgekeep.flip: cells mirrored in one of eight ways. -/
import Derived.Test.YtoppncaidhlenacMoves
namespace Go.Proofs.Ytoppncaidhlenac
open Go.RowKit

/-- a cell mirrored -/
def flipP (b1 b2 b4 : Bool) (p : Int × Int) : Int × Int :=
  let x := if b1 then -p.1 else p.1
  let y := if b2 then -p.2 else p.2
  if b4 then (y, x) else (x, y)

set_option maxRecDepth 4000 in
set_option maxHeartbeats 4000000 in
theorem flip_some (b off n c : Nat) (zs : List (Int × Int)) (way : Int) (b1 b2 b4 : Bool) (w : World) (hb : b < w.heap.size) (HL : Hid (zs.length = n)) (HH : Hid (HoldsR w b off zs)) (hn : n ≤ 4096) (HN : Hid (zs.any farP = false))
    (h1 : (bits .and .i64 way 1 == 1) = b1) (h2 : (bits .and .i64 way 2 == 2) = b2) (h4 : (bits .and .i64 way 4 == 4) = b4) :
    Calls Try.prog 19 #[.slice (some ⟨b, off, none⟩) n c, .int .i64 way] w fun e w' => ∃ u, e = .returned u ∧ Below w.heap.size w w' ∧ Kept w' w.heap.size u (zs.map (flipP b1 b2 b4)) := by
  obtain ⟨i0, hi, hz0, hz1, hz2⟩ := info_parts Try.info59
  go_enter Try.func19, Try.ntmps19
  go_wp2
  go_loopg [5, 10] n (fun gk s5 s10 wr => ∃ k : Nat, k + gk = n ∧ s10 = .int .i64 k ∧ Below w.heap.size w wr ∧ Kept wr w.heap.size s5 ((zs.take k).map (flipP b1 b2 b4)))
  case atStart => exact ⟨0, by omega, rfl, Below.refl _ _, Or.inl ⟨by simp, rfl⟩⟩
  case round =>
    obtain ⟨k, hk, rfl, hbr, hkept⟩ := hrel
    have HK : Hid (k + gk = n) := hk
    have KP : Hid (Kept wr w.heap.size u5 ((zs.take k).map (flipP b1 b2 b4))) := hkept
    have hkn : k ≤ n := by omega
    have hsz := hbr.size
    clear hk hkept
    by_cases hlt : k < n
    · obtain ⟨c0, c1⟩ := HH.out k (by rw [HL.out]; exact hlt)
      rw [← hbr.cell (p := ⟨b, off + k * 2, none⟩) hb] at c0
      rw [← hbr.cell (p := ⟨b, off + k * 2 + 1, none⟩) hb] at c1
      have hnear : farP zs[k]! = false := by
        have h1 := HN.out
        rw [List.any_eq_false] at h1
        have h2 := h1 zs[k]! (by rw [getElem!_pos zs k (by rw [HL.out]; exact hlt)]; exact List.getElem_mem _)
        simpa using h2
      generalize hz : zs[k]! = z at c0 c1 hnear
      have HZ : Hid (zs[k]! = z) := hz
      clear hz
      obtain ⟨x, y⟩ := z
      simp only at c0 c1
      have hxy : -1099511627776 < x ∧ x < 1099511627776 ∧ -1099511627776 < y ∧ y < 1099511627776 := by
        simp [farP, farI] at hnear
        omega
      clear hnear
      obtain ⟨x0, x1, y0, y1⟩ := hxy
      have hi1 : (0 : Int) ≤ (k : Int) := by omega
      have hi2 : (k : Int) < (n : Int) := by omega
      have hbw : b < wr.heap.size := Nat.lt_of_lt_of_le hb hsz
      have hwx : IntKind.i64.wrap (-x) = -x := by rw [IntKind.wrap_i64]; omega
      have hwy : IntKind.i64.wrap (-y) = -y := by rw [IntKind.wrap_i64]; omega
      obtain ⟨fx, fy, hfe⟩ : ∃ fx fy, flipP b1 b2 b4 (x, y) = (fx, fy) := ⟨_, _, rfl⟩
      have HF : Hid (flipP b1 b2 b4 (x, y) = (fx, fy)) := hfe
      have hts : (zs.take (k + 1)).map (flipP b1 b2 b4) = (zs.take k).map (flipP b1 b2 b4) ++ [(fx, fy)] := by
        rw [List.take_succ_eq_append_getElem (by rw [HL.out]; exact hlt), List.map_append, ← getElem!_pos zs k (by rw [HL.out]; exact hlt), HZ.out]
        simp [HF.out]
      have HT : Hid ((zs.take (k + 1)).map (flipP b1 b2 b4) = (zs.take k).map (flipP b1 b2 b4) ++ [(fx, fy)]) := hts
      have HLk : Hid (((zs.take k).map (flipP b1 b2 b4)).length = k) := by
        show _ = k
        rw [List.length_map, List.length_take, HL.out, Nat.min_eq_left hkn]
      have OW : Hid (∀ o o', ((wr.alloc o).alloc o').ownsRow w.heap.size 59 2 u5 k (cellsL ((zs.take k).map (flipP b1 b2 b4)))) := fun o o' => by
        have := KP.out.owns
        rw [HLk.out] at this
        exact (this.alloc o).alloc o'
      clear hts
      generalize (zs.take k).map (flipP b1 b2 b4) = done at *
      cases b1 <;> cases b2 <;> cases b4
      all_goals
        simp only [flipP, if_true, if_false, Bool.false_eq_true, Prod.mk.injEq] at hfe
        obtain ⟨rfl, rfl⟩ := hfe
        go_wp2_with (at_builtin; refine wpList_append_own _ rfl _ _ 32 rfl w.heap.size 59 i0 (.agg #[.int .i64 0, .int .i64 0]) 2 16 Try.underlying32 hi hz0 hz1 hz2 rfl (by decide) u5 k (cellsL done) rfl (by exact OW.out _ _) ⟨wr.heap.size + 1, 0, none⟩ 1 1 [.int .i64 _, .int .i64 _] rfl rfl (by exact two_second _ _ _ _ _) (by intro u hu; simp at hu; rcases hu with rfl | rfl <;> rfl) (by unfold maxLen; omega) (by omega) (by simp; omega) ?_; intro v' w2 hown2 hgrow hnil2)
        go_roundg (gk - 1)
        case measure => have := HK.out; omega
        case rel =>
          have h1 := HK.out
          refine ⟨k + 1, by omega, by go_num, ((hbr.alloc hsz _).alloc (by simp; omega) _).grown hgrow (by simp; omega) (fun g hg => ((OW.out (.cells #[] 0) (.cells #[] 0)).lt g hg).1), Or.inr ⟨by rw [HT.out]; simp, ?_⟩⟩
          rw [HT.out, cellsL_append, List.length_append, HLk.out]
          exact hown2
    · have hkn2 : k = n := by omega
      subst hkn2
      go_wp2_with fail
      go_ret
      have h1 := KP.out
      rw [List.take_of_length_le (by rw [HL.out]; omega)] at h1
      exact ⟨_, rfl, hbr, h1⟩
end Go.Proofs.Ytoppncaidhlenac
