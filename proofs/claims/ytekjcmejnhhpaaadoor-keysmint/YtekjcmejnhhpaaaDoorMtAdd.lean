/- z.Add(z, y). -/
import Derived.Test.YtekjcmejnhhpaaaDoorMtSg
namespace Go.Proofs.YtekjcmejnhhpaaaDoor
open Go.RowKit

set_option maxRecDepth 20000 in
set_option maxHeartbeats 8000000 in
theorem addG_any (x y n m : Nat) (xn yn sg : Bool) (w : World) (hx : Sg x xn n w) (hy : Sg y yn m w) (hs : Few n ∧ Few m) (hsg : sg = ((sumF xn n yn m).1 && decide ((sumF xn n yn m).2 ≠ 0))) :
    Calls Tryd.prog 21 #[.pointer (some ⟨x, 0, none⟩), .pointer (some ⟨x, 0, none⟩), .pointer (some ⟨y, 0, none⟩)] w fun e w' => e = .returned (.pointer (some ⟨x, 0, none⟩)) ∧ Sg x sg (sumF xn n yn m).2 w' ∧ w.grownBy w' (some x) := by
  have HX : Hid (Sg x xn n w) := hx
  have HIB : Hid (Ib x w) := hx.ib
  obtain ⟨a, k, c, bx, vx⟩ := hx
  obtain ⟨a', k', c', hby, vy⟩ := hy
  have x0 : w.cell? ⟨x, 0, none⟩ = some (.bool xn) := by rw [Lib.cell_of_heap bx]; rfl
  have x1 : w.cell? ⟨x, 1, none⟩ = some (.slice a k c) := by rw [Lib.cell_of_heap bx]; rfl
  have y0 : w.cell? ⟨y, 0, none⟩ = some (.bool yn) := by rw [Lib.cell_of_heap hby]; rfl
  have y1 : w.cell? ⟨y, 1, none⟩ = some (.slice a' k' c') := by rw [Lib.cell_of_heap hby]; rfl
  have htw := sum_any _ _ n m xn yn (.slice a k c) (.slice a' k' c') w.drew (vx.below (drewB w 1)) (vy.below (drewB w 1)) hs
  have HXL : Hid (x < w.heap.size) := HX.out.lt
  have HSG : Hid (sg = ((sumF xn n yn m).1 && decide ((sumF xn n yn m).2 ≠ 0))) := hsg
  generalize sumF xn n yn m = R at *
  obtain ⟨rn, rs⟩ := R
  simp only at htw HSG ⊢
  clear bx vx hby vy hs hsg
  go_enter Tryd.func21, Tryd.ntmps21
  go_wp2_with fail
  go_region_with ((first
    | (go_at_call 38; refine htw.mono ?_; rintro e w1 ⟨u, rfl, hu, hb1⟩)
    | (go_at_call 31; refine (giveG_any x rn sg rs u w1 (HIB.out.go ⟨hb1.os, hb1.tape, hb1.output, hb1.size, hb1.block⟩) (hu.mono (by have := HXL.out; simp; omega)) HSG.out).mono ?_; rintro e w2 ⟨rfl, hs2, hg2⟩)))
  all_goals
    have HE : Hid (Sg x sg rs w2 ∧ w.grownBy w2 (some x)) := ⟨hs2, grown_under ⟨hb1.os, hb1.tape, hb1.output, hb1.size, hb1.block⟩ hg2⟩
    clear hs2 hg2 hb1 hu x0 x1 y0 y1 htw
    go_wp2_with fail
    go_ret
    exact ⟨rfl, HE.out⟩
end Go.Proofs.YtekjcmejnhhpaaaDoor
