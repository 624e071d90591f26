/- The keepers' frames: true. -/
import Derived.Test.YtjblaomjadpbfaaDoorFrCut
import Derived.Test.YtjblaomjadpbfaaDoorFrWrap
namespace Go.Proofs.YtjblaomjadpbfaaDoor
open Go.RowKit

set_option maxRecDepth 20000 in
set_option maxHeartbeats 2000000 in
/-- the keepers' frames -/
theorem frames_any (m : Int) (w : World) (hm : w.cell? ⟨0, 0, none⟩ = some (.int .i64 m)) :
    Calls Tryd.prog 15 #[] w (fun e w' => e = .returned (.bool true) ∧ Below w.heap.size w w') := by
  have hc : cutA [] ([97] ++ [98, 10, 99]) = ([[97, 98]], [99]) := rfl
  have c1 : Calls Tryd.prog 8 #[.string ⟨#[97]⟩, .string ⟨#[98, 10, 99]⟩] w (CutOut ([97] ++ [98, 10, 99]) w) := cut_any [97] [98, 10, 99] m w (by decide) hm
  have c2 : ∀ W, Calls Tryd.prog 14 #[.string ⟨#[120]⟩] W fun e w' => e = .returned (.string ⟨(wrapL [120]).toArray⟩) ∧ Below W.heap.size W w' := fun W => wrap_any [120] W (by rw [wrapL_short (by simp), frameOf_len 0 (by simp)]; omega)
  have hsz : (⟨(wrapL [120]).toArray⟩ : ByteArray).size = 128 := by rw [ba_size, wrapL_short (by simp), frameOf_len 0 (by simp)]
  generalize (⟨(wrapL [120]).toArray⟩ : ByteArray) = WB at *
  clear hm
  go_enter Tryd.func15, Tryd.ntmps15
  go_wp2_with fail
  refine c1.mono ?_
  rintro e w1 ⟨hb1, g, rest, hg, he, hp⟩
  rw [hc] at he hp
  subst he
  have e1 : w1.cell? ⟨g, 0, none⟩ = some (.string ⟨#[97, 98]⟩) := hp.cell (i := 0) (l := [97, 98]) rfl
  clear c1 hc hp
  go_wp2_with fail
  refine (c2 _).mono ?_
  rintro e w2 ⟨rfl, hb2⟩
  clear c2
  go_wp2_with fail
  go_ret
  exact ⟨rfl, hb1.trans (hb2.mono hb1.size)⟩
end Go.Proofs.YtjblaomjadpbfaaDoor
