/- FrameWraps: the law's walk. -/
import Derived.Test.YtjblaomjadpbfaaFrWrap
import Derived.Test.YtjblaomjadpbfaaFrRefWrap
namespace Go.Proofs.Ytjblaomjadpbfaa
open Go.RowKit

set_option maxRecDepth 20000 in
set_option maxHeartbeats 2000000 in
theorem wraps_law (s : List UInt8) (w : World) (hs : s.length ≤ 70368744177664) :
    Calls Try.prog 3 #[.string ⟨s.toArray⟩] w (fun e w' => e = .returned (.bool true) ∧ Below w.heap.size w w') := by
  have c1 := wrap_any s w (by
    obtain ⟨k, h1, _, h3⟩ := wrapL_len s.length s (Nat.le_refl _)
    omega)
  have c2 := fun W => refWrap_any s W (by omega)
  generalize (⟨s.toArray⟩ : ByteArray) = SB at *
  generalize (⟨(wrapL s).toArray⟩ : ByteArray) = WB at *
  go_enter Try.func3, Try.ntmps3
  go_wp2_with fail
  refine c1.mono ?_
  rintro e w1 ⟨rfl, hb1⟩
  clear c1
  go_wp2_with fail
  refine (c2 _).mono ?_
  rintro e w2 ⟨rfl, hb2⟩
  go_wp2_with fail
  go_ret
  exact ⟨rfl, hb1.trans (hb2.mono hb1.size)⟩
end Go.Proofs.Ytjblaomjadpbfaa
