/- The document's EncodeCells. -/
import Derived.Test.YtnklpjoeopcbbaaDoorRefAdd
import Derived.Test.YtnklpjoeopcbbaaDoorRefText
import Derived.Test.YtnklpjoeopcbbaaDoorEncode
namespace Go.Proofs.YtnklpjoeopcbbaaDoor
open Go.Shelf Go.RowKit

set_option maxRecDepth 20000 in
set_option maxHeartbeats 2000000 in
theorem refEncode_bad (v : Value) (zs : List (Int × Int)) (b l : Int) (w : World) (h : RRow w v zs) (hc : tcode zs ≠ 0 ∨ goodB b l = false) :
    Calls Tryd.prog 20 #[v, .agg #[.int .i64 b, .int .i64 l]] w (EncOut zs b l w) := by
  have q0 := RuleIn.born w b l 27
  have hb0 : Below w.heap.size w (w.alloc (.cells #[.int .i64 b, .int .i64 l] 27)) := q0.2.2.2.2.2
  have htd := refTidy_told v zs _ (h.below hb0)
  have htx := fun W => refText_any b l W
  go_enter Tryd.func20, Tryd.ntmps20
  go_wp2_with fail
  refine htd.mono ?_
  rintro e w1 ⟨u, ys, rfl, c1, ht, ho⟩
  have q1 := q0.go c1
  by_cases htc : tcode zs = 0
  · have hg : goodB b l = false := hc.elim (fun h => absurd htc h) id
    have he : encF ys (tcode zs) b l = ([], 3) := by simp [encF, htc, hg]
    have hv : textV b l = .tuple #[.string ⟨#[]⟩, .int .i64 3] := by rw [textV, if_neg (by rw [hg]; simp)]
    rw [hv] at htx
    have HE : Hid (encF ys (tcode zs) b l = ([], 3)) := he
    obtain ⟨r0, r1, _⟩ := id q1
    rw [htc]
    clear he hv hg hc
    go_wp2_with fail
    refine (htx _).mono ?_
    rintro e w2 ⟨rfl, c2⟩
    have q2 := q1.go c2
    go_wp2_with fail
    go_ret2
    exact ⟨ys, ht, by rw [HE.out]; rfl, q2.2.2.2.2.2⟩
  · have he : encF ys (tcode zs) b l = ([], tcode zs) := by simp [encF, htc]
    have HE : Hid (encF ys (tcode zs) b l = ([], tcode zs)) := he
    have hne : (tcode zs != 0) = true := by simpa using htc
    clear he hc
    go_wp2_with fail
    go_ret2
    exact ⟨ys, ht, by rw [HE.out]; rfl, q1.2.2.2.2.2⟩
end Go.Proofs.YtnklpjoeopcbbaaDoor
