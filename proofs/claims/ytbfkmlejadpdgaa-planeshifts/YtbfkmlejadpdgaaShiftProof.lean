/- PROVED: for every list of cells, of whatever length a slice may have, and all moves, plane.Shift answers exactly the moved cells, or the error, as the document's own Shift does, and the list is left as it was. No condition. -/
import Derived.Test.YtbfkmlejadpdgaaRefShift
import Derived.Test.YtbfkmlejadpdgaaTidyProof
namespace Go.Proofs.Ytbfkmlejadpdgaa
open Go.ChangeShapes Go.WideShapes Go.ChangeAt Go.RowKit

set_option maxHeartbeats 1000000 in
theorem shifts_any (v : Value) (zs : List (Int × Int)) (dx dy : Int) (w : World) (hn : zs.length * 16 ≤ 140737488355328) (h : RRow w v zs) :
    Calls Try.prog 5 #[v, .int .i64 dx, .int .i64 dy] w fun e w' => e = .returned (.bool true) ∧ Below w.heap.size w w' := by
  go_enter Try.func5, Try.ntmps5
  go_wp2_with fail
  refine (cells_row v zs w hn h).mono ?_
  rintro e w1 ⟨c, rfl, hb1, hr1⟩
  go_wp2_with fail
  refine (shift_any c zs dx dy w1 hr1).mono ?_
  rintro e w2 ⟨a, ys, ht2, rfl, hb2, hr2⟩
  have hb12 : Below w.heap.size w w2 := hb1.trans (hb2.mono hb1.size)
  have HT2 : Hid (Tidied zs ys) := ht2
  have HR2 : Hid (Row w2 a (shiftF ys (tcode zs) dx dy).2) := hr2.read
  clear ht2 hr2 hr1
  go_wp2_with fail
  refine (refShift_any v zs dx dy w2 (h.below hb12)).mono ?_
  rintro e w3 ⟨b, ts, ht3, rfl, hb3, hr3⟩
  have hty := HT2.out.unique ht3
  subst hty
  have hb123 : Below w.heap.size w w3 := hb12.trans (hb3.mono hb12.size)
  have HR3 : Hid (Row w3 a (shiftF ys (tcode zs) dx dy).2 ∧ Row w3 b (shiftF ys (tcode zs) dx dy).2) := ⟨HR2.out.below hb3, hr3⟩
  clear ht3 hr3
  go_wp2_with fail
  refine (shift_any _ [(1, 0)] 1 1 _ (one_row w3 1 0)).mono ?_
  rintro e w4 ⟨x, us, ht4, rfl, hb4, hr4⟩
  have hu := tidied_one us ht4
  subst hu
  have hsf : shiftF [(1, 0)] (tcode [(1, 0)]) 1 1 = (0, [(2, 1)]) := by decide
  rw [hsf] at hr4
  rw [hsf]
  obtain ⟨ax, cx, hx⟩ := hr4.shape
  simp only [List.length_singleton] at hx
  subst hx
  have hb1234 : Below w.heap.size w w4 := (hb123.alloc hb123.size _).trans (hb4.mono (by simp; have := hb123.size; omega))
  have b34 : Below w3.heap.size w3 w4 := ((Below.refl _ _).alloc (Nat.le_refl _) _).trans (hb4.mono (by simp))
  have HR4 : Hid (Row w4 a (shiftF ys (tcode zs) dx dy).2 ∧ Row w4 b (shiftF ys (tcode zs) dx dy).2) := ⟨HR3.out.1.below b34, HR3.out.2.below b34⟩
  clear ht4 hr4 hsf
  generalize (shiftF ys (tcode zs) dx dy).1 = code at *
  go_wp2_with fail
  refine (sameCells_any a b _ w4 HR4.out.1 HR4.out.2).mono ?_
  rintro e w5 ⟨rfl, hb5⟩
  go_wp2_with fail
  go_ret
  exact ⟨rfl, hb1234.trans (hb5.mono hb1234.size)⟩

set_option maxRecDepth 100000 in
theorem shifts_lifted (os : Os) (started : os.Started) (H : Type) (enc : TypeId × Value → H) :
    ReturnsInHanded {} Try.checked os 5 .any (Rows.planeShiftsSpec.pre6 enc Try.prog Try.f5 Rows.planeShiftsRow.domain false) (Rows.planeShiftsSpec.post enc Try.prog Try.f5 false true false false) := by
  refine returnsInHanded_of_change_sized (C := Try.checked) Try.own started (by kernel_rfl) Try.func5
    (ChangeSpec.witness6 (enc := enc) (C := Try.checked) false ⟨#[], #[.slice none 0 0, .int .i64 0, .int .i64 0], []⟩ 8 (by kernel_rfl) (by kernel_rfl) (by kernel_rfl) (by kernel_rfl)) ?_
  intro W base args ds gs before hval0 hW _ hsz0 _
  have hsz : (DataW.weightsEach Try.prog (Try.f5.params.toList ++ Rows.planeShiftsSpec.plain.varTypes Try.prog) (ds ++ gs)).all (· ≤ reachBytes) = true := hsz0
  clear hsz0
  have hval : ∀ (j : Nat) t v, Try.f5.params[j]? = some t → args[j]? = some v → Value.okWide Try.prog W .any base t v := hval0
  have hW' := hW
  obtain ⟨p, q, hA0, hV, rfl, _, _⟩ := hW
  have hA : DataW.TrodAll enc Try.prog W 0 (fun _ => true) true Try.f5.params.toList args.toList ds p := hA0
  rw [Try.params5] at hA hval hsz
  obtain ⟨v0, v1, v2, d0, d1, d2, p0, p1, p2, rfl, rfl, rfl, h0, h1, h2⟩ := trodAll_three hA
  obtain ⟨rfl, rfl⟩ := trodVars_none hV
  obtain ⟨dx, rfl, rfl, rfl, wx⟩ := open_int Try.underlying3 (hval 1 3 v1 rfl rfl) h1
  obtain ⟨dy, rfl, rfl, rfl, wy⟩ := open_int Try.underlying3 (hval 2 3 v2 rfl rfl) h2
  clear hA0 hval0
  simp only [List.append_nil] at hW'
  have hlt : ∀ x ∈ p0, x.block < W.heap.size := fun x hx => by simpa using hW'.lt x hx
  obtain ⟨zs, hrow, hn, _⟩ := open_list 0 hsz rfl rfl h0 hlt (by obtain ⟨a, l, c, e⟩ := okWide_slice Try.underlying22 (hval 0 22 v0 rfl rfl); exact ⟨a, l, c, e⟩)
  have hargs : ∀ (W' : World), Below W.heap.size W W' → DataW.Trod enc Try.prog W' 0 (fun b => decide (b < W.heap.size)) true 22 v0 d0 p0 :=
    fun W' hb => Below.trod Try.laidOut (by kernel_rfl) (of_decide_eq_true (by kernel_rfl)) h0 hb hlt
  refine (shifts_any v0 zs dx dy W (by omega) hrow).mono fun e W' ⟨he, hb⟩ => ?_
  subst he
  refine ⟨_, rfl, _, _, _, [], p0 ++ ([] ++ []), [], hW', ?_, ?_, rfl, hb.frame _, fun h => by cases h⟩
  · exact trodAll_mk1 (shut_bool Try.underlying4 true)
  · exact trodAll_mk3 (hargs _ hb) (shut_int Try.underlying3 wx) (shut_int Try.underlying3 wy)

theorem shifts_hold : Rows.PlaneShiftsSaid :=
  OpenClaim.holds_of_wide 5 Try.f5 rfl rfl rfl rfl rfl rfl rfl ⟨rfl, rfl, rfl, rfl, rfl⟩ rfl rfl rfl rfl rfl (by kernel_rfl) Try.func5 (by kernel_rfl)
    (of_decide_eq_true (by kernel_rfl)) (by unfold Func.isWrapper; first | (rw [if_pos (by decide +kernel)]; kernel_rfl) | (rw [if_neg (by decide +kernel)]; exact ⟨rfl, rfl⟩))
    (fun os started H enc _ => shifts_lifted os started H enc)

#print axioms shifts_hold
end Go.Proofs.Ytbfkmlejadpdgaa
