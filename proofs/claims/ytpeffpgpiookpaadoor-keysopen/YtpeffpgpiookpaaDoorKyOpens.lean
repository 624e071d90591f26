/- opens: does keys answer at all? -/
import Derived.Test.YtpeffpgpiookpaaDoorKyMinted
import Derived.Test.YtpeffpgpiookpaaDoorKyRevoke
namespace Go.Proofs.YtpeffpgpiookpaaDoor
open Go.RowKit

theorem lacks_one : lacks 1 1 = false := by decide +kernel
set_option maxRecDepth 20000 in
set_option maxHeartbeats 1000000 in
theorem opens_any (w : World) (hv : Vars w) : Calls Tryd.prog 11 #[] w fun e w' => e = .returned (.bool true) ∧ Below w.heap.size w w' := by
  have cm := mint_any 0 (.slice none 0 0) [] ⟨#[97, 98]⟩ 1 5 w hv ⟨none, 0, rfl, by simp, by simp, fun _ => rfl, .inl rfl⟩ (fun k hk => by cases hk) (by decide) (by decide) (by decide) (by decide) (by decide) (by decide)
  have hsz := keyT_size 0 5 (by decide) (by decide)
  generalize (⟨(keyT 0 5).toArray⟩ : ByteArray) = TX at *
  simp only [List.nil_append] at cm
  have hff : findF [⟨TX, ⟨#[97, 98]⟩, 1⟩] TX 1 = (⟨#[97, 98]⟩, 0) := by
    unfold findF
    simp [lacks_one]
  have hq : ((⟨#[97, 98]⟩ : ByteArray).toList == (⟨#[97, 98]⟩ : ByteArray).toList) = true := by simp
  go_enter Tryd.func11, Tryd.ntmps11
  go_wp2_with fail
  refine cm.mono ?_
  rintro e w1 ⟨u, rfl, hk1, hb1⟩
  clear cm
  obtain ⟨p, n, c, rfl⟩ := hk1.form
  have hbA : Below w1.heap.size w1 (w1.alloc (.cells #[.int .i64 (0 + 1), .slice p n c] 24)) := (Below.refl _ _).alloc (Nat.le_refl _) _
  have cf := find_any (0 + 1) (.slice p n c) [⟨TX, ⟨#[97, 98]⟩, 1⟩] TX 1 _ (hk1.hk.below hbA) (fun k hk => by simp at hk; subst hk; exact ⟨hsz, by show (⟨#[97, 98]⟩ : ByteArray).size ≤ _; decide⟩)
  rw [hff] at cf
  have HB : Hid (Below w.heap.size w (w1.alloc (.cells #[.int .i64 (0 + 1), .slice p n c] 24))) := hb1.trans (hbA.mono hb1.size)
  simp only [Int.zero_add] at cf HB
  go_wp2_with fail
  refine cf.mono ?_
  rintro e w2 ⟨rfl, hb2⟩
  go_wp2_with fail
  go_ret
  exact ⟨rfl, HB.out.trans (hb2.mono HB.out.size)⟩
end Go.Proofs.YtpeffpgpiookpaaDoor
