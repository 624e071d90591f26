/- strings.Clone, copied. -/
import Derived.Test.YtekjcmejnhhpaaaDoorKyRow
import Derived.Test.YtekjcmejnhhpaaaDoorSpShelf
namespace Go.Proofs.YtekjcmejnhhpaaaDoor
open Go.RowKit

theorem clone_any (s : ByteArray) (w : World) (hs : s.size ≤ 281474976710656) :
    Calls Tryd.prog 15 #[.string s] w fun e w' => e = .returned (.string s) ∧ Below w.heap.size w w' := by
  have c := fun W => Tryd.stringslite_Clone s W hs
  go_enter Tryd.func15, Tryd.ntmps15
  go_wp2_with fail
  refine (c _).mono ?_
  rintro e w1 ⟨rfl, hb⟩
  go_wp2_with fail
  go_ret
  exact ⟨rfl, hb⟩

/-- what the size of a key's texts may be -/
def Ky.ok (k : Ky) : Prop := k.text.size ≤ 140737488355328 ∧ k.name.size ≤ 140737488355328

set_option maxRecDepth 20000 in
set_option maxHeartbeats 1000000 in
theorem copied_any (k : Ky) (w : World) (hk : k.ok) :
    Calls Tryd.prog 9 #[k.val] w fun e w' => e = .returned k.val ∧ Below w.heap.size w w' := by
  obtain ⟨tx, nm, rt⟩ := k
  have ct := fun W => clone_any tx W (by have := hk.1; simp at this; omega)
  have cn := fun W => clone_any nm W (by have := hk.2; simp at this; omega)
  clear hk
  show Calls _ _ #[.agg #[.string tx, .string nm, .int .i64 rt]] w fun e w' => e = .returned (.agg #[.string tx, .string nm, .int .i64 rt]) ∧ Below w.heap.size w w'
  have k0 := K3.born w ⟨tx, nm, rt⟩ 33
  have hb0 : Below w.heap.size w (w.alloc (.cells #[.string tx, .string nm, .int .i64 rt] 33)) := (Below.refl _ _).alloc (Nat.le_refl _) _
  simp only at k0
  go_enter Tryd.func9, Tryd.ntmps9
  go_wp2_with fail
  have k1 := K3.born (w.alloc (.cells #[.string tx, .string nm, .int .i64 rt] 33)) noKy 33
  have hb1 : Below (w.heap.size + 1) (w.alloc (.cells #[.string tx, .string nm, .int .i64 rt] 33)) ((w.alloc (.cells #[.string tx, .string nm, .int .i64 rt] 33)).alloc (.cells #[.string ⟨#[]⟩, .string ⟨#[]⟩, .int .i64 0] 33)) := (Below.refl _ _).alloc (by simp) _
  have k0' := k0.under hb1 (by omega)
  have hb2 := hb0.trans (hb1.mono (by omega))
  have hsz : (w.alloc (.cells #[.string tx, .string nm, .int .i64 rt] 33)).heap.size = w.heap.size + 1 := by simp
  rw [hsz] at k1
  simp only [noKy] at k1
  generalize ((w.alloc (.cells #[.string tx, .string nm, .int .i64 rt] 33)).alloc (.cells #[.string ⟨#[]⟩, .string ⟨#[]⟩, .int .i64 0] 33)) = W0 at *
  clear k0 hb0 hb1 hsz
  go_cut [] from 3 to 11 (fun W => Below w.heap.size w W ∧ K3 (w.heap.size + 1) ⟨tx, nm, rt⟩ W)
  case first =>
    have HK0 : Hid (K3 w.heap.size ⟨tx, nm, rt⟩ W0.drew ∧ K3 (w.heap.size + 1) ⟨⟨#[]⟩, ⟨#[]⟩, 0⟩ W0.drew ∧ Below w.heap.size w W0.drew) := ⟨k0', k1, hb2.drew⟩
    obtain ⟨a1, a2, a3, -, -, -, -⟩ := k0'
    obtain ⟨-, -, -, -, -, -, -⟩ := k1
    have FIN : Hid (∀ W, (K3 w.heap.size ⟨tx, nm, rt⟩ W ∧ K3 (w.heap.size + 1) ⟨⟨#[]⟩, ⟨#[]⟩, 0⟩ W ∧ Below w.heap.size w W) → Below w.heap.size w (((W.setCell ⟨w.heap.size + 1, 0, none⟩ (.string tx)).setCell ⟨w.heap.size + 1, 1, none⟩ (.string nm)).setCell ⟨w.heap.size + 1, 2, none⟩ (.int .i64 rt)) ∧ K3 (w.heap.size + 1) ⟨tx, nm, rt⟩ (((W.setCell ⟨w.heap.size + 1, 0, none⟩ (.string tx)).setCell ⟨w.heap.size + 1, 1, none⟩ (.string nm)).setCell ⟨w.heap.size + 1, 2, none⟩ (.int .i64 rt))) := fun W h => ⟨putKy_below (x := ⟨tx, nm, rt⟩) h.2.2 (by omega), h.2.1.put ⟨tx, nm, rt⟩⟩
    have hb2s := hb2.size
    clear hb2
    simp only at a1 a2 a3
    go_region_with (first | (go_at_call_of 15 tx; refine (ct _).mono ?_; rintro e w1 ⟨rfl, hb1⟩; have K1 : Hid (K3 w.heap.size ⟨tx, nm, rt⟩ w1 ∧ K3 (w.heap.size + 1) ⟨⟨#[]⟩, ⟨#[]⟩, 0⟩ w1 ∧ Below w.heap.size w w1) := ⟨K3.below HK0.out.1 hb1, K3.below HK0.out.2.1 hb1, HK0.out.2.2.trans (hb1.mono HK0.out.2.2.size)⟩; obtain ⟨b1, b2, b3, -, -, -, -⟩ := K1.out.1; simp only at b1 b2 b3) | (go_at_call_of 15 nm; refine (cn _).mono ?_; rintro e w2 ⟨rfl, hb2⟩; have K2 : Hid (K3 w.heap.size ⟨tx, nm, rt⟩ w2 ∧ K3 (w.heap.size + 1) ⟨⟨#[]⟩, ⟨#[]⟩, 0⟩ w2 ∧ Below w.heap.size w w2) := ⟨K3.below K1.out.1 hb2, K3.below K1.out.2.1 hb2, K1.out.2.2.trans (hb2.mono K1.out.2.2.size)⟩; obtain ⟨c1, c2, c3, -, -, -, -⟩ := K2.out.1; obtain ⟨d1, d2, d3, d4, d5, d6, -⟩ := K2.out.2.1; simp only at c1 c2 c3 d1 d2 d3))
    all_goals
      go_wp2_with fail
      go_meet
      case rel => exact FIN.out _ K2.out
  case rest =>
    obtain ⟨hb, h1, h2, h3, -, -, -, -⟩ := hcut
    simp only at h1 h2 h3
    go_wp2_with fail
    refine bodyPost_ret (v := .agg #[.string tx, .string nm, .int .i64 rt]) (by simp [results, Tryd.results9, go_sem, h1, h2, h3]) rfl ⟨rfl, hb⟩
end Go.Proofs.YtekjcmejnhhpaaaDoor
