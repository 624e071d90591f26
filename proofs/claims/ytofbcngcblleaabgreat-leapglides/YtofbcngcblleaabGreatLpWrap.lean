/- Wrap, over any arena, where it may fail. -/
import Derived.Test.YtofbcngcblleaabGreatLpWrapA
namespace Go.Proofs.YtofbcngcblleaabGreat.A
open Go.RowKit Go.Maps Go.Proofs.YtofbcngcblleaabGreat.L
variable {w : World} {o : Nat → Nat} {b t : Nat} {A : Ar} {PR : (Bool → Nat → Bool) → Int → Prop} {q : Nat → Int}
set_option maxRecDepth 20000 in
set_option maxHeartbeats 8000000 in
theorem wrap_rel (hA : ArL w o b A) (hst : NxSt PR t q A) (ht : t < 64) (id : Int) (m : Nat) (hm : m + 1 ≤ 43) (hl : levV (view A t).V id = some ((m + 1 : Nat) : Int)) :
    Calls Tryz.prog 82 #[.pointer (some ⟨b, 0, none⟩), .int .i64 t, .int .i64 id] w fun r w' => ∃ x e', r = .returned (.tuple #[.int .i64 x, .int .i64 e']) ∧ ∃ A' o', ArL w' o' b A' ∧ Ch (fun l => l = 1) o w o' w' ∧ NxSt PR t q A' ∧ Gx t A A' 0 e' (WrapD m (ctr m (picQ (QV (view A t)) (m + 1) id))) ∧ (Er e' ∨ (e' = 0 ∧ levV (view A' t).V x = some ((m + 2 : Nat) : Int) ∧ WrapS (QV (view A' t)) m id x)) := by
  obtain ⟨k, hq, hk⟩ := kids_lev (hst.g.wel t ht) hl
  have hfi := lev_fits hst.s hl
  have H0 : Hid (ArL w o b A ∧ NxSt PR t q A ∧ levV (view A t).V id = some ((m + 1 : Nat) : Int) ∧ QV (view A t) id = some (k 0, k 1, k 2, k 3) ∧ (∀ i, i < 4 → levV (view A t).V (k i) = some (m : Int)) ∧ m + 1 ≤ 43) := ⟨hA, hst, hl, hq, hk, hm⟩
  clear hA hst hl hq hk hm
  go_enter Tryz.func82, Tryz.ntmps82
  go_wp2_with fail
  refine (newHand_any b t _).mono ?_
  rintro r w1 ⟨rfl, hE1, hb1⟩
  obtain ⟨S0, BW⟩ := HE.born (t := t) H0.out.1 hE1 hb1
  have hlv := hdLevel_he S0 H0.out.2.1 ht id (m + 1) 1 43 H0.out.2.2.1 (by omega) (by have := H0.out.2.2.2.2.2; omega)
  have HBW : Hid (Below w.heap.size w (w1.alloc (.cells #[.pointer (some ⟨b, 0, none⟩), .int .i64 t, .int .i64 0, .slice (some ⟨w.heap.size + 1, 0, none⟩) 1 1] 46))) := BW
  obtain ⟨oi, hoi⟩ : ∃ oi, oi = hin o w.heap.size (w.heap.size + 1) w1.heap.size := ⟨_, rfl⟩
  rw [← hoi] at hlv S0
  have HOI : Hid (oi = hin o w.heap.size (w.heap.size + 1) w1.heap.size) := hoi
  obtain ⟨LV, hLV⟩ : ∃ L : Int, L = ((m + 1 : Nat) : Int) := ⟨_, rfl⟩
  rw [← hLV] at hlv
  obtain ⟨L1, hL1⟩ : ∃ L : Int, L = (m : Int) := ⟨_, rfl⟩
  have HL1 : Hid (L1 = (m : Int)) := hL1
  have wl1 : IntKind.i64.wrap (LV - 1) = L1 := by rw [IntKind.wrap_i64]; have := H0.out.2.2.2.2.2; omega
  clear S0 BW hE1 hb1 hLV hL1 hoi
  go_wp2_with fail
  refine hlv.mono ?_
  rintro r w2 ⟨rfl, o2, S2, C2⟩
  obtain ⟨v2, hv2, _, _⟩ := S2
  have c2 := hv2.hand.c2
  have S2' : HE w2 o2 w1.heap.size b t 0 [0] A := ⟨v2, hv2, by assumption, by assumption⟩
  have b3 : Below w2.heap.size w2 (w2.alloc (.cells #[.int .i64 0, .int .i64 0, .int .i64 0, .int .i64 0] 41)) := (Below.refl _ _).alloc (Nat.le_refl _) _
  have M0 : WI oi (w1.alloc (.cells #[.pointer (some ⟨b, 0, none⟩), .int .i64 t, .int .i64 0, .slice (some ⟨w.heap.size + 1, 0, none⟩) 1 1] 46)) w1.heap.size b t 0 [0] A w2.heap.size (fun _ => 0) (w2.alloc (.cells #[.int .i64 0, .int .i64 0, .int .i64 0, .int .i64 0] 41)) (ext o2 w2.heap.size 0) := ⟨S2'.below b3, C2.trans (Ch.ofBelow b3 0), heap_alloc_new w2 _, ext_new (Nat.le_refl _), C2.size⟩
  have hkd := hdKids_he M0.he H0.out.2.1 ht id hfi (k 0) (k 1) (k 2) (k 3) H0.out.2.2.2.1
  have HM0 : Hid (WI oi (w1.alloc (.cells #[.pointer (some ⟨b, 0, none⟩), .int .i64 t, .int .i64 0, .slice (some ⟨w.heap.size + 1, 0, none⟩) 1 1] 46)) w1.heap.size b t 0 [0] A w2.heap.size (fun _ => 0) (w2.alloc (.cells #[.int .i64 0, .int .i64 0, .int .i64 0, .int .i64 0] 41)) (ext o2 w2.heap.size 0)) := M0
  clear S2' hv2 C2 b3 M0 hlv
  generalize hqb : w2.heap.size = qb at *
  go_wp2_with fail
  refine hkd.mono ?_
  rintro r w3 ⟨rfl, o3, S3, C3⟩
  have HM3 : Hid (WI oi (w1.alloc (.cells #[.pointer (some ⟨b, 0, none⟩), .int .i64 t, .int .i64 0, .slice (some ⟨w.heap.size + 1, 0, none⟩) 1 1] 46)) w1.heap.size b t 0 [0] A qb (fun _ => 0) w3 o3) := HM0.out.step S3 C3
  have HG3 : Hid (WGh PR t q A A 0 [0] m id k 0 (fun _ => 0)) := ⟨H0.out.2.1, (Gx.nil t A).eqv (fun _ i => ⟨fun h => h.elim, fun h => by rcases h with h | ⟨_, h, _⟩; exact absurd h.1 (by omega); omega⟩) (.inl rfl), .inl rfl, ⟨by simp, by simp⟩, fun _ i x hx => by
    have hi : i = 0 := by have := (List.getElem?_eq_some_iff.1 hx).1; simpa using this
    subst hi
    have hx0 : x = 0 := by simpa using hx.symm
    subst hx0
    exact ⟨rfl, fun _ _ _ _ => rfl⟩, fun _ p hp => by omega⟩
  obtain ⟨ix0, ix1, ix2, ix3⟩ := idx_four (k 0) (k 1) (k 2) (k 3)
  clear S3 C3 hkd HM0 c2
  have hf4 := fun (x : Int) (V : World) => four_any x V
  unfold quad4 at hf4
  unfold quad4
  go_wp2_with fail
  go_loopg [26] 4 (fun g s26 wr => ∃ i : Nat, i + g = 4 ∧ s26 = .int .i64 i ∧ ∃ e1 E1 A1 j o', WI oi (w1.alloc (.cells #[.pointer (some ⟨b, 0, none⟩), .int .i64 t, .int .i64 0, .slice (some ⟨w.heap.size + 1, 0, none⟩) 1 1] 46)) w1.heap.size b t e1 E1 A1 qb j wr o' ∧ WGh PR t q A A1 e1 E1 m id k i j)
  case atStart => exact ⟨0, by omega, rfl, _, _, _, _, _, HM3.out, HG3.out⟩
  case round =>
    clear HM3 HG3
    obtain ⟨i, hig, rfl, e1, E1, A1, j, o4, M, G⟩ := hrel
    have HK : Hid (i + gk = 4) := hig
    have HM : Hid (WI oi (w1.alloc (.cells #[.pointer (some ⟨b, 0, none⟩), .int .i64 t, .int .i64 0, .slice (some ⟨w.heap.size + 1, 0, none⟩) 1 1] 46)) w1.heap.size b t e1 E1 A1 qb j wr o4 ∧ WGh PR t q A A1 e1 E1 m id k i j) := ⟨M, G⟩
    clear M G
    have hi : i = 0 ∨ i = 1 ∨ i = 2 ∨ i = 3 ∨ i = 4 := by omega
    clear hig
    rcases hi with rfl | rfl | rfl | rfl | rfl
    · have hem := hdEmpty_rel HM.out.1.he HM.out.2.st ht HM.out.2.er m (by have := H0.out.2.2.2.2.2; omega) HM.out.2.len.1 HM.out.2.len.2 HM.out.2.em L1 HL1.out
      go_wp2_with fail
      refine hem.mono ?_
      rintro r w5 ⟨y, rfl, e5, E5, A5, o5, S5, C5, s5, g5, l5, r5, d5⟩
      have M5 := HM.out.1.step S5 C5
      clear S5 C5 hem
      go_wp2_with fail
      refine (hf4 y _).mono ?_
      rintro r w6 ⟨rfl, b6⟩
      have M6 := M5.below b6
      have b7 : Below w6.heap.size w6 (w6.alloc (.cells #[.int .i64 y, .int .i64 y, .int .i64 y, .int .i64 (k 0)] 41)) := (Below.refl _ _).alloc (Nat.le_refl _) _
      have M7 := M6.below b7
      have hjn := hdJoin_he M7.he s5 ht r5 m (by have := H0.out.2.2.2.2.2; omega) y y y (k 0) (fun e0 => by have d := d5 e0; exact ⟨d.2.2.1, d.2.2.1, d.2.2.1, ((HM.out.2.go.trans g5.toGoes1).sees.lev (H0.out.2.2.2.2.1 0 (by omega)))⟩)
      unfold quad4 at hjn
      have HM7 : Hid (WI oi (w1.alloc (.cells #[.pointer (some ⟨b, 0, none⟩), .int .i64 t, .int .i64 0, .slice (some ⟨w.heap.size + 1, 0, none⟩) 1 1] 46)) w1.heap.size b t e5 E5 A5 qb j (w6.alloc (.cells #[.int .i64 y, .int .i64 y, .int .i64 y, .int .i64 (k 0)] 41)) (ext (ext o5 w5.heap.size 0) w6.heap.size 0)) := M7
      clear M5 M6 M7 b6 b7
      go_wp2_with fail
      refine hjn.mono ?_
      rintro r w8 ⟨x, rfl, e8, A8, o8, S8, C8, s8, g8, d8⟩
      have HM8 : Hid (WI oi (w1.alloc (.cells #[.pointer (some ⟨b, 0, none⟩), .int .i64 t, .int .i64 0, .slice (some ⟨w.heap.size + 1, 0, none⟩) 1 1] 46)) w1.heap.size b t e8 E5 A8 qb j w8 o8) := HM7.out.step S8 C8
      have HG8 : Hid (WGh PR t q A A8 e8 E5 m id k (0 + 1) (putW j 0 x)) := HM.out.2.step ht (by omega) H0.out.2.1 H0.out.2.2.1 H0.out.2.2.2.1 H0.out.2.2.2.2.1 s5 g5 l5 r5 d5 s8 g8 d8
      obtain ⟨⟨f0, f1, f2, f3⟩, z0, z1, z2, z3⟩ := HM8.out.q.cells
      clear S8 C8 s8 g8 d8 s5 g5 l5 r5 d5 hjn HM7 HM
      go_wp2_with fail
      go_roundg (gk - 1)
      case measure => have := HK.out; omega
      case rel => exact ⟨1, by have := HK.out; omega, by go_num, _, _, _, _, _, HM8.out.set (j' := putW j 0 x) 0 x (Go.Joins.block_setCell HM8.out.q _), HG8.out⟩
    · have hem := hdEmpty_rel HM.out.1.he HM.out.2.st ht HM.out.2.er m (by have := H0.out.2.2.2.2.2; omega) HM.out.2.len.1 HM.out.2.len.2 HM.out.2.em L1 HL1.out
      go_wp2_with fail
      refine hem.mono ?_
      rintro r w5 ⟨y, rfl, e5, E5, A5, o5, S5, C5, s5, g5, l5, r5, d5⟩
      have M5 := HM.out.1.step S5 C5
      clear S5 C5 hem
      go_wp2_with fail
      refine (hf4 y _).mono ?_
      rintro r w6 ⟨rfl, b6⟩
      have M6 := M5.below b6
      have b7 : Below w6.heap.size w6 (w6.alloc (.cells #[.int .i64 y, .int .i64 y, .int .i64 (k 1), .int .i64 y] 41)) := (Below.refl _ _).alloc (Nat.le_refl _) _
      have M7 := M6.below b7
      have hjn := hdJoin_he M7.he s5 ht r5 m (by have := H0.out.2.2.2.2.2; omega) y y (k 1) y (fun e0 => by have d := d5 e0; exact ⟨d.2.2.1, d.2.2.1, ((HM.out.2.go.trans g5.toGoes1).sees.lev (H0.out.2.2.2.2.1 1 (by omega))), d.2.2.1⟩)
      unfold quad4 at hjn
      have HM7 : Hid (WI oi (w1.alloc (.cells #[.pointer (some ⟨b, 0, none⟩), .int .i64 t, .int .i64 0, .slice (some ⟨w.heap.size + 1, 0, none⟩) 1 1] 46)) w1.heap.size b t e5 E5 A5 qb j (w6.alloc (.cells #[.int .i64 y, .int .i64 y, .int .i64 (k 1), .int .i64 y] 41)) (ext (ext o5 w5.heap.size 0) w6.heap.size 0)) := M7
      clear M5 M6 M7 b6 b7
      go_wp2_with fail
      refine hjn.mono ?_
      rintro r w8 ⟨x, rfl, e8, A8, o8, S8, C8, s8, g8, d8⟩
      have HM8 : Hid (WI oi (w1.alloc (.cells #[.pointer (some ⟨b, 0, none⟩), .int .i64 t, .int .i64 0, .slice (some ⟨w.heap.size + 1, 0, none⟩) 1 1] 46)) w1.heap.size b t e8 E5 A8 qb j w8 o8) := HM7.out.step S8 C8
      have HG8 : Hid (WGh PR t q A A8 e8 E5 m id k (1 + 1) (putW j 1 x)) := HM.out.2.step ht (by omega) H0.out.2.1 H0.out.2.2.1 H0.out.2.2.2.1 H0.out.2.2.2.2.1 s5 g5 l5 r5 d5 s8 g8 d8
      obtain ⟨⟨f0, f1, f2, f3⟩, z0, z1, z2, z3⟩ := HM8.out.q.cells
      clear S8 C8 s8 g8 d8 s5 g5 l5 r5 d5 hjn HM7 HM
      go_wp2_with fail
      go_roundg (gk - 1)
      case measure => have := HK.out; omega
      case rel => exact ⟨2, by have := HK.out; omega, by go_num, _, _, _, _, _, HM8.out.set (j' := putW j 1 x) 1 x (Go.Joins.block_setCell HM8.out.q _), HG8.out⟩
    · have hem := hdEmpty_rel HM.out.1.he HM.out.2.st ht HM.out.2.er m (by have := H0.out.2.2.2.2.2; omega) HM.out.2.len.1 HM.out.2.len.2 HM.out.2.em L1 HL1.out
      go_wp2_with fail
      refine hem.mono ?_
      rintro r w5 ⟨y, rfl, e5, E5, A5, o5, S5, C5, s5, g5, l5, r5, d5⟩
      have M5 := HM.out.1.step S5 C5
      clear S5 C5 hem
      go_wp2_with fail
      refine (hf4 y _).mono ?_
      rintro r w6 ⟨rfl, b6⟩
      have M6 := M5.below b6
      have b7 : Below w6.heap.size w6 (w6.alloc (.cells #[.int .i64 y, .int .i64 (k 2), .int .i64 y, .int .i64 y] 41)) := (Below.refl _ _).alloc (Nat.le_refl _) _
      have M7 := M6.below b7
      have hjn := hdJoin_he M7.he s5 ht r5 m (by have := H0.out.2.2.2.2.2; omega) y (k 2) y y (fun e0 => by have d := d5 e0; exact ⟨d.2.2.1, ((HM.out.2.go.trans g5.toGoes1).sees.lev (H0.out.2.2.2.2.1 2 (by omega))), d.2.2.1, d.2.2.1⟩)
      unfold quad4 at hjn
      have HM7 : Hid (WI oi (w1.alloc (.cells #[.pointer (some ⟨b, 0, none⟩), .int .i64 t, .int .i64 0, .slice (some ⟨w.heap.size + 1, 0, none⟩) 1 1] 46)) w1.heap.size b t e5 E5 A5 qb j (w6.alloc (.cells #[.int .i64 y, .int .i64 (k 2), .int .i64 y, .int .i64 y] 41)) (ext (ext o5 w5.heap.size 0) w6.heap.size 0)) := M7
      clear M5 M6 M7 b6 b7
      go_wp2_with fail
      refine hjn.mono ?_
      rintro r w8 ⟨x, rfl, e8, A8, o8, S8, C8, s8, g8, d8⟩
      have HM8 : Hid (WI oi (w1.alloc (.cells #[.pointer (some ⟨b, 0, none⟩), .int .i64 t, .int .i64 0, .slice (some ⟨w.heap.size + 1, 0, none⟩) 1 1] 46)) w1.heap.size b t e8 E5 A8 qb j w8 o8) := HM7.out.step S8 C8
      have HG8 : Hid (WGh PR t q A A8 e8 E5 m id k (2 + 1) (putW j 2 x)) := HM.out.2.step ht (by omega) H0.out.2.1 H0.out.2.2.1 H0.out.2.2.2.1 H0.out.2.2.2.2.1 s5 g5 l5 r5 d5 s8 g8 d8
      obtain ⟨⟨f0, f1, f2, f3⟩, z0, z1, z2, z3⟩ := HM8.out.q.cells
      clear S8 C8 s8 g8 d8 s5 g5 l5 r5 d5 hjn HM7 HM
      go_wp2_with fail
      go_roundg (gk - 1)
      case measure => have := HK.out; omega
      case rel => exact ⟨3, by have := HK.out; omega, by go_num, _, _, _, _, _, HM8.out.set (j' := putW j 2 x) 2 x (Go.Joins.block_setCell HM8.out.q _), HG8.out⟩
    · have hem := hdEmpty_rel HM.out.1.he HM.out.2.st ht HM.out.2.er m (by have := H0.out.2.2.2.2.2; omega) HM.out.2.len.1 HM.out.2.len.2 HM.out.2.em L1 HL1.out
      go_wp2_with fail
      refine hem.mono ?_
      rintro r w5 ⟨y, rfl, e5, E5, A5, o5, S5, C5, s5, g5, l5, r5, d5⟩
      have M5 := HM.out.1.step S5 C5
      clear S5 C5 hem
      go_wp2_with fail
      refine (hf4 y _).mono ?_
      rintro r w6 ⟨rfl, b6⟩
      have M6 := M5.below b6
      have b7 : Below w6.heap.size w6 (w6.alloc (.cells #[.int .i64 (k 3), .int .i64 y, .int .i64 y, .int .i64 y] 41)) := (Below.refl _ _).alloc (Nat.le_refl _) _
      have M7 := M6.below b7
      have hjn := hdJoin_he M7.he s5 ht r5 m (by have := H0.out.2.2.2.2.2; omega) (k 3) y y y (fun e0 => by have d := d5 e0; exact ⟨((HM.out.2.go.trans g5.toGoes1).sees.lev (H0.out.2.2.2.2.1 3 (by omega))), d.2.2.1, d.2.2.1, d.2.2.1⟩)
      unfold quad4 at hjn
      have HM7 : Hid (WI oi (w1.alloc (.cells #[.pointer (some ⟨b, 0, none⟩), .int .i64 t, .int .i64 0, .slice (some ⟨w.heap.size + 1, 0, none⟩) 1 1] 46)) w1.heap.size b t e5 E5 A5 qb j (w6.alloc (.cells #[.int .i64 (k 3), .int .i64 y, .int .i64 y, .int .i64 y] 41)) (ext (ext o5 w5.heap.size 0) w6.heap.size 0)) := M7
      clear M5 M6 M7 b6 b7
      go_wp2_with fail
      refine hjn.mono ?_
      rintro r w8 ⟨x, rfl, e8, A8, o8, S8, C8, s8, g8, d8⟩
      have HM8 : Hid (WI oi (w1.alloc (.cells #[.pointer (some ⟨b, 0, none⟩), .int .i64 t, .int .i64 0, .slice (some ⟨w.heap.size + 1, 0, none⟩) 1 1] 46)) w1.heap.size b t e8 E5 A8 qb j w8 o8) := HM7.out.step S8 C8
      have HG8 : Hid (WGh PR t q A A8 e8 E5 m id k (3 + 1) (putW j 3 x)) := HM.out.2.step ht (by omega) H0.out.2.1 H0.out.2.2.1 H0.out.2.2.2.1 H0.out.2.2.2.2.1 s5 g5 l5 r5 d5 s8 g8 d8
      obtain ⟨⟨f0, f1, f2, f3⟩, z0, z1, z2, z3⟩ := HM8.out.q.cells
      clear S8 C8 s8 g8 d8 s5 g5 l5 r5 d5 hjn HM7 HM
      go_wp2_with fail
      go_roundg (gk - 1)
      case measure => have := HK.out; omega
      case rel => exact ⟨4, by have := HK.out; omega, by go_num, _, _, _, _, _, HM8.out.set (j' := putW j 3 x) 3 x (Go.Joins.block_setCell HM8.out.q _), HG8.out⟩
    · have hjn := hdJoin_he HM.out.1.he HM.out.2.st ht HM.out.2.er (m + 1) (by have := H0.out.2.2.2.2.2; omega) (j 0) (j 1) (j 2) (j 3) (fun e0 => ⟨(HM.out.2.jk e0 0 (by omega)).1, (HM.out.2.jk e0 1 (by omega)).1, (HM.out.2.jk e0 2 (by omega)).1, (HM.out.2.jk e0 3 (by omega)).1⟩)
      unfold quad4 at hjn
      obtain ⟨⟨f0, f1, f2, f3⟩, _⟩ := HM.out.1.q.cells
      go_wp2_with fail
      refine hjn.mono ?_
      rintro r w5 ⟨x, rfl, e5, A5, o5, S5, C5, s5, g5, d5⟩
      have HO : Hid (∃ A' o', ArL w5 o' b A' ∧ Ch (fun l => l = 1) o w o' w5 ∧ NxSt PR t q A' ∧ Gx t A A' 0 e5 (WrapD m (ctr m (picQ (QV (view A t)) (m + 1) id))) ∧ (Er e5 ∨ (e5 = 0 ∧ levV (view A' t).V x = some ((m + 2 : Nat) : Int) ∧ WrapS (QV (view A' t)) m id x))) := by
        have hc := HM.out.1.ch.trans C5
        rw [HOI.out] at hc
        obtain ⟨v5, hv5, _⟩ := S5
        obtain ⟨a1, a2⟩ := hand_out HBW.out hc hv5.ar
        have hjp := fun e0 p hp => jok_pic (y0 := j p) hp H0.out.2.1 ht H0.out.2.2.1 H0.out.2.2.2.1 H0.out.2.2.2.2.1 HM.out.2.go (HM.out.2.jk e0 p hp)
        have hjd : e1 = 0 → ∀ it, joinD (QV (view A1 t)) (m + 1) (j 0) (j 1) (j 2) (j 3) it ↔ it = .sq (m + 2) (pic (ctr m (picQ (QV (view A t)) (m + 1) id)) (-(2 ^ (m + 1))) (-(2 ^ (m + 1))) (m + 2)) := fun e0 it => by
          unfold joinD
          rw [hjp e0 0 (by omega), hjp e0 1 (by omega), hjp e0 2 (by omega), hjp e0 3 (by omega), quarters_join]
        refine ⟨A5, _, a1, a2, s5, Gx.seq HM.out.2.st ht HM.out.2.er HM.out.2.gx g5 (fun it h => .inl h) (fun e0 _ it h => .inr ((hjd e0 it).1 h)) (fun _ e0 _ it h => h.imp (fun h => h) fun h => (hjd e0 it).2 h), ?_⟩
        rcases d5 with d5 | ⟨d5, d6, d7, d8⟩
        · exact .inl d5
        · exact .inr ⟨d5, d8, wrap_shows ((HM.out.2.go.trans g5.toGoes1).sees.ext _ _ H0.out.2.2.2.1) (fun p hp => (HM.out.2.jk d6 p hp).go HM.out.2.st ht g5.toGoes1) d7⟩
      have he5 : e5 = 0 ∨ Er e5 := by rcases d5 with d5 | d5; exact .inr d5; exact .inl d5.1
      obtain ⟨v5, hv5, _⟩ := S5
      have hh5 := hv5.hand
      clear hv5 C5 s5 g5 d5 hjn
      go_wp2_with fail
      rcases he5 with rfl | he5
      · refine (answer_ok _ b t x v5 _ hh5).mono ?_
        rintro r w6 ⟨rfl, h6⟩
        have h7 := h6.symm
        subst h7
        go_wp2_with fail
        go_ret2
        obtain ⟨A', o', a1, a2, a3, a4, a5⟩ := HO.out
        exact ⟨_, _, rfl, A', o', a1, a2, a3, a4, by rcases a5 with a5 | ⟨_, a5⟩; exact .inl a5; exact .inr ⟨rfl, a5⟩⟩
      · refine (answer_no _ b t e5 x v5 _ hh5 he5.ne).mono ?_
        rintro r w6 ⟨rfl, nd, rfl⟩
        go_wp2_with fail
        go_ret2
        obtain ⟨A', o', a1, a2, a3, a4, a5⟩ := HO.out
        exact ⟨_, _, rfl, A', o', a1.ch ((Ch.refl (fun _ => False) o' _).drewN nd) (fun h => h), a2.drewN nd, a3, a4, .inl he5⟩
end Go.Proofs.YtofbcngcblleaabGreat.A
