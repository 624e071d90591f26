/- Note and Recall. -/
import Derived.Test.YtofbcngcblleaabGreatArJoinP
namespace Go.Proofs.YtofbcngcblleaabGreat.A
open Go.RowKit Go.Maps
def nkey (s r j : Int) : Ky := ⟨2, s, r, j, 0⟩
def noteTh (s r j v : Int) : Th := ⟨2, s, r, j, 0, 0, v, 0⟩
theorem nkey_fit {s r j : Int} (hs : Fits s) (hr : Fits r) (hj : Fits j) : (nkey s r j).Fit := ⟨⟨by show (_ : Int) ≤ 2; omega, by show (2 : Int) ≤ _; omega⟩, hs, hr, hj, fits_zero⟩
def recallF (l : List Th) (t : Nat) (s r j : Int) : Option Int := match spotF l (nkey s r j) with
  | some i => if (l[i]!).mask.testBit t = true then some (l[i]!).va else none
  | none => none
def twiceF (l : List Th) (s r j v : Int) : Bool := match spotF l (nkey s r j) with
  | some i => (l[i]!).va != v
  | none => false
def Ar.noteP (A : Ar) (t : Nat) (s r j v : Int) : Ar × Int :=
  if (levelF A.ths t s).isSome = true ∧ (levelF A.ths t v).isSome = true then
    if twiceF A.ths s r j v = true then (A, 7) else ((A.beco t (noteTh s r j v)).1, (A.beco t (noteTh s r j v)).2.2)
  else (A, 6)
theorem noteKey_any (s r j : Int) (w : World) : Calls Tryz.prog 97 #[.int .i64 s, .int .i64 r, .int .i64 j] w fun e w' => e = .returned (nkey s r j).val ∧ Below w.heap.size w w' := by
  go_enter Tryz.func97, Tryz.ntmps97
  go_wp2_with fail
  refine bodyPost_ret (v := (nkey s r j).val) (by simp [results, Tryz.results97, go_sem, Ky.val, nkey]) rfl ⟨rfl, ?_⟩
  repeat (first | exact Below.refl _ _ | refine Below.setCell ?_ (by simp) _ | refine Below.alloc ?_ (by simp) _)
theorem num_own {l : List Th} {q : Ky} {t i : Nat} (h : spotF l q = some i) : ownF l t (numF l q) = if (l[i]!).mask.testBit t = true then some (l[i]!) else none := by
  obtain ⟨x, h1, h2, h3⟩ := spot_at h
  unfold ownF numF
  rw [h]
  simp only
  rw [if_pos (by omega), show (((i : Int) + 2 - 2).toNat) = i by omega, filter_some h1, h3]
theorem below_drew {w w1 : World} (h : Below w.drew.heap.size w.drew w1) : Below w.heap.size w w1 := ⟨h.os, h.tape, h.output, h.size, h.block⟩
set_option maxRecDepth 20000 in
set_option maxHeartbeats 4000000 in
theorem recallP_any (b t : Nat) (F : Nat → Prop) (s r j : Int) (A : Ar) (w : World) (h : AtP w b F A) (hS : Sound A) (ht : t < 64) (hs : Fits s) (hr : Fits r) (hj : Fits j) :
    Calls Tryz.prog 83 #[.pointer (some ⟨b, 0, none⟩), .int .i64 t, .int .i64 s, .int .i64 r, .int .i64 j] w fun e w' => e = .returned (.tuple #[.int .i64 ((recallF A.ths t s r j).getD 0), .bool (recallF A.ths t s r j).isSome]) ∧ Below w.heap.size w w' := by
  have hi := fun W => tenant_yes t ht W
  obtain ⟨L, R, D, h, _⟩ := h
  have hN := fun W => noteKey_any s r j W
  have HK : Hid (∀ W, Below w.heap.size w W → W.cell? ⟨b, 2, none⟩ = some (.map (some R.mp)) ∧ (Instr.lookup 63 (.map (some R.mp)) (nkey s r j).val true).run Tryz.prog W = .ok (.tuple #[.int .i64 (numF A.ths (nkey s r j)), .bool (spotF A.ths (nkey s r j)).isSome]) W) := fun W hW => by
    have hB := h.below hW
    have c2 := hB.raw.at 2 (by omega)
    rw [Raw.c2] at c2
    exact ⟨c2, look_num hB.map hB.num (nkey_fit hs hr hj) (by show (2 : Int) ≠ 0; omega)⟩
  have hlen := hS.len
  have hrm := hS.room1
  have HO : Hid (∀ W id, Fits id → Below w.heap.size w W → _) := fun W id hid hW => own_any b 0 t id R A.ths W (h.below hW).raw (h.below hW).ths ht hS.mask hid
  have hnf : Fits (numF A.ths (nkey s r j)) := by
    unfold numF
    cases hsp : spotF A.ths (nkey s r j) with
    | none => exact fits_zero
    | some i =>
      obtain ⟨x, h1, _⟩ := spot_at hsp
      have := (List.getElem?_eq_some_iff.1 h1).1
      exact ⟨by show _ ≤ (i : Int) + 2; omega, by show (i : Int) + 2 ≤ _; omega⟩
  have c2 := (HK.out w (Below.refl _ _)).1
  generalize hP : (fun (e : Ending) (w' : World) => e = .returned (.tuple #[.int .i64 ((recallF A.ths t s r j).getD 0), .bool (recallF A.ths t s r j).isSome]) ∧ Below w.heap.size w w') = Post
  have HP : Hid (_ = Post) := hP
  clear hP
  have HNF : Hid (Fits (numF A.ths (nkey s r j))) := hnf
  clear hnf h
  go_enter Tryz.func83, Tryz.ntmps83
  go_wp2_with fail
  refine (hi _).mono ?_
  rintro e w0 ⟨rfl, rfl⟩
  go_wp2_with fail
  cases hsp : spotF A.ths (nkey s r j) with
  | none =>
    have HR : Hid (recallF A.ths t s r j = none) := by show _ = _; unfold recallF; rw [hsp]
    have HK2 : Hid (∀ W, Below w0.heap.size w0 W → W.cell? ⟨b, 2, none⟩ = some (.map (some R.mp)) ∧ (Instr.lookup 63 (.map (some R.mp)) (nkey s r j).val true).run Tryz.prog W = .ok (.tuple #[.int .i64 (numF A.ths (nkey s r j)), .bool false]) W) := fun W hW => by
      have := HK.out W hW
      rw [hsp] at this
      exact this
    clear HK hsp
    go_region_with (go_at_call 97; refine (hN _).mono ?_; rintro e w1 ⟨rfl, hb1⟩; have hb1 := below_drew hb1; have c2' := (HK2.out _ hb1).1; have hlk := (HK2.out _ hb1).2)
    all_goals
      go_wp2_with fail
      rw [← HP.out, HR.out]
      exact ⟨rfl, hb1⟩
  | some i =>
    have HR : Hid (recallF A.ths t s r j = if (A.ths[i]!).mask.testBit t = true then some (A.ths[i]!).va else none) := by show _ = _; unfold recallF; rw [hsp]
    have HOW : Hid (ownF A.ths t (numF A.ths (nkey s r j)) = if (A.ths[i]!).mask.testBit t = true then some (A.ths[i]!) else none) := num_own hsp
    have HK2 : Hid (∀ W, Below w0.heap.size w0 W → W.cell? ⟨b, 2, none⟩ = some (.map (some R.mp)) ∧ (Instr.lookup 63 (.map (some R.mp)) (nkey s r j).val true).run Tryz.prog W = .ok (.tuple #[.int .i64 (numF A.ths (nkey s r j)), .bool true]) W) := fun W hW => by
      have := HK.out W hW
      rw [hsp] at this
      exact this
    clear HK hsp
    generalize numF A.ths (nkey s r j) = num at *
    generalize A.ths[i]! = y at *
    go_region_with (go_at_call 97; refine (hN _).mono ?_; rintro e w1 ⟨rfl, hb1⟩; have hb1 := below_drew hb1; have c2' := (HK2.out _ hb1).1; have hlk := (HK2.out _ hb1).2)
    all_goals
      have HB1 : Hid (Below w0.heap.size w0 w1) := hb1
      clear c2' hlk hb1
      go_wp2_with fail
      refine (HO.out _ _ HNF.out HB1.out).mono ?_
      rintro e w2 ⟨rfl, hb2⟩
      have HB2 : Hid (Below w0.heap.size w0 w2) := HB1.out.trans (hb2.mono HB1.out.size)
      clear hb2
      rw [HOW.out]
      by_cases hbit : y.mask.testBit t = true
      · rw [if_pos hbit]
        have HR2 : Hid (recallF A.ths t s r j = some y.va) := HR.out.trans (if_pos hbit)
        clear hbit HR
        simp only [Option.getD_some, Option.isSome_some]
        unfold Th.val
        go_wp2_with fail
        rw [← HP.out, HR2.out]
        exact ⟨rfl, HB2.out.alloc HB2.out.size _⟩
      · rw [if_neg hbit]
        have HR2 : Hid (recallF A.ths t s r j = none) := HR.out.trans (if_neg hbit)
        clear hbit HR
        simp only [Option.getD_none, Option.isSome_none]
        unfold Th.val
        go_wp2_with fail
        rw [← HP.out, HR2.out]
        exact ⟨rfl, HB2.out.alloc HB2.out.size _⟩
theorem AtP.look {w : World} {b : Nat} {F : Nat → Prop} {A : Ar} (h : AtP w b F A) {q : Ky} (hq : q.Fit) (hk : q.k ≠ 0) : ∃ mp, w.cell? ⟨b, 2, none⟩ = some (.map (some mp)) ∧ (Instr.lookup 63 (.map (some mp)) q.val true).run Tryz.prog w = .ok (.tuple #[.int .i64 (numF A.ths q), .bool (spotF A.ths q).isSome]) w := by
  obtain ⟨L, R, D, h, _⟩ := h
  have c2 := h.raw.at 2 (by omega)
  rw [Raw.c2] at c2
  exact ⟨R.mp, c2, look_num h.map h.num hq hk⟩
theorem AtP.thing {w : World} {b : Nat} {F : Nat → Prop} {A : Ar} (h : AtP w b F A) {i : Nat} {x : Th} (hx : A.ths[i]? = some x) : ∃ g c, w.cell? ⟨b, 1, none⟩ = some (.slice (some ⟨g, 0, none⟩) A.ths.length c) ∧ w.cell? ⟨g, i * 8 + 6, none⟩ = some (.int .i64 x.va) := by
  obtain ⟨L, R, D, h, _⟩ := h
  have hi : i < A.ths.length := (List.getElem?_eq_some_iff.1 hx).1
  obtain ⟨g, c, hv⟩ := h.ths.shape' (by show 0 < A.ths.length; omega)
  have hv : R.vth = .slice (some ⟨g, 0, none⟩) A.ths.length c := hv
  have hth := h.ths
  rw [hv] at hth
  obtain ⟨_, _, _, _, _, _, hg, _⟩ := hth.cells hx
  have c1 := h.raw.at 1 (by omega)
  rw [Raw.c1, hv] at c1
  exact ⟨g, c, c1, hg⟩
theorem Tryz.two0 (a b : Value) (w : World) : (Instr.index 163 (.agg #[a, b]) (.int .i64 0)).run Tryz.prog w = .ok a w := by kernel_rfl
theorem Tryz.two1 (a b : Value) (w : World) : (Instr.index 163 (.agg #[a, b]) (.int .i64 1)).run Tryz.prog w = .ok b w := by kernel_rfl
def NoteOut (A : Ar) (t : Nat) (s r j v : Int) (b : Nat) (F : Nat → Prop) (w : World) (e : Ending) (w' : World) : Prop := e = .returned (.int .i64 (A.noteP t s r j v).2) ∧ Led w b F (A.noteP t s r j v).1 w'
set_option maxRecDepth 20000 in
set_option maxHeartbeats 4000000 in
theorem noteP_any (b t : Nat) (F : Nat → Prop) (s r j v : Int) (A : Ar) (w : World) (h : AtP w b F A) (hS : Sound A) (ht : t < 64) (hs : Fits s) (hr : Fits r) (hj : Fits j) (hv : Fits v) :
    Calls Tryz.prog 103 #[.pointer (some ⟨b, 0, none⟩), .int .i64 t, .int .i64 s, .int .i64 r, .int .i64 j, .int .i64 v] w (NoteOut A t s r j v b F w) := by
  have hi := fun W => tenant_yes t ht W
  have hN := fun W => noteKey_any s r j W
  have HLV : Hid (∀ W id, AtP W b F A → Fits id → _) := fun W id hW hid => levelP_any b t F id A W hW hS ht hid
  have HBE : Hid (∀ W, AtP W b F A → _) := fun W hW => beco_any b t F A (noteTh s r j v) W hW hS ht (nkey_fit hs hr hj) (by show (2 : Int) ≠ 0; omega) (by show (0 : Int) ≤ 0 ∧ (0 : Int) ≤ 44; decide) hv rfl
  have HNP : Hid (A.noteP t s r j v = if (levelF A.ths t s).isSome = true ∧ (levelF A.ths t v).isSome = true then if twiceF A.ths s r j v = true then (A, 7) else ((A.beco t (noteTh s r j v)).1, (A.beco t (noteTh s r j v)).2.2) else (A, 6)) := rfl
  have HA : Hid (AtP w b F A ∧ Sound A ∧ Fits s ∧ Fits v ∧ (nkey s r j).Fit) := ⟨h, hS, hs, hv, nkey_fit hs hr hj⟩
  generalize hP : NoteOut A t s r j v b F w = Post
  have HP : Hid (NoteOut A t s r j v b F w = Post) := hP
  clear hP h hS hs hr hj hv
  have i0 := Tryz.two0 (.int .i64 s) (.int .i64 v)
  have i1 := Tryz.two1 (.int .i64 s) (.int .i64 v)
  go_enter Tryz.func103, Tryz.ntmps103
  go_wp2_with fail
  refine (hi _).mono ?_
  rintro e w0 ⟨rfl, rfl⟩
  go_wp2_with fail
  refine wp_loop_rounds 3 ?_
  rw [rounds_succ]
  go_wp2_with fail
  refine (HLV.out _ s HA.out.1 HA.out.2.2.1).mono ?_
  rintro e w1 ⟨rfl, hb1⟩
  have HB1 : Hid (Below w0.heap.size w0 w1) := hb1
  clear hb1
  cases hl0 : levelF A.ths t s with
  | none =>
    have HN2 : Hid (A.noteP t s r j v = (A, 6)) := HNP.out.trans (if_neg (by rw [hl0]; simp))
    clear hl0
    simp only [Option.getD_none, Option.isSome_none]
    go_wp2_with fail
    rw [← HP.out]
    unfold NoteOut
    rw [HN2.out]
    exact ⟨rfl, HA.out.1.ledB HB1.out⟩
  | some l0 =>
  have HL0 : Hid (levelF A.ths t s = some l0) := hl0
  clear hl0
  simp only [Option.getD_some, Option.isSome_some]
  go_wp2_with fail
  rw [rounds_succ]
  go_wp2_with fail
  refine (HLV.out _ v (HA.out.1.below HB1.out) HA.out.2.2.2.1).mono ?_
  rintro e w2 ⟨rfl, hb2⟩
  have HB2 : Hid (Below w0.heap.size w0 w2) := HB1.out.trans (hb2.mono HB1.out.size)
  clear hb2
  cases hl1 : levelF A.ths t v with
  | none =>
    have HN2 : Hid (A.noteP t s r j v = (A, 6)) := HNP.out.trans (if_neg (by rw [hl1]; simp))
    clear hl1
    simp only [Option.getD_none, Option.isSome_none]
    go_wp2_with fail
    rw [← HP.out]
    unfold NoteOut
    rw [HN2.out]
    exact ⟨rfl, HA.out.1.ledB HB2.out⟩
  | some l1 =>
  have HN1 : Hid (A.noteP t s r j v = if twiceF A.ths s r j v = true then (A, 7) else ((A.beco t (noteTh s r j v)).1, (A.beco t (noteTh s r j v)).2.2)) := HNP.out.trans (if_pos (by rw [HL0.out, hl1]; exact ⟨rfl, rfl⟩))
  clear hl1 HNP HL0
  simp only [Option.getD_some, Option.isSome_some]
  go_wp2_with fail
  rw [rounds_succ]
  go_wp2_with fail
  refine (hN _).mono ?_
  rintro e w3 ⟨rfl, hb3⟩
  have HB3 : Hid (Below w0.heap.size w0 w3) := HB2.out.trans (hb3.mono HB2.out.size)
  clear hb3
  unfold nkey Ky.val
  have hb4 : Below w0.heap.size w0 (w3.alloc (.cells #[.int .i64 2, .int .i64 s, .int .i64 r, .int .i64 j, .int .i64 0] 75)) := HB3.out.alloc HB3.out.size _
  have HB4 : Hid (Below w0.heap.size w0 (w3.alloc (.cells #[.int .i64 2, .int .i64 s, .int .i64 r, .int .i64 j, .int .i64 0] 75))) := hb4
  have H4 := HA.out.1.below hb4
  have k0 : (w3.alloc (.cells #[.int .i64 2, .int .i64 s, .int .i64 r, .int .i64 j, .int .i64 0] 75)).cell? ⟨w3.heap.size, 0, none⟩ = some (.int .i64 2) := by simp [go_sem]
  have k1 : (w3.alloc (.cells #[.int .i64 2, .int .i64 s, .int .i64 r, .int .i64 j, .int .i64 0] 75)).cell? ⟨w3.heap.size, 1, none⟩ = some (.int .i64 s) := by simp [go_sem]
  have k2 : (w3.alloc (.cells #[.int .i64 2, .int .i64 s, .int .i64 r, .int .i64 j, .int .i64 0] 75)).cell? ⟨w3.heap.size, 2, none⟩ = some (.int .i64 r) := by simp [go_sem]
  have k3 : (w3.alloc (.cells #[.int .i64 2, .int .i64 s, .int .i64 r, .int .i64 j, .int .i64 0] 75)).cell? ⟨w3.heap.size, 3, none⟩ = some (.int .i64 j) := by simp [go_sem]
  have k4 : (w3.alloc (.cells #[.int .i64 2, .int .i64 s, .int .i64 r, .int .i64 j, .int .i64 0] 75)).cell? ⟨w3.heap.size, 4, none⟩ = some (.int .i64 0) := by simp [go_sem]
  go_wp2_with fail
  generalize w3.alloc (.cells #[.int .i64 2, .int .i64 s, .int .i64 r, .int .i64 j, .int .i64 0] 75) = W4 at *
  clear hb4
  obtain ⟨mp, c2, hlk⟩ := (H4.drewN 1).look HA.out.2.2.2.2 (by show (2 : Int) ≠ 0; omega)
  have c2 : W4.cell? ⟨b, 2, none⟩ = some (.map (some mp)) := c2
  unfold nkey Ky.val at hlk
  cases hsp : spotF A.ths (nkey s r j) with
  | none =>
    have HN2 : Hid (A.noteP t s r j v = ((A.beco t (noteTh s r j v)).1, (A.beco t (noteTh s r j v)).2.2)) := HN1.out.trans (if_neg (by unfold twiceF; rw [hsp]; simp))
    have hlk' : (Instr.lookup 63 (.map (some mp)) (.agg #[.int .i64 2, .int .i64 s, .int .i64 r, .int .i64 j, .int .i64 0]) true).run Tryz.prog W4.drew = .ok (.tuple #[.int .i64 (numF A.ths (nkey s r j)), .bool false]) W4.drew := by
      have := hlk
      rw [show spotF A.ths ⟨2, s, r, j, 0⟩ = none from hsp] at this
      exact this
    clear hlk hsp HN1
    generalize numF A.ths (nkey s r j) = num at *
    go_region
    all_goals
      go_wp2_with fail
      refine (HBE.out _ (H4.drewN 1)).mono ?_
      rintro e w5 ⟨rfl, h5⟩
      go_wp2_with fail
      rw [← HP.out]
      unfold NoteOut
      rw [HN2.out]
      exact ⟨rfl, led_join (fun k hk => .inl hk) (H4.drewN 1) ((Apart.of HB4.out).drewN 1) h5⟩
  | some i =>
    obtain ⟨x, hx, _, hxi⟩ := spot_at hsp
    have hlk' : (Instr.lookup 63 (.map (some mp)) (.agg #[.int .i64 2, .int .i64 s, .int .i64 r, .int .i64 j, .int .i64 0]) true).run Tryz.prog W4.drew = .ok (.tuple #[.int .i64 ((i : Int) + 2), .bool true]) W4.drew := by
      have := hlk
      rw [show spotF A.ths ⟨2, s, r, j, 0⟩ = some i from hsp, show numF A.ths ⟨2, s, r, j, 0⟩ = (i : Int) + 2 by unfold numF; rw [show spotF A.ths ⟨2, s, r, j, 0⟩ = some i from hsp]] at this
      exact this
    obtain ⟨g, c, c1, cg⟩ := H4.thing hx
    have hil := (List.getElem?_eq_some_iff.1 hx).1
    have hlen := HA.out.2.1.len
    have hrm := HA.out.2.1.room1
    have hT : twiceF A.ths s r j v = (x.va != v) := by unfold twiceF; rw [hsp]; simp only; rw [hxi]
    rw [hT] at HN1
    generalize A.ths.length = len at *
    have hi0 : (0 : Int) ≤ (i : Int) := by omega
    have hin : (i : Int) < (len : Int) := by omega
    have hwr : IntKind.i64.wrap ((i : Int) + 2 - 2) = (i : Int) := by rw [IntKind.wrap_i64]; omega
    have hib : (i : Int) ≤ 200000 := by omega
    have hw2 : IntKind.i64.wrap (i : Int) = (i : Int) := by rw [IntKind.wrap_i64]; omega
    clear hlk hsp hx hxi hT hil hlen hrm
    cases hne : (x.va != v) with
    | true =>
      have HN2 : Hid (A.noteP t s r j v = (A, 7)) := by have := HN1.out; rw [hne] at this; exact this.trans (if_pos rfl)
      clear HN1
      go_region
      all_goals
        go_wp2_with fail
        rw [← HP.out]
        unfold NoteOut
        rw [HN2.out]
        exact ⟨rfl, HA.out.1.ledB (HB4.out.drew)⟩
    | false =>
      have HN2 : Hid (A.noteP t s r j v = ((A.beco t (noteTh s r j v)).1, (A.beco t (noteTh s r j v)).2.2)) := by have := HN1.out; rw [hne] at this; exact this.trans (if_neg (by simp))
      clear HN1
      go_region
      all_goals
        go_wp2_with fail
        refine (HBE.out _ (H4.drewN 1)).mono ?_
        rintro e w5 ⟨rfl, h5⟩
        go_wp2_with fail
        rw [← HP.out]
        unfold NoteOut
        rw [HN2.out]
        exact ⟨rfl, led_join (fun k hk => .inl hk) (H4.drewN 1) ((Apart.of HB4.out).drewN 1) h5⟩
end Go.Proofs.YtofbcngcblleaabGreat.A
