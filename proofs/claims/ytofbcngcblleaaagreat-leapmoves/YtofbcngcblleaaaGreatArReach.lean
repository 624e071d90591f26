/- What is kept: all of a tenant's own squares that can be reached. -/
import Derived.Test.YtofbcngcblleaaaGreatArJoinP
import Derived.Laws.OwnMore
namespace Go.Proofs.YtofbcngcblleaaaGreat.A
open Go.RowKit Go.Maps

def nkey (s r j : Int) : Ky := ⟨2, s, r, j, 0⟩
/-- a note -/
def noteTh (s r j v : Int) : Th := ⟨2, s, r, j, 0, 0, v, 0⟩
theorem nkey_fit {s r j : Int} (hs : Fits s) (hr : Fits r) (hj : Fits j) : (nkey s r j).Fit := ⟨⟨by show (_ : Int) ≤ 2; omega, by show (2 : Int) ≤ _; omega⟩, hs, hr, hj, fits_zero⟩
/-- what was noted, for a tenant -/
def recallF (l : List Th) (t : Nat) (s r j : Int) : Option Int := match spotF l (nkey s r j) with
  | some i => if (l[i]!).mask.testBit t = true then some (l[i]!).va else none
  | none => none
/-- another value was noted -/
def twiceF (l : List Th) (s r j v : Int) : Bool := match spotF l (nkey s r j) with
  | some i => (l[i]!).va != v
  | none => false
def Ar.noteP (A : Ar) (t : Nat) (s r j v : Int) : Ar × Int :=
  if (levelF A.ths t s).isSome = true ∧ (levelF A.ths t v).isSome = true then
    if twiceF A.ths s r j v = true then (A, 7) else ((A.beco t (noteTh s r j v)).1, (A.beco t (noteTh s r j v)).2.2)
  else (A, 6)

theorem noteKey_any (s r j : Int) (w : World) : Calls Tryz.prog 117 #[.int .i64 s, .int .i64 r, .int .i64 j] w fun e w' => e = .returned (nkey s r j).val ∧ Below w.heap.size w w' := by
  go_enter Tryz.func117, Tryz.ntmps117
  go_wp2_with fail
  refine bodyPost_ret (v := (nkey s r j).val) (by simp [results, Tryz.results117, go_sem, Ky.val, nkey]) rfl ⟨rfl, ?_⟩
  repeat (first | exact Below.refl _ _ | refine Below.setCell ?_ (by simp) _ | refine Below.alloc ?_ (by simp) _)
theorem num_own {l : List Th} {q : Ky} {t i : Nat} (h : spotF l q = some i) : ownF l t (numF l q) = if (l[i]!).mask.testBit t = true then some (l[i]!) else none := by
  obtain ⟨x, h1, h2, h3⟩ := spot_at h
  unfold ownF numF
  rw [h]
  simp only
  rw [if_pos (by omega), show (((i : Int) + 2 - 2).toNat) = i by omega, filter_some h1, h3]
theorem below_drew {w w1 : World} (h : Below w.drew.heap.size w.drew w1) : Below w.heap.size w w1 := ⟨h.os, h.tape, h.output, h.size, h.block⟩

set_option maxRecDepth 20000 in
set_option maxHeartbeats 4000000 in
theorem recallP_any (b t : Nat) (F : Nat → Prop) (s r j : Int) (A : Ar) (w : World) (h : AtP w b F A) (hS : Sound A) (ht : t < 64) (hs : Fits s) (hr : Fits r) (hj : Fits j) :
    Calls Tryz.prog 99 #[.pointer (some ⟨b, 0, none⟩), .int .i64 t, .int .i64 s, .int .i64 r, .int .i64 j] w fun e w' => e = .returned (.tuple #[.int .i64 ((recallF A.ths t s r j).getD 0), .bool (recallF A.ths t s r j).isSome]) ∧ Below w.heap.size w w' := by
  have hi := fun W => tenant_yes t ht W
  obtain ⟨L, R, D, h, _⟩ := h
  have hN := fun W => noteKey_any s r j W
  have HK : Hid (∀ W, Below w.heap.size w W → W.cell? ⟨b, 2, none⟩ = some (.map (some R.mp)) ∧ (Instr.lookup 95 (.map (some R.mp)) (nkey s r j).val true).run Tryz.prog W = .ok (.tuple #[.int .i64 (numF A.ths (nkey s r j)), .bool (spotF A.ths (nkey s r j)).isSome]) W) := fun W hW => by
    have hB := h.below hW
    have c2 := hB.raw.at 2 (by omega)
    rw [Raw.c2] at c2
    exact ⟨c2, look_num hB.map hB.num (nkey_fit hs hr hj) (by show (2 : Int) ≠ 0; omega)⟩
  have hlen := hS.len
  have hrm := hS.room1
  have HO : Hid (∀ W id, Fits id → Below w.heap.size w W → _) := fun W id hid hW => own_any b 0 t id R A.ths W (h.below hW).raw (h.below hW).ths ht hS.mask hid
  have hnf : Fits (numF A.ths (nkey s r j)) := by
    unfold numF
    cases hsp : spotF A.ths (nkey s r j) with
    | none => exact fits_zero
    | some i =>
      obtain ⟨x, h1, _⟩ := spot_at hsp
      have := (List.getElem?_eq_some_iff.1 h1).1
      exact ⟨by show _ ≤ (i : Int) + 2; omega, by show (i : Int) + 2 ≤ _; omega⟩
  have c2 := (HK.out w (Below.refl _ _)).1
  generalize hP : (fun (e : Ending) (w' : World) => e = .returned (.tuple #[.int .i64 ((recallF A.ths t s r j).getD 0), .bool (recallF A.ths t s r j).isSome]) ∧ Below w.heap.size w w') = Post
  have HP : Hid (_ = Post) := hP
  clear hP
  have HNF : Hid (Fits (numF A.ths (nkey s r j))) := hnf
  clear hnf h
  go_enter Tryz.func99, Tryz.ntmps99
  go_wp2_with fail
  refine (hi _).mono ?_
  rintro e w0 ⟨rfl, rfl⟩
  go_wp2_with fail
  cases hsp : spotF A.ths (nkey s r j) with
  | none =>
    have HR : Hid (recallF A.ths t s r j = none) := by show _ = _; unfold recallF; rw [hsp]
    have HK2 : Hid (∀ W, Below w0.heap.size w0 W → W.cell? ⟨b, 2, none⟩ = some (.map (some R.mp)) ∧ (Instr.lookup 95 (.map (some R.mp)) (nkey s r j).val true).run Tryz.prog W = .ok (.tuple #[.int .i64 (numF A.ths (nkey s r j)), .bool false]) W) := fun W hW => by
      have := HK.out W hW
      rw [hsp] at this
      exact this
    clear HK hsp
    go_region_with (go_at_call 117; refine (hN _).mono ?_; rintro e w1 ⟨rfl, hb1⟩; have hb1 := below_drew hb1; have c2' := (HK2.out _ hb1).1; have hlk := (HK2.out _ hb1).2)
    all_goals
      go_wp2_with fail
      rw [← HP.out, HR.out]
      exact ⟨rfl, hb1⟩
  | some i =>
    have HR : Hid (recallF A.ths t s r j = if (A.ths[i]!).mask.testBit t = true then some (A.ths[i]!).va else none) := by show _ = _; unfold recallF; rw [hsp]
    have HOW : Hid (ownF A.ths t (numF A.ths (nkey s r j)) = if (A.ths[i]!).mask.testBit t = true then some (A.ths[i]!) else none) := num_own hsp
    have HK2 : Hid (∀ W, Below w0.heap.size w0 W → W.cell? ⟨b, 2, none⟩ = some (.map (some R.mp)) ∧ (Instr.lookup 95 (.map (some R.mp)) (nkey s r j).val true).run Tryz.prog W = .ok (.tuple #[.int .i64 (numF A.ths (nkey s r j)), .bool true]) W) := fun W hW => by
      have := HK.out W hW
      rw [hsp] at this
      exact this
    clear HK hsp
    generalize numF A.ths (nkey s r j) = num at *
    generalize A.ths[i]! = y at *
    go_region_with (go_at_call 117; refine (hN _).mono ?_; rintro e w1 ⟨rfl, hb1⟩; have hb1 := below_drew hb1; have c2' := (HK2.out _ hb1).1; have hlk := (HK2.out _ hb1).2)
    all_goals
      have HB1 : Hid (Below w0.heap.size w0 w1) := hb1
      clear c2' hlk hb1
      go_wp2_with fail
      refine (HO.out _ _ HNF.out HB1.out).mono ?_
      rintro e w2 ⟨rfl, hb2⟩
      have HB2 : Hid (Below w0.heap.size w0 w2) := HB1.out.trans (hb2.mono HB1.out.size)
      clear hb2
      rw [HOW.out]
      by_cases hbit : y.mask.testBit t = true
      · rw [if_pos hbit]
        have HR2 : Hid (recallF A.ths t s r j = some y.va) := HR.out.trans (if_pos hbit)
        clear hbit HR
        simp only [Option.getD_some, Option.isSome_some]
        unfold Th.val
        go_wp2_with fail
        rw [← HP.out, HR2.out]
        exact ⟨rfl, HB2.out.alloc HB2.out.size _⟩
      · rw [if_neg hbit]
        have HR2 : Hid (recallF A.ths t s r j = none) := HR.out.trans (if_neg hbit)
        clear hbit HR
        simp only [Option.getD_none, Option.isSome_none]
        unfold Th.val
        go_wp2_with fail
        rw [← HP.out, HR2.out]
        exact ⟨rfl, HB2.out.alloc HB2.out.size _⟩

theorem AtP.look {w : World} {b : Nat} {F : Nat → Prop} {A : Ar} (h : AtP w b F A) {q : Ky} (hq : q.Fit) (hk : q.k ≠ 0) : ∃ mp, w.cell? ⟨b, 2, none⟩ = some (.map (some mp)) ∧ (Instr.lookup 95 (.map (some mp)) q.val true).run Tryz.prog w = .ok (.tuple #[.int .i64 (numF A.ths q), .bool (spotF A.ths q).isSome]) w := by
  obtain ⟨L, R, D, h, _⟩ := h
  have c2 := h.raw.at 2 (by omega)
  rw [Raw.c2] at c2
  exact ⟨R.mp, c2, look_num h.map h.num hq hk⟩
theorem AtP.thing {w : World} {b : Nat} {F : Nat → Prop} {A : Ar} (h : AtP w b F A) {i : Nat} {x : Th} (hx : A.ths[i]? = some x) : ∃ g c, w.cell? ⟨b, 1, none⟩ = some (.slice (some ⟨g, 0, none⟩) A.ths.length c) ∧ w.cell? ⟨g, i * 8 + 6, none⟩ = some (.int .i64 x.va) := by
  obtain ⟨L, R, D, h, _⟩ := h
  have hi : i < A.ths.length := (List.getElem?_eq_some_iff.1 hx).1
  obtain ⟨g, c, hv⟩ := h.ths.shape' (by show 0 < A.ths.length; omega)
  have hv : R.vth = .slice (some ⟨g, 0, none⟩) A.ths.length c := hv
  have hth := h.ths
  rw [hv] at hth
  obtain ⟨_, _, _, _, _, _, hg, _⟩ := hth.cells hx
  have c1 := h.raw.at 1 (by omega)
  rw [Raw.c1, hv] at c1
  exact ⟨g, c, c1, hg⟩
theorem Tryz.two0 (a b : Value) (w : World) : (Instr.index 180 (.agg #[a, b]) (.int .i64 0)).run Tryz.prog w = .ok a w := by kernel_rfl
theorem Tryz.two1 (a b : Value) (w : World) : (Instr.index 180 (.agg #[a, b]) (.int .i64 1)).run Tryz.prog w = .ok b w := by kernel_rfl
def NoteOut (A : Ar) (t : Nat) (s r j v : Int) (b : Nat) (F : Nat → Prop) (w : World) (e : Ending) (w' : World) : Prop := e = .returned (.int .i64 (A.noteP t s r j v).2) ∧ Led w b F (A.noteP t s r j v).1 w'

set_option maxRecDepth 20000 in
set_option maxHeartbeats 4000000 in
theorem noteP_any (b t : Nat) (F : Nat → Prop) (s r j v : Int) (A : Ar) (w : World) (h : AtP w b F A) (hS : Sound A) (ht : t < 64) (hs : Fits s) (hr : Fits r) (hj : Fits j) (hv : Fits v) :
    Calls Tryz.prog 123 #[.pointer (some ⟨b, 0, none⟩), .int .i64 t, .int .i64 s, .int .i64 r, .int .i64 j, .int .i64 v] w (NoteOut A t s r j v b F w) := by
  have hi := fun W => tenant_yes t ht W
  have hN := fun W => noteKey_any s r j W
  have HLV : Hid (∀ W id, AtP W b F A → Fits id → _) := fun W id hW hid => levelP_any b t F id A W hW hS ht hid
  have HBE : Hid (∀ W, AtP W b F A → _) := fun W hW => beco_any b t F A (noteTh s r j v) W hW hS ht (nkey_fit hs hr hj) (by show (2 : Int) ≠ 0; omega) (by show (0 : Int) ≤ 0 ∧ (0 : Int) ≤ 44; decide) hv rfl
  have HNP : Hid (A.noteP t s r j v = if (levelF A.ths t s).isSome = true ∧ (levelF A.ths t v).isSome = true then if twiceF A.ths s r j v = true then (A, 7) else ((A.beco t (noteTh s r j v)).1, (A.beco t (noteTh s r j v)).2.2) else (A, 6)) := rfl
  have HA : Hid (AtP w b F A ∧ Sound A ∧ Fits s ∧ Fits v ∧ (nkey s r j).Fit) := ⟨h, hS, hs, hv, nkey_fit hs hr hj⟩
  generalize hP : NoteOut A t s r j v b F w = Post
  have HP : Hid (NoteOut A t s r j v b F w = Post) := hP
  clear hP h hS hs hr hj hv
  have i0 := Tryz.two0 (.int .i64 s) (.int .i64 v)
  have i1 := Tryz.two1 (.int .i64 s) (.int .i64 v)
  go_enter Tryz.func123, Tryz.ntmps123
  go_wp2_with fail
  refine (hi _).mono ?_
  rintro e w0 ⟨rfl, rfl⟩
  go_wp2_with fail
  refine wp_loop_rounds 3 ?_
  rw [rounds_succ]
  go_wp2_with fail
  refine (HLV.out _ s HA.out.1 HA.out.2.2.1).mono ?_
  rintro e w1 ⟨rfl, hb1⟩
  have HB1 : Hid (Below w0.heap.size w0 w1) := hb1
  clear hb1
  cases hl0 : levelF A.ths t s with
  | none =>
    have HN2 : Hid (A.noteP t s r j v = (A, 6)) := HNP.out.trans (if_neg (by rw [hl0]; simp))
    clear hl0
    simp only [Option.getD_none, Option.isSome_none]
    go_wp2_with fail
    rw [← HP.out]
    unfold NoteOut
    rw [HN2.out]
    exact ⟨rfl, HA.out.1.ledB HB1.out⟩
  | some l0 =>
  have HL0 : Hid (levelF A.ths t s = some l0) := hl0
  clear hl0
  simp only [Option.getD_some, Option.isSome_some]
  go_wp2_with fail
  rw [rounds_succ]
  go_wp2_with fail
  refine (HLV.out _ v (HA.out.1.below HB1.out) HA.out.2.2.2.1).mono ?_
  rintro e w2 ⟨rfl, hb2⟩
  have HB2 : Hid (Below w0.heap.size w0 w2) := HB1.out.trans (hb2.mono HB1.out.size)
  clear hb2
  cases hl1 : levelF A.ths t v with
  | none =>
    have HN2 : Hid (A.noteP t s r j v = (A, 6)) := HNP.out.trans (if_neg (by rw [hl1]; simp))
    clear hl1
    simp only [Option.getD_none, Option.isSome_none]
    go_wp2_with fail
    rw [← HP.out]
    unfold NoteOut
    rw [HN2.out]
    exact ⟨rfl, HA.out.1.ledB HB2.out⟩
  | some l1 =>
  have HN1 : Hid (A.noteP t s r j v = if twiceF A.ths s r j v = true then (A, 7) else ((A.beco t (noteTh s r j v)).1, (A.beco t (noteTh s r j v)).2.2)) := HNP.out.trans (if_pos (by rw [HL0.out, hl1]; exact ⟨rfl, rfl⟩))
  clear hl1 HNP HL0
  simp only [Option.getD_some, Option.isSome_some]
  go_wp2_with fail
  rw [rounds_succ]
  go_wp2_with fail
  refine (hN _).mono ?_
  rintro e w3 ⟨rfl, hb3⟩
  have HB3 : Hid (Below w0.heap.size w0 w3) := HB2.out.trans (hb3.mono HB2.out.size)
  clear hb3
  unfold nkey Ky.val
  have hb4 : Below w0.heap.size w0 (w3.alloc (.cells #[.int .i64 2, .int .i64 s, .int .i64 r, .int .i64 j, .int .i64 0] 120)) := HB3.out.alloc HB3.out.size _
  have HB4 : Hid (Below w0.heap.size w0 (w3.alloc (.cells #[.int .i64 2, .int .i64 s, .int .i64 r, .int .i64 j, .int .i64 0] 120))) := hb4
  have H4 := HA.out.1.below hb4
  have k0 : (w3.alloc (.cells #[.int .i64 2, .int .i64 s, .int .i64 r, .int .i64 j, .int .i64 0] 120)).cell? ⟨w3.heap.size, 0, none⟩ = some (.int .i64 2) := by simp [go_sem]
  have k1 : (w3.alloc (.cells #[.int .i64 2, .int .i64 s, .int .i64 r, .int .i64 j, .int .i64 0] 120)).cell? ⟨w3.heap.size, 1, none⟩ = some (.int .i64 s) := by simp [go_sem]
  have k2 : (w3.alloc (.cells #[.int .i64 2, .int .i64 s, .int .i64 r, .int .i64 j, .int .i64 0] 120)).cell? ⟨w3.heap.size, 2, none⟩ = some (.int .i64 r) := by simp [go_sem]
  have k3 : (w3.alloc (.cells #[.int .i64 2, .int .i64 s, .int .i64 r, .int .i64 j, .int .i64 0] 120)).cell? ⟨w3.heap.size, 3, none⟩ = some (.int .i64 j) := by simp [go_sem]
  have k4 : (w3.alloc (.cells #[.int .i64 2, .int .i64 s, .int .i64 r, .int .i64 j, .int .i64 0] 120)).cell? ⟨w3.heap.size, 4, none⟩ = some (.int .i64 0) := by simp [go_sem]
  go_wp2_with fail
  generalize w3.alloc (.cells #[.int .i64 2, .int .i64 s, .int .i64 r, .int .i64 j, .int .i64 0] 120) = W4 at *
  clear hb4
  obtain ⟨mp, c2, hlk⟩ := (H4.drewN 1).look HA.out.2.2.2.2 (by show (2 : Int) ≠ 0; omega)
  have c2 : W4.cell? ⟨b, 2, none⟩ = some (.map (some mp)) := c2
  unfold nkey Ky.val at hlk
  cases hsp : spotF A.ths (nkey s r j) with
  | none =>
    have HN2 : Hid (A.noteP t s r j v = ((A.beco t (noteTh s r j v)).1, (A.beco t (noteTh s r j v)).2.2)) := HN1.out.trans (if_neg (by unfold twiceF; rw [hsp]; simp))
    have hlk' : (Instr.lookup 95 (.map (some mp)) (.agg #[.int .i64 2, .int .i64 s, .int .i64 r, .int .i64 j, .int .i64 0]) true).run Tryz.prog W4.drew = .ok (.tuple #[.int .i64 (numF A.ths (nkey s r j)), .bool false]) W4.drew := by
      have := hlk
      rw [show spotF A.ths ⟨2, s, r, j, 0⟩ = none from hsp] at this
      exact this
    clear hlk hsp HN1
    generalize numF A.ths (nkey s r j) = num at *
    go_region
    all_goals
      go_wp2_with fail
      refine (HBE.out _ (H4.drewN 1)).mono ?_
      rintro e w5 ⟨rfl, h5⟩
      go_wp2_with fail
      rw [← HP.out]
      unfold NoteOut
      rw [HN2.out]
      exact ⟨rfl, led_join (fun k hk => .inl hk) (H4.drewN 1) ((Apart.of HB4.out).drewN 1) h5⟩
  | some i =>
    obtain ⟨x, hx, _, hxi⟩ := spot_at hsp
    have hlk' : (Instr.lookup 95 (.map (some mp)) (.agg #[.int .i64 2, .int .i64 s, .int .i64 r, .int .i64 j, .int .i64 0]) true).run Tryz.prog W4.drew = .ok (.tuple #[.int .i64 ((i : Int) + 2), .bool true]) W4.drew := by
      have := hlk
      rw [show spotF A.ths ⟨2, s, r, j, 0⟩ = some i from hsp, show numF A.ths ⟨2, s, r, j, 0⟩ = (i : Int) + 2 by unfold numF; rw [show spotF A.ths ⟨2, s, r, j, 0⟩ = some i from hsp]] at this
      exact this
    obtain ⟨g, c, c1, cg⟩ := H4.thing hx
    have hil := (List.getElem?_eq_some_iff.1 hx).1
    have hlen := HA.out.2.1.len
    have hrm := HA.out.2.1.room1
    have hT : twiceF A.ths s r j v = (x.va != v) := by unfold twiceF; rw [hsp]; simp only; rw [hxi]
    rw [hT] at HN1
    generalize A.ths.length = len at *
    have hi0 : (0 : Int) ≤ (i : Int) := by omega
    have hin : (i : Int) < (len : Int) := by omega
    have hwr : IntKind.i64.wrap ((i : Int) + 2 - 2) = (i : Int) := by rw [IntKind.wrap_i64]; omega
    have hib : (i : Int) ≤ 200000 := by omega
    have hw2 : IntKind.i64.wrap (i : Int) = (i : Int) := by rw [IntKind.wrap_i64]; omega
    clear hlk hsp hx hxi hT hil hlen hrm
    cases hne : (x.va != v) with
    | true =>
      have HN2 : Hid (A.noteP t s r j v = (A, 7)) := by have := HN1.out; rw [hne] at this; exact this.trans (if_pos rfl)
      clear HN1
      go_region
      all_goals
        go_wp2_with fail
        rw [← HP.out]
        unfold NoteOut
        rw [HN2.out]
        exact ⟨rfl, HA.out.1.ledB (HB4.out.drew)⟩
    | false =>
      have HN2 : Hid (A.noteP t s r j v = ((A.beco t (noteTh s r j v)).1, (A.beco t (noteTh s r j v)).2.2)) := by have := HN1.out; rw [hne] at this; exact this.trans (if_neg (by simp))
      clear HN1
      go_region
      all_goals
        go_wp2_with fail
        refine (HBE.out _ (H4.drewN 1)).mono ?_
        rintro e w5 ⟨rfl, h5⟩
        go_wp2_with fail
        rw [← HP.out]
        unfold NoteOut
        rw [HN2.out]
        exact ⟨rfl, led_join (fun k hk => .inl hk) (H4.drewN 1) ((Apart.of HB4.out).drewN 1) h5⟩
end Go.Proofs.YtofbcngcblleaaaGreat.A

namespace Go.Proofs.YtofbcngcblleaaaGreat.A
open Go.RowKit Go.Maps

/-- a row of marks in a block of its own -/
def Marks (w : World) (kb : Nat) (K : List Bool) : Prop := w.heap[kb]? = some (.cells (K.map Value.bool).toArray 4 (0, 0))
/-- marked -/
def Mk (K : List Bool) (i : Nat) : Prop := K[i]? = some true
/-- a tenant's own square -/
def ownSq (l : List Th) (t : Nat) (id : Int) : Option Th := (ownF l t id).filter fun x => x.k == 1
/-- marks, with all of a tenant's own squares that one is made of; n: how many are unmarked, at most -/
def keepF (l : List Th) (t : Nat) : Nat → Int → List Bool → List Bool
  | 0, _, K => K
  | n + 1, id, K => match ownSq l t id with
    | some x => if K[(id - 2).toNat]! = true then K else keepF l t n x.p3 (keepF l t n x.p2 (keepF l t n x.p1 (keepF l t n x.p0 (K.set (id - 2).toNat true))))
    | none => K
def unN (K : List Bool) : Nat := K.countP fun b => !b
/-- nothing but one block and new ones is written -/
structure OnlyB (kb : Nat) (w w' : World) : Prop where
  os : w'.os = w.os
  tape : w'.tape = w.tape
  output : w'.output = w.output
  size : w.heap.size ≤ w'.heap.size
  block : ∀ k, k < w.heap.size → k ≠ kb → w'.heap[k]? = w.heap[k]?
def KeepP (w : World) (l : List Th) (t n kb : Nat) (id : Int) (K : List Bool) (e : Ending) (w' : World) : Prop := e = .returned (.tuple #[]) ∧ Marks w' kb (keepF l t n id K) ∧ OnlyB kb w w'
end Go.Proofs.YtofbcngcblleaaaGreat.A

namespace Go.Proofs.YtofbcngcblleaaaGreat.A
open Go.RowKit Go.Maps

/-- things are a tenant's no more; f: what can still be undone -/
def Ar.lose (A : Ar) (t : Nat) (ids f : List Int) : Ar := { A.takes t ids with fresh := upd A.fresh t f }
/-- a tenant's own things, each once -/
def OwnIds (l : List Th) (t : Nat) (ids : List Int) : Prop := ids.Nodup ∧ ∀ id ∈ ids, 2 ≤ id ∧ ∃ x, l[(id - 2).toNat]? = some x ∧ x.mask.testBit t = true
theorem takes_cons (A : Ar) (t : Nat) (id : Int) (l : List Int) : A.takes t (id :: l) = (A.take t (id - 2).toNat (thAt A.ths id)).takes t l := rfl
theorem takes_own (t : Nat) (ht : t < 64) (u : Nat) : ∀ (ids : List Int) (A : Ar), OwnIds A.ths t ids → (∀ x ∈ A.ths, x.mask < 18446744073709551616) → ownN (A.takes t ids).ths u + (if u = t then ids.length else 0) = ownN A.ths u
  | [], A, _, _ => by simp [Ar.takes]
  | id :: l, A, h, hm => by
    obtain ⟨h2, x, hx, hb⟩ := h.2 id (by simp)
    have hth : thAt A.ths id = x := by unfold thAt; rw [hx]; rfl
    have hxm := hm x (List.mem_of_getElem? hx)
    have e := set_count (y := { x with mask := clr x.mask t }) (fun z => z.mask.testBit u) hx
    have hnd := List.nodup_cons.1 h.1
    have hi := (List.getElem?_eq_some_iff.1 hx).1
    have ih := takes_own t ht u l (A.take t (id - 2).toNat x) ⟨hnd.2, fun k hk => by
      obtain ⟨k2, y, hy, hyb⟩ := h.2 k (by simp [hk])
      refine ⟨k2, y, ?_, hyb⟩
      show (A.ths.set _ _)[_]? = _
      rw [List.getElem?_set, if_neg (fun e => hnd.1 (by rw [show id = k by omega]; exact hk))]
      exact hy⟩ (fun z hz => by
      rcases List.mem_or_eq_of_mem_set (show z ∈ A.ths.set _ _ from hz) with h1 | h1
      · exact hm z h1
      · rw [h1]; exact clr_lt _ _ hxm)
    rw [takes_cons, hth]
    have e2 : ownN (A.take t (id - 2).toNat x).ths u = (A.ths.set (id - 2).toNat { x with mask := clr x.mask t }).countP fun z => z.mask.testBit u := rfl
    rw [e2] at ih
    generalize (A.ths.set (id - 2).toNat { x with mask := clr x.mask t }).countP (fun z => z.mask.testBit u) = N at *
    simp only [clr_bit x.mask t u hxm ht] at e
    unfold ownN at ih ⊢
    by_cases eu : u = t
    · subst eu
      rw [hb] at e
      simp at e ih ⊢
      omega
    · rw [if_neg eu] at ih ⊢
      simp [eu] at e
      omega
theorem takes_back {t : Nat} (ht : t < 64) {A : Ar} {ids : List Int} (h : OwnIds A.ths t ids) (hm : ∀ x ∈ A.ths, x.mask < 18446744073709551616) {j : Nat} {y : Th} (hy : (A.takes t ids).ths[j]? = some y) : ∃ x, A.ths[j]? = some x ∧ y.key = x.key ∧ y.lv = x.lv ∧ y.va = x.va ∧ y.mask < 18446744073709551616 ∧ ∀ u, y.mask.testBit u = true ↔ x.mask.testBit u = true ∧ ¬ (u = t ∧ (j : Int) + 2 ∈ ids) := by
  have hj := (List.getElem?_eq_some_iff.1 hy).1
  rw [takes_len] at hj
  obtain ⟨y', h1, h2⟩ := takes_get t ht ids A (fun id hid => by
    obtain ⟨a, x, hx, _⟩ := h.2 id hid
    exact ⟨a, (List.getElem?_eq_some_iff.1 hx).1⟩) hm j _ (List.getElem?_eq_getElem hj)
  rw [hy] at h1
  obtain rfl := Option.some.inj h1
  exact ⟨_, List.getElem?_eq_getElem hj, h2⟩
theorem lose_sound {A : Ar} {t : Nat} {ids f : List Int} (hS : Sound A) (ht : t < 64) (h : OwnIds A.ths t ids) (hf : OwnIds A.ths t f) (hd : ∀ id ∈ f, id ∉ ids) : Sound (A.lose t ids f) := by
  obtain ⟨r1, r2, r3, r4⟩ := takes_rest A t ids
  have back := fun j y => takes_back ht h hS.mask (j := j) (y := y)
  have bm : ∀ y ∈ (A.lose t ids f).ths, ∃ (j : Nat) (x : Th), A.ths[j]? = some x ∧ y.key = x.key ∧ y.lv = x.lv ∧ y.va = x.va ∧ y.mask < 18446744073709551616 ∧ ∀ u, y.mask.testBit u = true ↔ x.mask.testBit u = true ∧ ¬ (u = t ∧ (j : Int) + 2 ∈ ids) := fun y hy => by
    obtain ⟨j, hj⟩ := List.getElem?_of_mem hy
    obtain ⟨x, hx⟩ := back j y hj
    exact ⟨j, x, hx⟩
  have keep : ∀ (u : Nat) (id : Int) (x : Th), A.ths[(id - 2).toNat]? = some x → 2 ≤ id → x.mask.testBit u = true → ¬ (u = t ∧ id ∈ ids) → ∃ y, (A.lose t ids f).ths[(id - 2).toNat]? = some y ∧ y.mask.testBit u = true := fun u id x hx h2 hb hn => by
    obtain ⟨y, h1, _, _, _, _, h6⟩ := takes_get t ht ids A (fun id hid => by
      obtain ⟨a, x, hx, _⟩ := h.2 id hid
      exact ⟨a, (List.getElem?_eq_some_iff.1 hx).1⟩) hS.mask _ x hx
    refine ⟨y, h1, (h6 u).2 ⟨hb, ?_⟩⟩
    rw [show (((id - 2).toNat : Nat) : Int) + 2 = id by omega]
    exact hn
  exact {
    free := r4.trans hS.free
    room0 := by show 0 ≤ (A.takes t ids).room; rw [r3]; exact hS.room0
    room1 := by show (A.takes t ids).room ≤ _; rw [r3]; exact hS.room1
    len := by show ((A.takes t ids).ths.length : Int) ≤ (A.takes t ids).room; rw [r3, takes_len]; exact hS.len
    mask := fun y hy => let ⟨_, _, _, _, _, _, h, _⟩ := bm y hy; h
    zero := fun y hy h0 => by
      obtain ⟨j, x, hx, e1, e2, e3, _, e5⟩ := bm y hy
      have hx0 : x = noTh := hS.zero x (List.mem_of_getElem? hx) (by rw [← key_k e1]; exact h0)
      subst hx0
      have hm0 : y.mask = 0 := Nat.eq_of_testBit_eq fun u => by
        rw [Nat.zero_testBit]
        cases hu : y.mask.testBit u with
        | false => rfl
        | true => have := ((e5 u).1 hu).1; simp [noTh] at this
      obtain ⟨k, p0, p1, p2, p3, lv, va, mask⟩ := y
      simp only [Th.key, Ky.mk.injEq] at e1
      simp only at e2 e3 hm0
      obtain ⟨rfl, rfl, rfl, rfl, rfl⟩ := e1
      subst e2 e3 hm0
      rfl
    fit := fun y hy => by
      obtain ⟨j, x, hx, e1, _⟩ := bm y hy
      rw [e1]; exact hS.fit x (List.mem_of_getElem? hx)
    lv := fun y hy => by
      obtain ⟨j, x, hx, _, e2, _⟩ := bm y hy
      rw [e2]; exact hS.lv x (List.mem_of_getElem? hx)
    va := fun y hy => by
      obtain ⟨j, x, hx, _, _, e3, _⟩ := bm y hy
      rw [e3]; exact hS.va x (List.mem_of_getElem? hx)
    uniq := fun i j y z hy hz h0 he => by
      obtain ⟨x, hx, e1, _⟩ := back i y hy
      obtain ⟨x', hx', e1', _⟩ := back j z hz
      exact hS.uniq i j x x' hx hx' (by rw [← key_k e1]; exact h0) (by rw [← e1, ← e1']; exact he)
    lim := fun u hu => by
      show 0 ≤ (A.takes t ids).lim u ∧ (A.takes t ids).lim u ≤ (A.takes t ids).room
      rw [r2, r3]; exact hS.lim u hu
    cnt := fun u hu => by
      show (A.takes t ids).cnt u = (ownN (A.takes t ids).ths u : Int)
      have e := takes_own t ht u ids A h hS.mask
      have hc := hS.cnt u hu
      rw [takes_cnt]
      unfold upd
      by_cases eu : u = t
      · subst eu
        rw [if_pos rfl] at e ⊢
        omega
      · rw [if_neg eu] at e ⊢
        omega
    fresh := fun u hu => by
      show (upd A.fresh t f u).Nodup ∧ ∀ id ∈ upd A.fresh t f u, _
      unfold upd
      by_cases eu : u = t
      · subst eu
        rw [if_pos rfl]
        exact ⟨hf.1, fun id hid => by
          obtain ⟨h2, x, hx, hb⟩ := hf.2 id hid
          exact ⟨h2, keep u id x hx h2 hb fun e => hd id hid e.2⟩⟩
      · rw [if_neg eu]
        exact ⟨(hS.fresh u hu).1, fun id hid => by
          obtain ⟨h2, x, hx, hb⟩ := (hS.fresh u hu).2 id hid
          exact ⟨h2, keep u id x hx h2 hb fun e => eu e.1⟩⟩ }
theorem takes_free (L : List Int) (t : Nat) : ∀ (l : List Int) (B : Ar), ({ B with free := L } : Ar).takes t l = { B.takes t l with free := L }
  | [], B => rfl
  | id :: l, B => by
    rw [takes_cons, takes_cons]
    exact takes_free L t l (B.take t (id - 2).toNat (thAt B.ths id))
theorem live_takes {A : Ar} {t : Nat} (ht : t < 64) {ids : List Int} (h : OwnIds A.ths t ids) (hm : ∀ x ∈ A.ths, x.mask < 18446744073709551616) : freeIds (A.takes t ids).ths = freeIds A.ths ∧ liveN (A.takes t ids).ths = liveN A.ths := by
  have e : freeIds (A.takes t ids).ths = freeIds A.ths := sel_congr 0 _ _ (takes_len _ _ _) fun j x y hx hy => by
    obtain ⟨z, hz, e1, _⟩ := takes_back ht h hm hx
    rw [hy] at hz
    obtain rfl := Option.some.inj hz
    simp [isNo, key_k e1]
  have h1 := free_live (A.takes t ids).ths
  have h2 := free_live A.ths
  rw [e, takes_len] at h1
  exact ⟨e, by omega⟩
theorem fresh_own {A : Ar} (hS : Sound A) {t : Nat} (ht : t < 64) : OwnIds A.ths t (A.fresh t) := hS.fresh t ht
theorem countP_any (b t : Nat) (F : Nat → Prop) (A : Ar) (w : World) (h : AtP w b F A) (ht : t < 64) :
    Calls Tryz.prog 25 #[.pointer (some ⟨b, 0, none⟩), .int .i64 t] w fun e w' => e = .returned (.int .i64 (A.cnt t)) ∧ w' = w := by
  obtain ⟨L, r, D, h, hp, hH⟩ := h
  have := count_any b r t w h.raw ht
  rw [show (r.tn t).cnt = A.cnt t from h.cnt t ht] at this
  exact this
end Go.Proofs.YtofbcngcblleaaaGreat.A

namespace Go.Proofs.YtofbcngcblleaaaGreat.A
open Go.RowKit Go.Maps

/-- what is taken: own, and not kept -/
def idsF (l : List Th) (t : Nat) (K : List Bool) (i : Nat) : List Int := ((List.range i).filter (fun j => (l[j]!).mask.testBit t && !K[j]!)).map (fun j : Nat => (j : Int) + 2)
/-- an arena cleaned for a tenant -/
def Ar.clean (A : Ar) (t : Nat) (K : List Bool) : Ar := { A.takes t (idsF A.ths t K A.ths.length) with fresh := upd A.fresh t [] }

/-- numbers that can be read -/
def NRow (w : World) (v : Value) (rs : List Int) : Prop := ∃ a c, v = .slice a rs.length c ∧ (rs = [] ∨ ∃ g o, a = some ⟨g, o, none⟩ ∧ g < w.heap.size ∧ ∀ (k : Nat) x, rs[k]? = some x → w.cell? ⟨g, o + k, none⟩ = some (.int .i64 x))
/-- what is kept: the tenant's own squares below some numbers -/
def keepAll (l : List Th) (t : Nat) (rs : List Int) : List Bool := rs.foldl (fun K id => keepF l t l.length id K) (List.replicate l.length false)
theorem cell_later {w w' : World} {p : Addr} {v : Value} (hb : Below w.heap.size w w') (h : w.cell? p = some v) : w'.cell? p = some v := by
  obtain ⟨b, o, sp⟩ := p
  by_cases hl : b < w.heap.size
  · exact (hb.cell (p := ⟨b, o, sp⟩) hl).trans h
  · exfalso
    unfold World.cell? at h
    rw [show w.heap[b]? = none from Array.getElem?_eq_none (by omega)] at h
    simp at h
end Go.Proofs.YtofbcngcblleaaaGreat.A

namespace Go.Proofs.YtofbcngcblleaaaGreat.A
open Go.RowKit Go.Maps

def zcell (i : Nat) : Value := if i = 0 then .int .i64 0 else if i = 1 then .slice none 0 0 else if i = 2 then .map none else if i = 3 then .slice none 0 0 else if (i - 4) % 3 = 2 then .slice none 0 0 else .int .i64 0
set_option maxRecDepth 100000 in
theorem zero_list : Tryz.zeroCells99.toList = (List.range 196).map zcell := by kernel_rfl
theorem zero_at (i : Nat) (hi : i < 196) : Tryz.zeroCells99[i]? = some (zcell i) := by
  rw [← Array.getElem?_toList, zero_list]
  simp [hi]
theorem zero_size : Tryz.zeroCells99.size = 196 := by
  rw [← Array.length_toList, zero_list]
  simp
/-- a new arena's block, the first k tenants' limits set -/
def rawNew (room : Int) (mp k : Nat) : Raw := ⟨room, .slice none 0 0, mp, .slice none 0 0, fun t => if t < k then ⟨room, 0, .slice none 0 0⟩ else ⟨0, 0, .slice none 0 0⟩⟩
theorem rawNew_turn (room : Int) (mp k : Nat) : (rawNew room mp k).turn k { (rawNew room mp k).tn k with lim := room } = rawNew room mp (k + 1) := by
  unfold Raw.turn rawNew
  simp only [Raw.mk.injEq, true_and]
  funext t
  by_cases e : t = k
  · subst e; simp
  · by_cases h : t < k
    · simp [e, h, Nat.lt_succ_of_lt h]
    · have : ¬ t < k + 1 := by omega
      simp [e, h, this]
theorem rawNew_at (room : Int) (mp : Nat) (w : World) (b : Nat) (h : w.heap[b]? = some (.cells ((Tryz.zeroCells99.setIfInBounds 0 (.int .i64 room)).setIfInBounds 2 (.map (some mp))) 99 (0, 0))) : RawAt w b (rawNew room mp 0) := by
  refine ⟨_, h, by simp, fun i hi => ?_⟩
  rw [Array.getElem?_setIfInBounds, Array.getElem?_setIfInBounds]
  simp only [Array.size_setIfInBounds, zero_size]
  by_cases e2 : 2 = i
  · subst e2; simp [Raw.cell, rawNew]
  · rw [if_neg e2]
    by_cases e0 : 0 = i
    · subst e0; simp [Raw.cell, rawNew]
    · rw [if_neg e0, zero_at i hi]
      unfold Raw.cell zcell rawNew
      by_cases e1 : i = 1
      · subst e1; rfl
      · by_cases e3 : i = 3
        · subst e3; rfl
        · simp only [if_neg (fun e => e0 (Eq.symm e) : ¬ i = 0), if_neg e1, if_neg (fun e => e2 (Eq.symm e) : ¬ i = 2), if_neg e3, Nat.not_lt_zero, if_false]
          have : (i - 4) % 3 < 3 := Nat.mod_lt _ (by omega)
          by_cases c2 : (i - 4) % 3 = 2
          · rw [if_pos c2, if_neg (by omega), if_neg (by omega)]
          · rw [if_neg c2]
            by_cases c0 : (i - 4) % 3 = 0
            · rw [if_pos c0]
            · rw [if_neg c0, if_pos (by omega)]
/-- a new arena -/
def arNew (room : Int) : Ar := ⟨room, [], [], fun _ => room, fun _ => 0, fun _ => []⟩

theorem arNew_at (room : Int) (w w' : World) (_hb : Below w.heap.size w w') (hr : RawAt w' (w.heap.size + 1) (rawNew room w.heap.size 64)) (hm : w'.heap[w.heap.size]? = some (.map #[] 0)) : ArAt w' (w.heap.size + 1) (More (fun _ => False) w w') 0 (arNew room) := by
  have hlt := hr.lt
  refine ⟨_, .map [], hr, rfl, World.ownsRow_nil _ _ _ _, ?_, NumIs.empty, IntRow.nil _, fun t ht => ?_, fun t ht => ?_, fun t ht => ?_, fun t ht k hk => ?_, fun t u ht hu htu k hk => ?_, Or.inr ⟨by omega, by omega⟩, Or.inr ⟨Nat.le_refl _, by show w.heap.size < _; omega⟩, fun k hk => ?_, fun k hk => ?_, fun t ht k hk => ?_, fun k hk => ?_⟩
  · have h0 := World.ownsMap_made (H := Unit) w Tryz.prog 120 (plainElem Tryz.prog 3)
    obtain ⟨es, c, e1, e2⟩ := h0
    rw [heap_alloc_new] at e1
    simp at e1
    obtain ⟨rfl, rfl⟩ := e1
    exact ⟨_, _, hm, e2⟩
  · show (if t < 64 then _ else _ : Tn).lim = room
    rw [if_pos ht]
  · show (if t < 64 then _ else _ : Tn).cnt = 0
    rw [if_pos ht]
  · show IntRow w' (if t < 64 then _ else _ : Tn).fr []
    rw [if_pos ht]
    exact IntRow.nil _
  · simp [rawNew, ht, Value.ownBlock] at hk
  · simp [rawNew, ht, Value.ownBlock] at hk
  · simp [rawNew, Value.ownBlock] at hk
  · simp [rawNew, Value.ownBlock] at hk
  · simp [rawNew, ht, Value.ownBlock] at hk
  · rcases hk with h | h
    · exact h.elim
    · exact h.2

set_option maxRecDepth 20000 in
set_option maxHeartbeats 4000000 in
theorem new_any (room : Int) (w : World) (h0 : 0 ≤ room) (h1 : room ≤ 200000) :
    Calls Tryz.prog 27 #[.int .i64 room] w fun e w' => e = .returned (.tuple #[.pointer (some ⟨w.heap.size + 1, 0, none⟩), .int .i64 0]) ∧ ArAt w' (w.heap.size + 1) (More (fun _ => False) w w') 0 (arNew room) ∧ Below w.heap.size w w' := by
  have e1 : ¬ room < 0 := by omega
  have e2 : ¬ 200000 < room := by omega
  have hmm := @run_makeMap Tryz.prog
  go_enter Tryz.func27, Tryz.ntmps27
  go_wp2_with fail
  go_loopg [16] 64 (fun g s16 wr => ∃ k : Nat, k + g = 64 ∧ s16 = .int .i64 k ∧ RawAt wr (w.heap.size + 1) (rawNew room w.heap.size k) ∧ wr.heap[w.heap.size]? = some (.map #[] 0) ∧ Below w.heap.size w wr)
  case atStart =>
    refine ⟨0, by omega, rfl, rawNew_at room w.heap.size _ _ (heap_alloc2_new w _ _), heap_alloc2_old w _ _, ((Below.refl _ _).alloc (Nat.le_refl _) _).alloc (by simp) _⟩
  case round =>
    obtain ⟨k, hkg, rfl, hr, hmp, hbw⟩ := hrel
    have HK : Hid (k + gk = 64) := hkg
    have hk64 : k ≤ 64 := by omega
    clear hkg
    by_cases hlt : k < 64
    · have hi0 : (0 : Int) ≤ k := by omega
      have hi1 : (k : Int) < 64 := by omega
      have cl := hr.at (4 + k * 3) (by omega)
      rw [Raw.cl] at cl
      have fz := hr.frozen (4 + k * 3)
      have hwk : IntKind.i64.wrap ((k : Int) + 1) = (k : Int) + 1 := by rw [IntKind.wrap_i64]; omega
      go_wp2_with fail
      go_roundg (gk - 1)
      case measure => have := HK.out; omega
      case rel =>
        have hr2 := hr.setLim k room
        rw [rawNew_turn] at hr2
        exact ⟨k + 1, by have := HK.out; omega, by go_num, hr2, (heap_set (by omega)).trans hmp, hbw.setCell (p := ⟨w.heap.size + 1, 4 + k * 3, none⟩) (Nat.le_succ _) _⟩
    · have hi1 : ¬ (k : Int) < 64 := by omega
      have hk : k = 64 := by omega
      subst hk
      go_wp2_with fail
      go_ret2
      exact ⟨rfl, arNew_at room w _ hbw hr hmp, hbw⟩
end Go.Proofs.YtofbcngcblleaaaGreat.A

namespace Go.Proofs.YtofbcngcblleaaaGreat.A
open Go.RowKit Go.Maps

/-- an arena cleaned for a tenant: what it keeps is what some numbers are made of -/
def Ar.cleanP (A : Ar) (t : Nat) (rs : List Int) : Ar := A.lose t (idsF A.ths t (keepAll A.ths t rs) A.ths.length) []
theorem LevelP_any (b t : Nat) (F : Nat → Prop) (id : Int) (A : Ar) (w : World) (h : AtP w b F A) (hS : Sound A) (ht : t < 64) (hid : Fits id) :
    Calls Tryz.prog 30 #[.pointer (some ⟨b, 0, none⟩), .int .i64 t, .int .i64 id] w fun e w' => e = .returned (.tuple #[.int .i64 ((levelF A.ths t id).getD 0), .int .i64 (lack (levelF A.ths t id))]) ∧ Below w.heap.size w w' := by
  obtain ⟨L, r, D, h, _⟩ := h
  exact Level_any b 0 t id r A.ths w h.raw h.ths ht hS.mask hid
/-- what a tenant may have -/
def Ar.limP (A : Ar) (t : Nat) (n : Int) : Ar := { A with lim := upd A.lim t n }
theorem new_sound {room : Int} (h0 : 0 ≤ room) (h1 : room ≤ 200000) : Sound (arNew room) :=
  ⟨rfl, h0, h1, h0, fun _ h => (by cases h), fun _ h => (by cases h), fun _ h => (by cases h), fun _ h => (by cases h), fun _ h => (by cases h), fun i j x y hx => (by cases hx), fun _ _ => ⟨h0, Int.le_refl _⟩, fun _ _ => rfl, fun _ _ => ⟨List.nodup_nil, fun _ h => (by cases h)⟩⟩
theorem newP_any (room : Int) (w : World) (h0 : 0 ≤ room) (h1 : room ≤ 200000) :
    Calls Tryz.prog 27 #[.int .i64 room] w fun e w' => e = .returned (.tuple #[.pointer (some ⟨w.heap.size + 1, 0, none⟩), .int .i64 0]) ∧ (∃ F, (∀ k, F k → w.heap.size ≤ k) ∧ AtP w' (w.heap.size + 1) F (arNew room)) ∧ Below w.heap.size w w' := by
  refine (new_any room w h0 h1).mono ?_
  rintro e w' ⟨rfl, ⟨r, D, h⟩, hb⟩
  exact ⟨rfl, ⟨_, fun k hk => (by rcases hk with e | e; exact e.elim; exact e.1), [], r, D, h, List.Perm.refl _, fun k h0 hk => (by simp at hk)⟩, hb⟩
end Go.Proofs.YtofbcngcblleaaaGreat.A

namespace Go.Proofs.YtofbcngcblleaaaGreat.A
open Go.RowKit Go.Maps

def lsum (L : List Nat) (f : Nat → Int) : Int := (L.map f).sum
theorem lsum_cons (a : Nat) (L : List Nat) (f : Nat → Int) : lsum (a :: L) f = f a + lsum L f := by unfold lsum; rw [List.map_cons, List.sum_cons]
theorem lsum_add (L : List Nat) (f g : Nat → Int) : lsum L (fun u => f u + g u) = lsum L f + lsum L g := by
  induction L with
  | nil => rfl
  | cons a L ih => rw [lsum_cons, lsum_cons, lsum_cons, ih]; omega
theorem lsum_le {L : List Nat} {f g : Nat → Int} (h : ∀ u ∈ L, f u ≤ g u) : lsum L f ≤ lsum L g := by
  induction L with
  | nil => exact Int.le_refl _
  | cons a L ih =>
    rw [lsum_cons, lsum_cons]
    have := h a (by simp)
    have := ih fun u hu => h u (by simp [hu])
    omega
theorem lsum_lt {L : List Nat} {f g : Nat → Int} {t : Nat} (ht : t ∈ L) (h : ∀ u ∈ L, f u ≤ g u) (hlt : f t < g t) : lsum L f < lsum L g := by
  induction L with
  | nil => cases ht
  | cons a L ih =>
    rw [lsum_cons, lsum_cons]
    have h1 := h a (by simp)
    have h2 : lsum L f ≤ lsum L g := lsum_le fun u hu => h u (by simp [hu])
    rcases List.mem_cons.1 ht with e | e
    · subst e; omega
    · have := ih e fun u hu => h u (by simp [hu])
      omega
theorem lsum_one {L : List Nat} {f : Nat → Int} {t : Nat} (ht : t ∈ L) (h : ∀ u ∈ L, 0 ≤ f u) : f t ≤ lsum L f := by
  induction L with
  | nil => cases ht
  | cons a L ih =>
    rw [lsum_cons]
    have h1 := h a (by simp)
    have h2 : 0 ≤ lsum L f := by
      have := lsum_le (L := L) (f := fun _ => 0) (g := f) fun u hu => h u (List.mem_cons_of_mem _ hu)
      have z : ∀ M : List Nat, lsum M (fun _ => 0) = 0 := fun M => by
        induction M with
        | nil => rfl
        | cons a M ih => rw [lsum_cons, ih]; rfl
      rw [z] at this
      exact this
    rcases List.mem_cons.1 ht with e | e
    · subst e; omega
    · have := ih e fun u hu => h u (by simp [hu])
      omega
def tens : List Nat := List.range 64
def bit1 (x : Th) (u : Nat) : Int := if x.mask.testBit u = true then 1 else 0
theorem mask_bit {m : Nat} (h0 : m ≠ 0) (hm : m < 18446744073709551616) : ∃ u, u < 64 ∧ m.testBit u = true := by
  obtain ⟨u, hu⟩ := Nat.exists_testBit_of_ne_zero h0
  refine ⟨u, Nat.lt_of_not_le fun h => ?_, hu⟩
  rw [Nat.testBit_lt_two_pow (Nat.lt_of_lt_of_le (show m < 2 ^ 64 by simpa using hm) (Nat.pow_le_pow_right (by omega) h))] at hu
  cases hu
theorem live_own : ∀ (l : List Th), (∀ x ∈ l, x.mask < 18446744073709551616) → (liveN (swL l) : Int) ≤ lsum tens fun u => (ownN l u : Int)
  | [], _ => by
    show (0 : Int) ≤ lsum tens fun _ => 0
    decide
  | x :: l, hm => by
    have ih := live_own l fun y hy => hm y (by simp [hy])
    have e : (lsum tens fun u => (ownN (x :: l) u : Int)) = (lsum tens fun u => (ownN l u : Int)) + lsum tens (bit1 x) := by
      rw [← lsum_add]
      congr 1
      funext u
      unfold ownN bit1
      rw [List.countP_cons]
      split <;> simp
    rw [e]
    have e2 : liveN (swL (x :: l)) = liveN (swL l) + if (clrT x).k != 0 then 1 else 0 := by
      unfold liveN swL
      rw [List.map_cons, List.countP_cons]
    rw [e2]
    have h0 : 0 ≤ lsum tens (bit1 x) := Int.le_trans (show 0 ≤ bit1 x 0 by unfold bit1; split <;> decide) (lsum_one (by decide) fun u _ => by unfold bit1; split <;> decide)
    by_cases hk : (clrT x).k != 0
    · rw [if_pos hk]
      have hx0 : x.mask ≠ 0 := fun e0 => by
        have : (clrT x).k = 0 := by
          unfold clrT gone
          rw [e0]
          by_cases hx : x.k = 0
          · simp [hx]
          · simp [hx, noTh]
        rw [this] at hk
        simp at hk
      obtain ⟨u, hu, hb⟩ := mask_bit hx0 (hm x (by simp))
      have h1 : (1 : Int) ≤ lsum tens (bit1 x) := Int.le_trans (show 1 ≤ bit1 x u by unfold bit1; rw [if_pos hb]; decide) (lsum_one (by unfold tens; simpa using hu) fun u _ => by unfold bit1; split <;> decide)
      omega
    · rw [if_neg hk]
      omega
/-- what each tenant may have at most, so that there is room for all of it -/
structure Roomy (A : Ar) (q : Nat → Int) : Prop where
  le : ∀ u, u < 64 → A.cnt u ≤ q u
  sum : lsum tens q ≤ A.room
theorem roomy_live {A : Ar} (hS : Sound A) : (liveN A.swept.ths : Int) ≤ lsum tens A.cnt := by
  refine Int.le_trans (live_own A.ths hS.mask) (Int.le_of_eq ?_)
  have : ∀ L : List Nat, (∀ u ∈ L, u < 64) → lsum L (fun u => (ownN A.ths u : Int)) = lsum L A.cnt := fun L hL => by
    induction L with
    | nil => rfl
    | cons a L ih =>
      rw [lsum_cons, lsum_cons, ih fun u hu => hL u (by simp [hu]), hS.cnt a (hL a (by simp))]
  exact this tens fun u hu => by unfold tens at hu; simpa using hu
/-- there is room for a tenant that has less than it may -/
theorem roomy_not {A : Ar} {q : Nat → Int} {t : Nat} (hS : Sound A) (h : Roomy A q) (ht : t < 64) (hlt : A.cnt t < q t) : ¬ A.made.room ≤ (liveN A.made.ths : Int) := by
  have hr := (made_rest A).1
  unfold Ar.made at *
  by_cases h7 : A.room ≤ (liveN A.ths : Int)
  · rw [if_pos h7]
    have h1 := roomy_live hS
    have h2 : lsum tens A.cnt < lsum tens q := lsum_lt (t := t) (by unfold tens; simpa using ht) (fun u hu => h.le u (by unfold tens at hu; simpa using hu)) hlt
    have h3 := h.sum
    show ¬ A.room ≤ _
    omega
  · rw [if_neg h7]; exact h7
/-- what becomes of counts and limits -/
theorem beco_rest (A : Ar) (t : Nat) (x : Th) : (A.beco t x).1.lim = A.lim ∧ (A.beco t x).1.room = A.room ∧ (∀ u, u ≠ t → (A.beco t x).1.cnt u = A.cnt u) ∧ A.cnt t ≤ (A.beco t x).1.cnt t ∧ ((A.beco t x).1.cnt t ≤ A.lim t ∨ (A.beco t x).1.cnt t = A.cnt t) := by
  have g : ∀ (B : Ar) (i : Nat) (y : Th), A.cnt t < A.lim t → B.lim = A.lim → B.room = A.room → B.cnt = A.cnt → (B.give t i y).lim = A.lim ∧ (B.give t i y).room = A.room ∧ (∀ u, u ≠ t → (B.give t i y).cnt u = A.cnt u) ∧ A.cnt t ≤ (B.give t i y).cnt t ∧ ((B.give t i y).cnt t ≤ A.lim t ∨ (B.give t i y).cnt t = A.cnt t) := fun B i y hlt h1 h2 h3 => by
    refine ⟨h1, h2, fun u hu => ?_, ?_, ?_⟩
    · show upd B.cnt t (B.cnt t + 1) u = _
      unfold upd; rw [if_neg hu, h3]
    · show A.cnt t ≤ upd B.cnt t (B.cnt t + 1) t
      rw [upd_same, h3]; omega
    · left
      show upd B.cnt t (B.cnt t + 1) t ≤ _
      rw [upd_same, h3]; omega
  obtain ⟨m1, m2, m3, m4⟩ := made_rest A
  unfold Ar.beco
  cases hs : spotF A.ths x.key with
  | some i =>
    simp only
    split
    · exact ⟨rfl, rfl, fun _ _ => rfl, Int.le_refl _, .inr rfl⟩
    · split
      · exact ⟨rfl, rfl, fun _ _ => rfl, Int.le_refl _, .inr rfl⟩
      · rename_i hc
        exact g A i _ (by omega) rfl rfl rfl
  | none =>
    simp only
    split
    · exact ⟨rfl, rfl, fun _ _ => rfl, Int.le_refl _, .inr rfl⟩
    · rename_i hc
      split
      · exact ⟨m2, m1, fun u _ => by rw [m3], by rw [m3]; exact Int.le_refl _, .inr (by rw [m3])⟩
      · obtain ⟨l1, l2, l3, _⟩ := laid_rest A.made x
        exact g _ _ _ (by omega) (l2.trans m2) (l1.trans m1) (l3.trans m3)
theorem lose_rest (A : Ar) (t : Nat) (ids f : List Int) : (A.lose t ids f).lim = A.lim ∧ (A.lose t ids f).room = A.room := ⟨(takes_rest A t ids).2.1, (takes_rest A t ids).2.2.1⟩
theorem join_sound {A : Ar} {t : Nat} {q0 q1 q2 q3 : Int} (hS : Sound A) (ht : t < 64) (h0 : Fits q0) (h1 : Fits q1) (h2 : Fits q2) (h3 : Fits q3) : Sound (A.joinP t q0 q1 q2 q3).1 := by
  unfold Ar.joinP
  split
  · rename_i hj
    refine beco_sound hS ht ?_ fits_zero rfl (by show (1 : Int) ≠ 0; omega) ⟨⟨by show (_ : Int) ≤ 1; omega, by show (1 : Int) ≤ _; omega⟩, h0, h1, h2, h3⟩
    show 0 ≤ (joinE A t q0 q1 q2 q3).2 + 1 ∧ (joinE A t q0 q1 q2 q3).2 + 1 ≤ 44
    revert hj
    unfold joinE joinL
    split
    · rename_i a b c d ha _ _ _
      split
      · intro _
        have := level_lo hS ha
        show 0 ≤ a + 1 ∧ a + 1 ≤ 44
        omega
      · intro h; cases h
    · intro h; cases h
  · exact hS
theorem note_sound {A : Ar} {t : Nat} {s r j v : Int} (hS : Sound A) (ht : t < 64) (hs : Fits s) (hr : Fits r) (hj : Fits j) (hv : Fits v) : Sound (A.noteP t s r j v).1 := by
  unfold Ar.noteP
  split
  · split
    · exact hS
    · exact beco_sound hS ht (by show (0 : Int) ≤ 0 ∧ (0 : Int) ≤ 44; decide) hv rfl (by show (2 : Int) ≠ 0; omega) (nkey_fit hs hr hj)
  · exact hS
end Go.Proofs.YtofbcngcblleaaaGreat.A

namespace Go.Proofs.YtofbcngcblleaaaGreat.A
open Go.RowKit Go.Maps

/-- a thing, whosever it is -/
def Th.face (x : Th) : Ky × Int × Int := (x.key, x.lv, x.va)
/-- a tenant's own thing of a number -/
def ownV (l : List Th) (u : Nat) (id : Int) : Option (Ky × Int × Int) := (ownF l u id).map Th.face
theorem ownF_iff {l : List Th} {u : Nat} {id : Int} {x : Th} : ownF l u id = some x ↔ 2 ≤ id ∧ l[(id - 2).toNat]? = some x ∧ x.mask.testBit u = true := by
  unfold ownF
  by_cases h : 2 ≤ id
  · rw [if_pos h, Option.filter_eq_some_iff]
    exact ⟨fun k => ⟨h, k.1, k.2⟩, fun k => ⟨k.2.1, k.2.2⟩⟩
  · rw [if_neg h]
    exact ⟨fun k => (by cases k), fun k => absurd k.1 h⟩
theorem ownV_iff {l : List Th} {u : Nat} {id : Int} {f : Ky × Int × Int} : ownV l u id = some f ↔ 2 ≤ id ∧ ∃ x, l[(id - 2).toNat]? = some x ∧ x.mask.testBit u = true ∧ x.face = f := by
  unfold ownV
  rw [Option.map_eq_some_iff]
  constructor
  · rintro ⟨x, h, e⟩
    obtain ⟨h1, h2, h3⟩ := ownF_iff.1 h
    exact ⟨h1, x, h2, h3, e⟩
  · rintro ⟨h1, x, h2, h3, e⟩
    exact ⟨x, ownF_iff.2 ⟨h1, h2, h3⟩, e⟩
theorem ownV_ext {l l' : List Th} {u : Nat} {id : Int} (h : ∀ f, ownV l u id = some f ↔ ownV l' u id = some f) : ownV l u id = ownV l' u id := by
  cases e : ownV l u id with
  | some f => exact ((h f).1 e).symm
  | none =>
    cases e' : ownV l' u id with
    | none => rfl
    | some f => rw [(h f).2 e'] at e; cases e
/-- the level of a number, to a tenant -/
def levV (V : Int → Option (Ky × Int × Int)) (id : Int) : Option Int := if id = 0 ∨ id = 1 then some 0 else match V id with | some f => if f.1.k = 1 then some f.2.1 else none | none => none
theorem levelF_V (l : List Th) (u : Nat) (id : Int) : levelF l u id = levV (ownV l u) id := by
  unfold levelF levV ownV
  by_cases h : id = 0 ∨ id = 1
  · rw [if_pos h, if_pos h]
  · rw [if_neg h, if_neg h]
    cases ownF l u id with
    | none => rfl
    | some x => rfl
theorem ownV_swept (l : List Th) (u : Nat) (id : Int) : ownV (swL l) u id = ownV l u id := by
  refine ownV_ext fun f => ?_
  rw [ownV_iff, ownV_iff]
  constructor
  · rintro ⟨h1, x, h2, h3, h4⟩
    rw [swL_get, Option.map_eq_some_iff] at h2
    obtain ⟨y, h5, rfl⟩ := h2
    cases hg : gone y with
    | false => rw [clrT_keep hg] at h3 h4; exact ⟨h1, y, h5, h3, h4⟩
    | true => rw [clrT_gone hg] at h3; simp [noTh] at h3
  · rintro ⟨h1, x, h2, h3, h4⟩
    exact ⟨h1, x, by rw [swL_get, h2, Option.map_some, clrT_keep (own_not_gone h3)], h3, h4⟩
theorem ownV_made (A : Ar) (u : Nat) (id : Int) : ownV A.made.ths u id = ownV A.ths u id := by
  unfold Ar.made
  split
  · exact ownV_swept _ _ _
  · rfl
theorem ownV_laid {A : Ar} {x : Th} (hS : Sound A) (hx : x.mask = 0) (u : Nat) (id : Int) : ownV (A.laid x).1.ths u id = ownV A.ths u id := by
  refine ownV_ext fun f => ?_
  rw [ownV_iff, ownV_iff]
  constructor
  · rintro ⟨h1, y, h2, h3, h4⟩
    rcases laid_back A x _ y h2 with ⟨_, e⟩ | ⟨_, e⟩
    · subst e; rw [hx] at h3; simp at h3
    · exact ⟨h1, y, e, h3, h4⟩
  · rintro ⟨h1, y, h2, h3, h4⟩
    refine ⟨h1, y, (laid_other A x _ y h2 fun e => ?_).1, h3, h4⟩
    rw [hS.zero y (List.mem_of_getElem? h2) e] at h3
    simp [noTh] at h3
theorem ownV_give {A : Ar} {t i : Nat} {x : Th} (hx : A.ths[i]? = some x) (u : Nat) (id : Int) : ownV (A.give t i x).ths u id = if u = t ∧ id = (i : Int) + 2 then some x.face else ownV A.ths u id := by
  have hi := (List.getElem?_eq_some_iff.1 hx).1
  have hget : ∀ j : Nat, (A.give t i x).ths[j]? = if i = j then some { x with mask := x.mask ||| bitN t } else A.ths[j]? := fun j => by
    show (A.ths.set i _)[j]? = _
    rw [List.getElem?_set]
    by_cases e : i = j
    · subst e; simp [hi]
    · simp [e]
  by_cases h : u = t ∧ id = (i : Int) + 2
  · rw [if_pos h]
    obtain ⟨rfl, rfl⟩ := h
    refine ownV_iff.2 ⟨by omega, { x with mask := x.mask ||| bitN u }, ?_, ?_, rfl⟩
    · rw [hget, if_pos (by omega)]
    · simp [Nat.testBit_or, bitN]
  · rw [if_neg h]
    refine ownV_ext fun f => ?_
    rw [ownV_iff, ownV_iff, hget]
    by_cases e : i = (id - 2).toNat
    · rw [if_pos e, ← e, hx]
      constructor
      · rintro ⟨h1, y, h2, h3, h4⟩
        obtain rfl := Option.some.inj h2
        refine ⟨h1, x, rfl, ?_, h4⟩
        simp only [Nat.testBit_or, Bool.or_eq_true] at h3
        rcases h3 with h3 | h3
        · exact h3
        · unfold bitN at h3
          rw [Nat.testBit_two_pow, decide_eq_true_eq] at h3
          exact absurd ⟨h3.symm, by omega⟩ h
      · rintro ⟨h1, y, h2, h3, h4⟩
        obtain rfl := Option.some.inj h2
        exact ⟨h1, _, rfl, by simp [Nat.testBit_or, h3], h4⟩
    · rw [if_neg e]
theorem ownV_lose {A : Ar} {t : Nat} {ids f : List Int} (hS : Sound A) (ht : t < 64) (h : OwnIds A.ths t ids) (u : Nat) (id : Int) : ownV (A.lose t ids f).ths u id = if u = t ∧ id ∈ ids then none else ownV A.ths u id := by
  have key : ∀ g, ownV (A.lose t ids f).ths u id = some g ↔ ownV A.ths u id = some g ∧ ¬ (u = t ∧ id ∈ ids) := fun g => by
    rw [ownV_iff, ownV_iff]
    constructor
    · rintro ⟨h1, y, h2, h3, h4⟩
      obtain ⟨x, hx, e1, e2, e3, _, e5⟩ := takes_back ht h hS.mask h2
      obtain ⟨k1, k2⟩ := (e5 u).1 h3
      rw [show (((id - 2).toNat : Nat) : Int) + 2 = id by omega] at k2
      exact ⟨⟨h1, x, hx, k1, by rw [← h4]; unfold Th.face; rw [e1, e2, e3]⟩, k2⟩
    · rintro ⟨⟨h1, x, hx, h3, h4⟩, hn⟩
      obtain ⟨y, y1, e1, e2, e3, _, e5⟩ := takes_get t ht ids A (fun k hk => by
        obtain ⟨a, z, hz, _⟩ := h.2 k hk
        exact ⟨a, (List.getElem?_eq_some_iff.1 hz).1⟩) hS.mask _ x hx
      refine ⟨h1, y, y1, (e5 u).2 ⟨h3, ?_⟩, by rw [← h4]; unfold Th.face; rw [e1, e2, e3]⟩
      rw [show (((id - 2).toNat : Nat) : Int) + 2 = id by omega]
      exact hn
  by_cases c : u = t ∧ id ∈ ids
  · rw [if_pos c]
    cases e : ownV (A.lose t ids f).ths u id with
    | none => rfl
    | some g => exact absurd c ((key g).1 e).2
  · rw [if_neg c]
    exact ownV_ext fun g => ⟨fun e => ((key g).1 e).1, fun e => (key g).2 ⟨e, c⟩⟩
/-- what a tenant sees -/
structure Vw where
  V : Int → Option (Ky × Int × Int)
  cnt : Int
  lim : Int
  fresh : List Int
def view (A : Ar) (u : Nat) : Vw := ⟨ownV A.ths u, A.cnt u, A.lim u, A.fresh u⟩
theorem view_ext {A B : Ar} {u : Nat} (h1 : ∀ id, ownV A.ths u id = ownV B.ths u id) (h2 : A.cnt u = B.cnt u) (h3 : A.lim u = B.lim u) (h4 : A.fresh u = B.fresh u) : view A u = view B u := by
  unfold view
  rw [h2, h3, h4, show ownV A.ths u = ownV B.ths u from funext h1]
/-- what a tenant sees, with a thing more -/
def Vw.more (v : Vw) (id : Int) (f : Ky × Int × Int) : Vw := ⟨fun k => if k = id then some f else v.V k, v.cnt + 1, v.lim, v.fresh ++ [id]⟩
/-- what a tenant sees, with things less -/
def Vw.less (v : Vw) (ids f : List Int) : Vw := ⟨fun k => if k ∈ ids then none else v.V k, v.cnt - (ids.length : Int), v.lim, f⟩
theorem view_made (A : Ar) (u : Nat) : view A.made u = view A u := by
  obtain ⟨_, m2, m3, m4⟩ := made_rest A
  exact view_ext (fun id => ownV_made A u id) (by rw [m3]) (by rw [m2]) (by rw [m4])
theorem view_lose {A : Ar} {t : Nat} {ids f : List Int} (hS : Sound A) (ht : t < 64) (h : OwnIds A.ths t ids) : view (A.lose t ids f) t = (view A t).less ids f ∧ ∀ u, u ≠ t → view (A.lose t ids f) u = view A u := by
  refine ⟨?_, fun u hu => ?_⟩
  · unfold view Vw.less
    have e1 : (A.lose t ids f).cnt t = A.cnt t - (ids.length : Int) := by show (A.takes t ids).cnt t = _; rw [takes_cnt, upd_same]
    have e2 : (A.lose t ids f).fresh t = f := upd_same _ _ _
    rw [e1, e2, (lose_rest A t ids f).1]
    congr 1
    funext id
    rw [ownV_lose hS ht h]
    simp
  · refine view_ext (fun id => by rw [ownV_lose hS ht h, if_neg fun e => hu e.1]) ?_ (by rw [(lose_rest A t ids f).1]) ?_
    · show (A.takes t ids).cnt u = _
      rw [takes_cnt]; unfold upd; rw [if_neg hu]
    · show upd A.fresh t f u = _
      unfold upd; rw [if_neg hu]
theorem view_give {A : Ar} {t i : Nat} {x : Th} (hx : A.ths[i]? = some x) : view (A.give t i x) t = (view A t).more ((i : Int) + 2) x.face ∧ ∀ u, u ≠ t → view (A.give t i x) u = view A u := by
  refine ⟨?_, fun u hu => view_ext (fun id => by rw [ownV_give hx, if_neg fun e => hu e.1]) ?_ rfl ?_⟩
  · unfold view Vw.more
    have e1 : (A.give t i x).cnt t = A.cnt t + 1 := upd_same _ _ _
    have e2 : (A.give t i x).fresh t = A.fresh t ++ [(i : Int) + 2] := upd_same _ _ _
    rw [e1, e2]
    congr 1
    funext id
    rw [ownV_give hx]
    simp
  · show upd A.cnt t _ u = _
    unfold upd; rw [if_neg hu]
  · show upd A.fresh t _ u = _
    unfold upd; rw [if_neg hu]
/-- how a thing becomes a tenant's own, as it sees it; never for want of room -/
theorem beco_view {A : Ar} {t : Nat} {x : Th} (hS : Sound A) (_ht : t < 64) (hk : x.k ≠ 0) (hx : x.mask = 0) (hfull : (A.beco t x).2.2 ≠ 5) (hface : ∀ (i : Nat) (y : Th), A.ths[i]? = some y → y.key = x.key → y.lv = x.lv ∧ y.va = x.va) :
    (∃ id, ownV A.ths t id = some x.face ∧ A.beco t x = (A, id, 0)) ∨ ((∀ id f, ownV A.ths t id = some f → f.1 ≠ x.key) ∧ ((A.lim t ≤ A.cnt t ∧ A.beco t x = (A, 0, 9)) ∨
      (A.cnt t < A.lim t ∧ ∃ id, 2 ≤ id ∧ ownV A.ths t id = none ∧ (A.beco t x).2 = (id, 0) ∧ view (A.beco t x).1 t = (view A t).more id x.face ∧ ∀ u, u ≠ t → view (A.beco t x).1 u = view A u))) := by
  unfold Ar.beco at hfull ⊢
  cases hs : spotF A.ths x.key with
  | some i =>
    rw [hs] at hfull
    simp only at hfull ⊢
    obtain ⟨y, h1, h2, h3⟩ := spot_at hs
    obtain ⟨f1, f2⟩ := hface i y h1 h2
    have hface' : y.face = x.face := by unfold Th.face; rw [h2, f1, f2]
    rw [h3] at hfull ⊢
    by_cases hb : y.mask.testBit t = true
    · rw [if_pos hb]
      exact .inl ⟨(i : Int) + 2, ownV_iff.2 ⟨by omega, y, by rw [show (((i : Int) + 2 - 2).toNat) = i by omega]; exact h1, hb, hface'⟩, rfl⟩
    · rw [if_neg hb]
      have hno : ∀ id f, ownV A.ths t id = some f → f.1 ≠ x.key := fun id f hf e => by
        obtain ⟨g1, z, g2, g3, g4⟩ := ownV_iff.1 hf
        have hzk : z.key = x.key := by rw [← e, ← g4]; rfl
        have := hS.uniq _ i z y g2 h1 (by rw [key_k hzk]; exact hk) (hzk.trans h2.symm)
        rw [this, h1] at g2
        obtain rfl := Option.some.inj g2
        exact hb g3
      refine .inr ⟨hno, ?_⟩
      by_cases hq : A.lim t ≤ A.cnt t
      · rw [if_pos hq]; exact .inl ⟨hq, rfl⟩
      · rw [if_neg hq]
        refine .inr ⟨by omega, (i : Int) + 2, by omega, ?_, rfl, ?_, (view_give h1).2⟩
        · cases e : ownV A.ths t ((i : Int) + 2) with
          | none => rfl
          | some f =>
            obtain ⟨_, z, g2, g3, _⟩ := ownV_iff.1 e
            rw [show (((i : Int) + 2 - 2).toNat) = i by omega, h1] at g2
            obtain rfl := Option.some.inj g2
            exact absurd g3 hb
        · rw [← hface']; exact (view_give h1).1
  | none =>
    rw [hs] at hfull
    simp only at hfull ⊢
    have hno : ∀ id f, ownV A.ths t id = some f → f.1 ≠ x.key := fun id f hf e => by
      obtain ⟨g1, z, g2, g3, g4⟩ := ownV_iff.1 hf
      exact spot_none hs z (List.mem_of_getElem? g2) (by rw [← e, ← g4]; rfl)
    refine .inr ⟨hno, ?_⟩
    by_cases hq : A.lim t ≤ A.cnt t
    · rw [if_pos hq]; exact .inl ⟨hq, rfl⟩
    · rw [if_neg hq] at hfull ⊢
      by_cases hr : A.made.room ≤ (liveN A.made.ths : Int)
      · rw [if_pos hr] at hfull; exact absurd rfl hfull
      · rw [if_neg hr]
        have hSm := made_sound hS
        have hat := laid_at A.made x
        have hvl : ∀ u, view (A.made.laid x).1 u = view A u := fun u => by
          obtain ⟨_, l2, l3, l4, _⟩ := laid_rest A.made x
          rw [← view_made A u]
          exact view_ext (fun id => ownV_laid hSm hx u id) (by rw [l3]) (by rw [l2]) (by rw [l4])
        refine .inr ⟨by omega, ((A.made.laid x).2 : Int) + 2, by omega, ?_, rfl, ?_, fun u hu => by rw [(view_give hat).2 u hu, hvl]⟩
        · cases e : ownV A.ths t (((A.made.laid x).2 : Int) + 2) with
          | none => rfl
          | some f =>
            have e2 : ownV (A.made.laid x).1.ths t (((A.made.laid x).2 : Int) + 2) = some f := by
              have := congrArg Vw.V (hvl t)
              exact (congrFun this _).trans e
            obtain ⟨_, z, g2, g3, _⟩ := ownV_iff.1 e2
            rw [show ((((A.made.laid x).2 : Int) + 2 - 2).toNat) = (A.made.laid x).2 by omega, hat] at g2
            obtain rfl := Option.some.inj g2
            rw [hx] at g3
            simp at g3
        · rw [(view_give hat).1, hvl]
end Go.Proofs.YtofbcngcblleaaaGreat.A

namespace Go.Proofs.YtofbcngcblleaaaGreat.A
open Go.RowKit Go.Maps

/-- what a thing is made of, or speaks of -/
def refsV (f : Ky × Int × Int) : List Int := if f.1.k = 1 then [f.1.p0, f.1.p1, f.1.p2, f.1.p3] else [f.1.p0, f.2.2]
def partsT (x : Th) : List Int := [x.p0, x.p1, x.p2, x.p3]
/-- what can be reached from some numbers, over own squares -/
inductive Rch (V : Int → Option (Ky × Int × Int)) (rs : List Int) : Int → Prop
  | root {id : Int} {f : Ky × Int × Int} : id ∈ rs → V id = some f → f.1.k = 1 → Rch V rs id
  | part {id r : Int} {f g : Ky × Int × Int} : Rch V rs id → V id = some f → r ∈ refsV f → V r = some g → g.1.k = 1 → Rch V rs r
/-- marked, and all that it is made of, but for G -/
def KC (l : List Th) (t : Nat) (K : List Bool) (G : List Nat) : Prop := ∀ (j : Nat) (x : Th), Mk K j → j ∉ G → ownSq l t ((j : Int) + 2) = some x → ∀ r ∈ partsT x, (ownSq l t r).isSome = true → Mk K (r - 2).toNat
end Go.Proofs.YtofbcngcblleaaaGreat.A
