/- The plain store: Join. -/
import Derived.Test.YtfogedmghhacdaaRsGive
import Derived.Test.YtfogedmghhacdaaRsPure3
namespace Go.Proofs.Ytfogedmghhacdaa.A
open Go.RowKit Go.Maps

theorem giveA_any (b t : Nat) (G : Nat → Prop) (A : Ar) (x : Th) (w : World) (h : StAt w b G (St.of A)) (hS : Sound A) (ht : t < 64) (hk : x.k ≠ 0) (hm : x.mask = 0) :
    Calls Try.prog 52 #[.pointer (some ⟨b, 0, none⟩), .int .i64 t, (wantRt x).val] w fun e w' => e = .returned (.tuple #[.int .i64 (A.beco t x).2.1, .int .i64 (A.beco t x).2.2]) ∧ LedS w b G (St.of (A.beco t x).1) w' := by
  have hg := giveS_any b t (firstNo A.made.ths) G (St.of A) (wantRt x) w h (of_tame hS) ht ⟨rfl, hm⟩ (ref_onekey hS.uniq) (by
      have h1 := hS.freshLe ht
      have h2 := hS.len
      have h3 := hS.room1
      show (A.fresh t).length < 900000
      omega) (by rw [made_ref]; exact (first_ids _).1) (by rw [made_ref]; exact (first_ids _).2)
  unfold GiveOut at hg
  rw [give_ref hS ht x hk hm] at hg
  exact hg
theorem owned_none {l : List Th} (hz : ∀ x ∈ l, x.k = 0 → x = noTh) {t : Nat} {id : Int} (h : ownedF (refL 0 l) t id 0 = none) : levelF l t id = none := by
  have := (level_ref hz t id).2
  rw [h] at this
  cases hl : levelF l t id with
  | none => rfl
  | some a => rw [hl] at this; cases this
theorem owned_some {l : List Th} (hz : ∀ x ∈ l, x.k = 0 → x = noTh) {t : Nat} {id : Int} {y : Rt} (h : ownedF (refL 0 l) t id 0 = some y) : levelF l t id = some y.lv := by
  have h1 := (level_ref hz t id).2
  have h2 := (level_ref hz t id).1
  rw [h] at h1 h2
  cases hl : levelF l t id with
  | none => rw [hl] at h1; cases h1
  | some a => rw [hl] at h2; exact congrArg some h2.symm
/-- Join midway: the quarters' block, the levels' slice -/
structure JR (w W : World) (q0 q1 q2 q3 : Int) (sv : Value) (L : List Int) : Prop where
  bel : Below w.heap.size w W
  hq : W.heap[w.heap.size]? = some (.cells #[.int .i64 q0, .int .i64 q1, .int .i64 q2, .int .i64 q3] 35 (0, 0))
  row : W.ownsRow (w.heap.size + 1) 3 1 sv L.length (L.map (Value.int .i64))
section
variable {w W W' : World} {q0 q1 q2 q3 : Int} {sv sv' : Value} {L : List Int}
theorem JR.born (w : World) (q0 q1 q2 q3 : Int) : JR w (w.alloc (.cells #[.int .i64 q0, .int .i64 q1, .int .i64 q2, .int .i64 q3] 35)) q0 q1 q2 q3 (.slice none 0 0) [] :=
  ⟨(Below.refl _ _).alloc (Nat.le_refl _) _, heap_alloc_new w _, World.ownsRow_nil _ _ _ _⟩
theorem JR.lt (h : JR w W q0 q1 q2 q3 sv L) : w.heap.size < W.heap.size := (Array.getElem?_eq_some_iff.1 h.hq).1
theorem JR.go (h : JR w W q0 q1 q2 q3 sv L) (hb : Below W.heap.size W W') : JR w W' q0 q1 q2 q3 sv L :=
  ⟨h.bel.trans (hb.mono h.bel.size), (hb.block _ h.lt).trans h.hq, row_other h.row fun k hk => hb.block k (h.row.lt k hk).2⟩
theorem JR.push (h : JR w W q0 q1 q2 q3 sv L) {z : Int} (hown : W'.ownsRow (w.heap.size + 1) 3 1 sv' (L.length + 1) (L.map (Value.int .i64) ++ [.int .i64 z])) (hgrow : W.grownBy W' sv.ownBlock) : JR w W' q0 q1 q2 q3 sv' (L ++ [z]) := by
  have hlt := h.lt
  refine ⟨h.bel.grown hgrow (by omega) fun g hg => by have := (h.row.lt g hg).1; omega, (hgrow.block _ hlt fun e => by have := (h.row.lt _ e.symm).1; omega).trans h.hq, ?_⟩
  rw [List.length_append, List.map_append]
  exact hown
theorem JR.cells (h : JR w W q0 q1 q2 q3 sv L) : W.cell? ⟨w.heap.size, 0, none⟩ = some (.int .i64 q0) ∧ W.cell? ⟨w.heap.size, 1, none⟩ = some (.int .i64 q1) ∧ W.cell? ⟨w.heap.size, 2, none⟩ = some (.int .i64 q2) ∧ W.cell? ⟨w.heap.size, 3, none⟩ = some (.int .i64 q3) :=
  ⟨Lib.cell_of_heap h.hq 0, Lib.cell_of_heap h.hq 1, Lib.cell_of_heap h.hq 2, Lib.cell_of_heap h.hq 3⟩
end
def JoinSOut (A : Ar) (t : Nat) (q0 q1 q2 q3 : Int) (b : Nat) (G : Nat → Prop) (w : World) (e : Ending) (w' : World) : Prop :=
  e = .returned (.tuple #[.int .i64 (A.joinP t q0 q1 q2 q3).2.1, .int .i64 (A.joinP t q0 q1 q2 q3).2.2]) ∧ LedS w b G (St.of (A.joinP t q0 q1 q2 q3).1) w'
theorem JoinSOut.bad {A : Ar} {t : Nat} {q0 q1 q2 q3 : Int} {b : Nat} {G : Nat → Prop} {w w' : World} {e : Ending} {c : Int} (hA : StAt w b G (St.of A)) (hc : c ≠ 0) (h : joinE A t q0 q1 q2 q3 = (c, 0)) (he : e = .returned (.tuple #[.int .i64 0, .int .i64 c])) (hb : Below w.heap.size w w') : JoinSOut A t q0 q1 q2 q3 b G w e w' := by
  unfold JoinSOut Ar.joinP
  rw [h, if_neg hc]
  exact ⟨he, LedS.of_below hA hb⟩

set_option maxRecDepth 20000 in
set_option maxHeartbeats 8000000 in
theorem joinS_any (b t : Nat) (q0 q1 q2 q3 : Int) (G : Nat → Prop) (A : Ar) (w : World) (h : StAt w b G (St.of A)) (hS : Sound A) (ht : t < 64) :
    Calls Try.prog 25 #[.pointer (some ⟨b, 0, none⟩), .int .i64 t, quad4 q0 q1 q2 q3] w (JoinSOut A t q0 q1 q2 q3 b G w) := by
  have hi := fun W => person_yes t ht W
  have hov := fun W (hW : StAt W b G (St.of A)) id => ownedS_any b t id G (St.of A) W hW (of_tame hS) ht
  have HZ : Hid (∀ x ∈ A.ths, x.k = 0 → x = noTh) := hS.zero
  have HLO : Hid (∀ q l, levelF A.ths t q = some l → 0 ≤ l ∧ l ≤ 44) := fun q l hl => level_lo hS hl
  have HGV : Hid (∀ W (l : Int), StAt W b G (St.of A) → _) := fun W l hW => giveA_any b t G A (sqTh q0 q1 q2 q3 l) W hW hS ht (by show (1 : Int) ≠ 0; omega) rfl
  have HA : Hid (StAt w b G (St.of A)) := h
  have S := JR.born w q0 q1 q2 q3
  have hJE : Hid (joinE A t q0 q1 q2 q3 = joinL (levelF A.ths t q0) (levelF A.ths t q1) (levelF A.ths t q2) (levelF A.ths t q3)) := rfl
  generalize hPost : JoinSOut A t q0 q1 q2 q3 b G w = Post
  have HP : Hid (JoinSOut A t q0 q1 q2 q3 b G w = Post) := hPost
  obtain ⟨i9, hi9, hz0, hz1, hz2⟩ := info_parts Try.info3
  clear hPost hS
  unfold quad4
  go_enter Try.func25, Try.ntmps25
  go_wp2_with fail
  refine (hi _).mono ?_
  rintro e w0 ⟨rfl, rfl⟩
  have a0 := Try.at0 (.int .i64 q0) (.int .i64 q1) (.int .i64 q2) (.int .i64 q3)
  have a1 := Try.at1 (.int .i64 q0) (.int .i64 q1) (.int .i64 q2) (.int .i64 q3)
  have a2 := Try.at2 (.int .i64 q0) (.int .i64 q1) (.int .i64 q2) (.int .i64 q3)
  have a3 := Try.at3 (.int .i64 q0) (.int .i64 q1) (.int .i64 q2) (.int .i64 q3)
  obtain ⟨k0, k1, k2, k3⟩ := S.cells
  go_wp2_with fail
  generalize w.alloc (.cells #[.int .i64 q0, .int .i64 q1, .int .i64 q2, .int .i64 q3] 35) = W0 at *
  clear k0 k1 k2 k3
  refine wp_loop_rounds 5 ?_
  rw [rounds_succ]
  go_wp2_with fail
  refine (hov _ (h.below S.bel) q0).mono ?_
  rintro e w0x ⟨rfl, hbk⟩
  have S := S.go hbk
  clear hbk
  cases hok : ownedF (St.of A).ths t q0 0 with
  | none =>
    have HLN : Hid (levelF A.ths t q0 = none) := owned_none HZ.out hok
    clear hok
    simp only [Option.getD_none, Option.isSome_none, noRt, Rt.val]
    go_wp2_with fail
    rw [← HP.out]
    exact JoinSOut.bad HA.out (by decide) (hJE.out.trans (by rw [HLN.out]; exact joinL0 _ _ _)) rfl (S.bel.alloc S.bel.size _)
  | some y0 =>
  have HL0 : Hid (levelF A.ths t q0 = some y0.lv) := owned_some HZ.out hok
  clear hok
  simp only [Option.getD_some, Option.isSome_some, Rt.val]
  have HS0 : Hid (JR w w0x q0 q1 q2 q3 (.slice none 0 0) []) := S
  clear S
  go_wp2_with (at_builtin; refine wpList_append_own _ rfl _ _ 31 rfl (w.heap.size + 1) 3 i9 (.int .i64 0) 1 8 Try.underlying31 hi9 hz0 hz1 hz2 rfl (by decide) (.slice none 0 0) 0 [] rfl ((World.ownsRow.alloc HS0.out.row _).alloc _) ⟨w0x.heap.size + 1, 0, none⟩ 1 1 [.int .i64 y0.lv] rfl rfl ?c1 ?c2 ?c3 ?c4 ?c5 ?_)
  case c1 =>
    intro j u hj
    match j, hj with
    | 0, hj => simp at hj; subst hj; simp [Addr.add]
  case c2 => intro u hu; simp at hu; subst hu; rfl
  case c3 => unfold maxLen; omega
  case c4 => omega
  case c5 => have := HS0.out.lt; simp; omega
  intro sv0 W1 hown0 hgrow0 _
  have S : JR w W1 q0 q1 q2 q3 sv0 [y0.lv] := ((HS0.out.go ((Below.refl _ _).alloc (Nat.le_refl _) _)).go ((Below.refl _ _).alloc (Nat.le_refl _) _)).push hown0 hgrow0
  clear hown0 hgrow0 HS0
  go_wp2_with fail
  rw [rounds_succ]
  go_wp2_with fail
  refine (hov _ (h.below S.bel) q1).mono ?_
  rintro e w1x ⟨rfl, hbk⟩
  have S := S.go hbk
  clear hbk
  cases hok : ownedF (St.of A).ths t q1 0 with
  | none =>
    have HLN : Hid (levelF A.ths t q1 = none) := owned_none HZ.out hok
    clear hok
    simp only [Option.getD_none, Option.isSome_none, noRt, Rt.val]
    go_wp2_with fail
    rw [← HP.out]
    exact JoinSOut.bad HA.out (by decide) (hJE.out.trans (by rw [HLN.out]; exact joinL1 _ _ _)) rfl (S.bel.alloc S.bel.size _)
  | some y1 =>
  have HL1 : Hid (levelF A.ths t q1 = some y1.lv) := owned_some HZ.out hok
  clear hok
  simp only [Option.getD_some, Option.isSome_some, Rt.val]
  have HS1 : Hid (JR w w1x q0 q1 q2 q3 sv0 [y0.lv]) := S
  clear S
  go_wp2_with (at_builtin; refine wpList_append_own _ rfl _ _ 31 rfl (w.heap.size + 1) 3 i9 (.int .i64 0) 1 8 Try.underlying31 hi9 hz0 hz1 hz2 rfl (by decide) sv0 1 [.int .i64 y0.lv] rfl ((World.ownsRow.alloc HS1.out.row _).alloc _) ⟨w1x.heap.size + 1, 0, none⟩ 1 1 [.int .i64 y1.lv] rfl rfl ?c1 ?c2 ?c3 ?c4 ?c5 ?_)
  case c1 =>
    intro j u hj
    match j, hj with
    | 0, hj => simp at hj; subst hj; simp [Addr.add]
  case c2 => intro u hu; simp at hu; subst hu; rfl
  case c3 => unfold maxLen; omega
  case c4 => omega
  case c5 => have := HS1.out.lt; simp; omega
  intro sv1 W2 hown1 hgrow1 _
  have S : JR w W2 q0 q1 q2 q3 sv1 [y0.lv, y1.lv] := ((HS1.out.go ((Below.refl _ _).alloc (Nat.le_refl _) _)).go ((Below.refl _ _).alloc (Nat.le_refl _) _)).push hown1 hgrow1
  clear hown1 hgrow1 HS1
  go_wp2_with fail
  rw [rounds_succ]
  go_wp2_with fail
  refine (hov _ (h.below S.bel) q2).mono ?_
  rintro e w2x ⟨rfl, hbk⟩
  have S := S.go hbk
  clear hbk
  cases hok : ownedF (St.of A).ths t q2 0 with
  | none =>
    have HLN : Hid (levelF A.ths t q2 = none) := owned_none HZ.out hok
    clear hok
    simp only [Option.getD_none, Option.isSome_none, noRt, Rt.val]
    go_wp2_with fail
    rw [← HP.out]
    exact JoinSOut.bad HA.out (by decide) (hJE.out.trans (by rw [HLN.out]; exact joinL2 _ _ _)) rfl (S.bel.alloc S.bel.size _)
  | some y2 =>
  have HL2 : Hid (levelF A.ths t q2 = some y2.lv) := owned_some HZ.out hok
  clear hok
  simp only [Option.getD_some, Option.isSome_some, Rt.val]
  have HS2 : Hid (JR w w2x q0 q1 q2 q3 sv1 [y0.lv, y1.lv]) := S
  clear S
  go_wp2_with (at_builtin; refine wpList_append_own _ rfl _ _ 31 rfl (w.heap.size + 1) 3 i9 (.int .i64 0) 1 8 Try.underlying31 hi9 hz0 hz1 hz2 rfl (by decide) sv1 2 [.int .i64 y0.lv, .int .i64 y1.lv] rfl ((World.ownsRow.alloc HS2.out.row _).alloc _) ⟨w2x.heap.size + 1, 0, none⟩ 1 1 [.int .i64 y2.lv] rfl rfl ?c1 ?c2 ?c3 ?c4 ?c5 ?_)
  case c1 =>
    intro j u hj
    match j, hj with
    | 0, hj => simp at hj; subst hj; simp [Addr.add]
  case c2 => intro u hu; simp at hu; subst hu; rfl
  case c3 => unfold maxLen; omega
  case c4 => omega
  case c5 => have := HS2.out.lt; simp; omega
  intro sv2 W3 hown2 hgrow2 _
  have S : JR w W3 q0 q1 q2 q3 sv2 [y0.lv, y1.lv, y2.lv] := ((HS2.out.go ((Below.refl _ _).alloc (Nat.le_refl _) _)).go ((Below.refl _ _).alloc (Nat.le_refl _) _)).push hown2 hgrow2
  clear hown2 hgrow2 HS2
  go_wp2_with fail
  rw [rounds_succ]
  go_wp2_with fail
  refine (hov _ (h.below S.bel) q3).mono ?_
  rintro e w3x ⟨rfl, hbk⟩
  have S := S.go hbk
  clear hbk
  cases hok : ownedF (St.of A).ths t q3 0 with
  | none =>
    have HLN : Hid (levelF A.ths t q3 = none) := owned_none HZ.out hok
    clear hok
    simp only [Option.getD_none, Option.isSome_none, noRt, Rt.val]
    go_wp2_with fail
    rw [← HP.out]
    exact JoinSOut.bad HA.out (by decide) (hJE.out.trans (by rw [HLN.out]; exact joinL3 _ _ _)) rfl (S.bel.alloc S.bel.size _)
  | some y3 =>
  have HL3 : Hid (levelF A.ths t q3 = some y3.lv) := owned_some HZ.out hok
  clear hok
  simp only [Option.getD_some, Option.isSome_some, Rt.val]
  have HS3 : Hid (JR w w3x q0 q1 q2 q3 sv2 [y0.lv, y1.lv, y2.lv]) := S
  clear S
  go_wp2_with (at_builtin; refine wpList_append_own _ rfl _ _ 31 rfl (w.heap.size + 1) 3 i9 (.int .i64 0) 1 8 Try.underlying31 hi9 hz0 hz1 hz2 rfl (by decide) sv2 3 [.int .i64 y0.lv, .int .i64 y1.lv, .int .i64 y2.lv] rfl ((World.ownsRow.alloc HS3.out.row _).alloc _) ⟨w3x.heap.size + 1, 0, none⟩ 1 1 [.int .i64 y3.lv] rfl rfl ?c1 ?c2 ?c3 ?c4 ?c5 ?_)
  case c1 =>
    intro j u hj
    match j, hj with
    | 0, hj => simp at hj; subst hj; simp [Addr.add]
  case c2 => intro u hu; simp at hu; subst hu; rfl
  case c3 => unfold maxLen; omega
  case c4 => omega
  case c5 => have := HS3.out.lt; simp; omega
  intro sv3 W4 hown3 hgrow3 _
  have S : JR w W4 q0 q1 q2 q3 sv3 [y0.lv, y1.lv, y2.lv, y3.lv] := ((HS3.out.go ((Below.refl _ _).alloc (Nat.le_refl _) _)).go ((Below.refl _ _).alloc (Nat.le_refl _) _)).push hown3 hgrow3
  clear hown3 hgrow3 HS3
  go_wp2_with fail
  obtain ⟨g, cap, rfl⟩ := own_slice S.row
  have HSE : Hid (JR w W4 q0 q1 q2 q3 (.slice (some ⟨g, 0, none⟩) 4 cap) [y0.lv, y1.lv, y2.lv, y3.lv]) := S
  have r0 : W4.cell? ⟨g, 0, none⟩ = some (.int .i64 y0.lv) := S.row.cellAt 0 (by simp)
  have r1 : W4.cell? ⟨g, 1, none⟩ = some (.int .i64 y1.lv) := S.row.cellAt 1 (by simp)
  have r2 : W4.cell? ⟨g, 2, none⟩ = some (.int .i64 y2.lv) := S.row.cellAt 2 (by simp)
  have r3 : W4.cell? ⟨g, 3, none⟩ = some (.int .i64 y3.lv) := S.row.cellAt 3 (by simp)
  have HJ4 : Hid (joinE A t q0 q1 q2 q3 = if y0.lv < 44 ∧ y1.lv = y0.lv ∧ y2.lv = y0.lv ∧ y3.lv = y0.lv then (0, y0.lv) else (8, 0)) := hJE.out.trans (by rw [HL0.out, HL1.out, HL2.out, HL3.out]; exact joinL4 _ _ _ _)
  obtain ⟨lo0, lo1⟩ := HLO.out q0 y0.lv HL0.out
  clear S
  rw [rounds_succ]
  go_wp2_with fail
  refine wp_loop_rounds 5 ?_
  rw [rounds_succ]
  have n0 : (y0.lv != y0.lv) = false := by simp
  by_cases h44 : 44 ≤ y0.lv
  · go_wp2_with fail
    rw [← HP.out]
    exact JoinSOut.bad HA.out (by decide) (HJ4.out.trans (if_neg fun e => by omega)) rfl HSE.out.bel
  have H44 : Hid (y0.lv < 44) := show _ < _ by omega
  go_wp2_with fail
  rw [rounds_succ]
  by_cases e1 : y1.lv = y0.lv
  rotate_left
  · have n1 : (y1.lv != y0.lv) = true := by simpa using e1
    have HE : Hid (¬ y1.lv = y0.lv) := e1
    clear e1
    go_wp2_with fail
    rw [← HP.out]
    exact JoinSOut.bad HA.out (by decide) (HJ4.out.trans (if_neg fun e => HE.out (by first | exact e.2.1 | exact e.2.2.1 | exact e.2.2.2))) rfl HSE.out.bel
  rw [e1] at r1
  have HE1 : Hid (y1.lv = y0.lv) := e1
  clear e1
  go_wp2_with fail
  rw [rounds_succ]
  by_cases e2 : y2.lv = y0.lv
  rotate_left
  · have n1 : (y2.lv != y0.lv) = true := by simpa using e2
    have HE : Hid (¬ y2.lv = y0.lv) := e2
    clear e2
    go_wp2_with fail
    rw [← HP.out]
    exact JoinSOut.bad HA.out (by decide) (HJ4.out.trans (if_neg fun e => HE.out (by first | exact e.2.1 | exact e.2.2.1 | exact e.2.2.2))) rfl HSE.out.bel
  rw [e2] at r2
  have HE2 : Hid (y2.lv = y0.lv) := e2
  clear e2
  go_wp2_with fail
  rw [rounds_succ]
  by_cases e3 : y3.lv = y0.lv
  rotate_left
  · have n1 : (y3.lv != y0.lv) = true := by simpa using e3
    have HE : Hid (¬ y3.lv = y0.lv) := e3
    clear e3
    go_wp2_with fail
    rw [← HP.out]
    exact JoinSOut.bad HA.out (by decide) (HJ4.out.trans (if_neg fun e => HE.out (by first | exact e.2.1 | exact e.2.2.1 | exact e.2.2.2))) rfl HSE.out.bel
  rw [e3] at r3
  have HE3 : Hid (y3.lv = y0.lv) := e3
  clear e3
  go_wp2_with fail
  rw [rounds_succ]
  have HJ5 : Hid (joinE A t q0 q1 q2 q3 = (0, y0.lv)) := HJ4.out.trans (if_pos ⟨H44.out, HE1.out, HE2.out, HE3.out⟩)
  have hgv := HGV.out W4.drew y0.lv (h.below (HSE.out.bel.drew))
  have hwv : (wantRt (sqTh q0 q1 q2 q3 y0.lv)).val = .agg #[.int .i64 0, .int .i64 0, .int .i64 (y0.lv + 1), .int .i64 0, .int .i64 q0, .int .i64 q1, .int .i64 q2, .int .i64 q3, .int .u64 0] := rfl
  rw [hwv] at hgv
  obtain ⟨k0, k1, k2, k3⟩ := HSE.out.cells
  have HKC : Hid (∀ W', LedS W4.drew b G (St.of (A.beco t (sqTh q0 q1 q2 q3 y0.lv)).1) W' → W'.cell? ⟨w.heap.size, 0, none⟩ = some (.int .i64 q0) ∧ W'.cell? ⟨w.heap.size, 1, none⟩ = some (.int .i64 q1) ∧ W'.cell? ⟨w.heap.size, 2, none⟩ = some (.int .i64 q2) ∧ W'.cell? ⟨w.heap.size, 3, none⟩ = some (.int .i64 q3) ∧ W'.cell? ⟨g, 0, none⟩ = some (.int .i64 y0.lv)) := fun W' hl => by
    obtain ⟨G', _, _, ap⟩ := hl
    obtain ⟨r, hr⟩ := HA.out
    have hng : ∀ k, w.heap.size ≤ k → ¬ G k := fun k hk hg => by have := hr.flt k hg; omega
    have e1 := ap.block w.heap.size HSE.out.lt (hng _ (Nat.le_refl _))
    have e2 := ap.block g (HSE.out.row.lt g rfl).2 (hng _ (by have := (HSE.out.row.lt g rfl).1; omega))
    have kc := fun j => World.cell?_of_block (w := W4) (a := ⟨w.heap.size, j, none⟩) e1
    exact ⟨(kc 0).trans k0, (kc 1).trans k1, (kc 2).trans k2, (kc 3).trans k3, (World.cell?_of_block (w := W4) (a := ⟨g, 0, none⟩) e2).trans r0⟩
  have sw : IntKind.i64.wrap (y0.lv + 1) = y0.lv + 1 := by rw [IntKind.wrap_i64]; omega
  clear r1 r2 r3 hov hi HGV HLO HZ
  go_wp2_with fail
  go_region_held3 (fun w' => w'.cell? ⟨w.heap.size, 0, none⟩ = some (.int .i64 q0) ∧ w'.cell? ⟨w.heap.size, 1, none⟩ = some (.int .i64 q1) ∧ w'.cell? ⟨w.heap.size, 2, none⟩ = some (.int .i64 q2) ∧ w'.cell? ⟨w.heap.size, 3, none⟩ = some (.int .i64 q3) ∧ w'.cell? ⟨g, 0, none⟩ = some (.int .i64 y0.lv)) (first | exact ⟨k0, k1, k2, k3, r0⟩ | exact HKC.out _ hl9) ((go_at_call 52; refine hgv.mono ?_; rintro e w9 ⟨rfl, hl9⟩))
  all_goals
    have HL9 : Hid (LedS W4.drew b G (St.of (A.beco t (sqTh q0 q1 q2 q3 y0.lv)).1) w9) := hl9
    clear hl9 hgv
    go_wp2_with fail
    rw [← HP.out]
    unfold JoinSOut Ar.joinP
    rw [HJ5.out, if_pos rfl]
    refine ⟨rfl, ?_⟩
    obtain ⟨G', g1, g2, g3⟩ := HL9.out
    have hb : Below w.heap.size w W4.drew := HSE.out.bel.drew
    exact ⟨G', fun k hk => (g1 k hk).imp id fun e => Nat.le_trans hb.size e, g2, (Apart.of hb).after (fun _ h => .inl h) g3⟩
end Go.Proofs.Ytfogedmghhacdaa.A
