/- Count of an empty square of any level. -/
import Derived.Test.YtplnnlfmehfaiaaQuWalk
namespace Go.Proofs.Ytplnnlfmehfaiaa.A
open Go.RowKit Go.Maps Go.ChangeMaps Go.WideElems

set_option maxRecDepth 20000 in
set_option maxHeartbeats 4000000 in
theorem newWalker_known (b t : Nat) (w : World) : Calls Try.prog 85 #[.pointer (some ⟨b, 0, none⟩), .int .i64 t] w fun x w' => ∃ (g m : Nat) (D : DataW Unit), x = .returned (.agg #[.pointer (some ⟨b, 0, none⟩), .int .i64 t, .int .i64 0, .slice (some ⟨g, 0, none⟩) 1 1, .map (some m)]) ∧ Below w.heap.size w w' ∧ w'.ownsMap Try.prog 3 talR m 2 D ∧ Known D ∧ w.heap.size ≤ m := by
  have hmm := @run_makeMap Try.prog
  have hh := fun W => newHand_any b t W
  have hb0 : Below w.heap.size w (w.alloc (.cells #[.pointer none, .int .i64 0, .int .i64 0, .slice none 0 0, .map none] 134)) := (Below.refl _ _).alloc (Nat.le_refl _) _
  have hX : (w.alloc (.cells #[.pointer none, .int .i64 0, .int .i64 0, .slice none 0 0, .map none] 134)).heap[w.heap.size]? = some (.cells #[.pointer none, .int .i64 0, .int .i64 0, .slice none 0 0, .map none] 134 (0, 0)) := heap_alloc_new w _
  have hs0 : (w.alloc (.cells #[.pointer none, .int .i64 0, .int .i64 0, .slice none 0 0, .map none] 134)).heap.size = w.heap.size + 1 := by simp
  go_enter Try.func85, Try.ntmps85
  go_wp2_with fail
  refine (hh _).mono ?_
  rintro e w1 ⟨rfl, hE, hb1⟩
  have hX1 := (hb1.block w.heap.size (by omega)).trans hX
  have hlt1 : w.heap.size < w1.heap.size := (Array.getElem?_eq_some_iff.1 hX1).1
  have h0 := World.ownsMap_made (H := Unit) w1 Try.prog 3 talR
  obtain ⟨wA, runA, ownA, tA⟩ := h0.store (int_keyed Try.underlying3) Try.underlying132 (show 0 < maxLen by unfold maxLen; omega) (keyOf_int_mk Try.underlying3 (wf_of_fits (show Fits 0 from ⟨by omega, by omega⟩))) talR_zero
  obtain ⟨wB, runB, ownB, tB⟩ := ownA.store (int_keyed Try.underlying3) Try.underlying132 (show 0 + 1 < maxLen by unfold maxLen; omega) (keyOf_int_mk Try.underlying3 (wf_of_fits (show Fits 1 from ⟨by omega, by omega⟩))) talR_one
  have HK : Hid (Known ((DataW.put (.map []) (.int .i64 0) zd).put (.int .i64 1) (.lit (.bool true)))) := by
    refine ⟨fun i hi hi1 => ?_, ?_⟩
    · rw [atKey_put_other (by intro e; cases e; exact hi1 rfl)]
      by_cases e : i = 0
      · subst e; exact atKey_put_same ⟨_, rfl⟩ (by unfold WideAt.IsKeyLit; trivial) _ _
      · rw [atKey_put_other (by intro h; cases h; exact e rfl)]; rfl
    · rw [has_put_other (by intro e; cases e)]
      exact has_put_same ⟨_, rfl⟩ (by unfold WideAt.IsKeyLit; trivial) _
  have HO : Hid (wB.ownsMap Try.prog 3 talR w1.heap.size 2 ((DataW.put (.map []) (.int .i64 0) zd).put (.int .i64 1) (.lit (.bool true)))) := ownB
  have bB : Below w.heap.size w wB := by
    have b1 : Below w.heap.size w w1 := hb0.trans (hb1.mono (by omega))
    have b2 : Below w.heap.size w1 (w1.alloc (.map #[] 0)) := (Below.refl _ _).alloc (by omega) _
    exact ((b1.trans b2).trans (turned_below tA (by omega))).trans (turned_below tB (by omega))
  have hXB : wB.heap[w.heap.size]? = some (.cells #[.pointer none, .int .i64 0, .int .i64 0, .slice none 0 0, .map none] 134 (0, 0)) := by
    rw [turned_block tB (by omega), turned_block tA (by omega), push_old hlt1]
    exact hX1
  have k0 : wB.cell? ⟨w.heap.size, 0, none⟩ = some (.pointer none) := Lib.cell_of_heap hXB 0
  have k1 : wB.cell? ⟨w.heap.size, 1, none⟩ = some (.int .i64 0) := Lib.cell_of_heap hXB 1
  have k2 : wB.cell? ⟨w.heap.size, 2, none⟩ = some (.int .i64 0) := Lib.cell_of_heap hXB 2
  have k3 : wB.cell? ⟨w.heap.size, 3, none⟩ = some (.slice none 0 0) := Lib.cell_of_heap hXB 3
  have k4 : wB.cell? ⟨w.heap.size, 4, none⟩ = some (.map none) := Lib.cell_of_heap hXB 4
  have z0 := Lib.frozen_of_heap hXB 0
  have z1 := Lib.frozen_of_heap hXB 1
  have z2 := Lib.frozen_of_heap hXB 2
  have z3 := Lib.frozen_of_heap hXB 3
  have z4 := Lib.frozen_of_heap hXB 4
  clear ownA ownB h0 hX hE hs0
  go_wp2_with fail
  have hR := set5 hXB (.pointer (some ⟨b, 0, none⟩)) (.int .i64 t) (.int .i64 0) (.slice (some ⟨w.heap.size + 1 + 1, 0, none⟩) 1 1) (.map (some w1.heap.size))
  refine bodyPost_ret (v := .agg #[.pointer (some ⟨b, 0, none⟩), .int .i64 t, .int .i64 0, .slice (some ⟨w.heap.size + 1 + 1, 0, none⟩) 1 1, .map (some w1.heap.size)]) ?_ rfl ⟨_, _, _, rfl, ?_, own_other HO.out ?_, HK.out, Nat.le_of_lt hlt1⟩
  · simp [results, Try.results85, go_sem, Lib.cell_of_heap hR]
  · exact ((((bB.setCell (p := ⟨w.heap.size, 0, none⟩) (Nat.le_refl _) _).setCell (p := ⟨w.heap.size, 1, none⟩) (Nat.le_refl _) _).setCell (p := ⟨w.heap.size, 2, none⟩) (Nat.le_refl _) _).setCell (p := ⟨w.heap.size, 3, none⟩) (Nat.le_refl _) _).setCell (p := ⟨w.heap.size, 4, none⟩) (Nat.le_refl _) _
  · have hk : w1.heap.size ≠ w.heap.size := by omega
    rw [Below.heap_setCell _ _ _ _ hk, Below.heap_setCell _ _ _ _ hk, Below.heap_setCell _ _ _ _ hk, Below.heap_setCell _ _ _ _ hk, Below.heap_setCell _ _ _ _ hk]

set_option maxRecDepth 20000 in
set_option maxHeartbeats 4000000 in
theorem handLevel_ok (hb b n t : Nat) (root least most l : Int) (v : Value) (F : Nat → Prop) (A : Ar) (w : World) (h : HandAt w hb b t 0 v) (hA : ArAt w b F n A) (_hF : ¬ F hb) (ht : t < 64) (hm : ∀ x ∈ A.ths, x.mask < 18446744073709551616) (hr : Fits root) (hl : levelF A.ths t root = some l) (hlo : least ≤ l) (hhi : l ≤ most) :
    Calls Try.prog 86 #[.pointer (some ⟨hb, 0, none⟩), .int .i64 root, .int .i64 least, .int .i64 most] w fun x w' => x = .returned (.int .i64 l) ∧ HandAt w' hb b t 0 v ∧ w.grownBy w' (some hb) ∧ w'.cell? ⟨hb, 4, none⟩ = w.cell? ⟨hb, 4, none⟩ := by
  obtain ⟨r, D, hA⟩ := hA
  have c0 := h.c0
  have c1 := h.c1
  have hlv := fun W (hW : ArRaw W b F n A r D) => Level_any b 0 t root r A.ths W hW.raw hW.ths ht hm hr
  rw [hl] at hlv
  simp only [lack, Option.getD_some] at hlv
  go_enter Try.func86, Try.ntmps86
  go_wp2_with fail
  go_cut [9, 10] from 9 to 23 (fun s9 s10 wc => s9 = .int .i64 l ∧ s10 = .int .i64 0 ∧ Below w.heap.size w wc)
  case first =>
    go_region_held3 (fun w' => w'.cell? ⟨hb, 0, none⟩ = some (.pointer (some ⟨b, 0, none⟩)) ∧ w'.cell? ⟨hb, 1, none⟩ = some (.int .i64 t)) (first | exact ⟨c0, c1⟩ | go_keep | exact ⟨(h.below hb1).c0, (h.below hb1).c1⟩) ((go_at_call 27; refine (hlv _ (hA.drew)).mono ?_; rintro e w1 ⟨rfl, hb0⟩; have hb1 := below_drew hb0))
    all_goals
      go_wp2_with fail
      go_meet
      case rel => exact ⟨rfl, rfl, hb1⟩
  case rest =>
  obtain ⟨rfl, rfl, hbc⟩ := hcut
  have h1 := h.below hbc
  clear c0 c1 hlv
  go_wp2_with fail
  refine (keep_zero hb b t v _ h1).mono ?_
  rintro x w2 ⟨rfl, h2, g2, h24⟩
  have g12 := grown_tr (grown_bl hbc (some hb)) g2
  have hlo' : ¬ l < least := by omega
  have hhi' : ¬ most < l := by omega
  go_wp2_with fail
  go_ret
  exact ⟨rfl, h2, g12, h24.trans (World.cell?_of_block (hbc.block hb h.lt))⟩

theorem field_zero (w : World) : (Instr.field 138 zeroT 0).run Try.prog w = .ok (.int .i64 0) w := by kernel_rfl
theorem Walk.up {w : World} {wb m b nn t n n' : Nat} {v : Value} {F : Nat → Prop} {A : Ar} {D : DataW Unit} (h : Walk w wb m b nn t n v F A D) (hn : n ≤ n') : Walk w wb m b nn t n' v F A D :=
  ⟨h.hand, h.ar, h.map.mono hn, h.known, h.c4, h.ne, h.nF, h.nFw⟩
/-- an empty square's number -/
theorem emp_id {A : Ar} {t : Nat} {E : List Int} (hE : Emp A.ths t E) (hf : A.ths.length < 1000000) {k : Nat} {id : Int} (h : E[k]? = some id) : Fits id ∧ id ≠ 1 := by
  have hl := hE.lv k id h
  have hr := level_fits hl hf
  refine ⟨⟨by omega, by omega⟩, fun e => ?_⟩
  cases k with
  | zero => rw [hE.zero] at h; cases h; omega
  | succ k =>
    subst e
    rw [show levelF A.ths t 1 = some 0 from rfl] at hl
    simp at hl
    omega
theorem tally_emp (wb m b nn t : Nat) (v : Value) (F : Nat → Prop) (A : Ar) (E : List Int) (hE : Emp A.ths t E) (hf : A.ths.length < 1000000) (ht : t < 64) (hm : ∀ x ∈ A.ths, x.mask < 18446744073709551616) :
    ∀ (k : Nat) (id : Int), E[k]? = some id → ∀ (n : Nat) (level : Int) (D : DataW Unit) (w : World), n + k < 800 → Walk w wb m b nn t n v F A D →
      Calls Try.prog 87 #[.pointer (some ⟨wb, 0, none⟩), .int .i64 id, .int .i64 level] w fun x w' => x = .returned zeroT ∧ TalOut w wb m b nn t (n + k) v F A id w' := by
  have known : ∀ (k : Nat) (id : Int), E[k]? = some id → ∀ (n : Nat) (level : Int) (D : DataW Unit) (w : World), Walk w wb m b nn t n v F A D → Maps.has D (.int .i64 id) = true →
      Calls Try.prog 87 #[.pointer (some ⟨wb, 0, none⟩), .int .i64 id, .int .i64 level] w fun x w' => x = .returned zeroT ∧ TalOut w wb m b nn t (n + k) v F A id w' := by
    intro k id hk n level D w hw hh
    obtain ⟨hi, hi1⟩ := emp_id hE hf hk
    refine (tally_known wb m n id level D w hw.map hw.known hi hi1 hw.c4 hh).mono ?_
    rintro x w' ⟨rfl, hb⟩
    exact ⟨rfl, D, (hw.below hb).up (by omega), hh, hb.size, hb.os, hb.tape, hb.output, fun k hk _ _ => hb.block k hk⟩
  intro k
  induction k with
  | zero =>
    intro id hk n level D w _ hw
    refine known 0 id hk n level D w hw ?_
    rw [hE.zero] at hk
    cases hk
    exact hw.known.zero
  | succ k ih =>
    intro id hk n level D w hn hw
    cases hh : Maps.has D (.int .i64 id) with
    | true => exact known (k + 1) id hk n level D w hw hh
    | false =>
      have hkl : k < E.length := by have := (List.getElem?_eq_some_iff.1 hk).1; omega
      have he : E[k]? = some E[k] := List.getElem?_eq_getElem hkl
      obtain ⟨y, hy, hyk⟩ := hE.parts k E[k] id he hk
      obtain ⟨hi, hi1⟩ := emp_id hE hf hk
      obtain ⟨hei, hei1⟩ := emp_id hE hf he
      have hx : squareF A.ths t id = some y := by
        unfold squareF
        rw [hy, Option.filter_some, if_pos (by simp [show y.k = 1 from congrArg Ky.k hyk])]
      have := tally_new wb m b nn n k t id E[k] level v F A y D w hw hi hi1 hei hei1 (by omega) hh ht hm hx (congrArg Ky.p0 hyk) (congrArg Ky.p1 hyk) (congrArg Ky.p2 hyk) (congrArg Ky.p3 hyk) (fun l D w hw => ih E[k] he n l D w (by omega) hw)
      exact this

set_option maxRecDepth 20000 in
set_option maxHeartbeats 4000000 in
/-- Count of an empty square -/
theorem count_emp (b n t k : Nat) (id : Int) (F : Nat → Prop) (A : Ar) (E : List Int) (w : World) (hA : ArAt w b F n A) (ht : t < 64) (hm : ∀ x ∈ A.ths, x.mask < 18446744073709551616) (hf : A.ths.length < 1000000) (hE : Emp A.ths t E) (hk : E[k]? = some id) (hk44 : k ≤ 44) :
    Calls Try.prog 44 #[.pointer (some ⟨b, 0, none⟩), .int .i64 t, .int .i64 id] w fun x w' => x = .returned (.tuple #[.int .i64 0, .int .i64 0]) ∧ Below w.heap.size w w' := by
  obtain ⟨hr, _⟩ := emp_id hE hf hk
  have hflt := hA.flt
  have hll := hE.lv k id hk
  have hlv := fun W hb v (hh : HandAt W hb b t 0 v) (hW : ArAt W b F n A) (hn : ¬ F hb) => handLevel_ok hb b n t id 0 44 k v F A W hh hW hn ht hm hr hll (by omega) (by omega)
  have hta := fun wb m v n' l D W => tally_emp wb m b n t v F A E hE hf ht hm k id hk n' l D W
  clear hll
  go_enter Try.func44, Try.ntmps44
  go_wp2_with fail
  refine (newWalker_known b t _).mono ?_
  rintro x w1 ⟨g, m, D, rfl, hb1, hown, hkn, hmg⟩
  have hX : (w1.alloc (.cells #[.pointer (some ⟨b, 0, none⟩), .int .i64 t, .int .i64 0, .slice (some ⟨g, 0, none⟩) 1 1, .map (some m)] 134)).heap[w1.heap.size]? = some (.cells #[.pointer (some ⟨b, 0, none⟩), .int .i64 t, .int .i64 0, .slice (some ⟨g, 0, none⟩) 1 1, .map (some m)] 134 (0, 0)) := heap_alloc_new w1 _
  have hs1 := hb1.size
  have hml : m < w1.heap.size := by
    obtain ⟨es, c, he, _⟩ := hown
    exact (Array.getElem?_eq_some_iff.1 he).1
  have b2 : Below w.heap.size w (w1.alloc (.cells #[.pointer (some ⟨b, 0, none⟩), .int .i64 t, .int .i64 0, .slice (some ⟨g, 0, none⟩) 1 1, .map (some m)] 134)) := hb1.alloc hs1 _
  have hh := HandAt.of (l := [.map (some m)]) hX
  have hnw : ¬ F w1.heap.size := fun e => by have := hflt _ e; omega
  have hnm : ¬ F m := fun e => by have := hflt _ e; omega
  have Q0 : Walk (w1.alloc (.cells #[.pointer (some ⟨b, 0, none⟩), .int .i64 t, .int .i64 0, .slice (some ⟨g, 0, none⟩) 1 1, .map (some m)] 134)) w1.heap.size m b n t 2 (.slice (some ⟨g, 0, none⟩) 1 1) F A D :=
    ⟨hh, hA.below b2, own_other hown (push_old hml), hkn, Lib.cell_of_heap hX 4, by omega, hnm, hnw⟩
  go_wp2_with fail
  refine (hlv _ _ _ hh (hA.below b2) hnw).mono ?_
  rintro x w3 ⟨rfl, h3, g3, h34⟩
  have c2 := h3.c2
  have Q3 := Q0.kids h3 g3 (h34.trans Q0.c4)
  have b3 : Below w.heap.size w w3 := b2.trans ⟨g3.os, g3.tape, g3.output, g3.size, fun k hk => g3.block k (by have := b2.size; omega) (by simp; omega)⟩
  clear hlv hX
  go_wp2_with fail
  refine (hta _ _ _ 2 _ D _ (by omega) Q3).mono ?_
  rintro x w4 ⟨rfl, D4, Q4, _, s4, o4, t4, u4, k4⟩
  have hlt3 := Q3.hand.lt
  have hfz := field_zero w4
  have b4 : Below w.heap.size w w4 := ⟨o4.trans b3.os, t4.trans b3.tape, u4.trans b3.output, Nat.le_trans b3.size s4, fun k hk => (k4 k (by have := b3.size; omega) (by omega) (by omega)).trans (b3.block k hk)⟩
  go_wp2_with fail
  refine (answer_ok _ b t _ _ _ Q4.hand).mono ?_
  rintro x w5 ⟨rfl, rfl⟩
  go_wp2_with fail
  go_ret2
  exact ⟨rfl, b4⟩
end Go.Proofs.Ytplnnlfmehfaiaa.A
