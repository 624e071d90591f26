/- Cells of any root. -/
import Derived.Test.YtplnnlfmehfaiaaSqCells
namespace Go.Proofs.Ytplnnlfmehfaiaa.A
open Go.RowKit Go.Maps Go.ChangeMaps Go.WideElems

set_option maxRecDepth 20000 in
set_option maxHeartbeats 8000000 in
/-- walker.cells -/
theorem wcells_any (wb m b nn t k n : Nat) (id level : Int) (v : Value) (F : Nat → Prop) (A : Ar) (D : DataW Unit) (w : World) (hI : Inv A) (ht : t < 64) (hm : ∀ x ∈ A.ths, x.mask < 18446744073709551616) (hf : A.ths.length < 1000000) (hn1 : 1 ≤ n) (hn : n ≤ 44) (hl : levelF A.ths t id = some (n : Int)) (hbig : (cellsF A.ths n id).length ≤ 4096) (hlev : level = (n : Int)) (hw : WG w wb m b nn t k v F A D) :
    Calls Try.prog 89 #[.pointer (some ⟨wb, 0, none⟩), .int .i64 id, .int .i64 level] w fun y w' => ∃ u, y = .returned u ∧ w'.ownsRow w.heap.size 87 2 u (cellsF A.ths n id).length (cL (shiftL (-(halfN n : Int)) (-(halfN n : Int)) (cellsF A.ths n id))) ∧ (cellsF A.ths n id = [] → u = .slice none 0 0) ∧ TG w wb m b nn t v F A (fun _ => True) w' := by
  have hh : ∀ W, Calls Try.prog 99 #[.int .i64 level] W fun x w' => x = .returned (.int .i64 (halfN n : Int)) ∧ w' = W := fun W => by rw [hlev]; exact half_any n W hn1 (by omega)
  have hbd := halfN_bd n (by omega)
  have hwl := hw.hand.lt
  have hml := hw.lt
  have hflt := hw.ar.flt
  have b3 : Below w.heap.size w (((w.alloc (.cells #[.pointer (some ⟨wb, 0, none⟩)] 175)).alloc (.cells #[.slice none 0 0] 69)).alloc (.cells #[cFn w.heap.size (w.heap.size + 1) (w.heap.size + 1 + 1)] 177)) := (((Below.refl _ _).alloc (Nat.le_refl _) _).alloc (by simp) _).alloc (by simp; omega) _
  have hs3 : (((w.alloc (.cells #[.pointer (some ⟨wb, 0, none⟩)] 175)).alloc (.cells #[.slice none 0 0] 69)).alloc (.cells #[cFn w.heap.size (w.heap.size + 1) (w.heap.size + 1 + 1)] 177)).heap.size = w.heap.size + 3 := by simp
  have e0 : (((w.alloc (.cells #[.pointer (some ⟨wb, 0, none⟩)] 175)).alloc (.cells #[.slice none 0 0] 69)).alloc (.cells #[cFn w.heap.size (w.heap.size + 1) (w.heap.size + 1 + 1)] 177)).heap[w.heap.size]? = some (.cells #[.pointer (some ⟨wb, 0, none⟩)] 175 (0, 0)) := (push_old (by simp; omega)).trans (heap_alloc2_old w _ _)
  have e1 : (((w.alloc (.cells #[.pointer (some ⟨wb, 0, none⟩)] 175)).alloc (.cells #[.slice none 0 0] 69)).alloc (.cells #[cFn w.heap.size (w.heap.size + 1) (w.heap.size + 1 + 1)] 177)).heap[w.heap.size + 1]? = some (.cells #[.slice none 0 0] 69 (0, 0)) := (push_old (by simp)).trans (heap_alloc2_new w _ _)
  have e2 : (((w.alloc (.cells #[.pointer (some ⟨wb, 0, none⟩)] 175)).alloc (.cells #[.slice none 0 0] 69)).alloc (.cells #[cFn w.heap.size (w.heap.size + 1) (w.heap.size + 1 + 1)] 177)).heap[w.heap.size + 1 + 1]? = some (.cells #[cFn w.heap.size (w.heap.size + 1) (w.heap.size + 1 + 1)] 177 (0, 0)) := by
    have := heap_alloc_new ((w.alloc (.cells #[.pointer (some ⟨wb, 0, none⟩)] 175)).alloc (.cells #[.slice none 0 0] 69)) (.cells #[cFn w.heap.size (w.heap.size + 1) (w.heap.size + 1 + 1)] 177)
    simpa using this
  have C0 : CS (((w.alloc (.cells #[.pointer (some ⟨wb, 0, none⟩)] 175)).alloc (.cells #[.slice none 0 0] 69)).alloc (.cells #[cFn w.heap.size (w.heap.size + 1) (w.heap.size + 1 + 1)] 177)) wb m b nn t v F A w.heap.size (w.heap.size + 1) (w.heap.size + 1 + 1) (w.heap.size + 3) [] :=
    ⟨⟨k, D, hw.below b3⟩, e0, e2, ⟨_, e1, World.ownsRow_nil _ _ _ _, fun _ => rfl⟩, by omega, by omega, by omega, by omega, by omega, fun k hk => by have := hflt k hk; omega, by omega, by omega, ⟨by omega, by omega, fun e => by have := hflt _ e; omega⟩, by omega⟩
  obtain ⟨hf', hhf⟩ : ∃ hf' : Int, hf' = (halfN n : Int) := ⟨_, rfl⟩
  rw [← hhf] at hh
  have hneg : IntKind.i64.wrap (-hf') = -hf' := by rw [IntKind.wrap_i64]; omega
  have hpow : ((2 ^ n : Nat) : Int) = hf' + hf' := by
    obtain ⟨q, rfl⟩ : ∃ q, n = q + 1 := ⟨n - 1, by omega⟩
    rw [hhf, halfN_succ, Nat.pow_succ]; omega
  have hpb : hf' ≤ 8796093022208 := by
    have : halfN n ≤ halfN 44 := Nat.pow_le_pow_right (by omega) (by omega)
    have e : halfN 44 = 8796093022208 := by decide
    omega
  generalize hW : (((w.alloc (.cells #[.pointer (some ⟨wb, 0, none⟩)] 175)).alloc (.cells #[.slice none 0 0] 69)).alloc (.cells #[cFn w.heap.size (w.heap.size + 1) (w.heap.size + 1 + 1)] 177)) = W at *
  have C1 := (C0.below (w1 := W.drew) ⟨rfl, rfl, rfl, Nat.le_refl _, fun _ _ => rfl⟩).1
  have HC := closure_any n wb m b nn t v F A w.heap.size (w.heap.size + 1) (w.heap.size + 1 + 1) (w.heap.size + 3) [] W.drew id (-hf') (-hf') level hI ht hm hf hn hlev hl (by simpa using hbig) C1 (by omega) (by omega) (by omega) (by omega)
  rw [List.nil_append] at HC
  have HFIN : Hid (∀ w', CS w' wb m b nn t v F A w.heap.size (w.heap.size + 1) (w.heap.size + 1 + 1) (w.heap.size + 3) (shiftL (-hf') (-hf') (cellsF A.ths n id)) → CO W.drew wb m (w.heap.size + 1) (w.heap.size + 3) w' → ∃ u, w'.cell? ⟨w.heap.size + 1, 0, none⟩ = some u ∧ w'.ownsRow w.heap.size 87 2 u (cellsF A.ths n id).length (cL (shiftL (-(halfN n : Int)) (-(halfN n : Int)) (cellsF A.ths n id))) ∧ (cellsF A.ths n id = [] → u = .slice none 0 0) ∧ TG w wb m b nn t v F A (fun _ => True) w') := fun w' h1 h2 => by
    obtain ⟨V, hV, hr, hnil⟩ := h1.cl
    obtain ⟨k', D', hw'⟩ := h1.wg
    rw [shift_len, hhf] at hr
    have hs2 : W.heap.size ≤ w'.heap.size := h2.size
    refine ⟨V, Lib.cell_of_heap hV 0, ?_, fun e => hnil (by rw [e]; rfl), ⟨⟨k', D', hw', fun _ _ _ => trivial⟩, by omega, h2.os.trans b3.os, h2.tape.trans b3.tape, h2.output.trans b3.output, fun j a1 a2 a3 => (h2.block j (by omega) a2 a3 (by omega)).trans (b3.block j a1)⟩⟩
    obtain ⟨q1, q2⟩ := hr
    refine ⟨q1, ?_⟩
    rcases q2 with q2 | ⟨g, cap, cur, q3, q4, q5⟩
    · exact Or.inl q2
    · exact Or.inr ⟨g, cap, cur, q3, by omega, q5⟩
  have hcf : W.cell? ⟨w.heap.size + 1 + 1, 0, none⟩ = some (cFn w.heap.size (w.heap.size + 1) (w.heap.size + 1 + 1)) := Lib.cell_of_heap e2 0
  have HKF : Hid (∀ w', CS w' wb m b nn t v F A w.heap.size (w.heap.size + 1) (w.heap.size + 1 + 1) (w.heap.size + 3) (shiftL (-hf') (-hf') (cellsF A.ths n id)) → w'.cell? ⟨w.heap.size + 1 + 1, 0, none⟩ = some (cFn w.heap.size (w.heap.size + 1) (w.heap.size + 1 + 1))) := fun w' h => Lib.cell_of_heap h.cf 0
  have HW : Hid ((((w.alloc (.cells #[.pointer (some ⟨wb, 0, none⟩)] 175)).alloc (.cells #[.slice none 0 0] 69)).alloc (.cells #[cFn w.heap.size (w.heap.size + 1) (w.heap.size + 1 + 1)] 177)) = W) := hW
  clear hhf hlev C0 C1 e0 e1 e2 hl hw hbd hpow
  clear hW
  go_enter Try.func89, Try.ntmps89
  go_wp2_with fail
  rw [HW.out]
  go_region_held3 (fun w' => w'.cell? ⟨w.heap.size + 1 + 1, 0, none⟩ = some (cFn w.heap.size (w.heap.size + 1) (w.heap.size + 1 + 1))) (first | exact hcf | exact HKF.out _ hR) ((first | (go_at_call 99; refine (hh _).mono ?_; rintro e w5 ⟨rfl, rfl⟩) | (go_at_call 127; refine HC.mono ?_; rintro e w6 ⟨rfl, hR, hO⟩)))
  all_goals
    obtain ⟨u, hu, hrow, hnil, hTG⟩ := HFIN.out _ hR hO
    have HNIL : Hid (cellsF A.ths n id = [] → u = .slice none 0 0) := hnil
    clear hnil
    go_wp2_with fail
    go_ret
    exact ⟨u, rfl, hrow, HNIL.out, hTG⟩

theorem row_of_own' {w : World} {B : Nat} {v : Value} {zs : List (Int × Int)} (h : w.ownsRow B 87 2 v zs.length (cL zs)) (hnil : zs = [] → v = .slice none 0 0) : Row w v zs := by
  by_cases h0 : zs = []
  · exact Or.inl ⟨h0, hnil h0⟩
  · have hh := h
    rcases h.2 with ⟨rfl, h1⟩ | ⟨g, cap, cur, rfl, hB, hg, hc, hm, hr⟩
    · exact absurd (List.length_eq_zero_iff.1 h1) h0
    · refine Or.inr ⟨h0, g, 0, cap, rfl, (Array.getElem?_eq_some_iff.1 hg).1, hc, hm, fun j hj => ?_⟩
      have h1 := hh.cellAt (j * 2) (by omega)
      have h2 := hh.cellAt (j * 2 + 1) (by omega)
      obtain ⟨e1, e2⟩ := cL_at zs j hj
      rw [Nat.zero_add]
      exact ⟨h1.trans e1, h2.trans e2⟩

set_option maxRecDepth 20000 in
set_option maxHeartbeats 4000000 in
/-- Cells of a root -/
theorem Cells_root (b n t lv : Nat) (id : Int) (F : Nat → Prop) (A : Ar) (w : World) (hA : ArAt w b F n A) (hI : Inv A) (ht : t < 64) (hm : ∀ x ∈ A.ths, x.mask < 18446744073709551616) (hf : A.ths.length < 1000000) (hl : levelF A.ths t id = some (lv : Int)) (hlv1 : 1 ≤ lv) (hlv : lv ≤ 44) (hbig : (cellsF A.ths lv id).length ≤ 4096) :
    Calls Try.prog 41 #[.pointer (some ⟨b, 0, none⟩), .int .i64 t, .int .i64 id] w fun x w' => ∃ u ys, x = .returned (.tuple #[u, .int .i64 (tcode (shiftL (-(halfN lv : Int)) (-(halfN lv : Int)) (cellsF A.ths lv id)))]) ∧ Tidied (shiftL (-(halfN lv : Int)) (-(halfN lv : Int)) (cellsF A.ths lv id)) ys ∧ ORow w' w.heap.size u ys ∧ Below w.heap.size w w' := by
  have hr := fits_of hl hf
  have hflt := hA.flt
  have hlev := fun W hb v (hh : HandAt W hb b t 0 v) (hW : ArAt W b F n A) (hn : ¬ F hb) => handLevel_ok hb b n t id 1 44 lv v F A W hh hW hn ht hm hr hl (by omega) (by omega)
  have hta := fun wb m v k D W => tally_any wb m b n t v F A hI ht hm hf lv id hlv hl (by omega) k D W (lv : Int) rfl
  have hce := fun wb m v k D W => wcells_any wb m b n t k lv id (lv : Int) v F A D W hI ht hm hf hlv1 hlv hl hbig rfl
  have HL : Hid (levelF A.ths t id = some (lv : Int)) := hl
  obtain ⟨zs, hzs⟩ : ∃ zs, zs = shiftL (-(halfN lv : Int)) (-(halfN lv : Int)) (cellsF A.ths lv id) := ⟨_, rfl⟩
  have HZS : Hid (zs = shiftL (-(halfN lv : Int)) (-(halfN lv : Int)) (cellsF A.ths lv id)) := hzs
  rw [← hzs]
  clear hl hzs
  go_enter Try.func41, Try.ntmps41
  go_wp2_with fail
  refine (newWalker_G b t _).mono ?_
  rintro x w1 ⟨g, m, D, rfl, hb1, hown, hkn, hmg, _, _, _⟩
  obtain ⟨Q0, b2⟩ := WG.born (g := g) (t := t) hA hf hb1 hown hkn hmg
  have hh := Q0.hand
  have hs1 := hb1.size
  go_wp2_with fail
  refine (hlev _ _ _ hh (hA.below b2) Q0.nFw).mono ?_
  rintro x w3 ⟨rfl, h3, g3, h34⟩
  have c2 := h3.c2
  have Q3 := Q0.kids h3 g3 (h34.trans Q0.c4)
  have b3 : Below w.heap.size w w3 := b2.trans ⟨g3.os, g3.tape, g3.output, g3.size, fun k hk => g3.block k (by have := b2.size; omega) (by simp; omega)⟩
  clear hlev
  go_wp2_with fail
  refine (hta _ _ _ 2 D _ Q3).mono ?_
  rintro x w4 ⟨c, x0, y0, x1, y1, rfl, hT, T4⟩
  obtain ⟨k4, D4, Q4, _⟩ := T4.wg
  have hlt3 := Q3.hand.lt
  have hfz := field_tv c x0 y0 x1 y1 w4
  have hcl : c = ((cellsF A.ths lv id).length : Int) := hT.1
  have hcb : ¬ (4096 : Int) < c := by omega
  have b4 : Below w.heap.size w w4 := ⟨T4.os.trans b3.os, T4.tape.trans b3.tape, T4.output.trans b3.output, Nat.le_trans b3.size T4.size, fun k hk => (T4.block k (by have := b3.size; omega) (by omega) (by omega)).trans (b3.block k hk)⟩
  clear hcl hT hta T4
  go_wp2_with fail
  refine (hce _ _ _ k4 D4 _ Q4).mono ?_
  rintro x w5 ⟨u, rfl, hrow, hnil, T5⟩
  obtain ⟨k5, D5, Q5, _⟩ := T5.wg
  have d2 := Q5.hand.c2
  have b5 : Below w.heap.size w w5 := ⟨T5.os.trans b4.os, T5.tape.trans b4.tape, T5.output.trans b4.output, Nat.le_trans b4.size T5.size, fun k hk => (T5.block k (by have := b4.size; omega) (by omega) (by omega)).trans (b4.block k hk)⟩
  have hzs := HZS.out
  have hrow2 : Row w5 u zs := by
    refine row_of_own' (B := w4.heap.size) ?_ ?_
    · rw [hzs, shift_len]; exact hrow
    · intro e
      refine hnil ?_
      rw [hzs] at e
      exact List.length_eq_zero_iff.1 (by have := congrArg List.length e; rw [shift_len] at this; simpa using this)
  have hTT := tidy_told u zs w5 hrow2
  clear hce hrow hnil T5 hzs hrow2
  go_wp2_with fail
  refine hTT.mono ?_
  rintro x w6 ⟨u6, ys, rfl, hb6, ht6, hr6⟩
  go_wp2_with fail
  go_ret2
  exact ⟨u6, ys, rfl, ht6, hr6.mono b5.size, b5.trans (hb6.mono b5.size)⟩
end Go.Proofs.Ytplnnlfmehfaiaa.A
