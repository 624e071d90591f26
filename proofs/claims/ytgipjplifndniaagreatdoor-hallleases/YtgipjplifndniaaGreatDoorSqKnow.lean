/- walker.tally, and that the square is known then. -/
import Derived.Test.YtgipjplifndniaaGreatDoorSqCells
namespace Go.Proofs.YtgipjplifndniaaGreatDoor.A
open Go.RowKit Go.Maps Go.ChangeMaps Go.WideElems

theorem tal_learnK {w : World} {m k n t : Nat} {D : DataW Unit} {l : List Th} {i c x0 y0 x1 y1 : Int} (h : w.ownsMap Tryz.prog 3 talG m k D) (hk : KnownG D l t) (hi : Fits i) (h2 : 2 ≤ i) (hlt : (i - 2).toNat < l.length) (hl : levelF l t i = some (n : Int)) (hT : Tal (cellsF l n i) c x0 y0 x1 y1) (hh : Maps.has D (.int .i64 i) = false) (hn : k + unk D l.length ≤ 2000000) :
    ∃ w' D', (Instr.mapUpdate 166 (.map (some m)) (.int .i64 i) (tv c x0 y0 x1 y1)).run Tryz.prog w = .ok () w' ∧ w'.ownsMap Tryz.prog 3 talG m (k + 1) D' ∧ KnownG D' l t ∧ k + 1 + unk D' l.length ≤ 2000000 ∧ w.mapTurned w' m ∧ (∀ j, Maps.has D' (.int .i64 j) = true → j = i ∨ Maps.has D (.int .i64 j) = true) ∧ Maps.has D' (.int .i64 i) = true := by
  obtain ⟨w', h1, h3, h4⟩ := h.store (int_keyed Tryz.underlying3) Tryz.underlying166 (show k < maxLen by unfold maxLen; omega) (keyOf_int_mk Tryz.underlying3 (wf_of_fits hi)) (talG_tv c x0 y0 x1 y1)
  have hkl : WideAt.IsKeyLit (.int .i64 i) := by unfold WideAt.IsKeyLit; trivial
  refine ⟨w', _, h1, h3, ⟨?_, ?_, fun j hj hhj => ?_⟩, ?_, h4, fun j hhj => ?_, has_put_same h.isMap hkl _⟩
  · rw [has_put_other (by intro e; cases e; omega)]; exact hk.zero
  · rw [has_put_other (by intro e; cases e; omega)]; exact hk.one
  · by_cases e : j = i
    · subst e
      exact ⟨n, c, x0, y0, x1, y1, hl, hT, atKey_put_same h.isMap hkl _ _⟩
    · have ne : (Lit.int .i64 j) ≠ .int .i64 i := by intro h; cases h; exact e rfl
      rw [has_put_other ne] at hhj
      obtain ⟨n', c', a, b, c'', d, f1, f2, f3⟩ := hk.tal j hj hhj
      exact ⟨n', c', a, b, c'', d, f1, f2, by rw [atKey_put_other ne]; exact f3⟩
  · obtain ⟨q, hq⟩ : ∃ q : Nat, i = (q : Int) + 2 := ⟨(i - 2).toNat, by omega⟩
    subst hq
    have := unk_put h.isMap (td c x0 y0 x1 y1) hh l.length
    rw [if_pos (by omega)] at this
    omega
  · by_cases e : j = i
    · exact Or.inl e
    · have ne : (Lit.int .i64 j) ≠ .int .i64 i := by intro h; cases h; exact e rfl
      rw [has_put_other ne] at hhj
      exact Or.inr hhj
set_option maxRecDepth 20000 in
set_option maxHeartbeats 8000000 in
theorem tally_stepK (wb m b nn t k n : Nat) (id level : Int) (v : Value) (F : Nat → Prop) (A : Ar) (x : Th) (D : DataW Unit) (w : World) (hw : WG w wb m b nn t k v F A D) (hi : Fits id) (hn : n < 44) (hlev : level = ((n + 1 : Nat) : Int)) (hl : levelF A.ths t id = some ((n + 1 : Nat) : Int)) (hh : Maps.has D (.int .i64 id) = false) (ht : t < 64) (hm : ∀ x ∈ A.ths, x.mask < 18446744073709551616) (hx : squareF A.ths t id = some x) (hth : thAt A.ths id = x) (hid2 : 2 ≤ id) (hidl : (id - 2).toNat < A.ths.length)
    (hbig : (cellsF A.ths (n + 1) id).length < 4611686018427387904) (hin : ∀ i, i < 4 → ∀ p ∈ cellsF A.ths n (quarterF x i), 0 ≤ p.1 ∧ p.1 < ((2 ^ n : Nat) : Int) ∧ 0 ≤ p.2 ∧ p.2 < ((2 ^ n : Nat) : Int))
    (ih : ∀ (i : Nat) (k : Nat) (D : DataW Unit) (w : World), i < 4 → WG w wb m b nn t k v F A D → Calls Tryz.prog 110 #[.pointer (some ⟨wb, 0, none⟩), .int .i64 (quarterF x i), .int .i64 (level - 1)] w fun y w' => ∃ c x0 y0 x1 y1, y = .returned (tv c x0 y0 x1 y1) ∧ Tal (cellsF A.ths n (quarterF x i)) c x0 y0 x1 y1 ∧ TG w wb m b nn t v F A (Kn D A.ths t n) w') :
    Calls Tryz.prog 110 #[.pointer (some ⟨wb, 0, none⟩), .int .i64 id, .int .i64 level] w fun y w' => ∃ c x0 y0 x1 y1, y = .returned (tv c x0 y0 x1 y1) ∧ Tal (cellsF A.ths (n + 1) id) c x0 y0 x1 y1 ∧ TG w wb m b nn t v F A (Kn D A.ths t (n + 1)) w' ∧ ∃ k2 D2, WG w' wb m b nn t k2 v F A D2 ∧ Maps.has D2 (.int .i64 id) = true := by
  have hml := hw.lt
  have hwl := hw.hand.lt
  have b1 : Below w.heap.size w (w.alloc (.cells #[.int .i64 0, .int .i64 0, .int .i64 0, .int .i64 0, .int .i64 0] 173)) := (Below.refl _ _).alloc (Nat.le_refl _) _
  have q1 := hw.below b1
  have hlook := tal_no q1.map hi hh
  have hc' := q1.c4
  have b0 : Below w.heap.size w (((w.alloc (.cells #[.int .i64 0, .int .i64 0, .int .i64 0, .int .i64 0, .int .i64 0] 173)).alloc (.cells #[.int .i64 0, .int .i64 0, .int .i64 0, .int .i64 0, .int .i64 0] 173)).alloc (.cells #[.int .i64 0, .int .i64 0, .int .i64 0, .int .i64 0, .int .i64 0] 173)) := ((b1.alloc b1.size _).alloc (b1.alloc b1.size _).size _)
  have q0 := hw.below b0
  have hcor := fun (i : Nat) (hi : i < 4) W => corner_at n i level hlev hn hi W
  have hkid := fun (i : Nat) (hi : i < 4) W => kids_at x i hi W
  have hlv1 : 1 ≤ level ∧ level ≤ 44 := by omega
  have HLEV : Hid (level = ((n + 1 : Nat) : Int)) := hlev
  have HIN : Hid (∀ i, i < 4 → ∀ p ∈ cellsF A.ths n (quarterF x i), 0 ≤ p.1 ∧ p.1 < ((2 ^ n : Nat) : Int) ∧ 0 ≤ p.2 ∧ p.2 < ((2 ^ n : Nat) : Int)) := hin
  clear hlev hin
  obtain ⟨i00, hi00, hz00, hz01, hz02⟩ := info_parts Tryz.info50
  go_enter Tryz.func110, Tryz.ntmps110
  go_wp2_with fail
  refine (handKids_any wb b nn t id x v F A _ q0.hand q0.ar ht hm hi hx).mono ?_
  rintro y w1 ⟨rfl, hw1, g1, hk4⟩
  have q2 := q0.kids hw1 g1 (hk4.trans q0.c4)
  go_wp2_with fail
  have hX : (((w.alloc (.cells #[.int .i64 0, .int .i64 0, .int .i64 0, .int .i64 0, .int .i64 0] 173)).alloc (.cells #[.int .i64 0, .int .i64 0, .int .i64 0, .int .i64 0, .int .i64 0] 173)).alloc (.cells #[.int .i64 0, .int .i64 0, .int .i64 0, .int .i64 0, .int .i64 0] 173)).heap[w.heap.size + 1 + 1]? = some (.cells #[.int .i64 0, .int .i64 0, .int .i64 0, .int .i64 0, .int .i64 0] 173 (0, 0)) := by
    have := heap_alloc_new ((w.alloc (.cells #[.int .i64 0, .int .i64 0, .int .i64 0, .int .i64 0, .int .i64 0] 173)).alloc (.cells #[.int .i64 0, .int .i64 0, .int .i64 0, .int .i64 0, .int .i64 0] 173)) (.cells #[.int .i64 0, .int .i64 0, .int .i64 0, .int .i64 0, .int .i64 0] 173)
    simpa using this
  have hY : (((w.alloc (.cells #[.int .i64 0, .int .i64 0, .int .i64 0, .int .i64 0, .int .i64 0] 173)).alloc (.cells #[.int .i64 0, .int .i64 0, .int .i64 0, .int .i64 0, .int .i64 0] 173)).alloc (.cells #[.int .i64 0, .int .i64 0, .int .i64 0, .int .i64 0, .int .i64 0] 173)).heap[w.heap.size]? = some (.cells #[.int .i64 0, .int .i64 0, .int .i64 0, .int .i64 0, .int .i64 0] 173 (0, 0)) := by
    rw [show (((w.alloc (.cells #[.int .i64 0, .int .i64 0, .int .i64 0, .int .i64 0, .int .i64 0] 173)).alloc (.cells #[.int .i64 0, .int .i64 0, .int .i64 0, .int .i64 0, .int .i64 0] 173)).alloc (.cells #[.int .i64 0, .int .i64 0, .int .i64 0, .int .i64 0, .int .i64 0] 173)).heap[w.heap.size]? = ((w.alloc (.cells #[.int .i64 0, .int .i64 0, .int .i64 0, .int .i64 0, .int .i64 0] 173)).alloc (.cells #[.int .i64 0, .int .i64 0, .int .i64 0, .int .i64 0, .int .i64 0] 173)).heap[w.heap.size]? from push_old (by simp; omega)]
    exact heap_alloc2_old w _ _
  have g01 : w.grownBy w1 (some wb) := grown_tr (grown_bl b0 _) g1
  have hsz0 : (((w.alloc (.cells #[.int .i64 0, .int .i64 0, .int .i64 0, .int .i64 0, .int .i64 0] 173)).alloc (.cells #[.int .i64 0, .int .i64 0, .int .i64 0, .int .i64 0, .int .i64 0] 173)).alloc (.cells #[.int .i64 0, .int .i64 0, .int .i64 0, .int .i64 0, .int .i64 0] 173)).heap.size = w.heap.size + 3 := by simp
  have L0 : LTq w w1 wb m b nn t v F A D n x 0 (.slice none 0 0) [] := by
    refine ⟨⟨⟨k, D, q2, fun _ _ hh => Or.inl hh⟩, g01.size, g01.os, g01.tape, g01.output, fun j h1 h2 _ => g01.block j h1 (by simp; omega)⟩, (g1.block (w.heap.size + 1 + 1) (by omega) (by simp; omega)).trans hX, (g1.block w.heap.size (by omega) (by simp; omega)).trans hY, World.ownsRow_nil _ _ _ _, Spans.nil, by simp, hwl, hml, fun k hk => hw.ar.flt k hk⟩
  have HBIG : Hid (∀ i, i ≤ 4 → (accF A.ths n x i).length < 4611686018427387904) := fun i hi => by
    have := acc_mono A.ths n x (4 - i) i
    rw [show i + (4 - i) = 4 by omega, acc_four A.ths n x id hth] at this
    omega
  clear hlook hc' hX hY q0 q1 hk4 hw1 b1 b0 hsz0 q2 g1 g01
  go_loopg [10, 32] 4 (fun g s10 s32 wr => ∃ (i : Nat) (cs : List (Int × Int)), i + g = 4 ∧ s32 = .int .i64 (i : Int) ∧ LTq w wr wb m b nn t v F A D n x i s10 cs)
  case atStart => exact ⟨0, [], by omega, rfl, L0⟩
  case round =>
    obtain ⟨i, cs, hig, rfl, L⟩ := hrel
    have HI : Hid (i + gk = 4) := hig
    clear hig
    by_cases hi4 : i < 4
    · have hki := fun W => hkid i hi4 W
      have hco := fun W => hcor i hi4 W
      obtain ⟨kk, D1, hW, hK1⟩ := L.tg.wg
      have HKK : Hid (∀ j, Fits j → Kn D1 A.ths t n j → Kn D A.ths t n j) := fun j hj h => by
        rcases h with h | h
        · exact hK1 j hj h
        · exact Or.inr h
      clear hK1
      have hil : (i : Int) < 4 := by omega
      have hi0 : (0 : Int) ≤ i := by omega
      have HIH := ih i kk D1 wr hi4 hW
      have HL : Hid (LTq w wr wb m b nn t v F A D n x i u10 cs) := L
      clear L hW hkid hcor ih L0 hw hh
      go_wp2_with fail
      refine HIH.mono ?_
      rintro y w2 ⟨c, x0, y0, x1, y1, rfl, hT, T2⟩
      have L2 := HL.out.called ⟨(by obtain ⟨k2, D2, h2, h3⟩ := T2.wg; exact ⟨k2, D2, h2, fun j hj hh => HKK.out j hj (h3 j hj hh)⟩), T2.size, T2.os, T2.tape, T2.output, T2.block⟩
      clear HIH HL T2
      have HT : Hid (Tal (cellsF A.ths n (quarterF x i)) c x0 y0 x1 y1) := hT
      have bP : Below w2.heap.size w2 (w2.alloc (.cells #[.int .i64 c, .int .i64 x0, .int .i64 y0, .int .i64 x1, .int .i64 y1] 173)) := (Below.refl _ _).alloc (Nat.le_refl _) _
      have L3 := L2.below bP
      have hcl : c = ((cellsF A.ths n (quarterF x i)).length : Int) := hT.1
      clear hT
      by_cases hc0 : c = 0
      · have hc1 : (c == 0) = true := by simpa using hc0
        have L4 := L3.skip (by rw [hc0] at hcl; exact List.length_eq_zero_iff.1 (by omega))
        clear hcl hc0
        go_wp2_with fail
        go_roundg (gk - 1)
        case measure => have := HI.out; omega
        case rel => exact ⟨i + 1, cs, by have := HI.out; omega, by go_num, L4⟩
      · have hc1 : (c == 0) = false := by simpa using hc0
        have hP3 : (w2.alloc (.cells #[.int .i64 c, .int .i64 x0, .int .i64 y0, .int .i64 x1, .int .i64 y1] 173)).heap[w2.heap.size]? = some (.cells #[.int .i64 c, .int .i64 x0, .int .i64 y0, .int .i64 x1, .int .i64 y1] 173 (0, 0)) := heap_alloc_new w2 _
        have hs0 := Lib.cell_of_heap L3.sum 0
        have hz0 := Lib.frozen_of_heap L3.sum 0
        have hlt2 : w.heap.size + 1 + 1 < w2.heap.size := (Array.getElem?_eq_some_iff.1 L2.sum).1
        have hacc : (accF A.ths n x (i + 1)).length = (accF A.ths n x i).length + (cellsF A.ths n (quarterF x i)).length := by simp [accF, shift_len]
        have hb4 := HBIG.out (i + 1) (by omega)
        obtain ⟨a, ha⟩ : ∃ a : Int, a = ((accF A.ths n x i).length : Int) := ⟨_, rfl⟩
        have hadd : ∀ W, Calls Tryz.prog 137 #[.int .i64 a, .int .i64 c] W fun y w' => y = .returned (.int .i64 (a + c)) ∧ w' = W := fun W => by
          have := add_any a c W (by omega) (by omega)
          rw [show addF a c = a + c by unfold addF; rw [if_neg (by omega)]] at this
          exact this
        have hs1 : (w2.alloc (.cells #[.int .i64 c, .int .i64 x0, .int .i64 y0, .int .i64 x1, .int .i64 y1] 173)).cell? ⟨w.heap.size + 1 + 1, 0, none⟩ = some (.int .i64 a) := by rw [ha]; exact hs0
        obtain ⟨dx, hdx⟩ : ∃ dx, dx = cornX ((2 ^ n : Nat) : Int) i := ⟨_, rfl⟩
        obtain ⟨dy, hdy⟩ : ∃ dy, dy = cornY ((2 ^ n : Nat) : Int) i := ⟨_, rfl⟩
        have hpw : ((2 ^ n : Nat) : Int) ≤ 8796093022208 := by
          have : (2 : Nat) ^ n ≤ 2 ^ 43 := Nat.pow_le_pow_right (by omega) (by omega)
          have e : (2 : Nat) ^ 43 = 8796093022208 := by decide
          omega
        have hpw0 : (0 : Int) ≤ ((2 ^ n : Nat) : Int) := Int.natCast_nonneg _
        have hdb : 0 ≤ dx ∧ dx ≤ 8796093022208 ∧ 0 ≤ dy ∧ dy ≤ 8796093022208 := by
          rw [hdx, hdy]; unfold cornX cornY
          generalize ((2 ^ n : Nat) : Int) = pw at *
          refine ⟨?_, ?_, ?_, ?_⟩ <;> split <;> omega
        have hxb : 0 ≤ x0 ∧ x0 ≤ 8796093022208 ∧ 0 ≤ y0 ∧ y0 ≤ 8796093022208 ∧ 0 ≤ x1 ∧ x1 ≤ 8796093022208 ∧ 0 ≤ y1 ∧ y1 ≤ 8796093022208 := by
          have hbx : IsBox (cellsF A.ths n (quarterF x i)) x0 y0 x1 y1 := by
            rcases HT.out.2 with ⟨h0, _⟩ | h0
            · exact absurd (by rw [hcl, h0]; rfl) hc0
            · exact h0
          have hq := HIN.out i hi4
          obtain ⟨p, hp, e0⟩ := hbx.a0
          obtain ⟨q, hqq, e1⟩ := hbx.b0
          obtain ⟨r, hr, e2⟩ := hbx.a1
          obtain ⟨s, hs, e3⟩ := hbx.b1
          have := hq p hp; have := hq q hqq; have := hq r hr; have := hq s hs
          omega
        have hab : 0 ≤ a ∧ a + c < 4611686018427387904 ∧ 0 ≤ c := by omega
        have hcomm : ((w2.alloc (.cells #[.int .i64 c, .int .i64 x0, .int .i64 y0, .int .i64 x1, .int .i64 y1] 173)).setCell ⟨w.heap.size + 1 + 1, 0, none⟩ (.int .i64 (a + c))) = ((w2.setCell ⟨w.heap.size + 1 + 1, 0, none⟩ (.int .i64 (a + c))).alloc (.cells #[.int .i64 c, .int .i64 x0, .int .i64 y0, .int .i64 x1, .int .i64 y1] 173)) := World.setCell_alloc_past _ _ _ _ hlt2
        have HMORE : Hid (∀ (o : Obj) (w5 : World) (g5 cap5 : Nat), w5.ownsRow (w.heap.size + 3) 50 2 (.slice (some ⟨g5, 0, none⟩) (cs.length + 2) cap5) (cs.length + 2) (cL cs ++ [.int .i64 (dx + x0), .int .i64 (dy + y0), .int .i64 (dx + x1), .int .i64 (dy + y1)]) → (((w2.setCell ⟨w.heap.size + 1 + 1, 0, none⟩ (.int .i64 (a + c))).alloc (.cells #[.int .i64 c, .int .i64 x0, .int .i64 y0, .int .i64 x1, .int .i64 y1] 173)).alloc o).grownBy w5 u10.ownBlock →
            LTq w w5 wb m b nn t v F A D n x (i + 1) (.slice (some ⟨g5, 0, none⟩) (cs.length + 2) cap5) (cs ++ [(dx + x0, dy + y0), (dx + x1, dy + y1)])) := fun o w5 g5 cap5 h1 h2 => by
          rw [← hcomm, ha] at h2
          rw [hdx, hdy] at h1 ⊢
          exact L3.more HT.out hc0 h1 h2
        rw [← hdx, ← hdy] at hco
        have hq4 : ∀ k, k ≠ w.heap.size + 1 + 1 → ((w2.setCell ⟨w.heap.size + 1 + 1, 0, none⟩ (.int .i64 (a + c))).alloc (.cells #[.int .i64 c, .int .i64 x0, .int .i64 y0, .int .i64 x1, .int .i64 y1] 173)).heap[k]? = (w2.alloc (.cells #[.int .i64 c, .int .i64 x0, .int .i64 y0, .int .i64 x1, .int .i64 y1] 173)).heap[k]? := fun k hk => by rw [← hcomm]; exact heap_set hk
        have hP4 := (hq4 w2.heap.size (by omega)).trans hP3
        have p0 := Lib.cell_of_heap hP4 0
        have p1 : ((w2.setCell ⟨w.heap.size + 1 + 1, 0, none⟩ (.int .i64 (a + c))).alloc (.cells #[.int .i64 c, .int .i64 x0, .int .i64 y0, .int .i64 x1, .int .i64 y1] 173)).cell? ⟨w2.heap.size, 1, none⟩ = some (.int .i64 x0) := Lib.cell_of_heap hP4 1
        have p2 : ((w2.setCell ⟨w.heap.size + 1 + 1, 0, none⟩ (.int .i64 (a + c))).alloc (.cells #[.int .i64 c, .int .i64 x0, .int .i64 y0, .int .i64 x1, .int .i64 y1] 173)).cell? ⟨w2.heap.size, 2, none⟩ = some (.int .i64 y0) := Lib.cell_of_heap hP4 2
        have p3 : ((w2.setCell ⟨w.heap.size + 1 + 1, 0, none⟩ (.int .i64 (a + c))).alloc (.cells #[.int .i64 c, .int .i64 x0, .int .i64 y0, .int .i64 x1, .int .i64 y1] 173)).cell? ⟨w2.heap.size, 3, none⟩ = some (.int .i64 x1) := Lib.cell_of_heap hP4 3
        have p4 : ((w2.setCell ⟨w.heap.size + 1 + 1, 0, none⟩ (.int .i64 (a + c))).alloc (.cells #[.int .i64 c, .int .i64 x0, .int .i64 y0, .int .i64 x1, .int .i64 y1] 173)).cell? ⟨w2.heap.size, 4, none⟩ = some (.int .i64 y1) := Lib.cell_of_heap hP4 4
        have OW : Hid (∀ o, (((w2.setCell ⟨w.heap.size + 1 + 1, 0, none⟩ (.int .i64 (a + c))).alloc (.cells #[.int .i64 c, .int .i64 x0, .int .i64 y0, .int .i64 x1, .int .i64 y1] 173)).alloc o).ownsRow (w.heap.size + 3) 50 2 u10 cs.length (cL cs)) := fun o => by
          refine World.ownsRow.alloc (row_other L3.row fun j hj => hq4 j ?_) o
          have := (World.ownsRow.lt L3.row j hj).1
          omega
        have hlen8 := L3.len
        obtain ⟨cl, hcl8⟩ : ∃ cl, cl = cs.length := ⟨_, rfl⟩
        have HCL : Hid (cl = cs.length) := hcl8
        have HDX : Hid (dx = cornX ((2 ^ n : Nat) : Int) i ∧ dy = cornY ((2 ^ n : Nat) : Int) i) := ⟨hdx, hdy⟩
        rw [← hcl8] at OW hlen8
        have hcl9 : cl ≤ 8 := by omega
        clear hcomm hs0 p0 hP4 hP3 hq4 hcl hacc hb4 ha hdx hdy hpw hpw0 hcl8 hlen8
        clear L2 L3 bP hc0
        go_wp2_with fail
        refine (hadd _).mono ?_
        rintro y w3 ⟨rfl, rfl⟩
        go_wp2_with fail
        refine (hco _).mono ?_
        rintro y w3 ⟨rfl, rfl⟩
        go_wp2_with (at_builtin; refine wpList_append_lies _ rfl _ _ 22 rfl (w.heap.size + 3) 50 i00 (.agg #[.int .i64 0, .int .i64 0]) 2 16 Tryz.underlying22 hi00 hz00 hz01 hz02 rfl (by decide) u10 cl (cL cs) rfl (by exact OW.out _) ⟨w2.heap.size + 1, 0, none⟩ 2 2 [.int .i64 (dx + x0), .int .i64 (dy + y0), .int .i64 (dx + x1), .int .i64 (dy + y1)] rfl rfl (four_new _ _ _ _ _ _ _ (by simp [World.setCell])) (by intro u hu; simp at hu; rcases hu with rfl | rfl | rfl | rfl <;> rfl) (by omega) (by unfold maxLen; omega) (by omega) (by simp [World.setCell]; omega) (w2.heap.size + 1 + 1) (by simp [World.setCell]) ?_; intro g5 cap5 w5 hown5 hgrow5 hat5 hlt5)
        go_roundg (gk - 1)
        case measure => have := HI.out; omega
        case rel => exact ⟨i + 1, _, by have := HI.out; omega, by go_num, by have := HMORE.out _ w5 g5 cap5 (by rw [← HCL.out]; exact hown5) hgrow5; rw [← HCL.out] at this; exact this⟩
    · have hi4' : i = 4 := by have := HI.out; omega
      subst hi4'
      have HL : Hid (LTq w wr wb m b nn t v F A D n x 4 u10 cs) := L
      obtain ⟨x0, y0, x1, y1, bl, hbox, hBd⟩ : ∃ x0 y0 x1 y1 bl, BoxOr cs x0 y0 x1 y1 ∧ Calls Tryz.prog 90 #[u10] wr fun e w' => e = .returned (.tuple #[.agg #[.int .i64 x0, .int .i64 y0, .int .i64 x1, .int .i64 y1], .bool bl]) ∧ Below wr.heap.size wr w' := by
        by_cases h0 : cs = []
        · have hr := own_isRow L.row
          subst h0
          exact ⟨0, 0, 0, 0, false, Or.inl ⟨rfl, rfl, rfl, rfl, rfl⟩, bounds_any u10 0 (fun j => (([] : List (Int × Int))[j]!).1) (fun j => (([] : List (Int × Int))[j]!).2) wr hr⟩
        · exact ⟨_, _, _, _, _, Or.inr (box_is h0), bounds_any u10 cs.length (fun j => (cs[j]!).1) (fun j => (cs[j]!).2) wr (own_isRow L.row)⟩
      have HTAL : Hid (Tal (cellsF A.ths (n + 1) id) ((accF A.ths n x 4).length : Int) x0 y0 x1 y1) := by
        show Tal _ _ _ _ _ _
        have := L.sp.boxOr hbox
        rw [acc_four A.ths n x id hth] at this ⊢
        exact ⟨rfl, this⟩
      clear L hbox L0 hkid hcor ih
      go_wp2_with fail
      refine hBd.mono ?_
      rintro y w6 ⟨rfl, d1⟩
      have L6 := HL.out.below d1
      obtain ⟨a, ha⟩ : ∃ a : Int, a = ((accF A.ths n x 4).length : Int) := ⟨_, rfl⟩
      have hX6 := L6.sum
      rw [← ha] at hX6 HTAL
      clear ha
      have hY6 := L6.res
      have s0 : w6.cell? ⟨w.heap.size + 1 + 1, 0, none⟩ = some (.int .i64 a) := Lib.cell_of_heap hX6 0
      have s1 : w6.cell? ⟨w.heap.size + 1 + 1, 1, none⟩ = some (.int .i64 0) := Lib.cell_of_heap hX6 1
      have s2 : w6.cell? ⟨w.heap.size + 1 + 1, 2, none⟩ = some (.int .i64 0) := Lib.cell_of_heap hX6 2
      have s3 : w6.cell? ⟨w.heap.size + 1 + 1, 3, none⟩ = some (.int .i64 0) := Lib.cell_of_heap hX6 3
      have s4 : w6.cell? ⟨w.heap.size + 1 + 1, 4, none⟩ = some (.int .i64 0) := Lib.cell_of_heap hX6 4
      have z1 := Lib.frozen_of_heap hX6 1
      have z2 := Lib.frozen_of_heap hX6 2
      have z3 := Lib.frozen_of_heap hX6 3
      have z4 := Lib.frozen_of_heap hX6 4
      have hXl : w.heap.size + 1 + 1 < w6.heap.size := (Array.getElem?_eq_some_iff.1 hX6).1
      have HL6 : Hid (LTq w w6 wb m b nn t v F A D n x 4 u10 cs) := L6
      clear L6 hBd HL d1
      go_wp2_with fail
      have hX7 : ((((w6.setCell ⟨w.heap.size + 1 + 1, 1, none⟩ (.int .i64 x0)).setCell ⟨w.heap.size + 1 + 1, 2, none⟩ (.int .i64 y0)).setCell ⟨w.heap.size + 1 + 1, 3, none⟩ (.int .i64 x1)).setCell ⟨w.heap.size + 1 + 1, 4, none⟩ (.int .i64 y1)).heap[w.heap.size + 1 + 1]? = some (.cells #[.int .i64 a, .int .i64 x0, .int .i64 y0, .int .i64 x1, .int .i64 y1] 173 (0, 0)) := Go.Joins.block_setCell (Go.Joins.block_setCell (Go.Joins.block_setCell (Go.Joins.block_setCell hX6 _) _) _) _
      have ho : ∀ k, k ≠ w.heap.size + 1 + 1 → ((((w6.setCell ⟨w.heap.size + 1 + 1, 1, none⟩ (.int .i64 x0)).setCell ⟨w.heap.size + 1 + 1, 2, none⟩ (.int .i64 y0)).setCell ⟨w.heap.size + 1 + 1, 3, none⟩ (.int .i64 x1)).setCell ⟨w.heap.size + 1 + 1, 4, none⟩ (.int .i64 y1)).heap[k]? = w6.heap[k]? := fun k hk => by
        rw [Below.heap_setCell _ _ _ _ hk, Below.heap_setCell _ _ _ _ hk, Below.heap_setCell _ _ _ _ hk, Below.heap_setCell _ _ _ _ hk]
      have hsz : ((((w6.setCell ⟨w.heap.size + 1 + 1, 1, none⟩ (.int .i64 x0)).setCell ⟨w.heap.size + 1 + 1, 2, none⟩ (.int .i64 y0)).setCell ⟨w.heap.size + 1 + 1, 3, none⟩ (.int .i64 x1)).setCell ⟨w.heap.size + 1 + 1, 4, none⟩ (.int .i64 y1)).heap.size = w6.heap.size := by simp [World.setCell]
      have hos : ((((w6.setCell ⟨w.heap.size + 1 + 1, 1, none⟩ (.int .i64 x0)).setCell ⟨w.heap.size + 1 + 1, 2, none⟩ (.int .i64 y0)).setCell ⟨w.heap.size + 1 + 1, 3, none⟩ (.int .i64 x1)).setCell ⟨w.heap.size + 1 + 1, 4, none⟩ (.int .i64 y1)).os = w6.os ∧ ((((w6.setCell ⟨w.heap.size + 1 + 1, 1, none⟩ (.int .i64 x0)).setCell ⟨w.heap.size + 1 + 1, 2, none⟩ (.int .i64 y0)).setCell ⟨w.heap.size + 1 + 1, 3, none⟩ (.int .i64 x1)).setCell ⟨w.heap.size + 1 + 1, 4, none⟩ (.int .i64 y1)).tape = w6.tape ∧ ((((w6.setCell ⟨w.heap.size + 1 + 1, 1, none⟩ (.int .i64 x0)).setCell ⟨w.heap.size + 1 + 1, 2, none⟩ (.int .i64 y0)).setCell ⟨w.heap.size + 1 + 1, 3, none⟩ (.int .i64 x1)).setCell ⟨w.heap.size + 1 + 1, 4, none⟩ (.int .i64 y1)).output = w6.output := ⟨rfl, rfl, rfl⟩
      clear s0 s1 s2 s3 s4 z1 z2 z3 z4
      generalize ((((w6.setCell ⟨w.heap.size + 1 + 1, 1, none⟩ (.int .i64 x0)).setCell ⟨w.heap.size + 1 + 1, 2, none⟩ (.int .i64 y0)).setCell ⟨w.heap.size + 1 + 1, 3, none⟩ (.int .i64 x1)).setCell ⟨w.heap.size + 1 + 1, 4, none⟩ (.int .i64 y1)) = w7 at *
      obtain ⟨k6, D6, q6, hK6⟩ := HL6.out.tg.wg
      have hfl := HL6.out.lF
      have q8 := q6.other (w' := w7) (by omega) (fun j hj => ho j (by rcases hj with h | h | h <;> first | omega | (have := hfl j h; omega)))
      have s0 : w7.cell? ⟨w.heap.size + 1 + 1, 0, none⟩ = some (.int .i64 a) := Lib.cell_of_heap hX7 0
      have s1 : w7.cell? ⟨w.heap.size + 1 + 1, 1, none⟩ = some (.int .i64 x0) := Lib.cell_of_heap hX7 1
      have s2 : w7.cell? ⟨w.heap.size + 1 + 1, 2, none⟩ = some (.int .i64 y0) := Lib.cell_of_heap hX7 2
      have s3 : w7.cell? ⟨w.heap.size + 1 + 1, 3, none⟩ = some (.int .i64 x1) := Lib.cell_of_heap hX7 3
      have s4 : w7.cell? ⟨w.heap.size + 1 + 1, 4, none⟩ = some (.int .i64 y1) := Lib.cell_of_heap hX7 4
      have c4 := q8.c4
      have hh6 : Maps.has D6 (.int .i64 id) = false := by
        cases e : Maps.has D6 (.int .i64 id) with
        | false => rfl
        | true =>
          rcases hK6 id hi e with h | ⟨q, hq, h⟩
          · rw [hh] at h; cases h
          · rw [hl] at h; have := Option.some.inj h; omega
      obtain ⟨w8, D8, run8, own8, kn8, cap8, tu8, hp8, hs8⟩ := tal_learnK (w := w7.drew) (talG_other q8.map rfl) q8.known hi hid2 hidl hl HTAL.out hh6 q8.cap
      have e8 : ∀ k, k ≠ m → w8.heap[k]? = w7.heap[k]? := fun k hk => turned_block (w := w7.drew) tu8 hk
      have gr8 := grown_of_turned tu8
      have hX8 := (e8 (w.heap.size + 1 + 1) (by omega)).trans hX7
      have hY8 := (e8 w.heap.size (by omega)).trans ((ho w.heap.size (by omega)).trans hY6)
      have t0 : w8.cell? ⟨w.heap.size + 1 + 1, 0, none⟩ = some (.int .i64 a) := Lib.cell_of_heap hX8 0
      have t1 : w8.cell? ⟨w.heap.size + 1 + 1, 1, none⟩ = some (.int .i64 x0) := Lib.cell_of_heap hX8 1
      have t2 : w8.cell? ⟨w.heap.size + 1 + 1, 2, none⟩ = some (.int .i64 y0) := Lib.cell_of_heap hX8 2
      have t3 : w8.cell? ⟨w.heap.size + 1 + 1, 3, none⟩ = some (.int .i64 x1) := Lib.cell_of_heap hX8 3
      have t4 : w8.cell? ⟨w.heap.size + 1 + 1, 4, none⟩ = some (.int .i64 y1) := Lib.cell_of_heap hX8 4
      have j0 : w8.cell? ⟨w.heap.size, 0, none⟩ = some (.int .i64 0) := Lib.cell_of_heap hY8 0
      have j1 : w8.cell? ⟨w.heap.size, 1, none⟩ = some (.int .i64 0) := Lib.cell_of_heap hY8 1
      have j2 : w8.cell? ⟨w.heap.size, 2, none⟩ = some (.int .i64 0) := Lib.cell_of_heap hY8 2
      have j3 : w8.cell? ⟨w.heap.size, 3, none⟩ = some (.int .i64 0) := Lib.cell_of_heap hY8 3
      have j4 : w8.cell? ⟨w.heap.size, 4, none⟩ = some (.int .i64 0) := Lib.cell_of_heap hY8 4
      have z0 := Lib.frozen_of_heap hY8 0
      have z1 := Lib.frozen_of_heap hY8 1
      have z2 := Lib.frozen_of_heap hY8 2
      have z3 := Lib.frozen_of_heap hY8 3
      have z4 := Lib.frozen_of_heap hY8 4
      have hR := set5 hY8 (.int .i64 a) (.int .i64 x0) (.int .i64 y0) (.int .i64 x1) (.int .i64 y1)
      have e9 : ∀ k, k ≠ w.heap.size → (((((w8.setCell ⟨w.heap.size, 0, none⟩ (.int .i64 a)).setCell ⟨w.heap.size, 1, none⟩ (.int .i64 x0)).setCell ⟨w.heap.size, 2, none⟩ (.int .i64 y0)).setCell ⟨w.heap.size, 3, none⟩ (.int .i64 x1)).setCell ⟨w.heap.size, 4, none⟩ (.int .i64 y1)).heap[k]? = w8.heap[k]? := fun k hk => by
        rw [Below.heap_setCell _ _ _ _ hk, Below.heap_setCell _ _ _ _ hk, Below.heap_setCell _ _ _ _ hk, Below.heap_setCell _ _ _ _ hk, Below.heap_setCell _ _ _ _ hk]
      have hs9 : (((((w8.setCell ⟨w.heap.size, 0, none⟩ (.int .i64 a)).setCell ⟨w.heap.size, 1, none⟩ (.int .i64 x0)).setCell ⟨w.heap.size, 2, none⟩ (.int .i64 y0)).setCell ⟨w.heap.size, 3, none⟩ (.int .i64 x1)).setCell ⟨w.heap.size, 4, none⟩ (.int .i64 y1)).heap.size = w8.heap.size := by simp [World.setCell]
      have HF : Hid (TG w wb m b nn t v F A (Kn D A.ths t (n + 1)) (((((w8.setCell ⟨w.heap.size, 0, none⟩ (.int .i64 a)).setCell ⟨w.heap.size, 1, none⟩ (.int .i64 x0)).setCell ⟨w.heap.size, 2, none⟩ (.int .i64 y0)).setCell ⟨w.heap.size, 3, none⟩ (.int .i64 x1)).setCell ⟨w.heap.size, 4, none⟩ (.int .i64 y1)) ∧ ∃ k2 D2, WG (((((w8.setCell ⟨w.heap.size, 0, none⟩ (.int .i64 a)).setCell ⟨w.heap.size, 1, none⟩ (.int .i64 x0)).setCell ⟨w.heap.size, 2, none⟩ (.int .i64 y0)).setCell ⟨w.heap.size, 3, none⟩ (.int .i64 x1)).setCell ⟨w.heap.size, 4, none⟩ (.int .i64 y1)) wb m b nn t k2 v F A D2 ∧ Maps.has D2 (.int .i64 id) = true) := by
        have W8 : WG w8 wb m b nn t (k6 + 1) v F A D8 := by
          refine ⟨q8.hand.go (e8 wb q8.ne), ?_, own8, kn8, cap8, (World.cell?_of_block (e8 wb q8.ne)).trans q8.c4, q8.ne, q8.nF, q8.nFw⟩
          exact q8.ar.other (Nat.le_trans (Nat.le_refl _) gr8.size) fun k hk => e8 k (fun e => q8.nF (by rw [← e]; exact hk))
        have hl6 := HL6.out.tg
        have a1 := gr8.size
        have a4 : w7.drew.heap.size = w7.heap.size := rfl
        have a5 := hl6.size
        have W9 := W8.other (w' := (((((w8.setCell ⟨w.heap.size, 0, none⟩ (.int .i64 a)).setCell ⟨w.heap.size, 1, none⟩ (.int .i64 x0)).setCell ⟨w.heap.size, 2, none⟩ (.int .i64 y0)).setCell ⟨w.heap.size, 3, none⟩ (.int .i64 x1)).setCell ⟨w.heap.size, 4, none⟩ (.int .i64 y1))) (by omega) (fun k hk => e9 k (by rcases hk with h | h | h <;> first | omega | (have := hfl k h; omega)))
        refine ⟨⟨⟨k6 + 1, D8, W9, fun j hj hjh => ?_⟩, by omega, ?_, ?_, ?_, fun k hk hk1 hk2 => ?_⟩, k6 + 1, D8, W9, hs8⟩
        · rcases hp8 j hjh with rfl | h
          · exact Or.inr ⟨n + 1, Nat.le_refl _, hl⟩
          · rcases hK6 j hj h with h | ⟨q, hq, h⟩
            · exact Or.inl h
            · exact Or.inr ⟨q, by omega, h⟩
        · exact gr8.os.trans (hos.1.trans hl6.os)
        · exact gr8.tape.trans (hos.2.1.trans hl6.tape)
        · exact gr8.output.trans (hos.2.2.trans hl6.output)
        · exact (e9 k (by omega)).trans ((e8 k hk2).trans ((ho k (by omega)).trans (hl6.block k hk hk1 hk2)))
      clear own8 kn8 cap8 tu8 gr8 q8 q6 hfl ho e8 e9 hs9 hK6 hp8 hs8 hh6
      go_region
      all_goals
        go_wp2_with fail
        refine bodyPost_ret (v := tv a x0 y0 x1 y1) ?_ rfl ⟨a, x0, y0, x1, y1, rfl, HTAL.out, HF.out⟩
        simp [results, Tryz.results110, go_sem, Lib.cell_of_heap hR]

theorem tally_knows (wb m b nn t : Nat) (v : Value) (F : Nat → Prop) (A : Ar) (hI : Inv A) (ht : t < 64) (hm : ∀ x ∈ A.ths, x.mask < 18446744073709551616) (hf : A.ths.length < 1000000) (n : Nat) (id : Int) (hn : n + 1 ≤ 44) (hl : levelF A.ths t id = some ((n + 1 : Nat) : Int)) (hbig : (cellsF A.ths (n + 1) id).length < 4611686018427387904) (k : Nat) (D : DataW Unit) (w : World) (level : Int) (hlev : level = ((n + 1 : Nat) : Int)) (hh : Maps.has D (.int .i64 id) = false) (hw : WG w wb m b nn t k v F A D) :
    Calls Tryz.prog 110 #[.pointer (some ⟨wb, 0, none⟩), .int .i64 id, .int .i64 level] w fun y w' => ∃ c x0 y0 x1 y1, y = .returned (tv c x0 y0 x1 y1) ∧ Tal (cellsF A.ths (n + 1) id) c x0 y0 x1 y1 ∧ TG w wb m b nn t v F A (Kn D A.ths t (n + 1)) w' ∧ ∃ k2 D2, WG w' wb m b nn t k2 v F A D2 ∧ Maps.has D2 (.int .i64 id) = true := by
  obtain ⟨x, hx, hth, h2, hlt, hq⟩ := square_of hI hl
  refine tally_stepK wb m b nn t k n id level v F A x D w hw (fits_of hl hf) (by omega) hlev hl hh ht hm hx hth h2 hlt hbig (fun i hi p hp => cells_in hI.good n _ (glevel_of (hq i hi)) p hp) (fun i k D w hi hw => ?_)
  have hle := quarter_len A.ths n x i hi
  rw [acc_four A.ths n x id hth] at hle
  exact tally_any wb m b nn t v F A hI ht hm hf n (quarterF x i) (by omega) (hq i hi) (by omega) k D w (level - 1) (by omega) hw
theorem born_no {D : DataW Unit} (h : ∀ l u, KnownG D l u) {id : Int} (hi : Fits id) (h2 : 2 ≤ id) : Maps.has D (.int .i64 id) = false := by
  cases e : Maps.has D (.int .i64 id) with
  | false => rfl
  | true =>
    exfalso
    obtain ⟨n, _, _, _, _, _, hl, _⟩ := (h [] 0).tal id hi e
    unfold levelF at hl
    rw [if_neg (by omega)] at hl
    simp [ownF] at hl
end Go.Proofs.YtgipjplifndniaaGreatDoor.A
