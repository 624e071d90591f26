/- The document's headOf. -/
import Derived.Test.YtpldnhlancjlnaaDoorDecPure
import Derived.Test.YtpldnhlancjlnaaDoorRefRead
import Derived.RegionTactic
namespace Go.Proofs.YtpldnhlancjlnaaDoor
open Go.RowKit

def HeadOut (T : List UInt8) (w : World) (e : Ending) (w' : World) : Prop :=
  ∃ W H b l : Int, e = .returned (.tuple #[.int .i64 W, .int .i64 H, .agg #[.int .i64 b, .int .i64 l], .bool (headF readF T).2.2]) ∧ ((headF readF T).2.2 = true → headF readF T = ((W, H), (b, l), true) ∧ 0 ≤ W ∧ W < 1000000000000 ∧ 0 ≤ H ∧ H < 1000000000000) ∧ Below w.heap.size w w'

/-- both rules of the call -/
def TwoR (w W : World) : Prop := Below w.heap.size w W ∧ W.heap[w.heap.size]? = some (.cells #[.int .i64 0, .int .i64 0] 24 (0, 0)) ∧ W.heap[w.heap.size + 1]? = some (.cells #[.int .i64 8, .int .i64 12] 24 (0, 0))
theorem TwoR.born (w : World) : TwoR w ((w.alloc (.cells #[.int .i64 0, .int .i64 0] 24)).alloc (.cells #[.int .i64 8, .int .i64 12] 24)) := by
  refine ⟨((Below.refl _ _).alloc (Nat.le_refl _) _).alloc (by simp) _, ?_, ?_⟩
  · rw [Go.Deep.blk_alloc_lt _ _ _ (by simp)]; exact heap_alloc_new w _
  · have := heap_alloc_new (w.alloc (.cells #[.int .i64 0, .int .i64 0] 24)) (.cells #[.int .i64 8, .int .i64 12] 24)
    simpa using this
theorem TwoR.go {w W W' : World} (h : TwoR w W) (hb : Below W.heap.size W W') : TwoR w W' :=
  ⟨h.1.trans (hb.mono h.1.size), (hb.block _ (Array.getElem?_eq_some_iff.1 h.2.1).1).trans h.2.1, (hb.block _ (Array.getElem?_eq_some_iff.1 h.2.2).1).trans h.2.2⟩
theorem TwoR.cells {w W : World} (h : TwoR w W) : (W.cell? ⟨w.heap.size, 0, none⟩ = some (.int .i64 0) ∧ W.cell? ⟨w.heap.size, 1, none⟩ = some (.int .i64 0) ∧ W.cell? ⟨w.heap.size + 1, 0, none⟩ = some (.int .i64 8) ∧ W.cell? ⟨w.heap.size + 1, 1, none⟩ = some (.int .i64 12)) ∧ W.frozen? ⟨w.heap.size, 0, none⟩ = false ∧ W.frozen? ⟨w.heap.size, 1, none⟩ = false ∧ W.frozen? ⟨w.heap.size + 1, 0, none⟩ = false ∧ W.frozen? ⟨w.heap.size + 1, 1, none⟩ = false :=
  ⟨⟨by rw [Lib.cell_of_heap h.2.1]; rfl, by rw [Lib.cell_of_heap h.2.1]; rfl, by rw [Lib.cell_of_heap h.2.2]; rfl, by rw [Lib.cell_of_heap h.2.2]; rfl⟩, Lib.frozen_of_heap h.2.1 0, Lib.frozen_of_heap h.2.1 1, Lib.frozen_of_heap h.2.2 0, Lib.frozen_of_heap h.2.2 1⟩

theorem set0 {W : World} {A : Nat} {p q : Value} {T : TypeId} {fr : Nat × Nat} (h : W.heap[A]? = some (.cells #[p, q] T fr)) (a : Value) : (W.setCell ⟨A, 0, none⟩ a).cell? ⟨A, 0, none⟩ = some a := by
  rw [Lib.cell_of_heap (Go.Joins.block_setCell h a)]; rfl
theorem set1 {W : World} {A : Nat} {p q : Value} {T : TypeId} {fr : Nat × Nat} (h : W.heap[A]? = some (.cells #[p, q] T fr)) (a b : Value) : ((W.setCell ⟨A, 0, none⟩ a).setCell ⟨A, 1, none⟩ b).cell? ⟨A, 1, none⟩ = some b := by
  rw [Lib.cell_of_heap (Go.Joins.block_setCell (Go.Joins.block_setCell h a) b)]; rfl
theorem head_no (rd : List UInt8 → Int × Int × Int) (T : List UInt8) (h : (behindF kx T).2.2 = false ∨ (behindF ky (behindF kx T).2.1).2.2 = false) : headF rd T = ((0, 0), (0, 0), false) := by
  unfold headF
  simp only
  rw [if_neg]
  rintro ⟨h1, h2, _⟩
  rcases h with h | h
  · rw [h] at h1; cases h1
  · rw [h] at h2; cases h2
theorem behind_is (a s : List UInt8) : behindF a s = if Lib.hasPrefix s a = true then (if badN (s.drop a.length) then ((0 : Int), (s.drop a.length).drop (dgs (s.drop a.length)), false) else (((decV ((s.drop a.length).take (dgs (s.drop a.length))) : Nat) : Int), (s.drop a.length).drop (dgs (s.drop a.length)), true)) else ((0 : Int), s, false) := by
  unfold behindF
  rw [number_is]

theorem head_yes (rd : List UInt8 → Int × Int × Int) (T : List UInt8) (W H : Int) (s2 s4 : List UInt8) (h1 : behindF kx T = (W, s2, true)) (h2 : behindF ky s2 = (H, s4, true)) :
    headF rd T = if Lib.hasPrefix (if s4 = [] then kr ++ [66, 51, 47, 83, 50, 51] else s4) kr = true ∧ (rd (Lib.trimPrefix (if s4 = [] then kr ++ [66, 51, 47, 83, 50, 51] else s4) kr)).2.2 = 0 then ((W, H), ((rd (Lib.trimPrefix (if s4 = [] then kr ++ [66, 51, 47, 83, 50, 51] else s4) kr)).1, (rd (Lib.trimPrefix (if s4 = [] then kr ++ [66, 51, 47, 83, 50, 51] else s4) kr)).2.1), true) else ((0, 0), (0, 0), false) := by
  unfold headF
  simp only
  rw [h1]
  simp only
  rw [h2]
  simp only [true_and]
theorem read_life : readF [66, 51, 47, 83, 50, 51] = (8, 12, 0) := by decide +kernel
theorem prefix_len {s t : List UInt8} (h : Lib.hasPrefix s t = true) : t.length ≤ s.length := by
  rw [prefix_is] at h
  have := congrArg List.length (of_decide_eq_true h)
  rw [List.length_take] at this
  omega
theorem tail_list (T : List UInt8) (p : Nat) : (⟨T.toArray⟩ : ByteArray).extract p T.length = ⟨(T.drop p).toArray⟩ := by
  apply ByteArray.ext
  simp [ByteArray.data_extract]
  exact List.take_of_length_le (by simp)
theorem decV_small (s : List UInt8) (h : ¬ badN s) : decV (s.take (dgs s)) < 1000000000000 := by
  have hl : (s.take (dgs s)).length = dgs s := by rw [List.length_take]; have := dgs_le s; omega
  have h1 := decV_lt _ _ hl (dgs_all s)
  have h2 : dgs s ≤ 12 := by
    unfold badN at h
    omega
  have h5 : 10 ^ dgs s ≤ 10 ^ 12 := Nat.pow_le_pow_right (by omega) h2
  have h6 : (10 : Nat) ^ 12 = 1000000000000 := by decide
  omega

set_option maxRecDepth 20000 in
set_option maxHeartbeats 8000000 in
theorem headOf_any (T : List UInt8) (w : World) (hT : T.length ≤ 20000) : Calls Tryd.prog 28 #[.string ⟨T.toArray⟩] w (HeadOut T w) := by
  have q0 := TwoR.born w
  have hs0 := fun W => starts_any T ((0 : Nat) : Int) kx W hT (by decide) (by omega) (by omega)
  rw [starts_is T 0 kx (by omega)] at hs0
  have hbk := behind_is kx T
  rw [List.drop_zero] at hs0
  by_cases h1 : Lib.hasPrefix T kx = true
  · rw [if_pos h1, show ((0 : Nat) : Int) + (kx.length : Nat) = 4 from rfl] at hs0
    rw [if_pos h1, show kx.length = 4 from rfl] at hbk
    have hl1 := prefix_len h1
    rw [show kx.length = 4 from rfl] at hl1
    have hp1 := fun W => plain_any T 4 W hT hl1
    rw [plain_is] at hp1
    have hk1 := dgs_le (T.drop 4)
    rw [List.length_drop] at hk1
    by_cases hb1 : badN (T.drop 4)
    · rw [if_pos hb1] at hp1 hbk
      have HX : Hid (headF readF T = ((0, 0), (0, 0), false)) := head_no _ _ (Or.inl (by rw [hbk]))
      have hs1 := fun W => starts_any T (-1) ky W hT (by decide) (by omega) (by omega)
      rw [starts_neg T (-1) ky (by omega)] at hs1
      clear hbk hb1 h1
      go_enter Tryd.func28, Tryd.ntmps28
      go_wp2_with fail
      refine (hs0 _).mono ?_
      rintro e w1 ⟨rfl, rfl⟩
      go_wp2_with fail
      refine (hp1 _).mono ?_
      rintro e w2 ⟨rfl, b2⟩
      have q2 := q0.go b2
      obtain ⟨⟨c0, c1, c2, c3⟩, f0, f1, f2, f3⟩ := q2.cells
      go_wp2_with fail
      refine (hs1 _).mono ?_
      rintro e w3 ⟨rfl, rfl⟩
      go_wp2_with fail
      go_region
      go_wp2_with fail
      refine bodyPost_ret (v := .tuple #[.int .i64 0, .int .i64 0, .agg #[.int .i64 8, .int .i64 12], .bool false]) ?_ rfl ⟨0, 0, 8, 12, ?_, ?_, ?_⟩
      · simp [results, Tryd.results28, go_sem, set0 q2.2.1, set1 q2.2.1]
      · rw [HX.out]
      · rw [HX.out]; intro h; cases h
      · exact ((q2.1.setCell (p := ⟨w.heap.size, 0, none⟩) (Nat.le_refl _) _).setCell (p := ⟨w.heap.size, 1, none⟩) (Nat.le_refl _) _).drew
    · rw [if_neg hb1] at hp1 hbk
      have hW := decV_small _ hb1
      obtain ⟨p1, hp1e⟩ : ∃ p1, p1 = 4 + dgs (T.drop 4) := ⟨_, rfl⟩
      have hd2 : (T.drop 4).drop (dgs (T.drop 4)) = T.drop p1 := by rw [List.drop_drop, hp1e]
      rw [hd2] at hbk
      rw [← hp1e] at hp1
      have hl2 : p1 ≤ T.length := by omega
      have hp15 : p1 ≤ 20000 := by omega
      clear hp1e hd2 hk1 hb1
      generalize decV ((T.drop 4).take (dgs (T.drop 4))) = W1 at *
      have hs1 := fun W => starts_any T ((p1 : Nat) : Int) ky W hT (by decide) (by omega) (by omega)
      rw [starts_is T p1 ky hl2] at hs1
      have hbk2 := behind_is ky (T.drop p1)
      by_cases h2 : Lib.hasPrefix (T.drop p1) ky = true
      · rw [if_pos h2, show ky.length = 6 from rfl] at hs1 hbk2
        have hl3 := prefix_len h2
        rw [show ky.length = 6 from rfl, List.length_drop] at hl3
        obtain ⟨p2, hp2e⟩ : ∃ p2, p2 = p1 + 6 := ⟨_, rfl⟩
        have hci : (p1 : Int) + ((6 : Nat) : Int) = (p2 : Int) := by omega
        rw [hci] at hs1
        rw [List.drop_drop, ← hp2e] at hbk2
        have hp2 := fun W => plain_any T p2 W hT (by omega)
        rw [plain_is] at hp2
        have hk2 := dgs_le (T.drop p2)
        rw [List.length_drop] at hk2
        have hp25 : p2 ≤ 20000 := by omega
        by_cases hb2 : badN (T.drop p2)
        · rw [if_pos hb2] at hp2 hbk2
          have HX : Hid (headF readF T = ((0, 0), (0, 0), false)) := head_no _ _ (Or.inr (by rw [hbk, hbk2]))
          clear hbk hbk2 hb2 h1 h2 hci hp2e
          go_enter Tryd.func28, Tryd.ntmps28
          go_wp2_with fail
          refine (hs0 _).mono ?_
          rintro e w1 ⟨rfl, rfl⟩
          go_wp2_with fail
          refine (hp1 _).mono ?_
          rintro e w2 ⟨rfl, b2⟩
          have q2 := q0.go b2
          go_wp2_with fail
          refine (hs1 _).mono ?_
          rintro e w3 ⟨rfl, rfl⟩
          go_wp2_with fail
          refine (hp2 _).mono ?_
          rintro e w4 ⟨rfl, b4⟩
          have q4 := q2.go b4
          obtain ⟨⟨c0, c1, c2, c3⟩, f0, f1, f2, f3⟩ := q4.cells
          go_wp2_with fail
          go_region
          go_wp2_with fail
          refine bodyPost_ret (v := .tuple #[.int .i64 W1, .int .i64 0, .agg #[.int .i64 8, .int .i64 12], .bool false]) ?_ rfl ⟨W1, 0, 8, 12, ?_, ?_, ?_⟩
          · simp [results, Tryd.results28, go_sem, set0 q4.2.1, set1 q4.2.1]
          · rw [HX.out]
          · rw [HX.out]; intro h; cases h
          · exact ((q4.1.setCell (p := ⟨w.heap.size, 0, none⟩) (Nat.le_refl _) _).setCell (p := ⟨w.heap.size, 1, none⟩) (Nat.le_refl _) _).drew
        · rw [if_neg hb2] at hp2 hbk2
          have hH := decV_small _ hb2
          obtain ⟨p3, hp3e⟩ : ∃ p3, p3 = p2 + dgs (T.drop p2) := ⟨_, rfl⟩
          have hd4 : (T.drop p2).drop (dgs (T.drop p2)) = T.drop p3 := by rw [List.drop_drop, hp3e]
          rw [hd4] at hbk2
          rw [← hp3e] at hp2
          have hl4 : p3 ≤ T.length := by omega
          have hp35 : p3 ≤ 20000 := by omega
          clear hp3e hd4 hk2 hb2
          generalize decV ((T.drop p2).take (dgs (T.drop p2))) = H1 at *
          have hy := head_yes readF T W1 H1 _ _ hbk hbk2
          have hz : (⟨T.toArray⟩ : ByteArray).size = T.length := by show T.toArray.size = _; rw [List.size_toArray]
          by_cases he : p3 = T.length
          · have hnil : T.drop p3 = [] := List.drop_of_length_le (by omega)
            have HX : Hid (headF readF T = (((W1 : Int), (H1 : Int)), (8, 12), true)) := by
              show _ = _
              rw [hy, if_pos hnil, trim_append, hasPrefix_append, read_life]
              simp
            obtain ⟨n, hn⟩ : ∃ n, n = T.length := ⟨_, rfl⟩
            rw [← hn] at hz
            have hpn : (p3 : Int) = (n : Int) := by omega
            have hpnb : ((p3 : Int) == (n : Int)) = true := by simp; omega
            have hp0 : ¬ (p3 : Int) < 0 := by omega
            have hp00 : (0 : Int) ≤ (p3 : Int) := by omega
            clear hbk hbk2 h1 h2 hci hp2e hy hnil he hn hpn
            go_enter Tryd.func28, Tryd.ntmps28
            go_wp2_with fail
            refine (hs0 _).mono ?_
            rintro e w1 ⟨rfl, rfl⟩
            go_wp2_with fail
            refine (hp1 _).mono ?_
            rintro e w2 ⟨rfl, b2⟩
            have q2 := q0.go b2
            go_wp2_with fail
            refine (hs1 _).mono ?_
            rintro e w3 ⟨rfl, rfl⟩
            go_wp2_with fail
            refine (hp2 _).mono ?_
            rintro e w4 ⟨rfl, b4⟩
            have q4 := q2.go b4
            obtain ⟨⟨c0, c1, c2, c3⟩, f0, f1, f2, f3⟩ := q4.cells
            go_wp2_with fail
            go_region
            go_wp2_with fail
            refine bodyPost_ret (v := .tuple #[.int .i64 W1, .int .i64 H1, .agg #[.int .i64 8, .int .i64 12], .bool true]) ?_ rfl ⟨W1, H1, 8, 12, ?_, ?_, ?_⟩
            · simp [results, Tryd.results28, go_sem, set0 q4.2.1, set1 q4.2.1]
            · rw [HX.out]
            · rw [HX.out]; intro _; exact ⟨rfl, by omega, by omega, by omega, by omega⟩
            · exact ((q4.1.setCell (p := ⟨w.heap.size, 0, none⟩) (Nat.le_refl _) _).setCell (p := ⟨w.heap.size, 1, none⟩) (Nat.le_refl _) _).drew
          · have hne : T.drop p3 ≠ [] := by
              intro e
              have := congrArg List.length e
              rw [List.length_drop] at this
              simp at this
              omega
            rw [if_neg hne] at hy
            have hs3 := fun W => starts_any T ((p3 : Nat) : Int) kr W hT (by decide) (by omega) (by omega)
            rw [starts_is T p3 kr hl4] at hs3
            obtain ⟨n, hn⟩ : ∃ n, n = T.length := ⟨_, rfl⟩
            have hz' := hz
            rw [← hn] at hz'
            have hpnb : ((p3 : Int) == (n : Int)) = false := by simp; omega
            have hp0 : ¬ (p3 : Int) < 0 := by omega
            have hp00 : (0 : Int) ≤ (p3 : Int) := by omega
            by_cases h4 : Lib.hasPrefix (T.drop p3) kr = true
            · rw [if_pos h4, show kr.length = 9 from rfl] at hs3
              have hl5 := prefix_len h4
              rw [show kr.length = 9 from rfl, List.length_drop] at hl5
              obtain ⟨p4, hp4e⟩ : ∃ p4, p4 = p3 + 9 := ⟨_, rfl⟩
              have hci4 : (p3 : Int) + ((9 : Nat) : Int) = (p4 : Int) := by omega
              rw [hci4] at hs3
              have htr : Lib.trimPrefix (T.drop p3) kr = T.drop p4 := by
                unfold Lib.trimPrefix
                rw [if_pos h4, List.drop_drop, hp4e]
                rfl
              rw [htr, h4, ref_is] at hy
              have hrd := fun W => refRead_any ⟨(T.drop p4).toArray⟩ W (by show (T.drop p4).toArray.size < _; rw [List.size_toArray, List.length_drop]; omega)
              have hex := tail_list T p4
              rw [← hn] at hex
              have hp40 : (0 : Int) ≤ (p4 : Int) := by omega
              have hp4n : (p4 : Int) ≤ (n : Int) := by omega
              have hp45 : p4 ≤ 20000 := by omega
              have hp4m : ¬ (p4 : Int) < 0 := by omega
              have hdl : (⟨(T.drop p4).toArray⟩ : ByteArray).data.toList = T.drop p4 := rfl
              rw [hdl] at hrd
              generalize refF (T.drop p4) = R at *
              obtain ⟨r1, r2, r3⟩ := R
              simp only at hrd hy
              have HX : Hid ((headF readF T).2.2 = decide (r3 = 0) ∧ (r3 = 0 → headF readF T = (((W1 : Int), (H1 : Int)), (r1, r2), true))) := by
                refine ⟨?_, fun h => ?_⟩
                · rw [hy]
                  by_cases h : r3 = 0
                  · simp [h]
                  · simp [h]
                · rw [hy, if_pos ⟨trivial, h⟩]
              generalize (⟨(T.drop p4).toArray⟩ : ByteArray) = RT at *
              clear hbk hbk2 h1 h2 hci hp2e hy he hn hne h4 hci4 htr hp4e hz hdl
              go_enter Tryd.func28, Tryd.ntmps28
              go_wp2_with fail
              refine (hs0 _).mono ?_
              rintro e w1 ⟨rfl, rfl⟩
              go_wp2_with fail
              refine (hp1 _).mono ?_
              rintro e w2 ⟨rfl, b2⟩
              have q2 := q0.go b2
              go_wp2_with fail
              refine (hs1 _).mono ?_
              rintro e w3 ⟨rfl, rfl⟩
              go_wp2_with fail
              refine (hp2 _).mono ?_
              rintro e w4 ⟨rfl, b4⟩
              have q4 := q2.go b4
              go_wp2_with fail
              refine (hs3 _).mono ?_
              rintro e w5 ⟨rfl, rfl⟩
              go_wp2_with fail
              refine (hrd _).mono ?_
              rintro e w6 ⟨rfl, b6⟩
              have q6 := q4.go b6
              obtain ⟨⟨c0, c1, c2, c3⟩, f0, f1, f2, f3⟩ := q6.cells
              go_wp2_with fail
              go_region
              go_wp2_with fail
              refine bodyPost_ret (v := .tuple #[.int .i64 W1, .int .i64 H1, .agg #[.int .i64 r1, .int .i64 r2], .bool (decide (r3 = 0))]) ?_ rfl ⟨W1, H1, r1, r2, ?_, ?_, ?_⟩
              · have hA : ((w6.setCell ⟨w.heap.size + 1, 0, none⟩ (.int .i64 r1)).setCell ⟨w.heap.size + 1, 1, none⟩ (.int .i64 r2)).heap[w.heap.size]? = _ := (Below.heap_setCell _ _ _ _ (by show w.heap.size ≠ w.heap.size + 1; omega)).trans ((Below.heap_setCell _ _ _ _ (by show w.heap.size ≠ w.heap.size + 1; omega)).trans q6.2.1); simp [results, Tryd.results28, go_sem, set0 hA, set1 hA]; by_cases h : r3 = 0 <;> simp [h]
              · rw [HX.out.1]
              · rw [HX.out.1]; intro h; exact ⟨HX.out.2 (of_decide_eq_true h), by omega, by omega, by omega, by omega⟩
              · exact ((((q6.1.setCell (p := ⟨w.heap.size + 1, 0, none⟩) (Nat.le_succ _) _).setCell (p := ⟨w.heap.size + 1, 1, none⟩) (Nat.le_succ _) _).setCell (p := ⟨w.heap.size, 0, none⟩) (Nat.le_refl _) _).setCell (p := ⟨w.heap.size, 1, none⟩) (Nat.le_refl _) _).drew
            · rw [if_neg h4] at hs3
              have HX : Hid (headF readF T = ((0, 0), (0, 0), false)) := by
                show _ = _
                rw [hy, if_neg (by rintro ⟨h, _⟩; exact h4 h)]
              clear hbk hbk2 h1 h2 hci hp2e hy he hn hne h4 hz
              go_enter Tryd.func28, Tryd.ntmps28
              go_wp2_with fail
              refine (hs0 _).mono ?_
              rintro e w1 ⟨rfl, rfl⟩
              go_wp2_with fail
              refine (hp1 _).mono ?_
              rintro e w2 ⟨rfl, b2⟩
              have q2 := q0.go b2
              go_wp2_with fail
              refine (hs1 _).mono ?_
              rintro e w3 ⟨rfl, rfl⟩
              go_wp2_with fail
              refine (hp2 _).mono ?_
              rintro e w4 ⟨rfl, b4⟩
              have q4 := q2.go b4
              obtain ⟨⟨c0, c1, c2, c3⟩, f0, f1, f2, f3⟩ := q4.cells
              go_wp2_with fail
              refine (hs3 _).mono ?_
              rintro e w5 ⟨rfl, rfl⟩
              go_wp2_with fail
              go_region
              go_wp2_with fail
              refine bodyPost_ret (v := .tuple #[.int .i64 0, .int .i64 0, .agg #[.int .i64 8, .int .i64 12], .bool false]) ?_ rfl ⟨0, 0, 8, 12, ?_, ?_, ?_⟩
              · simp [results, Tryd.results28, go_sem, set0 q4.2.1, set1 q4.2.1]
              · rw [HX.out]
              · rw [HX.out]; intro h; cases h
              · exact ((q4.1.setCell (p := ⟨w.heap.size, 0, none⟩) (Nat.le_refl _) _).setCell (p := ⟨w.heap.size, 1, none⟩) (Nat.le_refl _) _).drew
      · rw [if_neg h2] at hs1 hbk2
        have HX : Hid (headF readF T = ((0, 0), (0, 0), false)) := head_no _ _ (Or.inr (by rw [hbk, hbk2]))
        clear hbk hbk2 h1 h2
        go_enter Tryd.func28, Tryd.ntmps28
        go_wp2_with fail
        refine (hs0 _).mono ?_
        rintro e w1 ⟨rfl, rfl⟩
        go_wp2_with fail
        refine (hp1 _).mono ?_
        rintro e w2 ⟨rfl, b2⟩
        have q2 := q0.go b2
        obtain ⟨⟨c0, c1, c2, c3⟩, f0, f1, f2, f3⟩ := q2.cells
        go_wp2_with fail
        refine (hs1 _).mono ?_
        rintro e w3 ⟨rfl, rfl⟩
        go_wp2_with fail
        go_region
        go_wp2_with fail
        refine bodyPost_ret (v := .tuple #[.int .i64 0, .int .i64 0, .agg #[.int .i64 8, .int .i64 12], .bool false]) ?_ rfl ⟨0, 0, 8, 12, ?_, ?_, ?_⟩
        · simp [results, Tryd.results28, go_sem, set0 q2.2.1, set1 q2.2.1]
        · rw [HX.out]
        · rw [HX.out]; intro h; cases h
        · exact ((q2.1.setCell (p := ⟨w.heap.size, 0, none⟩) (Nat.le_refl _) _).setCell (p := ⟨w.heap.size, 1, none⟩) (Nat.le_refl _) _).drew
  · rw [if_neg h1] at hs0 hbk
    have HX : Hid (headF readF T = ((0, 0), (0, 0), false)) := head_no _ _ (Or.inl (by rw [hbk]))
    obtain ⟨⟨c0, c1, c2, c3⟩, f0, f1, f2, f3⟩ := q0.cells
    clear q0
    go_enter Tryd.func28, Tryd.ntmps28
    go_wp2_with fail
    refine (hs0 _).mono ?_
    rintro e w1 ⟨rfl, rfl⟩
    go_wp2_with fail
    go_region
    go_wp2_with fail
    refine bodyPost_ret (v := .tuple #[.int .i64 0, .int .i64 0, .agg #[.int .i64 8, .int .i64 12], .bool false]) ?_ rfl ⟨0, 0, 8, 12, ?_, ?_, ?_⟩
    · simp [results, Tryd.results28, go_sem]
    · rw [HX.out]
    · rw [HX.out]; intro h; cases h
    · exact (((Below.refl _ _).alloc (Nat.le_refl _) _).alloc (by simp) _).drew
end Go.Proofs.YtpldnhlancjlnaaDoor
