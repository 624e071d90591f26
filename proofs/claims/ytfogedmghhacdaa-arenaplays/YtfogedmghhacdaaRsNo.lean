/- The plain store: what is told to one who is no tenant. -/
import Derived.Test.YtfogedmghhacdaaRsLoseC
import Derived.Test.YtfogedmghhacdaaRsRecall
namespace Go.Proofs.Ytfogedmghhacdaa.A
open Go.RowKit

theorem cell_in {w : World} {b o : Nat} {v : Value} (h : w.cell? ⟨b, o, none⟩ = some v) : b < w.heap.size := by
  refine Nat.lt_of_not_le fun hl => ?_
  unfold World.cell? at h
  rw [show w.heap[b]? = none from Array.getElem?_eq_none (by omega)] at h
  simp at h
set_option maxHeartbeats 2000000 in
theorem undoIn_any (cb : Nat) (v : Value) (l : List Int) (x : Rt) (w : World) (hc : w.cell? ⟨cb, 0, none⟩ = some v) (hl : IntRow w v l) (hn : l.length < 1000000) :
    Calls Try.prog 55 #[x.val, .pointer (some ⟨cb, 0, none⟩)] w fun e w' => e = .returned (.bool (decide (x.id ∈ l))) ∧ Below w.heap.size w w' := by
  obtain ⟨a, c, hv⟩ := hl.shape
  subst hv
  have hb0 : Below w.heap.size w (w.alloc (.cells #[.int .i64 x.id, .int .i64 x.k, .int .i64 x.lv, .int .i64 x.va, .int .i64 x.p0, .int .i64 x.p1, .int .i64 x.p2, .int .i64 x.p3, .int .u64 x.mask] 84)) := (Below.refl _ _).alloc (Nat.le_refl _) _
  have HB0 : Hid (Below w.heap.size w (w.alloc (.cells #[.int .i64 x.id, .int .i64 x.k, .int .i64 x.lv, .int .i64 x.va, .int .i64 x.p0, .int .i64 x.p1, .int .i64 x.p2, .int .i64 x.p3, .int .u64 x.mask] 84))) := hb0
  have HL : Hid (IntRow w (.slice a l.length c) l) := hl
  obtain ⟨n, hnn⟩ : ∃ n, n = l.length := ⟨_, rfl⟩
  rw [← hnn] at hn hc
  have HN : Hid (n = l.length) := hnn
  have hcl := cell_in hc
  clear hnn hl hb0
  unfold Rt.val
  go_enter Try.func55, Try.ntmps55
  go_wp2_with fail
  generalize hW : w.alloc (.cells #[.int .i64 x.id, .int .i64 x.k, .int .i64 x.lv, .int .i64 x.va, .int .i64 x.p0, .int .i64 x.p1, .int .i64 x.p2, .int .i64 x.p3, .int .u64 x.mask] 84) = W at *
  have hx : W.cell? ⟨w.heap.size, 0, none⟩ = some (.int .i64 x.id) := by rw [← hW]; exact Lib.cell_of_heap (heap_alloc_new w _) 0
  clear hW
  go_loopg [8] n (fun gh s8 wr => ∃ i : Nat, i + gh = n ∧ s8 = .int .i64 i ∧ wr = W ∧ ∀ (j : Nat) y, j < i → l[j]? = some y → y ≠ x.id)
  case atStart => exact ⟨0, by omega, rfl, rfl, fun j y hj => by omega⟩
  case round =>
    obtain ⟨i, hig, rfl, rfl, hno⟩ := hrel
    have HNO : Hid (∀ (j : Nat) y, j < i → l[j]? = some y → y ≠ x.id) := hno
    have HIG : Hid (i + gk = n) := hig
    clear hno hig
    by_cases hlt : i < n
    · obtain ⟨y, hy⟩ : ∃ y, l[i]? = some y := ⟨_, List.getElem?_eq_getElem (by rw [← HN.out]; exact hlt)⟩
      obtain ⟨g, rfl⟩ : ∃ g, a = some ⟨g, 0, none⟩ := by
        rcases HL.out.2 with ⟨_, h2⟩ | ⟨g, cap, cur, h1, _⟩
        · have := HN.out; omega
        · simp only [Value.slice.injEq] at h1; exact ⟨g, h1.1⟩
      have hcy : wr.cell? ⟨g, i, none⟩ = some (.int .i64 y) := (HB0.out.cell (p := ⟨g, i, none⟩) (HL.out.lt g rfl).2).trans (by rw [HL.out.cellAt i (by rw [← HN.out]; omega), List.getElem?_map, hy]; rfl)
      have HY : Hid (l[i]? = some y) := hy
      have k0 : (0 : Int) ≤ (i : Int) := by omega
      have k1 : (i : Int) < (n : Int) := by omega
      clear hy
      by_cases he : y = x.id
      · have he' : (y == x.id) = true := by simpa using he
        have HE : Hid (y = x.id) := he
        clear he
        go_wp2_with fail
        go_ret
        refine ⟨?_, HB0.out⟩
        rw [decide_eq_true (by rw [← HE.out]; exact List.mem_of_getElem? HY.out)]
        rfl
      · have he' : (y == x.id) = false := by simpa using he
        have HE : Hid (y ≠ x.id) := he
        clear he
        go_wp2_with fail
        go_roundg (gk - 1)
        case measure => have := HIG.out; omega
        case rel => exact ⟨i + 1, by have := HIG.out; omega, by go_num, rfl, fun j z hj hz => by
            by_cases e : j = i
            · subst e
              rw [HY.out] at hz
              cases hz
              exact HE.out
            · exact HNO.out j z (by omega) hz⟩
    · have k1 : ¬ (i : Int) < (n : Int) := by omega
      go_wp2_with fail
      go_ret
      refine ⟨?_, HB0.out⟩
      rw [decide_eq_false]
      · rfl
      · intro hm
        obtain ⟨j, hj⟩ := List.mem_iff_getElem?.1 hm
        exact HNO.out j _ (by have := (List.getElem?_eq_some_iff.1 hj).1; have := HN.out; omega) hj rfl

/-- what Undo takes away -/
def undoP (S : St) (t : Nat) (x : Rt) : Bool := decide (x.id ∈ S.since t)
set_option maxRecDepth 20000 in
set_option maxHeartbeats 2000000 in
theorem undoS_any (b t : Nat) (G : Nat → Prop) (S : St) (w : World) (h : StAt w b G S) (hT : Tame S) (ht : t < 64) (hs : (S.since t).length < 1000000) :
    Calls Try.prog 35 #[.pointer (some ⟨b, 0, none⟩), .int .i64 t] w fun e w' => e = .returned (.int .i64 (lostN S.ths t (undoP S t))) ∧ LedS w b G (S.lose t (undoP S t)) w' := by
  obtain ⟨r, h⟩ := h
  have hi := fun W => person_yes t ht W
  have cs := h.raw.at (66 + t) (by omega)
  rw [Sr.cs] at cs
  obtain ⟨a, c, hv⟩ := (h.since t ht).shape
  have hb0 : Below w.heap.size w (w.alloc (.cells #[r.since t] 31)) := (Below.refl _ _).alloc (Nat.le_refl _) _
  have hlo := loseU_any b t w.heap.size (undoP S t) G S r (w.alloc (.cells #[r.since t] 31)) (h.below hb0) hT ht fun W x _ hsz hblk => by
    have hvlt : ∀ k, r.vth.ownBlock = some k → k < w.heap.size := fun k hk => (h.ths.lt k hk).2
    refine undoIn_any w.heap.size (r.since t) (S.since t) x W ?_ ?_ hs
    · have e := hblk w.heap.size (by simp) fun e => by have := hvlt _ e; omega
      rw [heap_alloc_new] at e
      exact Lib.cell_of_heap e 0
    · refine row_other (h.since t ht) fun k hk => ?_
      have hlt := ((h.since t ht).lt k hk).2
      exact (hblk k (by simp; omega) fun e => h.vt ht e hk).trans (hb0.block k hlt)
  rw [hv] at cs hlo hb0
  have HP : Hid (∀ w', LedS (w.alloc (.cells #[.slice a (S.since t).length c] 31)) b G (S.lose t (undoP S t)) w' → LedS w b G (S.lose t (undoP S t)) w') := fun w' ⟨G', h1, h2, h3⟩ =>
    ⟨G', fun k hk => (h1 k hk).imp id fun e => by simp at e; omega, h2, (Apart.of hb0).trans h3 fun k hk => .inl hk⟩
  have t0 : (0 : Int) ≤ (t : Int) := by omega
  have t1 : (t : Int) < 64 := by omega
  generalize (S.since t).length = n at *
  clear h hv hb0
  go_enter Try.func35, Try.ntmps35
  go_wp2_with fail
  refine (hi _).mono ?_
  rintro e w1 ⟨rfl, rfl⟩
  go_wp2_with fail
  refine hlo.mono ?_
  rintro e w2 ⟨rfl, hl2⟩
  have HL2 : Hid (LedS _ b G _ w2) := HP.out _ hl2
  clear hl2 hlo
  go_wp2_with fail
  go_ret
  exact ⟨rfl, HL2.out⟩
theorem undoS_no (b : Nat) (t : Int) (w : World) (ht : ¬ (0 ≤ t ∧ t < 64)) :
    Calls Try.prog 35 #[.pointer (some ⟨b, 0, none⟩), .int .i64 t] w fun e w' => e = .returned (.int .i64 0) ∧ w' = w := by
  have hi := fun W => person_no t ht W
  go_enter Try.func35, Try.ntmps35
  go_wp2_with fail
  refine (hi _).mono ?_
  rintro e w1 ⟨rfl, rfl⟩
  go_wp2_with fail
  go_ret
  exact ⟨rfl, rfl⟩
end Go.Proofs.Ytfogedmghhacdaa.A

namespace Go.Proofs.Ytfogedmghhacdaa.A
open Go.RowKit

set_option maxHeartbeats 2000000 in
theorem countS_no (b : Nat) (t : Int) (G : Nat → Prop) (S : St) (w : World) (h : StAt w b G S) (hT : Tame S) (ht : ¬ (0 ≤ t ∧ t < 64)) :
    Calls Try.prog 38 #[.pointer (some ⟨b, 0, none⟩), .int .i64 t] w fun e w' => e = .returned (.int .i64 0) ∧ Below w.heap.size w w' := by
  obtain ⟨r, h⟩ := h
  have hi := fun W => person_no t ht W
  have c1 := h.raw.at 1 (by omega)
  rw [Sr.c1] at c1
  obtain ⟨a, c, hv⟩ := h.ths.shape
  rw [hv] at c1
  have HH : Hid (StRaw w b G S r) := h
  have HV : Hid (r.vth = .slice a S.ths.length c) := hv
  obtain ⟨n, hn⟩ : ∃ n, n = S.ths.length := ⟨_, rfl⟩
  rw [← hn] at c1
  have HN : Hid (n = S.ths.length) := hn
  have hnb : n < 900000 := by rw [hn]; exact hT.len
  clear hn h hv hT ht
  go_enter Try.func38, Try.ntmps38
  go_wp2_with fail
  go_loopg [13, 5] n (fun gh s13 s5 wr => ∃ i : Nat, i + gh = n ∧ s13 = .int .i64 i ∧ s5 = .int .i64 0 ∧ Below w.heap.size w wr)
  case atStart => exact ⟨0, by omega, rfl, rfl, Below.refl _ _⟩
  case round =>
    obtain ⟨i, hig, rfl, rfl, hbr⟩ := hrel
    have HIG : Hid (i + gk = n) := hig
    have HBR : Hid (Below w.heap.size w wr) := hbr
    clear hig
    by_cases hlt : i < n
    · obtain ⟨x, hx⟩ : ∃ x, S.ths[i]? = some x := ⟨_, List.getElem?_eq_getElem (by rw [← HN.out]; exact hlt)⟩
      obtain ⟨g, c', hg, hgl, hcs⟩ := HH.out.elem hx
      have hgv := HV.out
      rw [hg] at hgv
      simp only [Value.slice.injEq] at hgv
      obtain ⟨rfl, _, _⟩ := hgv
      obtain ⟨d0, d1, d2, d3, d4, d5, d6, d7, d8⟩ := hcs
      have kc := fun j => hbr.cell (p := ⟨g, j, none⟩) hgl
      have d0 := (kc _).trans d0
      have d1 := (kc _).trans d1
      have d2 := (kc _).trans d2
      have d3 := (kc _).trans d3
      have d4 := (kc _).trans d4
      have d5 := (kc _).trans d5
      have d6 := (kc _).trans d6
      have d7 := (kc _).trans d7
      have d8 := (kc _).trans d8
      have k0 : (0 : Int) ≤ (i : Int) := by omega
      have k1 : (i : Int) < (n : Int) := by omega
      clear kc hx hg hbr
      go_wp2_with fail
      refine (hi _).mono ?_
      rintro e w1 ⟨rfl, rfl⟩
      go_wp2_with fail
      go_roundg (gk - 1)
      case measure => have := HIG.out; omega
      case rel => exact ⟨i + 1, by have := HIG.out; omega, by go_num, rfl, HBR.out.alloc HBR.out.size _⟩
    · have k1 : ¬ (i : Int) < (n : Int) := by omega
      go_wp2_with fail
      go_ret
      exact ⟨rfl, HBR.out⟩
set_option maxRecDepth 20000 in
set_option maxHeartbeats 2000000 in
theorem recallS_no (b : Nat) (t s rr j : Int) (G : Nat → Prop) (S : St) (w : World) (h : StAt w b G S) (hT : Tame S) (ht : ¬ (0 ≤ t ∧ t < 64)) :
    Calls Try.prog 32 #[.pointer (some ⟨b, 0, none⟩), .int .i64 t, .int .i64 s, .int .i64 rr, .int .i64 j] w fun e w' => e = .returned (.tuple #[.int .i64 0, .bool false]) ∧ Below w.heap.size w w' := by
  obtain ⟨r, h⟩ := h
  have hi := fun W => person_no t ht W
  have c1 := h.raw.at 1 (by omega)
  rw [Sr.c1] at c1
  obtain ⟨a, c, hv⟩ := h.ths.shape
  rw [hv] at c1
  have HH : Hid (StRaw w b G S r) := h
  have HV : Hid (r.vth = .slice a S.ths.length c) := hv
  obtain ⟨n, hn⟩ : ∃ n, n = S.ths.length := ⟨_, rfl⟩
  rw [← hn] at c1
  have HN : Hid (n = S.ths.length) := hn
  have hnb : n < 900000 := by rw [hn]; exact hT.len
  clear hn h hv hT ht
  go_enter Try.func32, Try.ntmps32
  go_wp2_with fail
  go_loopg [19] n (fun gh s19 wr => ∃ i : Nat, i + gh = n ∧ s19 = .int .i64 i ∧ Below w.heap.size w wr)
  case atStart => exact ⟨0, by omega, rfl, Below.refl _ _⟩
  case round =>
    obtain ⟨i, hig, rfl, hbr⟩ := hrel
    have HIG : Hid (i + gk = n) := hig
    have HBR : Hid (Below w.heap.size w wr) := hbr
    clear hig
    by_cases hlt : i < n
    · obtain ⟨x, hx⟩ : ∃ x, S.ths[i]? = some x := ⟨_, List.getElem?_eq_getElem (by rw [← HN.out]; exact hlt)⟩
      obtain ⟨g, c', hg, hgl, hcs⟩ := HH.out.elem hx
      have hgv := HV.out
      rw [hg] at hgv
      simp only [Value.slice.injEq] at hgv
      obtain ⟨rfl, _, _⟩ := hgv
      obtain ⟨d0, d1, d2, d3, d4, d5, d6, d7, d8⟩ := hcs
      have kc := fun j => hbr.cell (p := ⟨g, j, none⟩) hgl
      have d0 := (kc _).trans d0
      have d1 := (kc _).trans d1
      have d2 := (kc _).trans d2
      have d3 := (kc _).trans d3
      have d4 := (kc _).trans d4
      have d5 := (kc _).trans d5
      have d6 := (kc _).trans d6
      have d7 := (kc _).trans d7
      have d8 := (kc _).trans d8
      have k0 : (0 : Int) ≤ (i : Int) := by omega
      have k1 : (i : Int) < (n : Int) := by omega
      clear kc hx hg hbr
      go_wp2_with fail
      refine (hi _).mono ?_
      rintro e w1 ⟨rfl, rfl⟩
      go_wp2_with fail
      go_roundg (gk - 1)
      case measure => have := HIG.out; omega
      case rel => exact ⟨i + 1, by have := HIG.out; omega, by go_num, HBR.out.alloc HBR.out.size _⟩
    · have k1 : ¬ (i : Int) < (n : Int) := by omega
      go_wp2_with fail
      go_ret2
      exact ⟨rfl, HBR.out⟩
theorem joinS_no (b : Nat) (t q0 q1 q2 q3 : Int) (w : World) (ht : ¬ (0 ≤ t ∧ t < 64)) :
    Calls Try.prog 25 #[.pointer (some ⟨b, 0, none⟩), .int .i64 t, .agg #[.int .i64 q0, .int .i64 q1, .int .i64 q2, .int .i64 q3]] w fun e w' => e = .returned (.tuple #[.int .i64 0, .int .i64 3]) ∧ Below w.heap.size w w' := by
  have hi := fun W => person_no t ht W
  go_enter Try.func25, Try.ntmps25
  go_wp2_with fail
  refine (hi _).mono ?_
  rintro e w1 ⟨rfl, rfl⟩
  go_wp2_with fail
  go_ret2
  exact ⟨rfl, (Below.refl _ _).alloc (Nat.le_refl _) _⟩
theorem noteS_no (b : Nat) (t s rr j v : Int) (w : World) (ht : ¬ (0 ≤ t ∧ t < 64)) :
    Calls Try.prog 30 #[.pointer (some ⟨b, 0, none⟩), .int .i64 t, .int .i64 s, .int .i64 rr, .int .i64 j, .int .i64 v] w fun e w' => e = .returned (.int .i64 6) ∧ w' = w := by
  have hi := fun W => person_no t ht W
  go_enter Try.func30, Try.ntmps30
  go_wp2_with fail
  refine (hi _).mono ?_
  rintro e w1 ⟨rfl, rfl⟩
  go_wp2_with fail
  go_ret
  exact ⟨rfl, rfl⟩
theorem cleanS_no (b : Nat) (t : Int) (v : Value) (w : World) (ht : ¬ (0 ≤ t ∧ t < 64)) :
    Calls Try.prog 36 #[.pointer (some ⟨b, 0, none⟩), .int .i64 t, v] w fun e w' => e = .returned (.int .i64 0) ∧ w' = w := by
  have hi := fun W => person_no t ht W
  go_enter Try.func36, Try.ntmps36
  go_wp2_with fail
  refine (hi _).mono ?_
  rintro e w1 ⟨rfl, rfl⟩
  go_wp2_with fail
  go_ret
  exact ⟨rfl, rfl⟩
end Go.Proofs.Ytfogedmghhacdaa.A
