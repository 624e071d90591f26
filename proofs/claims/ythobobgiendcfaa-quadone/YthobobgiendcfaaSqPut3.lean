/- quad.Put of a cell that the root does not reach. -/
import Derived.Test.YthobobgiendcfaaSqPut
namespace Go.Proofs.Ythobobgiendcfaa.A
open Go.RowKit Go.Maps

theorem two_ints (w : World) (u v : Value) : ((w.alloc (.cells #[u] 3)).alloc (.cells #[v] 3)).drew.cell? ⟨w.heap.size, 0, none⟩ = some u ∧ ((w.alloc (.cells #[u] 3)).alloc (.cells #[v] 3)).drew.cell? ⟨w.heap.size + 1, 0, none⟩ = some v ∧ Below w.heap.size w ((w.alloc (.cells #[u] 3)).alloc (.cells #[v] 3)).drew := by
  have b : Below w.heap.size w ((w.alloc (.cells #[u] 3)).alloc (.cells #[v] 3)) := ((Below.refl _ _).alloc (Nat.le_refl _) _).alloc (by simp) _
  have e0 : ((w.alloc (.cells #[u] 3)).alloc (.cells #[v] 3)).heap[w.heap.size]? = some (.cells #[u] 3 (0, 0)) := (push_old (by simp)).trans (heap_alloc_new w _)
  have e1 : ((w.alloc (.cells #[u] 3)).alloc (.cells #[v] 3)).heap[w.heap.size + 1]? = some (.cells #[v] 3 (0, 0)) := heap_alloc2_new w _ _
  exact ⟨Lib.cell_of_heap e0 0, Lib.cell_of_heap e1 0, b.drew⟩
/-- what Put leaves where the root reaches the cell -/
def PutOut (w : World) (b t c lv : Nat) (F : Nat → Prop) (A : Ar) (alive : Bool) (X Y id id' : Int) (w' : World) : Prop :=
  ∃ (A' : Ar) (F' : Nat → Prop) (nn' : Nat) (N : List Int), ArAt w' b F' nn' A' ∧ (∀ k, F' k → F k ∨ w.heap.size ≤ k) ∧ Apart F w w' ∧ Inv A' ∧ Pur A' t c nn' ∧ Gain t A A' N ∧ levelF A'.ths t id' = some (lv : Int) ∧ PutC alive (X + (halfN lv : Int)) (Y + (halfN lv : Int)) (cellsF A.ths lv id) (cellsF A'.ths lv id')

set_option maxRecDepth 20000 in
set_option maxHeartbeats 8000000 in
theorem Put_root (b nn t c m : Nat) (id X Y : Int) (alive : Bool) (F : Nat → Prop) (A : Ar) (w : World) (hA : ArAt w b F nn A) (hI : Inv A) (ht : t < 64) (hl : levelF A.ths t id = some ((m + 1 : Nat) : Int)) (hm44 : m + 1 ≤ 44) (hP : Pur A t (45 + c) nn) (hr : reachB (m + 1) X Y X Y = true) :
    Calls Try.prog 49 #[.pointer (some ⟨b, 0, none⟩), .int .i64 t, .int .i64 id, .agg #[.int .i64 X, .int .i64 Y], .bool alive] w fun x w' => ∃ id', x = .returned (.tuple #[.int .i64 id', .int .i64 0]) ∧ PutOut w b t c (m + 1) F A alive X Y id id' w' := by
  have hmask := hP.bud.mask
  have hfew := hP.bud.young.few
  have hfit := fits_of hl hfew
  obtain ⟨W0, hW0⟩ : ∃ W0, W0 = (w.alloc (.cells #[.int .i64 X, .int .i64 Y] 87)).alloc (.cells #[.bool alive] 4) := ⟨_, rfl⟩
  have hb0 : Below w.heap.size w W0 := by rw [hW0]; exact ((Below.refl _ _).alloc (Nat.le_refl _) _).alloc (by simp) _
  have hc0 : W0.heap[w.heap.size]? = some (.cells #[.int .i64 X, .int .i64 Y] 87 (0, 0)) := by rw [hW0]; exact (push_old (by simp)).trans (heap_alloc_new w _)
  have ha0 : W0.heap[w.heap.size + 1]? = some (.cells #[.bool alive] 4 (0, 0)) := by rw [hW0]; exact heap_alloc2_new w _ _
  have hz : W0.heap.size = w.heap.size + 1 + 1 := by rw [hW0]; simp
  have HN := newHand_any b t W0
  rw [hW0] at HN
  go_enter Try.func49, Try.ntmps49
  go_wp2_with fail
  refine HN.mono ?_
  rintro e w1 ⟨rfl, hE1, hb1⟩
  rw [← hW0] at hE1 hb1
  clear hW0
  have hs0 : w.heap.size + 1 < W0.heap.size := (Array.getElem?_eq_some_iff.1 ha0).1
  have hs1 := hb1.size
  obtain ⟨S0, BW⟩ := HS.born (t := t) (hA.below hb0) hE1 hb1
  rw [hz] at S0 BW
  have HX := fun W S => hlevel_step w1.heap.size b nn t id 1 44 ((m + 1 : Nat) : Int) F (fun k => k = w1.heap.size ∨ k = w.heap.size + 1 + 1 + 1) A [0] W S ht hmask hfit hl (by omega) (by omega)
  go_wp2_with fail
  refine (HX _ S0).mono ?_
  rintro e w2 ⟨rfl, S2, T2⟩
  have hh2 := S2.hand
  obtain ⟨v2, hand2, _⟩ := hh2
  have c2 := hand2.c2
  obtain ⟨lvl, hlvl⟩ : ∃ lvl : Int, lvl = ((m + 1 : Nat) : Int) := ⟨_, rfl⟩
  have HLV : Hid (lvl = ((m + 1 : Nat) : Int)) := hlvl
  have hRe := fun W => reaches_any (m + 1) X Y X Y W (by omega) (by omega)
  rw [hr] at hRe
  have hHf := fun W => half_any (m + 1) W (by omega) (by omega)
  rw [← hlvl] at hRe hHf ⊢
  have hlb : 1 ≤ lvl ∧ lvl ≤ 44 := by omega
  clear hlvl HX hand2
  have hs2 := T2.ap.size
  have hc2 : w2.heap[w.heap.size]? = some (.cells #[.int .i64 X, .int .i64 Y] 87 (0, 0)) := (T2.ap.block _ (by simp; omega) (by rintro (e | e | e); exact absurd (hA.flt _ e) (by omega); omega; omega)).trans ((push_old (by omega)).trans ((hb1.block _ (by omega)).trans hc0))
  have ha2 : w2.heap[w.heap.size + 1]? = some (.cells #[.bool alive] 4 (0, 0)) := (T2.ap.block _ (by simp; omega) (by rintro (e | e | e); exact absurd (hA.flt _ e) (by omega); omega; omega)).trans ((push_old (by omega)).trans ((hb1.block _ (by omega)).trans ha0))
  have x2 := Lib.cell_of_heap hc2 0
  have y2 := Lib.cell_of_heap hc2 1
  have HC2 : Hid (_ ∧ _) := ⟨hc2, ha2⟩
  clear hc2 ha2 hc0 ha0
  go_wp2_with fail
  refine (hRe _).mono ?_
  rintro e w3 ⟨rfl, hb3⟩
  have S3 := S2.below hb3
  have T3 := T2.trans (Step.of hb3) fun k hk => S2.lt hk
  have l2 : w.heap.size + 1 < w2.heap.size := (Array.getElem?_eq_some_iff.1 HC2.out.2).1
  have hc3 := (hb3.block _ (by omega)).trans HC2.out.1
  have ha3 := (hb3.block _ l2).trans HC2.out.2
  have x3 := Lib.cell_of_heap hc3 0
  have y3 := Lib.cell_of_heap hc3 1
  have HC3 : Hid (_ ∧ _) := ⟨hc3, ha3⟩
  clear hc3 ha3 x2 y2 hRe c2
  have hbd := halfN_bd (m + 1) (by omega)
  have HRB : Hid (-(halfN (m + 1) : Int) ≤ X ∧ X < halfN (m + 1) ∧ -(halfN (m + 1) : Int) ≤ Y ∧ Y < halfN (m + 1)) := by
    have h := hr
    unfold reachB at h
    have h := of_decide_eq_true h
    exact ⟨h.1, h.2.2.1, h.2.1, h.2.2.2⟩
  have hXY := HRB.out
  go_wp2_with fail
  obtain ⟨hf, hhf⟩ : ∃ hf : Int, hf = (halfN (m + 1) : Int) := ⟨_, rfl⟩
  rw [← hhf] at hHf hXY
  have hhb : 0 < hf ∧ hf ≤ 2305843009213693952 := by omega
  have HHF : Hid (hf = (halfN (m + 1) : Int)) := hhf
  have HS3 : Hid (HS w3 w1.heap.size b t nn F (fun k => k = w1.heap.size ∨ k = w.heap.size + 1 + 1 + 1) A [0]) := S3
  have HT3 : Hid (Step _ F (fun k => k = w1.heap.size ∨ k = w.heap.size + 1 + 1 + 1) w3 F (fun k => k = w1.heap.size ∨ k = w.heap.size + 1 + 1 + 1)) := T3
  have HBW : Hid (_) := BW
  have HARG : Hid (ArAt w b F nn A ∧ Inv A ∧ levelF A.ths t id = some ((m + 1 : Nat) : Int) ∧ m + 1 ≤ 44 ∧ Pur A t (45 + c) nn) := ⟨hA, hI, hl, hm44, hP⟩
  have HSZ : Hid (w.heap.size + 1 < w2.heap.size ∧ w1.heap.size + 1 ≤ w2.heap.size ∧ w2.heap.size ≤ w3.heap.size ∧ w.heap.size + 1 + 1 ≤ w1.heap.size) := ⟨l2, by simpa using hs2, hb3.size, by omega⟩
  have HAP : Hid (Apart F w w3) := by
    have hsz : (w1.alloc (.cells #[.pointer (some ⟨b, 0, none⟩), .int .i64 t, .int .i64 0, .slice (some ⟨w.heap.size + 1 + 1 + 1, 0, none⟩) 1 1] 131)).heap.size = w1.heap.size + 1 := by simp
    refine ⟨T3.ap.os.trans (BW.os.trans hb0.os), T3.ap.tape.trans (BW.tape.trans hb0.tape), T3.ap.output.trans (BW.output.trans hb0.output), by have := T3.ap.size; omega, fun k hk hn => (T3.ap.block k (by omega) ?_).trans ((BW.block k (by omega)).trans (hb0.block k hk))⟩
    rintro (e | e | e)
    · exact hn e
    · omega
    · omega
  clear hhf S3 T3 BW hA hI hl hm44 hP hr hbd hmask hfew hfit hz hb0 HN hs0 hs1 hE1 hb1 S0 S2 T2 hs2 hb3 l2 HC2
  have hx9 : IntKind.i64.wrap (X + hf) = X + hf := by rw [IntKind.wrap_i64]; omega
  have hy9 : IntKind.i64.wrap (Y + hf) = Y + hf := by rw [IntKind.wrap_i64]; omega
  go_cut [14, 15] from 14 to 48 (fun s14 s15 wc => ∃ xb yb, s14 = .pointer (some ⟨xb, 0, none⟩) ∧ s15 = .pointer (some ⟨yb, 0, none⟩) ∧ w3.heap.size ≤ xb ∧ w3.heap.size ≤ yb ∧ wc.cell? ⟨xb, 0, none⟩ = some (.int .i64 (X + hf)) ∧ wc.cell? ⟨yb, 0, none⟩ = some (.int .i64 (Y + hf)) ∧ Below w3.heap.size w3 wc)
  case first =>
    go_region_held3 (fun w' => w'.cell? ⟨w.heap.size, 0, none⟩ = some (.int .i64 X) ∧ w'.cell? ⟨w.heap.size, 1, none⟩ = some (.int .i64 Y)) (first | exact ⟨x3, y3⟩ | go_keep) ((go_at_call 99; refine (hHf _).mono ?_; rintro e w5 ⟨rfl, rfl⟩))
    all_goals
      go_wp2_with fail
      go_meet
      case rel =>
        first
        | exact ⟨_, _, rfl, rfl, Nat.le_refl _, Nat.le_succ _, (two_ints w3 _ _).1, (two_ints w3 _ _).2.1, (two_ints w3 _ _).2.2⟩
        | exact ⟨_, _, rfl, rfl, Nat.le_succ _, Nat.le_refl _, (two_ints w3 _ _).2.1, (two_ints w3 _ _).1, (two_ints w3 _ _).2.2⟩
  case rest =>
    obtain ⟨xb, yb, rfl, rfl, hxl, hyl, cx, cy, bc⟩ := hcut
    clear hHf x3 y3 hx9 hy9
    have hxb := cell_inb cx
    have hyb := cell_inb cy
    obtain ⟨hA, hI, hl, hm44, hP⟩ := HARG.out
    have hflt := hA.flt
    have hsz := HSZ.out
    have hbs := bc.size
    have hlt3 := fun k hk => HS3.out.lt (k := k) hk
    have hpw : ((2 ^ (m + 1) : Nat) : Int) = hf + hf := by rw [HHF.out, halfN_succ, Nat.pow_succ]; omega
    have hp43 : hf ≤ 8796093022208 := by
      have h1 : (2 : Nat) ^ m ≤ 2 ^ 43 := Nat.pow_le_pow_right (by omega) (by omega)
      rw [HHF.out, halfN_succ]
      omega
    have b8 : Below wc.heap.size wc (wc.alloc (.cells #[pFn (w.heap.size + 1) xb yb w1.heap.size wc.heap.size] 62)) := (Below.refl _ _).alloc (Nat.le_refl _) _
    have b9 := bc.trans (b8.mono hbs)
    have M0 : PM (wc.alloc (.cells #[pFn (w.heap.size + 1) xb yb w1.heap.size wc.heap.size] 62)) (w.heap.size + 1) xb yb w1.heap.size wc.heap.size b t nn F (fun k => k = w1.heap.size ∨ k = w.heap.size + 1 + 1 + 1) A [0] alive (X + hf) (Y + hf) := by
      refine ⟨HS3.out.below b9, Lib.cell_of_heap ((b9.block _ (by omega)).trans HC3.out.2) 0, (World.cell?_of_block (a := ⟨xb, 0, none⟩) (b8.block xb hxb)).trans cx, (World.cell?_of_block (a := ⟨yb, 0, none⟩) (b8.block yb hyb)).trans cy, Lib.cell_of_heap (heap_alloc_new wc _) 0, fun k hk => ⟨fun e => ?_, fun e => ?_⟩⟩
      · have h1 := hflt k e
        rcases hk with rfl | rfl | rfl | rfl <;> omega
      · have h1 := hlt3 k (Or.inr e)
        rcases hk with rfl | rfl | rfl | rfl
        · rcases e with e | e <;> omega
        · omega
        · omega
        · omega
    have P0 : PS t A [0] (m + 1 + c) nn := ⟨hI, Emp.first _ _, by simp, hP.less (by omega)⟩
    have HC := pt_any (m + 1) (w.heap.size + 1) xb yb w1.heap.size wc.heap.size b t nn c lvl (X + hf) (Y + hf) id F (fun k => k = w1.heap.size ∨ k = w.heap.size + 1 + 1 + 1) A [0] alive _ hm44 HLV.out (by omega) (by omega) (by omega) (by omega) M0 P0 ht hl
    have HFIN : Hid (∀ id' w', PtOut (wc.alloc (.cells #[pFn (w.heap.size + 1) xb yb w1.heap.size wc.heap.size] 62)) (w.heap.size + 1) xb yb w1.heap.size wc.heap.size b t c (m + 1) F (fun k => k = w1.heap.size ∨ k = w.heap.size + 1 + 1 + 1) A [0] alive (X + hf) (Y + hf) id id' w' → PutOut w b t c (m + 1) F A alive X Y id id' w') := by
      rintro id' w' ⟨A', F', nn', N, h1, h2, h3, h4, h5, h6⟩
      have e1 : (X + hf) % ((2 ^ (m + 1) : Nat) : Int) = X + (halfN (m + 1) : Int) := by rw [← HHF.out, hpw]; exact Int.emod_eq_of_lt (by omega) (by omega)
      have e2 : (Y + hf) % ((2 ^ (m + 1) : Nat) : Int) = Y + (halfN (m + 1) : Int) := by rw [← HHF.out, hpw]; exact Int.emod_eq_of_lt (by omega) (by omega)
      rw [e1, e2] at h6
      have hb8 := b8.size
      have q1 := HAP.out
      have q2 := h2.ap.size
      refine ⟨A', F', nn', N, h1.hs.ar, fun k hk => ?_, ⟨h2.ap.os.trans (b9.os.trans q1.os), h2.ap.tape.trans (b9.tape.trans q1.tape), h2.ap.output.trans (b9.output.trans q1.output), by omega, fun k hk hn => (h2.ap.block k (by omega) ?_).trans ((b9.block k (by omega)).trans (q1.block k hk hn))⟩, h3.inv, h3.pur, h4, h5, h6⟩
      · rcases h2.sub k (Or.inl hk) with (e | e | e) | e
        · exact Or.inl e
        · exact Or.inr (by omega)
        · exact Or.inr (by omega)
        · exact Or.inr (by omega)
      · rintro (e | e | e)
        · exact hn e
        · omega
        · omega
    clear cx cy bc b8 b9 M0 P0 hpw hp43 hxb hyb hflt hlt3 hA hI hl hP hXY hhb hbs hsz
    go_wp2_with fail
    refine HC.mono ?_
    rintro e w7 ⟨id', rfl, hO⟩
    have hF := HFIN.out _ _ hO
    obtain ⟨A', F', nn', N, h1, _⟩ := hO
    have h8 := h1.hs.hand
    obtain ⟨v7, hand7, _⟩ := h8
    clear HC HFIN h1
    go_wp2_with fail
    refine (answer_ok _ b t _ _ _ hand7).mono ?_
    rintro e w8 ⟨rfl, rfl⟩
    go_wp2_with fail
    go_ret2
    exact ⟨_, rfl, hF⟩
end Go.Proofs.Ythobobgiendcfaa.A

namespace Go.Proofs.Ythobobgiendcfaa.A
open Go.RowKit Go.Maps

set_option maxRecDepth 20000 in
set_option maxHeartbeats 8000000 in
theorem Put_far (b nn t c m : Nat) (id X Y : Int) (alive : Bool) (F : Nat → Prop) (A : Ar) (w : World) (hA : ArAt w b F nn A) (ht : t < 64) (hl : levelF A.ths t id = some ((m + 1 : Nat) : Int)) (hm44 : m + 1 ≤ 44) (hP : Pur A t (45 + c) nn) (hr : reachB (m + 1) X Y X Y = false) :
    Calls Try.prog 49 #[.pointer (some ⟨b, 0, none⟩), .int .i64 t, .int .i64 id, .agg #[.int .i64 X, .int .i64 Y], .bool alive] w fun x w' => x = .returned (.tuple #[.int .i64 0, .int .i64 3]) ∧ ArAt w' b F nn A ∧ Apart F w w' := by
  have hmask := hP.bud.mask
  have hfew := hP.bud.young.few
  have hfit := fits_of hl hfew
  obtain ⟨W0, hW0⟩ : ∃ W0, W0 = (w.alloc (.cells #[.int .i64 X, .int .i64 Y] 87)).alloc (.cells #[.bool alive] 4) := ⟨_, rfl⟩
  have hb0 : Below w.heap.size w W0 := by rw [hW0]; exact ((Below.refl _ _).alloc (Nat.le_refl _) _).alloc (by simp) _
  have hc0 : W0.heap[w.heap.size]? = some (.cells #[.int .i64 X, .int .i64 Y] 87 (0, 0)) := by rw [hW0]; exact (push_old (by simp)).trans (heap_alloc_new w _)
  have ha0 : W0.heap[w.heap.size + 1]? = some (.cells #[.bool alive] 4 (0, 0)) := by rw [hW0]; exact heap_alloc2_new w _ _
  have hz : W0.heap.size = w.heap.size + 1 + 1 := by rw [hW0]; simp
  have HN := newHand_any b t W0
  rw [hW0] at HN
  go_enter Try.func49, Try.ntmps49
  go_wp2_with fail
  refine HN.mono ?_
  rintro e w1 ⟨rfl, hE1, hb1⟩
  rw [← hW0] at hE1 hb1
  clear hW0
  have hs0 : w.heap.size + 1 < W0.heap.size := (Array.getElem?_eq_some_iff.1 ha0).1
  have hs1 := hb1.size
  obtain ⟨S0, BW⟩ := HS.born (t := t) (hA.below hb0) hE1 hb1
  rw [hz] at S0 BW
  have HX := fun W S => hlevel_step w1.heap.size b nn t id 1 44 ((m + 1 : Nat) : Int) F (fun k => k = w1.heap.size ∨ k = w.heap.size + 1 + 1 + 1) A [0] W S ht hmask hfit hl (by omega) (by omega)
  go_wp2_with fail
  refine (HX _ S0).mono ?_
  rintro e w2 ⟨rfl, S2, T2⟩
  have hh2 := S2.hand
  obtain ⟨v2, hand2, _⟩ := hh2
  have c2 := hand2.c2
  obtain ⟨lvl, hlvl⟩ : ∃ lvl : Int, lvl = ((m + 1 : Nat) : Int) := ⟨_, rfl⟩
  have HLV : Hid (lvl = ((m + 1 : Nat) : Int)) := hlvl
  have hRe := fun W => reaches_any (m + 1) X Y X Y W (by omega) (by omega)
  rw [hr] at hRe
  have hHf := fun W => half_any (m + 1) W (by omega) (by omega)
  rw [← hlvl] at hRe hHf ⊢
  have hlb : 1 ≤ lvl ∧ lvl ≤ 44 := by omega
  clear hlvl HX hand2
  have hs2 := T2.ap.size
  have hc2 : w2.heap[w.heap.size]? = some (.cells #[.int .i64 X, .int .i64 Y] 87 (0, 0)) := (T2.ap.block _ (by simp; omega) (by rintro (e | e | e); exact absurd (hA.flt _ e) (by omega); omega; omega)).trans ((push_old (by omega)).trans ((hb1.block _ (by omega)).trans hc0))
  have ha2 : w2.heap[w.heap.size + 1]? = some (.cells #[.bool alive] 4 (0, 0)) := (T2.ap.block _ (by simp; omega) (by rintro (e | e | e); exact absurd (hA.flt _ e) (by omega); omega; omega)).trans ((push_old (by omega)).trans ((hb1.block _ (by omega)).trans ha0))
  have x2 := Lib.cell_of_heap hc2 0
  have y2 := Lib.cell_of_heap hc2 1
  have HC2 : Hid (_ ∧ _) := ⟨hc2, ha2⟩
  clear hc2 ha2 hc0 ha0
  go_wp2_with fail
  refine (hRe _).mono ?_
  rintro e w3 ⟨rfl, hb3⟩
  have S3 := S2.below hb3
  have T3 := T2.trans (Step.of hb3) fun k hk => S2.lt hk
  have HAP : Hid (Apart F w w3) := by
    have hsz : (w1.alloc (.cells #[.pointer (some ⟨b, 0, none⟩), .int .i64 t, .int .i64 0, .slice (some ⟨w.heap.size + 1 + 1 + 1, 0, none⟩) 1 1] 131)).heap.size = w1.heap.size + 1 := by simp
    refine ⟨T3.ap.os.trans (BW.os.trans hb0.os), T3.ap.tape.trans (BW.tape.trans hb0.tape), T3.ap.output.trans (BW.output.trans hb0.output), by have := T3.ap.size; omega, fun k hk hn => (T3.ap.block k (by omega) ?_).trans ((BW.block k (by omega)).trans (hb0.block k hk))⟩
    rintro (e | e | e)
    · exact hn e
    · omega
    · omega
  have HAR : Hid (ArAt w3 b F nn A) := S3.ar
  clear S3 T3 BW S2 T2 S0 hb3
  go_wp2_with fail
  go_ret2
  exact ⟨rfl, HAR.out, HAP.out⟩
end Go.Proofs.Ythobobgiendcfaa.A
