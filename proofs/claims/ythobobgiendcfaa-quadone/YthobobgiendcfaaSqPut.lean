/- quad.Put: the closure that sets a cell. -/
import Derived.Test.YthobobgiendcfaaSqStep
import Derived.Test.YthobobgiendcfaaSqWrap
import Derived.Lib.RabinKarpLaws
import Derived.Test.YthobobgiendcfaaSqPutPure
namespace Go.Proofs.Ythobobgiendcfaa.A
open Go.RowKit Go.Maps

/-- the closure's own value -/
abbrev pFn (ab xb yb hb fb : Nat) : Value := .func (Fn.func 100) #[] #[.pointer (some ⟨ab, 0, none⟩), .pointer (some ⟨xb, 0, none⟩), .pointer (some ⟨yb, 0, none⟩), .pointer (some ⟨hb, 0, none⟩), .pointer (some ⟨fb, 0, none⟩)]
/-- arena, hand, closure and what it reads, in memory -/
structure PM (w : World) (ab xb yb hb fb b t nn : Nat) (F H : Nat → Prop) (A : Ar) (E : List Int) (alive : Bool) (x y : Int) : Prop where
  hs : HS w hb b t nn F H A E
  ca : w.cell? ⟨ab, 0, none⟩ = some (.bool alive)
  cx : w.cell? ⟨xb, 0, none⟩ = some (.int .i64 x)
  cy : w.cell? ⟨yb, 0, none⟩ = some (.int .i64 y)
  cf : w.cell? ⟨fb, 0, none⟩ = some (pFn ab xb yb hb fb)
  no : ∀ k, k = ab ∨ k = xb ∨ k = yb ∨ k = fb → ¬ F k ∧ ¬ H k
theorem PM.lt {w : World} {ab xb yb hb fb b t nn : Nat} {F H : Nat → Prop} {A : Ar} {E : List Int} {alive : Bool} {x y : Int} (h : PM w ab xb yb hb fb b t nn F H A E alive x y) : ab < w.heap.size ∧ xb < w.heap.size ∧ yb < w.heap.size ∧ fb < w.heap.size := ⟨cell_inb h.ca, cell_inb h.cx, cell_inb h.cy, cell_inb h.cf⟩
theorem PM.step {w w1 : World} {ab xb yb hb fb b t nn nn' : Nat} {F H F' H' : Nat → Prop} {A A' : Ar} {E E' : List Int} {alive : Bool} {x y : Int} (h : PM w ab xb yb hb fb b t nn F H A E alive x y) (hS : HS w1 hb b t nn' F' H' A' E') (hT : Step w F H w1 F' H') : PM w1 ab xb yb hb fb b t nn' F' H' A' E' alive x y := by
  obtain ⟨l1, l2, l3, l4⟩ := h.lt
  obtain ⟨a1, a2, a3, _⟩ := hT.free l1 (h.no ab (by simp)).1 (h.no ab (by simp)).2
  obtain ⟨b1, b2, b3, _⟩ := hT.free l2 (h.no xb (by simp)).1 (h.no xb (by simp)).2
  obtain ⟨c1, c2, c3, _⟩ := hT.free l3 (h.no yb (by simp)).1 (h.no yb (by simp)).2
  obtain ⟨d1, d2, d3, _⟩ := hT.free l4 (h.no fb (by simp)).1 (h.no fb (by simp)).2
  refine ⟨hS, (World.cell?_of_block (a := ⟨ab, 0, none⟩) a1).trans h.ca, (World.cell?_of_block (a := ⟨xb, 0, none⟩) b1).trans h.cx, (World.cell?_of_block (a := ⟨yb, 0, none⟩) c1).trans h.cy, (World.cell?_of_block (a := ⟨fb, 0, none⟩) d1).trans h.cf, fun k hk => ?_⟩
  rcases hk with rfl | rfl | rfl | rfl
  · exact ⟨a2, a3⟩
  · exact ⟨b2, b3⟩
  · exact ⟨c2, c3⟩
  · exact ⟨d2, d3⟩
theorem PM.below {w w1 : World} {ab xb yb hb fb b t nn : Nat} {F H : Nat → Prop} {A : Ar} {E : List Int} {alive : Bool} {x y : Int} (h : PM w ab xb yb hb fb b t nn F H A E alive x y) (hb' : Below w.heap.size w w1) : PM w1 ab xb yb hb fb b t nn F H A E alive x y := h.step (h.hs.below hb') (Step.of hb')

theorem PM.drew {w : World} {ab xb yb hb fb b t nn : Nat} {F H : Nat → Prop} {A : Ar} {E : List Int} {alive : Bool} {x y : Int} (h : PM w ab xb yb hb fb b t nn F H A E alive x y) : PM w.drew ab xb yb hb fb b t nn F H A E alive x y := ⟨h.hs.other (Nat.le_refl _) fun _ _ => rfl, h.ca, h.cx, h.cy, h.cf, h.no⟩
theorem Step.drew (w : World) (F H : Nat → Prop) : Step w F H w.drew F H := ⟨fun _ hk => Or.inl hk, ⟨rfl, rfl, rfl, Nat.le_refl _, fun _ _ _ => rfl⟩⟩

/-- what the closure leaves -/
def PtOut (w : World) (ab xb yb hb fb b t c n : Nat) (F H : Nat → Prop) (A : Ar) (E : List Int) (alive : Bool) (x y id id' : Int) (w' : World) : Prop :=
  ∃ (A' : Ar) (F' : Nat → Prop) (nn' : Nat) (N : List Int), PM w' ab xb yb hb fb b t nn' F' H A' E alive x y ∧ Step w F H w' F' H ∧ PS t A' E c nn' ∧ Gain t A A' N ∧ levelF A'.ths t id' = some (n : Int) ∧ PutC alive (x % ((2 ^ n : Nat) : Int)) (y % ((2 ^ n : Nat) : Int)) (cellsF A.ths n id) (cellsF A'.ths n id')
def PtSpec (n : Nat) : Prop := ∀ (ab xb yb hb fb b t nn c : Nat) (level x y id : Int) (F H : Nat → Prop) (A : Ar) (E : List Int) (alive : Bool) (w : World), n ≤ 44 → level = (n : Int) → 0 ≤ x → x < 1152921504606846976 → 0 ≤ y → y < 1152921504606846976 → PM w ab xb yb hb fb b t nn F H A E alive x y → PS t A E (n + c) nn → t < 64 → levelF A.ths t id = some (n : Int) →
  Calls Try.prog 100 #[.int .i64 id, .int .i64 level, .pointer (some ⟨ab, 0, none⟩), .pointer (some ⟨xb, 0, none⟩), .pointer (some ⟨yb, 0, none⟩), .pointer (some ⟨hb, 0, none⟩), .pointer (some ⟨fb, 0, none⟩)] w fun e w' => ∃ id', e = .returned (.int .i64 id') ∧ PtOut w ab xb yb hb fb b t c n F H A E alive x y id id' w'

theorem cell_any (alive : Bool) (w : World) : Calls Try.prog 101 #[.bool alive] w fun e w' => e = .returned (.int .i64 (if alive then 1 else 0)) ∧ w' = w := by
  cases alive <;> (go_enter Try.func101, Try.ntmps101; go_wp2_with fail; go_ret; exact ⟨rfl, rfl⟩)

set_option maxRecDepth 20000 in
set_option maxHeartbeats 4000000 in
theorem pt_zero : PtSpec 0 := by
  intro ab xb yb hb fb b t nn c level x y id F H A E alive w _ hlev _ _ _ _ hM hP ht hl
  subst hlev
  have ca := hM.ca
  have HA := fun W => cell_any alive W
  have HFIN : Hid (PtOut w ab xb yb hb fb b t c 0 F H A E alive x y id (if alive then 1 else 0) w) := by
    refine ⟨A, F, nn, [], hM, Step.refl _ _ _, hP.less (by omega), Gain.refl t A, ?_, fun p => ?_⟩
    cases alive <;> simp [levelF]
    obtain ⟨p1, p2⟩ := p
    have e1 : x % ((2 ^ 0 : Nat) : Int) = 0 := by simp
    have e2 : y % ((2 ^ 0 : Nat) : Int) = 0 := by simp
    rw [e1, e2]
    cases alive <;> simp [cellsF]
    exact fun h _ => h
  clear hM
  cases alive <;> (go_enter Try.func100, Try.ntmps100; go_wp2_with fail; refine (HA _).mono ?_; rintro e w1 ⟨rfl, rfl⟩; go_wp2_with fail; go_ret; exact ⟨_, rfl, HFIN.out⟩)

theorem four_cells {w : World} {g : Nat} {a b c d : Value} {t : TypeId} {fr : Nat × Nat} (h : w.heap[g]? = some (.cells #[a, b, c, d] t fr)) : w.cell? ⟨g, 0, none⟩ = some a ∧ w.cell? ⟨g, 1, none⟩ = some b ∧ w.cell? ⟨g, 2, none⟩ = some c ∧ w.cell? ⟨g, 3, none⟩ = some d := ⟨Lib.cell_of_heap h 0, Lib.cell_of_heap h 1, Lib.cell_of_heap h 2, Lib.cell_of_heap h 3⟩
theorem put_bits {x : Int} {n : Nat} {level : Int} (hl : level = ((n + 1 : Nat) : Int)) (h0 : 0 ≤ x) (h1 : x < 1152921504606846976) : bits BinOp.and IntKind.i64 (x / 2 ^ (level.toNat - 1)) 1 = (x / ((2 ^ n : Nat) : Int)) % 2 := by
  have e : level.toNat - 1 = n := by omega
  obtain ⟨k, rfl⟩ : ∃ k : Nat, x = (k : Int) := ⟨x.toNat, by omega⟩
  have e2 : ((k : Int) / 2 ^ n) = ((k / 2 ^ n : Nat) : Int) := by simp
  have hk : k / 2 ^ n ≤ k := Nat.div_le_self _ _
  rw [e, e2, and_one _ (by omega)]
  simp

set_option maxRecDepth 20000 in
set_option maxHeartbeats 8000000 in
theorem pt_step (n : Nat) (ih : PtSpec n) : PtSpec (n + 1) := by
  intro ab xb yb hb fb b t nn c level x y id F H A E alive w hn hlev hx0 hx1 hy0 hy1 hM hP ht hl
  obtain ⟨q, hsq, hth, h2i, hlt, hq⟩ := square_of hP.inv hl
  have hmask := hP.pur.bud.mask
  have hfew := hP.pur.bud.young.few
  have HK := fun W S => hkids_step hb b nn t id q F H A E W S ht hmask (fits_of hl hfew) hsq
  have hlv0 : (level == 0) = false := by simp; omega
  have hlv1 : 1 ≤ level ∧ level ≤ 44 := by omega
  have hbx := put_bits hlev hx0 hx1
  have hby := put_bits hlev hy0 hy1
  have hIH : ∀ (z : Int) (nn' : Nat) (W : World), PM W ab xb yb hb fb b t nn F H A E alive x y → levelF A.ths t z = some (n : Int) → Calls Try.prog 100 #[.int .i64 z, .int .i64 (level - 1), .pointer (some ⟨ab, 0, none⟩), .pointer (some ⟨xb, 0, none⟩), .pointer (some ⟨yb, 0, none⟩), .pointer (some ⟨hb, 0, none⟩), .pointer (some ⟨fb, 0, none⟩)] W fun e w' => ∃ id', e = .returned (.int .i64 id') ∧ PtOut W ab xb yb hb fb b t (c + 1) n F H A E alive x y z id' w' := fun z _ W h1 h2 => ih ab xb yb hb fb b t nn (c + 1) (level - 1) x y z F H A E alive W (by omega) (by omega) hx0 hx1 hy0 hy1 h1 (hP.less (by omega)) ht h2
  have HLEV : Hid (level = ((n + 1 : Nat) : Int)) := hlev
  have cx := hM.cx
  have cy := hM.cy
  have cf := hM.cf
  have k0 : levelF A.ths t q.p0 = some (n : Int) := hq 0 (by omega)
  have k1 : levelF A.ths t q.p1 = some (n : Int) := hq 1 (by omega)
  have k2 : levelF A.ths t q.p2 = some (n : Int) := hq 2 (by omega)
  have k3 : levelF A.ths t q.p3 = some (n : Int) := hq 3 (by omega)
  have hM1 : PM w.drew ab xb yb hb fb b t nn F H A E alive x y := ⟨hM.hs.other (Nat.le_refl _) fun _ _ => rfl, hM.ca, hM.cx, hM.cy, hM.cf, hM.no⟩
  have T1 : Step w F H w.drew F H := ⟨fun _ hk => Or.inl hk, ⟨rfl, rfl, rfl, Nat.le_refl _, fun _ _ _ => rfl⟩⟩
  have hex : (x / ((2 ^ n : Nat) : Int)) % 2 = 0 ∨ (x / ((2 ^ n : Nat) : Int)) % 2 = 1 := by omega
  have hey : (y / ((2 ^ n : Nat) : Int)) % 2 = 0 ∨ (y / ((2 ^ n : Nat) : Int)) % 2 = 1 := by omega
  have HM0 : Hid (PM w ab xb yb hb fb b t nn F H A E alive x y) := hM
  clear hlev ih hq hM
  rcases hex with hex | hex
  · rcases hey with hey | hey
    · rw [hex] at hbx
      rw [hey] at hby
      go_enter Try.func100, Try.ntmps100
      go_wp2_with fail
      go_region
      generalize w.drew = w1 at *
      generalize x / 2 ^ (level.toNat - 1) = sx
      generalize y / 2 ^ (level.toNat - 1) = sy
      clear cx cy cf hbx hby
      go_wp2_with fail
      refine (HK _ hM1.hs).mono ?_
      rintro e w2 ⟨rfl, S2, T2⟩
      have hM2 := hM1.step S2 T2
      have b3 : Below w2.heap.size w2 (w2.alloc (.cells #[.int .i64 q.p0, .int .i64 q.p1, .int .i64 q.p2, .int .i64 q.p3] 35)) := (Below.refl _ _).alloc (Nat.le_refl _) _
      have hM3 := hM2.below b3
      have cf := hM3.cf
      go_wp2_with fail
      have hqb : (w2.alloc (.cells #[.int .i64 q.p0, .int .i64 q.p1, .int .i64 q.p2, .int .i64 q.p3] 35)).heap[w2.heap.size]? = some (.cells #[.int .i64 q.p0, .int .i64 q.p1, .int .i64 q.p2, .int .i64 q.p3] 35 (0, 0)) := heap_alloc_new w2 _
      have T3 := T2.trans (Step.of b3) fun k hk => S2.lt hk
      have hnF : ¬ F w2.heap.size ∧ ¬ H w2.heap.size := ⟨fun e => by have := S2.lt (Or.inl e); omega, fun e => by have := S2.lt (Or.inr e); omega⟩
      have d : (w2.alloc (.cells #[.int .i64 q.p0, .int .i64 q.p1, .int .i64 q.p2, .int .i64 q.p3] 35)).cell? ⟨w2.heap.size, 0, none⟩ = some (.int .i64 q.p0) := Lib.cell_of_heap hqb 0
      generalize (w2.alloc (.cells #[.int .i64 q.p0, .int .i64 q.p1, .int .i64 q.p2, .int .i64 q.p3] 35)) = w3 at *
      have hql : w2.heap.size < w3.heap.size := (Array.getElem?_eq_some_iff.1 hqb).1
      have hqw : w.heap.size ≤ w2.heap.size := Nat.le_trans T1.ap.size T2.ap.size
      generalize w2.heap.size = qb at *
      have HKEEP : Hid (∀ id' w4, PtOut w3.drew ab xb yb hb fb b t (c + 1) n F H A E alive x y q.p0 id' w4 → w4.heap[qb]? = some (.cells #[.int .i64 q.p0, .int .i64 q.p1, .int .i64 q.p2, .int .i64 q.p3] 35 (0, 0))) := fun id' w4 ⟨A', F', nn', N, h1, h2, _⟩ => (h2.free (j := qb) hql hnF.1 hnF.2).1.trans hqb
      have HKF : Hid (∀ id' w4, PtOut w3.drew ab xb yb hb fb b t (c + 1) n F H A E alive x y q.p0 id' w4 → w4.cell? ⟨fb, 0, none⟩ = some (pFn ab xb yb hb fb) ∧ w4.cell? ⟨qb, 0, none⟩ = some (.int .i64 q.p0)) := fun id' w4 h => ⟨by obtain ⟨A', F', nn', N, h1, h2, _⟩ := h; exact h1.cf, Lib.cell_of_heap (HKEEP.out id' w4 h) 0⟩
      have HFZ : Hid (∀ id' w4, PtOut w3.drew ab xb yb hb fb b t (c + 1) n F H A E alive x y q.p0 id' w4 → w4.frozen? ⟨qb, 0, none⟩ = false) := fun id' w4 h => Lib.frozen_of_heap (HKEEP.out id' w4 h) 0
      have HC := hIH q.p0 0 w3.drew hM3.drew k0
      have HQB : Hid (w3.heap[qb]? = some (.cells #[.int .i64 q.p0, .int .i64 q.p1, .int .i64 q.p2, .int .i64 q.p3] 35 (0, 0))) := hqb
      clear hqb
      have d3' := d
      have HM3 : Hid (PM w3 ab xb yb hb fb b t nn F H A E alive x y) := hM3
      have HT : Hid (Step w F H w3 F H) := T1.trans T3 fun k hk => hM1.hs.lt hk
      have HQ : Hid (levelF A.ths t q.p0 = some (n : Int) ∧ levelF A.ths t q.p1 = some (n : Int) ∧ levelF A.ths t q.p2 = some (n : Int) ∧ levelF A.ths t q.p3 = some (n : Int)) := ⟨k0, k1, k2, k3⟩
      have HTH : Hid (thAt A.ths id = q ∧ levelF A.ths t id = some ((n + 1 : Nat) : Int)) := ⟨hth, hl⟩
      have HP : Hid (PS t A E (n + 1 + c) nn) := hP
      have HB : Hid (0 ≤ x ∧ 0 ≤ y ∧ (x / ((2 ^ n : Nat) : Int)) % 2 = 0 ∧ (y / ((2 ^ n : Nat) : Int)) % 2 = 0 ∧ n + 1 ≤ 44) := ⟨hx0, hy0, hex, hey, hn⟩
      have HNF : Hid (¬ F qb ∧ ¬ H qb ∧ qb < w3.heap.size ∧ w.heap.size ≤ qb) := ⟨hnF.1, hnF.2, hql, hqw⟩
      clear d hM3 T1 T2 T3 hM1 hM2 S2 b3 k0 k1 k2 k3 hth hl hP hx0 hx1 hy0 hy1 hex hey hn hnF hql hqw hIH HK hsq h2i hlt hmask hfew hlv0
      go_cut [13] from 10 to 43 (fun s13 wc => ∃ id' w4, s13 = .pointer (some ⟨qb, 0, none⟩) ∧ PtOut w3.drew ab xb yb hb fb b t (c + 1) n F H A E alive x y q.p0 id' w4 ∧ wc = w4.setCell ⟨qb, 0, none⟩ (.int .i64 id'))
      case first =>
        have hwr : IntKind.i64.wrap (level - 1) = level - 1 := by rw [IntKind.wrap_i64]; omega
        clear HKEEP HLEV HQB HM3 HT HQ HTH HP HB HNF HM0
        go_region_with ((go_at_call 100; refine HC.mono ?_; rintro e w4 ⟨id', rfl, hO⟩; have z4 := HFZ.out _ _ hO; have d4 := (HKF.out _ _ hO).2))
        all_goals
          go_wp2_with fail
          go_meet
          case rel => exact ⟨_, _, rfl, hO, rfl⟩
      case rest =>
        obtain ⟨id', w4, rfl, hO, rfl⟩ := hcut
        have hq4 := HKEEP.out _ _ hO
        have hqV := Go.Joins.block_setCell hq4 (.int .i64 id') (i := 0)
        obtain ⟨A4, F4, n4, N4, M4, T4, P4, g4, l4, c4⟩ := hO
        obtain ⟨f1, f2, f3, f4⟩ := T4.free (j := qb) HNF.out.2.2.1 HNF.out.1 HNF.out.2.1
        have S5 : HS (w4.setCell ⟨qb, 0, none⟩ (.int .i64 id')) hb b t n4 F4 H A4 E := M4.hs.other (by rw [size_set]; exact Nat.le_refl _) fun k hk => heap_set (by rintro rfl; rcases hk with e | e; exact f2 e; exact f3 e)
        have T34 : Step w F H w4 F4 H := (HT.out.trans (Step.drew w3 F H) fun k hk => HM3.out.hs.lt hk).trans T4 fun k hk => HM3.out.drew.hs.lt hk
        have T5 : Step w F H (w4.setCell ⟨qb, 0, none⟩ (.int .i64 id')) F4 H := ⟨T34.sub, ⟨T34.ap.os, T34.ap.tape, T34.ap.output, by rw [size_set]; exact T34.ap.size, fun k hk hn => (heap_set (by have := HNF.out.2.2.2; omega)).trans (T34.ap.block k hk hn)⟩⟩
        have M5 := HM0.out.step S5 T5
        obtain ⟨k0, k1, k2, k3⟩ := HQ.out
        have HJ := hjoin_step hb b n4 t c n id' q.p1 q.p2 q.p3 F4 H A4 E _ S5 (P4.less (by omega)) ht l4 (level_ext k1 g4.ext) (level_ext k2 g4.ext) (level_ext k3 g4.ext) (by have := HB.out; omega)
        have hG := HP.out.inv.good
        have HCE : Hid (∀ (B : Ar) (id9 : Int) (N9 : List Int), Joins t A4 id' q.p1 q.p2 q.p3 n B id9 N9 → PutC alive (x % ((2 ^ (n + 1) : Nat) : Int)) (y % ((2 ^ (n + 1) : Nat) : Int)) (cellsF A.ths (n + 1) id) (cellsF B.ths (n + 1) id9)) := fun B id9 N9 J => by
          obtain ⟨hx0, hy0, hex, hey, _⟩ := HB.out
          have hpos : (0 : Int) < ((2 ^ n : Nat) : Int) := by have := Nat.two_pow_pos n; omega
          have e0 : cellsF A.ths (n + 1) id = quartC ((2 ^ n : Nat) : Int) (cellsF A.ths n q.p0) (cellsF A.ths n q.p1) (cellsF A.ths n q.p2) (cellsF A.ths n q.p3) := by
            simp only [cellsF]
            rw [HTH.out.1]
            rfl
          rw [e0, J.cells, mod_half hx0, mod_half hy0, hex, hey, cells_ext hG g4.ext n _ (glevel_of k1), cells_ext hG g4.ext n _ (glevel_of k2), cells_ext hG g4.ext n _ (glevel_of k3)]
          simp only [Int.mul_zero, Int.add_zero]
          exact putC_0 ⟨Int.emod_nonneg _ (by omega), Int.emod_lt_of_pos _ hpos⟩ ⟨Int.emod_nonneg _ (by omega), Int.emod_lt_of_pos _ hpos⟩ (cells_in hG n _ (glevel_of k1)) (cells_in hG n _ (glevel_of k2)) (cells_in hG n _ (glevel_of k3)) c4
        obtain ⟨d0, d1, d2, d3⟩ := four_cells hqV
        clear HKEEP HKF HFZ HC HQB cf d3' hq4 hqV M4 c4 l4 k0 k1 k2 k3
        generalize w4.setCell ⟨qb, 0, none⟩ (.int .i64 id') = V at *
        go_wp2_with fail
        refine HJ.mono ?_
        rintro e w9 ⟨id9, B, F9, N9, rfl, S9, T9, P9, J9⟩
        go_wp2_with fail
        go_ret
        exact ⟨_, rfl, B, F9, _, _, M5.step S9 T9, T5.trans T9 fun k hk => S5.lt hk, P9, g4.trans J9.gain, J9.lv, HCE.out _ _ _ J9⟩
    · rw [hex] at hbx
      rw [hey] at hby
      go_enter Try.func100, Try.ntmps100
      go_wp2_with fail
      go_region
      generalize w.drew = w1 at *
      generalize x / 2 ^ (level.toNat - 1) = sx
      generalize y / 2 ^ (level.toNat - 1) = sy
      clear cx cy cf hbx hby
      go_wp2_with fail
      refine (HK _ hM1.hs).mono ?_
      rintro e w2 ⟨rfl, S2, T2⟩
      have hM2 := hM1.step S2 T2
      have b3 : Below w2.heap.size w2 (w2.alloc (.cells #[.int .i64 q.p0, .int .i64 q.p1, .int .i64 q.p2, .int .i64 q.p3] 35)) := (Below.refl _ _).alloc (Nat.le_refl _) _
      have hM3 := hM2.below b3
      have cf := hM3.cf
      go_wp2_with fail
      have hqb : (w2.alloc (.cells #[.int .i64 q.p0, .int .i64 q.p1, .int .i64 q.p2, .int .i64 q.p3] 35)).heap[w2.heap.size]? = some (.cells #[.int .i64 q.p0, .int .i64 q.p1, .int .i64 q.p2, .int .i64 q.p3] 35 (0, 0)) := heap_alloc_new w2 _
      have T3 := T2.trans (Step.of b3) fun k hk => S2.lt hk
      have hnF : ¬ F w2.heap.size ∧ ¬ H w2.heap.size := ⟨fun e => by have := S2.lt (Or.inl e); omega, fun e => by have := S2.lt (Or.inr e); omega⟩
      have d : (w2.alloc (.cells #[.int .i64 q.p0, .int .i64 q.p1, .int .i64 q.p2, .int .i64 q.p3] 35)).cell? ⟨w2.heap.size, 2, none⟩ = some (.int .i64 q.p2) := Lib.cell_of_heap hqb 2
      generalize (w2.alloc (.cells #[.int .i64 q.p0, .int .i64 q.p1, .int .i64 q.p2, .int .i64 q.p3] 35)) = w3 at *
      have hql : w2.heap.size < w3.heap.size := (Array.getElem?_eq_some_iff.1 hqb).1
      have hqw : w.heap.size ≤ w2.heap.size := Nat.le_trans T1.ap.size T2.ap.size
      generalize w2.heap.size = qb at *
      have HKEEP : Hid (∀ id' w4, PtOut w3.drew ab xb yb hb fb b t (c + 1) n F H A E alive x y q.p2 id' w4 → w4.heap[qb]? = some (.cells #[.int .i64 q.p0, .int .i64 q.p1, .int .i64 q.p2, .int .i64 q.p3] 35 (0, 0))) := fun id' w4 ⟨A', F', nn', N, h1, h2, _⟩ => (h2.free (j := qb) hql hnF.1 hnF.2).1.trans hqb
      have HKF : Hid (∀ id' w4, PtOut w3.drew ab xb yb hb fb b t (c + 1) n F H A E alive x y q.p2 id' w4 → w4.cell? ⟨fb, 0, none⟩ = some (pFn ab xb yb hb fb) ∧ w4.cell? ⟨qb, 2, none⟩ = some (.int .i64 q.p2)) := fun id' w4 h => ⟨by obtain ⟨A', F', nn', N, h1, h2, _⟩ := h; exact h1.cf, Lib.cell_of_heap (HKEEP.out id' w4 h) 2⟩
      have HFZ : Hid (∀ id' w4, PtOut w3.drew ab xb yb hb fb b t (c + 1) n F H A E alive x y q.p2 id' w4 → w4.frozen? ⟨qb, 2, none⟩ = false) := fun id' w4 h => Lib.frozen_of_heap (HKEEP.out id' w4 h) 2
      have HC := hIH q.p2 0 w3.drew hM3.drew k2
      have HQB : Hid (w3.heap[qb]? = some (.cells #[.int .i64 q.p0, .int .i64 q.p1, .int .i64 q.p2, .int .i64 q.p3] 35 (0, 0))) := hqb
      clear hqb
      have d3' := d
      have HM3 : Hid (PM w3 ab xb yb hb fb b t nn F H A E alive x y) := hM3
      have HT : Hid (Step w F H w3 F H) := T1.trans T3 fun k hk => hM1.hs.lt hk
      have HQ : Hid (levelF A.ths t q.p0 = some (n : Int) ∧ levelF A.ths t q.p1 = some (n : Int) ∧ levelF A.ths t q.p2 = some (n : Int) ∧ levelF A.ths t q.p3 = some (n : Int)) := ⟨k0, k1, k2, k3⟩
      have HTH : Hid (thAt A.ths id = q ∧ levelF A.ths t id = some ((n + 1 : Nat) : Int)) := ⟨hth, hl⟩
      have HP : Hid (PS t A E (n + 1 + c) nn) := hP
      have HB : Hid (0 ≤ x ∧ 0 ≤ y ∧ (x / ((2 ^ n : Nat) : Int)) % 2 = 0 ∧ (y / ((2 ^ n : Nat) : Int)) % 2 = 1 ∧ n + 1 ≤ 44) := ⟨hx0, hy0, hex, hey, hn⟩
      have HNF : Hid (¬ F qb ∧ ¬ H qb ∧ qb < w3.heap.size ∧ w.heap.size ≤ qb) := ⟨hnF.1, hnF.2, hql, hqw⟩
      clear d hM3 T1 T2 T3 hM1 hM2 S2 b3 k0 k1 k2 k3 hth hl hP hx0 hx1 hy0 hy1 hex hey hn hnF hql hqw hIH HK hsq h2i hlt hmask hfew hlv0
      go_cut [13] from 10 to 43 (fun s13 wc => ∃ id' w4, s13 = .pointer (some ⟨qb, 0, none⟩) ∧ PtOut w3.drew ab xb yb hb fb b t (c + 1) n F H A E alive x y q.p2 id' w4 ∧ wc = w4.setCell ⟨qb, 2, none⟩ (.int .i64 id'))
      case first =>
        have hwr : IntKind.i64.wrap (level - 1) = level - 1 := by rw [IntKind.wrap_i64]; omega
        clear HKEEP HLEV HQB HM3 HT HQ HTH HP HB HNF HM0
        go_region_with ((go_at_call 100; refine HC.mono ?_; rintro e w4 ⟨id', rfl, hO⟩; have z4 := HFZ.out _ _ hO; have d4 := (HKF.out _ _ hO).2))
        all_goals
          go_wp2_with fail
          go_meet
          case rel => exact ⟨_, _, rfl, hO, rfl⟩
      case rest =>
        obtain ⟨id', w4, rfl, hO, rfl⟩ := hcut
        have hq4 := HKEEP.out _ _ hO
        have hqV := Go.Joins.block_setCell hq4 (.int .i64 id') (i := 2)
        obtain ⟨A4, F4, n4, N4, M4, T4, P4, g4, l4, c4⟩ := hO
        obtain ⟨f1, f2, f3, f4⟩ := T4.free (j := qb) HNF.out.2.2.1 HNF.out.1 HNF.out.2.1
        have S5 : HS (w4.setCell ⟨qb, 2, none⟩ (.int .i64 id')) hb b t n4 F4 H A4 E := M4.hs.other (by rw [size_set]; exact Nat.le_refl _) fun k hk => heap_set (by rintro rfl; rcases hk with e | e; exact f2 e; exact f3 e)
        have T34 : Step w F H w4 F4 H := (HT.out.trans (Step.drew w3 F H) fun k hk => HM3.out.hs.lt hk).trans T4 fun k hk => HM3.out.drew.hs.lt hk
        have T5 : Step w F H (w4.setCell ⟨qb, 2, none⟩ (.int .i64 id')) F4 H := ⟨T34.sub, ⟨T34.ap.os, T34.ap.tape, T34.ap.output, by rw [size_set]; exact T34.ap.size, fun k hk hn => (heap_set (by have := HNF.out.2.2.2; omega)).trans (T34.ap.block k hk hn)⟩⟩
        have M5 := HM0.out.step S5 T5
        obtain ⟨k0, k1, k2, k3⟩ := HQ.out
        have HJ := hjoin_step hb b n4 t c n q.p0 q.p1 id' q.p3 F4 H A4 E _ S5 (P4.less (by omega)) ht (level_ext k0 g4.ext) (level_ext k1 g4.ext) l4 (level_ext k3 g4.ext) (by have := HB.out; omega)
        have hG := HP.out.inv.good
        have HCE : Hid (∀ (B : Ar) (id9 : Int) (N9 : List Int), Joins t A4 q.p0 q.p1 id' q.p3 n B id9 N9 → PutC alive (x % ((2 ^ (n + 1) : Nat) : Int)) (y % ((2 ^ (n + 1) : Nat) : Int)) (cellsF A.ths (n + 1) id) (cellsF B.ths (n + 1) id9)) := fun B id9 N9 J => by
          obtain ⟨hx0, hy0, hex, hey, _⟩ := HB.out
          have hpos : (0 : Int) < ((2 ^ n : Nat) : Int) := by have := Nat.two_pow_pos n; omega
          have e0 : cellsF A.ths (n + 1) id = quartC ((2 ^ n : Nat) : Int) (cellsF A.ths n q.p0) (cellsF A.ths n q.p1) (cellsF A.ths n q.p2) (cellsF A.ths n q.p3) := by
            simp only [cellsF]
            rw [HTH.out.1]
            rfl
          rw [e0, J.cells, mod_half hx0, mod_half hy0, hex, hey, cells_ext hG g4.ext n _ (glevel_of k0), cells_ext hG g4.ext n _ (glevel_of k1), cells_ext hG g4.ext n _ (glevel_of k3)]
          simp only [Int.mul_zero, Int.add_zero, Int.mul_one]
          exact putC_2 ⟨Int.emod_nonneg _ (by omega), Int.emod_lt_of_pos _ hpos⟩ ⟨Int.emod_nonneg _ (by omega), Int.emod_lt_of_pos _ hpos⟩ (cells_in hG n _ (glevel_of k0)) (cells_in hG n _ (glevel_of k1)) (cells_in hG n _ (glevel_of k3)) c4
        obtain ⟨d0, d1, d2, d3⟩ := four_cells hqV
        clear HKEEP HKF HFZ HC HQB cf d3' hq4 hqV M4 c4 l4 k0 k1 k2 k3
        generalize w4.setCell ⟨qb, 2, none⟩ (.int .i64 id') = V at *
        go_wp2_with fail
        refine HJ.mono ?_
        rintro e w9 ⟨id9, B, F9, N9, rfl, S9, T9, P9, J9⟩
        go_wp2_with fail
        go_ret
        exact ⟨_, rfl, B, F9, _, _, M5.step S9 T9, T5.trans T9 fun k hk => S5.lt hk, P9, g4.trans J9.gain, J9.lv, HCE.out _ _ _ J9⟩
  · rcases hey with hey | hey
    · rw [hex] at hbx
      rw [hey] at hby
      go_enter Try.func100, Try.ntmps100
      go_wp2_with fail
      go_region
      generalize w.drew = w1 at *
      generalize x / 2 ^ (level.toNat - 1) = sx
      generalize y / 2 ^ (level.toNat - 1) = sy
      clear cx cy cf hbx hby
      go_wp2_with fail
      refine (HK _ hM1.hs).mono ?_
      rintro e w2 ⟨rfl, S2, T2⟩
      have hM2 := hM1.step S2 T2
      have b3 : Below w2.heap.size w2 (w2.alloc (.cells #[.int .i64 q.p0, .int .i64 q.p1, .int .i64 q.p2, .int .i64 q.p3] 35)) := (Below.refl _ _).alloc (Nat.le_refl _) _
      have hM3 := hM2.below b3
      have cf := hM3.cf
      go_wp2_with fail
      have hqb : (w2.alloc (.cells #[.int .i64 q.p0, .int .i64 q.p1, .int .i64 q.p2, .int .i64 q.p3] 35)).heap[w2.heap.size]? = some (.cells #[.int .i64 q.p0, .int .i64 q.p1, .int .i64 q.p2, .int .i64 q.p3] 35 (0, 0)) := heap_alloc_new w2 _
      have T3 := T2.trans (Step.of b3) fun k hk => S2.lt hk
      have hnF : ¬ F w2.heap.size ∧ ¬ H w2.heap.size := ⟨fun e => by have := S2.lt (Or.inl e); omega, fun e => by have := S2.lt (Or.inr e); omega⟩
      have d : (w2.alloc (.cells #[.int .i64 q.p0, .int .i64 q.p1, .int .i64 q.p2, .int .i64 q.p3] 35)).cell? ⟨w2.heap.size, 1, none⟩ = some (.int .i64 q.p1) := Lib.cell_of_heap hqb 1
      generalize (w2.alloc (.cells #[.int .i64 q.p0, .int .i64 q.p1, .int .i64 q.p2, .int .i64 q.p3] 35)) = w3 at *
      have hql : w2.heap.size < w3.heap.size := (Array.getElem?_eq_some_iff.1 hqb).1
      have hqw : w.heap.size ≤ w2.heap.size := Nat.le_trans T1.ap.size T2.ap.size
      generalize w2.heap.size = qb at *
      have HKEEP : Hid (∀ id' w4, PtOut w3.drew ab xb yb hb fb b t (c + 1) n F H A E alive x y q.p1 id' w4 → w4.heap[qb]? = some (.cells #[.int .i64 q.p0, .int .i64 q.p1, .int .i64 q.p2, .int .i64 q.p3] 35 (0, 0))) := fun id' w4 ⟨A', F', nn', N, h1, h2, _⟩ => (h2.free (j := qb) hql hnF.1 hnF.2).1.trans hqb
      have HKF : Hid (∀ id' w4, PtOut w3.drew ab xb yb hb fb b t (c + 1) n F H A E alive x y q.p1 id' w4 → w4.cell? ⟨fb, 0, none⟩ = some (pFn ab xb yb hb fb) ∧ w4.cell? ⟨qb, 1, none⟩ = some (.int .i64 q.p1)) := fun id' w4 h => ⟨by obtain ⟨A', F', nn', N, h1, h2, _⟩ := h; exact h1.cf, Lib.cell_of_heap (HKEEP.out id' w4 h) 1⟩
      have HFZ : Hid (∀ id' w4, PtOut w3.drew ab xb yb hb fb b t (c + 1) n F H A E alive x y q.p1 id' w4 → w4.frozen? ⟨qb, 1, none⟩ = false) := fun id' w4 h => Lib.frozen_of_heap (HKEEP.out id' w4 h) 1
      have HC := hIH q.p1 0 w3.drew hM3.drew k1
      have HQB : Hid (w3.heap[qb]? = some (.cells #[.int .i64 q.p0, .int .i64 q.p1, .int .i64 q.p2, .int .i64 q.p3] 35 (0, 0))) := hqb
      clear hqb
      have d3' := d
      have HM3 : Hid (PM w3 ab xb yb hb fb b t nn F H A E alive x y) := hM3
      have HT : Hid (Step w F H w3 F H) := T1.trans T3 fun k hk => hM1.hs.lt hk
      have HQ : Hid (levelF A.ths t q.p0 = some (n : Int) ∧ levelF A.ths t q.p1 = some (n : Int) ∧ levelF A.ths t q.p2 = some (n : Int) ∧ levelF A.ths t q.p3 = some (n : Int)) := ⟨k0, k1, k2, k3⟩
      have HTH : Hid (thAt A.ths id = q ∧ levelF A.ths t id = some ((n + 1 : Nat) : Int)) := ⟨hth, hl⟩
      have HP : Hid (PS t A E (n + 1 + c) nn) := hP
      have HB : Hid (0 ≤ x ∧ 0 ≤ y ∧ (x / ((2 ^ n : Nat) : Int)) % 2 = 1 ∧ (y / ((2 ^ n : Nat) : Int)) % 2 = 0 ∧ n + 1 ≤ 44) := ⟨hx0, hy0, hex, hey, hn⟩
      have HNF : Hid (¬ F qb ∧ ¬ H qb ∧ qb < w3.heap.size ∧ w.heap.size ≤ qb) := ⟨hnF.1, hnF.2, hql, hqw⟩
      clear d hM3 T1 T2 T3 hM1 hM2 S2 b3 k0 k1 k2 k3 hth hl hP hx0 hx1 hy0 hy1 hex hey hn hnF hql hqw hIH HK hsq h2i hlt hmask hfew hlv0
      go_cut [13] from 10 to 43 (fun s13 wc => ∃ id' w4, s13 = .pointer (some ⟨qb, 0, none⟩) ∧ PtOut w3.drew ab xb yb hb fb b t (c + 1) n F H A E alive x y q.p1 id' w4 ∧ wc = w4.setCell ⟨qb, 1, none⟩ (.int .i64 id'))
      case first =>
        have hwr : IntKind.i64.wrap (level - 1) = level - 1 := by rw [IntKind.wrap_i64]; omega
        clear HKEEP HLEV HQB HM3 HT HQ HTH HP HB HNF HM0
        go_region_with ((go_at_call 100; refine HC.mono ?_; rintro e w4 ⟨id', rfl, hO⟩; have z4 := HFZ.out _ _ hO; have d4 := (HKF.out _ _ hO).2))
        all_goals
          go_wp2_with fail
          go_meet
          case rel => exact ⟨_, _, rfl, hO, rfl⟩
      case rest =>
        obtain ⟨id', w4, rfl, hO, rfl⟩ := hcut
        have hq4 := HKEEP.out _ _ hO
        have hqV := Go.Joins.block_setCell hq4 (.int .i64 id') (i := 1)
        obtain ⟨A4, F4, n4, N4, M4, T4, P4, g4, l4, c4⟩ := hO
        obtain ⟨f1, f2, f3, f4⟩ := T4.free (j := qb) HNF.out.2.2.1 HNF.out.1 HNF.out.2.1
        have S5 : HS (w4.setCell ⟨qb, 1, none⟩ (.int .i64 id')) hb b t n4 F4 H A4 E := M4.hs.other (by rw [size_set]; exact Nat.le_refl _) fun k hk => heap_set (by rintro rfl; rcases hk with e | e; exact f2 e; exact f3 e)
        have T34 : Step w F H w4 F4 H := (HT.out.trans (Step.drew w3 F H) fun k hk => HM3.out.hs.lt hk).trans T4 fun k hk => HM3.out.drew.hs.lt hk
        have T5 : Step w F H (w4.setCell ⟨qb, 1, none⟩ (.int .i64 id')) F4 H := ⟨T34.sub, ⟨T34.ap.os, T34.ap.tape, T34.ap.output, by rw [size_set]; exact T34.ap.size, fun k hk hn => (heap_set (by have := HNF.out.2.2.2; omega)).trans (T34.ap.block k hk hn)⟩⟩
        have M5 := HM0.out.step S5 T5
        obtain ⟨k0, k1, k2, k3⟩ := HQ.out
        have HJ := hjoin_step hb b n4 t c n q.p0 id' q.p2 q.p3 F4 H A4 E _ S5 (P4.less (by omega)) ht (level_ext k0 g4.ext) l4 (level_ext k2 g4.ext) (level_ext k3 g4.ext) (by have := HB.out; omega)
        have hG := HP.out.inv.good
        have HCE : Hid (∀ (B : Ar) (id9 : Int) (N9 : List Int), Joins t A4 q.p0 id' q.p2 q.p3 n B id9 N9 → PutC alive (x % ((2 ^ (n + 1) : Nat) : Int)) (y % ((2 ^ (n + 1) : Nat) : Int)) (cellsF A.ths (n + 1) id) (cellsF B.ths (n + 1) id9)) := fun B id9 N9 J => by
          obtain ⟨hx0, hy0, hex, hey, _⟩ := HB.out
          have hpos : (0 : Int) < ((2 ^ n : Nat) : Int) := by have := Nat.two_pow_pos n; omega
          have e0 : cellsF A.ths (n + 1) id = quartC ((2 ^ n : Nat) : Int) (cellsF A.ths n q.p0) (cellsF A.ths n q.p1) (cellsF A.ths n q.p2) (cellsF A.ths n q.p3) := by
            simp only [cellsF]
            rw [HTH.out.1]
            rfl
          rw [e0, J.cells, mod_half hx0, mod_half hy0, hex, hey, cells_ext hG g4.ext n _ (glevel_of k0), cells_ext hG g4.ext n _ (glevel_of k2), cells_ext hG g4.ext n _ (glevel_of k3)]
          simp only [Int.mul_zero, Int.add_zero, Int.mul_one]
          exact putC_1 ⟨Int.emod_nonneg _ (by omega), Int.emod_lt_of_pos _ hpos⟩ ⟨Int.emod_nonneg _ (by omega), Int.emod_lt_of_pos _ hpos⟩ (cells_in hG n _ (glevel_of k0)) (cells_in hG n _ (glevel_of k2)) (cells_in hG n _ (glevel_of k3)) c4
        obtain ⟨d0, d1, d2, d3⟩ := four_cells hqV
        clear HKEEP HKF HFZ HC HQB cf d3' hq4 hqV M4 c4 l4 k0 k1 k2 k3
        generalize w4.setCell ⟨qb, 1, none⟩ (.int .i64 id') = V at *
        go_wp2_with fail
        refine HJ.mono ?_
        rintro e w9 ⟨id9, B, F9, N9, rfl, S9, T9, P9, J9⟩
        go_wp2_with fail
        go_ret
        exact ⟨_, rfl, B, F9, _, _, M5.step S9 T9, T5.trans T9 fun k hk => S5.lt hk, P9, g4.trans J9.gain, J9.lv, HCE.out _ _ _ J9⟩
    · rw [hex] at hbx
      rw [hey] at hby
      go_enter Try.func100, Try.ntmps100
      go_wp2_with fail
      go_region
      generalize w.drew = w1 at *
      generalize x / 2 ^ (level.toNat - 1) = sx
      generalize y / 2 ^ (level.toNat - 1) = sy
      clear cx cy cf hbx hby
      go_wp2_with fail
      refine (HK _ hM1.hs).mono ?_
      rintro e w2 ⟨rfl, S2, T2⟩
      have hM2 := hM1.step S2 T2
      have b3 : Below w2.heap.size w2 (w2.alloc (.cells #[.int .i64 q.p0, .int .i64 q.p1, .int .i64 q.p2, .int .i64 q.p3] 35)) := (Below.refl _ _).alloc (Nat.le_refl _) _
      have hM3 := hM2.below b3
      have cf := hM3.cf
      go_wp2_with fail
      have hqb : (w2.alloc (.cells #[.int .i64 q.p0, .int .i64 q.p1, .int .i64 q.p2, .int .i64 q.p3] 35)).heap[w2.heap.size]? = some (.cells #[.int .i64 q.p0, .int .i64 q.p1, .int .i64 q.p2, .int .i64 q.p3] 35 (0, 0)) := heap_alloc_new w2 _
      have T3 := T2.trans (Step.of b3) fun k hk => S2.lt hk
      have hnF : ¬ F w2.heap.size ∧ ¬ H w2.heap.size := ⟨fun e => by have := S2.lt (Or.inl e); omega, fun e => by have := S2.lt (Or.inr e); omega⟩
      have d : (w2.alloc (.cells #[.int .i64 q.p0, .int .i64 q.p1, .int .i64 q.p2, .int .i64 q.p3] 35)).cell? ⟨w2.heap.size, 3, none⟩ = some (.int .i64 q.p3) := Lib.cell_of_heap hqb 3
      generalize (w2.alloc (.cells #[.int .i64 q.p0, .int .i64 q.p1, .int .i64 q.p2, .int .i64 q.p3] 35)) = w3 at *
      have hql : w2.heap.size < w3.heap.size := (Array.getElem?_eq_some_iff.1 hqb).1
      have hqw : w.heap.size ≤ w2.heap.size := Nat.le_trans T1.ap.size T2.ap.size
      generalize w2.heap.size = qb at *
      have HKEEP : Hid (∀ id' w4, PtOut w3.drew ab xb yb hb fb b t (c + 1) n F H A E alive x y q.p3 id' w4 → w4.heap[qb]? = some (.cells #[.int .i64 q.p0, .int .i64 q.p1, .int .i64 q.p2, .int .i64 q.p3] 35 (0, 0))) := fun id' w4 ⟨A', F', nn', N, h1, h2, _⟩ => (h2.free (j := qb) hql hnF.1 hnF.2).1.trans hqb
      have HKF : Hid (∀ id' w4, PtOut w3.drew ab xb yb hb fb b t (c + 1) n F H A E alive x y q.p3 id' w4 → w4.cell? ⟨fb, 0, none⟩ = some (pFn ab xb yb hb fb) ∧ w4.cell? ⟨qb, 3, none⟩ = some (.int .i64 q.p3)) := fun id' w4 h => ⟨by obtain ⟨A', F', nn', N, h1, h2, _⟩ := h; exact h1.cf, Lib.cell_of_heap (HKEEP.out id' w4 h) 3⟩
      have HFZ : Hid (∀ id' w4, PtOut w3.drew ab xb yb hb fb b t (c + 1) n F H A E alive x y q.p3 id' w4 → w4.frozen? ⟨qb, 3, none⟩ = false) := fun id' w4 h => Lib.frozen_of_heap (HKEEP.out id' w4 h) 3
      have HC := hIH q.p3 0 w3.drew hM3.drew k3
      have HQB : Hid (w3.heap[qb]? = some (.cells #[.int .i64 q.p0, .int .i64 q.p1, .int .i64 q.p2, .int .i64 q.p3] 35 (0, 0))) := hqb
      clear hqb
      have d3' := d
      have HM3 : Hid (PM w3 ab xb yb hb fb b t nn F H A E alive x y) := hM3
      have HT : Hid (Step w F H w3 F H) := T1.trans T3 fun k hk => hM1.hs.lt hk
      have HQ : Hid (levelF A.ths t q.p0 = some (n : Int) ∧ levelF A.ths t q.p1 = some (n : Int) ∧ levelF A.ths t q.p2 = some (n : Int) ∧ levelF A.ths t q.p3 = some (n : Int)) := ⟨k0, k1, k2, k3⟩
      have HTH : Hid (thAt A.ths id = q ∧ levelF A.ths t id = some ((n + 1 : Nat) : Int)) := ⟨hth, hl⟩
      have HP : Hid (PS t A E (n + 1 + c) nn) := hP
      have HB : Hid (0 ≤ x ∧ 0 ≤ y ∧ (x / ((2 ^ n : Nat) : Int)) % 2 = 1 ∧ (y / ((2 ^ n : Nat) : Int)) % 2 = 1 ∧ n + 1 ≤ 44) := ⟨hx0, hy0, hex, hey, hn⟩
      have HNF : Hid (¬ F qb ∧ ¬ H qb ∧ qb < w3.heap.size ∧ w.heap.size ≤ qb) := ⟨hnF.1, hnF.2, hql, hqw⟩
      clear d hM3 T1 T2 T3 hM1 hM2 S2 b3 k0 k1 k2 k3 hth hl hP hx0 hx1 hy0 hy1 hex hey hn hnF hql hqw hIH HK hsq h2i hlt hmask hfew hlv0
      go_cut [13] from 10 to 43 (fun s13 wc => ∃ id' w4, s13 = .pointer (some ⟨qb, 0, none⟩) ∧ PtOut w3.drew ab xb yb hb fb b t (c + 1) n F H A E alive x y q.p3 id' w4 ∧ wc = w4.setCell ⟨qb, 3, none⟩ (.int .i64 id'))
      case first =>
        have hwr : IntKind.i64.wrap (level - 1) = level - 1 := by rw [IntKind.wrap_i64]; omega
        clear HKEEP HLEV HQB HM3 HT HQ HTH HP HB HNF HM0
        go_region_with ((go_at_call 100; refine HC.mono ?_; rintro e w4 ⟨id', rfl, hO⟩; have z4 := HFZ.out _ _ hO; have d4 := (HKF.out _ _ hO).2))
        all_goals
          go_wp2_with fail
          go_meet
          case rel => exact ⟨_, _, rfl, hO, rfl⟩
      case rest =>
        obtain ⟨id', w4, rfl, hO, rfl⟩ := hcut
        have hq4 := HKEEP.out _ _ hO
        have hqV := Go.Joins.block_setCell hq4 (.int .i64 id') (i := 3)
        obtain ⟨A4, F4, n4, N4, M4, T4, P4, g4, l4, c4⟩ := hO
        obtain ⟨f1, f2, f3, f4⟩ := T4.free (j := qb) HNF.out.2.2.1 HNF.out.1 HNF.out.2.1
        have S5 : HS (w4.setCell ⟨qb, 3, none⟩ (.int .i64 id')) hb b t n4 F4 H A4 E := M4.hs.other (by rw [size_set]; exact Nat.le_refl _) fun k hk => heap_set (by rintro rfl; rcases hk with e | e; exact f2 e; exact f3 e)
        have T34 : Step w F H w4 F4 H := (HT.out.trans (Step.drew w3 F H) fun k hk => HM3.out.hs.lt hk).trans T4 fun k hk => HM3.out.drew.hs.lt hk
        have T5 : Step w F H (w4.setCell ⟨qb, 3, none⟩ (.int .i64 id')) F4 H := ⟨T34.sub, ⟨T34.ap.os, T34.ap.tape, T34.ap.output, by rw [size_set]; exact T34.ap.size, fun k hk hn => (heap_set (by have := HNF.out.2.2.2; omega)).trans (T34.ap.block k hk hn)⟩⟩
        have M5 := HM0.out.step S5 T5
        obtain ⟨k0, k1, k2, k3⟩ := HQ.out
        have HJ := hjoin_step hb b n4 t c n q.p0 q.p1 q.p2 id' F4 H A4 E _ S5 (P4.less (by omega)) ht (level_ext k0 g4.ext) (level_ext k1 g4.ext) (level_ext k2 g4.ext) l4 (by have := HB.out; omega)
        have hG := HP.out.inv.good
        have HCE : Hid (∀ (B : Ar) (id9 : Int) (N9 : List Int), Joins t A4 q.p0 q.p1 q.p2 id' n B id9 N9 → PutC alive (x % ((2 ^ (n + 1) : Nat) : Int)) (y % ((2 ^ (n + 1) : Nat) : Int)) (cellsF A.ths (n + 1) id) (cellsF B.ths (n + 1) id9)) := fun B id9 N9 J => by
          obtain ⟨hx0, hy0, hex, hey, _⟩ := HB.out
          have hpos : (0 : Int) < ((2 ^ n : Nat) : Int) := by have := Nat.two_pow_pos n; omega
          have e0 : cellsF A.ths (n + 1) id = quartC ((2 ^ n : Nat) : Int) (cellsF A.ths n q.p0) (cellsF A.ths n q.p1) (cellsF A.ths n q.p2) (cellsF A.ths n q.p3) := by
            simp only [cellsF]
            rw [HTH.out.1]
            rfl
          rw [e0, J.cells, mod_half hx0, mod_half hy0, hex, hey, cells_ext hG g4.ext n _ (glevel_of k0), cells_ext hG g4.ext n _ (glevel_of k1), cells_ext hG g4.ext n _ (glevel_of k2)]
          simp only [Int.mul_one]
          exact putC_3 ⟨Int.emod_nonneg _ (by omega), Int.emod_lt_of_pos _ hpos⟩ ⟨Int.emod_nonneg _ (by omega), Int.emod_lt_of_pos _ hpos⟩ (cells_in hG n _ (glevel_of k0)) (cells_in hG n _ (glevel_of k1)) (cells_in hG n _ (glevel_of k2)) c4
        obtain ⟨d0, d1, d2, d3⟩ := four_cells hqV
        clear HKEEP HKF HFZ HC HQB cf d3' hq4 hqV M4 c4 l4 k0 k1 k2 k3
        generalize w4.setCell ⟨qb, 3, none⟩ (.int .i64 id') = V at *
        go_wp2_with fail
        refine HJ.mono ?_
        rintro e w9 ⟨id9, B, F9, N9, rfl, S9, T9, P9, J9⟩
        go_wp2_with fail
        go_ret
        exact ⟨_, rfl, B, F9, _, _, M5.step S9 T9, T5.trans T9 fun k hk => S5.lt hk, P9, g4.trans J9.gain, J9.lv, HCE.out _ _ _ J9⟩
/-- the closure sets a cell of a square of any level -/
theorem pt_any : ∀ n, PtSpec n
  | 0 => pt_zero
  | n + 1 => pt_step n (pt_any n)
end Go.Proofs.Ythobobgiendcfaa.A
