/- Keys of things in an arena's map. -/
import Derived.Test.YtofbcngcblleaabGreatArOwn
import Derived.Maps.OwnSet
namespace Go.Proofs.YtofbcngcblleaabGreat.A
open Go.RowKit
def lack {α : Type} : Option α → Int
  | some _ => 0
  | none => 6
def levelF (l : List Th) (t : Nat) (id : Int) : Option Int := if id = 0 ∨ id = 1 then some 0 else match ownF l t id with | some x => if x.k = 1 then some x.lv else none | none => none
set_option maxHeartbeats 2000000 in
theorem level_any (b B t : Nat) (id : Int) (r : Raw) (l : List Th) (w : World) (h : RawAt w b r) (hl : ThRow w B r.vth l) (ht : t < 64) (hm : ∀ x ∈ l, x.mask < 18446744073709551616) (hid : -9223372036854775808 ≤ id ∧ id ≤ 9223372036854775807) :
    Calls Tryz.prog 27 #[.pointer (some ⟨b, 0, none⟩), .int .i64 t, .int .i64 id] w fun e w' => e = .returned (.tuple #[.int .i64 ((levelF l t id).getD 0), .bool (levelF l t id).isSome]) ∧ Below w.heap.size w w' := by
  have ho := fun W hW hW' => own_any b B t id r l W hW hW' ht hm hid
  by_cases h0 : id = 0
  · subst h0
    go_enter Tryz.func27, Tryz.ntmps27
    go_wp2_with fail
    go_ret2
    exact ⟨rfl, Below.refl _ _⟩
  · by_cases h1 : id = 1
    · subst h1
      go_enter Tryz.func27, Tryz.ntmps27
      go_wp2_with fail
      go_ret2
      exact ⟨rfl, Below.refl _ _⟩
    · have e0 : (id == 0) = false := by simpa using h0
      have e1 : (id == 1) = false := by simpa using h1
      have HL : Hid (levelF l t id = match ownF l t id with | some x => if x.k = 1 then some x.lv else none | none => none) := by
        show _ = _
        unfold levelF
        rw [if_neg (by omega)]
      clear h0 h1
      go_enter Tryz.func27, Tryz.ntmps27
      go_wp2_with fail
      refine (ho _ h hl).mono ?_
      rintro e w1 ⟨rfl, hb1⟩
      cases hown : ownF l t id with
      | none =>
        rw [hown] at HL
        have HX : Hid (levelF l t id = none) := HL.out
        simp only [Option.getD_none, Option.isSome_none, noTh, Th.val]
        clear HL hown ho
        go_wp2_with fail
        go_ret2
        rw [HX.out]
        exact ⟨rfl, hb1.alloc hb1.size _⟩
      | some x =>
        rw [hown] at HL
        simp only [Option.getD_some, Option.isSome_some, Th.val]
        clear hown ho
        by_cases hk : x.k = 1
        · have HX : Hid (levelF l t id = some x.lv) := HL.out.trans (if_pos hk)
          rw [hk]
          clear HL
          go_wp2_with fail
          go_ret2
          rw [HX.out]
          exact ⟨rfl, hb1.alloc hb1.size _⟩
        · have HX : Hid (levelF l t id = none) := HL.out.trans (if_neg hk)
          have hk' : (x.k != 1) = true := by simpa using hk
          clear HL hk
          go_wp2_with fail
          go_ret2
          rw [HX.out]
          exact ⟨rfl, hb1.alloc hb1.size _⟩
set_option maxHeartbeats 2000000 in
theorem Level_any (b B t : Nat) (id : Int) (r : Raw) (l : List Th) (w : World) (h : RawAt w b r) (hl : ThRow w B r.vth l) (ht : t < 64) (hm : ∀ x ∈ l, x.mask < 18446744073709551616) (hid : -9223372036854775808 ≤ id ∧ id ≤ 9223372036854775807) :
    Calls Tryz.prog 21 #[.pointer (some ⟨b, 0, none⟩), .int .i64 t, .int .i64 id] w fun e w' => e = .returned (.tuple #[.int .i64 ((levelF l t id).getD 0), .int .i64 (lack (levelF l t id))]) ∧ Below w.heap.size w w' := by
  have ho := fun W hW hW' => level_any b B t id r l W hW hW' ht hm hid
  have hi := fun W => tenant_yes t ht W
  go_enter Tryz.func21, Tryz.ntmps21
  go_wp2_with fail
  refine (hi _).mono ?_
  rintro e w1 ⟨rfl, rfl⟩
  go_wp2_with fail
  refine (ho _ h hl).mono ?_
  rintro e w1 ⟨rfl, hb1⟩
  cases hown : levelF l t id with
  | none =>
    simp only [Option.getD_none, Option.isSome_none]
    go_wp2_with fail
    go_ret2
    rw [hown]
    exact ⟨rfl, hb1⟩
  | some n =>
    simp only [Option.getD_some, Option.isSome_some]
    go_wp2_with fail
    go_ret2
    rw [hown]
    exact ⟨rfl, hb1⟩
def kidsV (o : Option Th) : Value := match o with | some x => .agg #[.int .i64 x.p0, .int .i64 x.p1, .int .i64 x.p2, .int .i64 x.p3] | none => .agg #[.int .i64 0, .int .i64 0, .int .i64 0, .int .i64 0]
def squareF (l : List Th) (t : Nat) (id : Int) : Option Th := (ownF l t id).filter fun x => x.k == 1
set_option maxHeartbeats 2000000 in
theorem Kids_any (b B t : Nat) (id : Int) (r : Raw) (l : List Th) (w : World) (h : RawAt w b r) (hl : ThRow w B r.vth l) (ht : t < 64) (hm : ∀ x ∈ l, x.mask < 18446744073709551616) (hid : -9223372036854775808 ≤ id ∧ id ≤ 9223372036854775807) :
    Calls Tryz.prog 80 #[.pointer (some ⟨b, 0, none⟩), .int .i64 t, .int .i64 id] w fun e w' => e = .returned (.tuple #[kidsV (squareF l t id), .int .i64 (lack (squareF l t id))]) ∧ Below w.heap.size w w' := by
  have ho := fun W hW hW' => own_any b B t id r l W hW hW' ht hm hid
  have hi := fun W => tenant_yes t ht W
  have hb0 : Below w.heap.size w (w.alloc (.cells #[.int .i64 0, .int .i64 0, .int .i64 0, .int .i64 0] 41)) := (Below.refl _ _).alloc (Nat.le_refl _) _
  go_enter Tryz.func80, Tryz.ntmps80
  go_wp2_with fail
  refine (hi _).mono ?_
  rintro e w1 ⟨rfl, rfl⟩
  go_wp2_with fail
  refine (ho _ (h.go (hb0.block _ h.lt)) (hl.alloc _)).mono ?_
  rintro e w1 ⟨rfl, hb1⟩
  have hb1' := hb0.trans (hb1.mono hb0.size)
  have hA : w1.heap[w.heap.size]? = some (.cells #[.int .i64 0, .int .i64 0, .int .i64 0, .int .i64 0] 41 (0, 0)) := (hb1.block w.heap.size (by simp)).trans (heap_alloc_new w _)
  have hlt : w.heap.size < w1.heap.size := (Array.getElem?_eq_some_iff.1 hA).1
  have k0 : w1.cell? ⟨w.heap.size, 0, none⟩ = some (.int .i64 0) := Lib.cell_of_heap hA 0
  have k1 : w1.cell? ⟨w.heap.size, 1, none⟩ = some (.int .i64 0) := Lib.cell_of_heap hA 1
  have k2 : w1.cell? ⟨w.heap.size, 2, none⟩ = some (.int .i64 0) := Lib.cell_of_heap hA 2
  have k3 : w1.cell? ⟨w.heap.size, 3, none⟩ = some (.int .i64 0) := Lib.cell_of_heap hA 3
  have z0 := Lib.frozen_of_heap hA 0
  have z1 := Lib.frozen_of_heap hA 1
  have z2 := Lib.frozen_of_heap hA 2
  have z3 := Lib.frozen_of_heap hA 3
  have hset : ∀ (W : World) (c0 c1 c2 c3 : Value), W.heap[w.heap.size]? = some (.cells #[.int .i64 0, .int .i64 0, .int .i64 0, .int .i64 0] 41 (0, 0)) → ((((W.setCell ⟨w.heap.size, 0, none⟩ c0).setCell ⟨w.heap.size, 1, none⟩ c1).setCell ⟨w.heap.size, 2, none⟩ c2).setCell ⟨w.heap.size, 3, none⟩ c3).heap[w.heap.size]? = some (.cells #[c0, c1, c2, c3] 41 (0, 0)) := fun W c0 c1 c2 c3 hW =>
    Go.Joins.block_setCell (Go.Joins.block_setCell (Go.Joins.block_setCell (Go.Joins.block_setCell hW c0) c1) c2) c3
  cases hown : ownF l t id with
  | none =>
    have HX : Hid (squareF l t id = none) := by
      show _ = _
      unfold squareF
      rw [hown]; rfl
    simp only [Option.getD_none, Option.isSome_none, noTh, Th.val]
    clear hown ho
    go_wp2_with fail
    have hR := hset w1 (.int .i64 0) (.int .i64 0) (.int .i64 0) (.int .i64 0) hA
    refine bodyPost_ret (v := .tuple #[.agg #[.int .i64 0, .int .i64 0, .int .i64 0, .int .i64 0], .int .i64 6]) ?_ rfl ⟨?_, ?_⟩
    · simp [results, Tryz.results80, go_sem, Lib.cell_of_heap hR, hlt]
    · rw [HX.out]; rfl
    · exact ((((hb1'.setCell (p := ⟨w.heap.size, 0, none⟩) (Nat.le_refl _) _).setCell (p := ⟨w.heap.size, 1, none⟩) (Nat.le_refl _) _).setCell (p := ⟨w.heap.size, 2, none⟩) (Nat.le_refl _) _).setCell (p := ⟨w.heap.size, 3, none⟩) (Nat.le_refl _) _).alloc (by simpa [World.setCell] using hb1'.size) _
  | some x =>
    simp only [Option.getD_some, Option.isSome_some, Th.val]
    clear ho
    by_cases hk : x.k = 1
    · have HX : Hid (squareF l t id = some x) := by
        show _ = _
        unfold squareF
        rw [hown, Option.filter_some, if_pos (by simpa using hk)]
      rw [hk]
      clear hown
      go_wp2_with fail
      have hR := hset w1 (.int .i64 x.p0) (.int .i64 x.p1) (.int .i64 x.p2) (.int .i64 x.p3) hA
      refine bodyPost_ret (v := .tuple #[.agg #[.int .i64 x.p0, .int .i64 x.p1, .int .i64 x.p2, .int .i64 x.p3], .int .i64 0]) ?_ rfl ⟨?_, ?_⟩
      · simp [results, Tryz.results80, go_sem, Lib.cell_of_heap hR, hlt]
      · rw [HX.out]; rfl
      · exact ((((hb1'.setCell (p := ⟨w.heap.size, 0, none⟩) (Nat.le_refl _) _).setCell (p := ⟨w.heap.size, 1, none⟩) (Nat.le_refl _) _).setCell (p := ⟨w.heap.size, 2, none⟩) (Nat.le_refl _) _).setCell (p := ⟨w.heap.size, 3, none⟩) (Nat.le_refl _) _).alloc (by simpa [World.setCell] using hb1'.size) _
    · have HX : Hid (squareF l t id = none) := by
        show _ = _
        unfold squareF
        rw [hown, Option.filter_some, if_neg (by simpa using hk)]
      have hk' : (x.k != 1) = true := by simpa using hk
      clear hk hown
      go_wp2_with fail
      have hR := hset w1 (.int .i64 0) (.int .i64 0) (.int .i64 0) (.int .i64 0) hA
      refine bodyPost_ret (v := .tuple #[.agg #[.int .i64 0, .int .i64 0, .int .i64 0, .int .i64 0], .int .i64 6]) ?_ rfl ⟨?_, ?_⟩
      · simp [results, Tryz.results80, go_sem, Lib.cell_of_heap hR, hlt]
      · rw [HX.out]; rfl
      · exact ((((hb1'.setCell (p := ⟨w.heap.size, 0, none⟩) (Nat.le_refl _) _).setCell (p := ⟨w.heap.size, 1, none⟩) (Nat.le_refl _) _).setCell (p := ⟨w.heap.size, 2, none⟩) (Nat.le_refl _) _).setCell (p := ⟨w.heap.size, 3, none⟩) (Nat.le_refl _) _).alloc (by simpa [World.setCell] using hb1'.size) _
end Go.Proofs.YtofbcngcblleaabGreat.A

namespace Go.Proofs.YtofbcngcblleaabGreat.A
open Go.RowKit Go.Maps
theorem Tryz.laidOut : laidOutB Tryz.prog = true := by kernel_rfl
theorem Tryz.row112 : (75 : TypeId) < Tryz.prog.types.size := of_decide_eq_true (by kernel_rfl)
set_option maxRecDepth 100000 in
theorem Tryz.wide112 : (match Tryz.prog.underlying 75 with | some (.array _ _) | some (.struct _) => true | _ => false) = true := by rw [Tryz.underlying75]
set_option maxRecDepth 100000 in
theorem thLaw : Keyed Tryz.prog 75 := Keyed.of_law (deep_law_laid Tryz.laidOut (m := 5) (by omega) Tryz.row112 (by kernel_rfl) Tryz.wide112)
theorem Tryz.zero3 (w : World) : (zeroValue 3).run Tryz.prog w = .ok (.int .i64 0) w := by kernel_rfl
structure Ky where
  k : Int
  p0 : Int
  p1 : Int
  p2 : Int
  p3 : Int
  deriving DecidableEq
def Ky.val (q : Ky) : Value := .agg #[.int .i64 q.k, .int .i64 q.p0, .int .i64 q.p1, .int .i64 q.p2, .int .i64 q.p3]
def Fits (x : Int) : Prop := -9223372036854775808 ≤ x ∧ x ≤ 9223372036854775807
structure Ky.Fit (q : Ky) : Prop where
  k : Fits q.k
  p0 : Fits q.p0
  p1 : Fits q.p1
  p2 : Fits q.p2
  p3 : Fits q.p3
theorem wf_of_fits {x : Int} (h : Fits x) : (Lit.int .i64 x).wf = true := by
  have h1 : IntKind.i64.min = -9223372036854775808 := rfl
  have h2 : IntKind.i64.max = 9223372036854775807 := rfl
  unfold Fits at h
  simp only [Lit.wf, Bool.and_eq_true, decide_eq_true_eq]
  omega
def kl (q : Ky) : Lit := .string (keyBytes [.int .i64 q.k, .int .i64 q.p0, .int .i64 q.p1, .int .i64 q.p2, .int .i64 q.p3])
theorem Tryz.keyType112 : Tryz.prog.keyType 75 = true := by kernel_rfl
theorem Tryz.someTypes : ∃ d, Tryz.prog.types.size = d + 2 := ⟨Tryz.prog.types.size - 2, by have : 1 < Tryz.prog.types.size := of_decide_eq_true (by kernel_rfl); omega⟩
theorem Tryz.cells75 : Tryz.prog.cellsOf 75 = 5 := by kernel_rfl
theorem Tryz.cells41 : Tryz.prog.cellsOf 41 = 4 := by kernel_rfl
theorem Tryz.cells3 : Tryz.prog.cellsOf 3 = 1 := by kernel_rfl
theorem keyLits_int {x : Int} (d : Nat) (h : (Lit.int .i64 x).wf = true) : Tryz.prog.keyLits (d + 1) 3 [.int .i64 x] = some [.int .i64 x] := by
  unfold Program.keyLits
  simp only [Tryz.underlying3, h, and_self, if_true]
theorem keyLits_four {a b c e : Int} (d : Nat) (h0 : (Lit.int .i64 a).wf = true) (h1 : (Lit.int .i64 b).wf = true) (h2 : (Lit.int .i64 c).wf = true) (h3 : (Lit.int .i64 e).wf = true) : Tryz.prog.keyLits (d + 1 + 1) 41 [.int .i64 a, .int .i64 b, .int .i64 c, .int .i64 e] = some [.int .i64 a, .int .i64 b, .int .i64 c, .int .i64 e] := by
  unfold Program.keyLits
  simp only [Tryz.underlying41, Tryz.cells41, Tryz.cells3]
  simp [List.range, List.range.loop, keyLits_int d h0, keyLits_int d h1, keyLits_int d h2, keyLits_int d h3]
theorem keyLits_ky {k a b c e : Int} (d : Nat) (h : (Lit.int .i64 k).wf = true) (h0 : (Lit.int .i64 a).wf = true) (h1 : (Lit.int .i64 b).wf = true) (h2 : (Lit.int .i64 c).wf = true) (h3 : (Lit.int .i64 e).wf = true) : Tryz.prog.keyLits (d + 1 + 1 + 1) 75 [.int .i64 k, .int .i64 a, .int .i64 b, .int .i64 c, .int .i64 e] = some [.int .i64 k, .int .i64 a, .int .i64 b, .int .i64 c, .int .i64 e] := by
  unfold Program.keyLits
  simp only [Tryz.underlying75, Tryz.cells75]
  simp [Tryz.cells3, Tryz.cells41, keyLits_int (d + 1) h, keyLits_four d h0 h1 h2 h3]
theorem formed_ky (q : Ky) : q.val.formed Tryz.prog 75 = true := by
  unfold Ky.val Value.formed
  rw [Tryz.underlying75]
  simp only [Tryz.cells75]
  rfl
theorem key_ky {q : Ky} (h : q.Fit) : keyOf Tryz.prog 75 q.val = some (kl q) := by
  have hl : Tryz.prog.keyLits (Tryz.prog.types.size + 1) 75 q.val.cells.toList = some [.int .i64 q.k, .int .i64 q.p0, .int .i64 q.p1, .int .i64 q.p2, .int .i64 q.p3] := by
    obtain ⟨d, hd⟩ := Tryz.someTypes
    rw [hd]
    exact keyLits_ky d (wf_of_fits h.k) (wf_of_fits h.p0) (wf_of_fits h.p1) (wf_of_fits h.p2) (wf_of_fits h.p3)
  unfold keyOf
  rw [Tryz.underlying75]
  simp only [Tryz.keyType112, formed_ky, Bool.and_self, if_true, hl]
  rfl
theorem kl_inj {p q : Ky} (hp : p.Fit) (hq : q.Fit) (h : kl p = kl q) : p = q := by
  have h1 := key_ky hp
  have h2 := key_ky hq
  rw [h] at h1
  have := thLaw.inj h1 h2
  simp only [Ky.val, Value.agg.injEq] at this
  simp at this
  obtain ⟨a, b, c, d, e⟩ := this
  cases p; cases q
  simp_all
theorem kl_key (q : Ky) : WideAt.IsKeyLit (kl q) := trivial
def Th.key (x : Th) : Ky := ⟨x.k, x.p0, x.p1, x.p2, x.p3⟩
def spotF (l : List Th) (q : Ky) : Option Nat := l.findIdx? fun x => decide (x.key = q)
def numF (l : List Th) (q : Ky) : Int := match spotF l q with | some i => (i : Int) + 2 | none => 0
def NumIs (D : DataW Unit) (l : List Th) : Prop := ∀ q : Ky, q.Fit → q.k ≠ 0 → Maps.has D (kl q) = (spotF l q).isSome ∧ D.atKey (kl q) (.lit (.int .i64 0)) = .lit (.int .i64 (numF l q))
theorem NumIs.empty : NumIs (.map []) [] := fun _ _ _ => ⟨rfl, rfl⟩
end Go.Proofs.YtofbcngcblleaabGreat.A
