/- An arena in memory: what holds between calls, and what each store makes of it. -/
import Derived.Test.YtgipjplifndniaaGreatDoorArOwn
import Derived.Maps.OwnSet
namespace Go.Proofs.YtgipjplifndniaaGreatDoor.A
open Go.RowKit

def lack {α : Type} : Option α → Int
  | some _ => 0
  | none => 6
def levelF (l : List Th) (t : Nat) (id : Int) : Option Int := if id = 0 ∨ id = 1 then some 0 else match ownF l t id with | some x => if x.k = 1 then some x.lv else none | none => none

set_option maxHeartbeats 2000000 in
theorem level_any (b B t : Nat) (id : Int) (r : Raw) (l : List Th) (w : World) (h : RawAt w b r) (hl : ThRow w B r.vth l) (ht : t < 64) (hm : ∀ x ∈ l, x.mask < 18446744073709551616) (hid : -9223372036854775808 ≤ id ∧ id ≤ 9223372036854775807) :
    Calls Tryz.prog 46 #[.pointer (some ⟨b, 0, none⟩), .int .i64 t, .int .i64 id] w fun e w' => e = .returned (.tuple #[.int .i64 ((levelF l t id).getD 0), .bool (levelF l t id).isSome]) ∧ Below w.heap.size w w' := by
  have ho := fun W hW hW' => own_any b B t id r l W hW hW' ht hm hid
  by_cases h0 : id = 0
  · subst h0
    go_enter Tryz.func46, Tryz.ntmps46
    go_wp2_with fail
    go_ret2
    exact ⟨rfl, Below.refl _ _⟩
  · by_cases h1 : id = 1
    · subst h1
      go_enter Tryz.func46, Tryz.ntmps46
      go_wp2_with fail
      go_ret2
      exact ⟨rfl, Below.refl _ _⟩
    · have e0 : (id == 0) = false := by simpa using h0
      have e1 : (id == 1) = false := by simpa using h1
      have HL : Hid (levelF l t id = match ownF l t id with | some x => if x.k = 1 then some x.lv else none | none => none) := by
        show _ = _
        unfold levelF
        rw [if_neg (by omega)]
      clear h0 h1
      go_enter Tryz.func46, Tryz.ntmps46
      go_wp2_with fail
      refine (ho _ h hl).mono ?_
      rintro e w1 ⟨rfl, hb1⟩
      cases hown : ownF l t id with
      | none =>
        rw [hown] at HL
        have HX : Hid (levelF l t id = none) := HL.out
        simp only [Option.getD_none, Option.isSome_none, noTh, Th.val]
        clear HL hown ho
        go_wp2_with fail
        go_ret2
        rw [HX.out]
        exact ⟨rfl, hb1.alloc hb1.size _⟩
      | some x =>
        rw [hown] at HL
        simp only [Option.getD_some, Option.isSome_some, Th.val]
        clear hown ho
        by_cases hk : x.k = 1
        · have HX : Hid (levelF l t id = some x.lv) := HL.out.trans (if_pos hk)
          rw [hk]
          clear HL
          go_wp2_with fail
          go_ret2
          rw [HX.out]
          exact ⟨rfl, hb1.alloc hb1.size _⟩
        · have HX : Hid (levelF l t id = none) := HL.out.trans (if_neg hk)
          have hk' : (x.k != 1) = true := by simpa using hk
          clear HL hk
          go_wp2_with fail
          go_ret2
          rw [HX.out]
          exact ⟨rfl, hb1.alloc hb1.size _⟩

set_option maxHeartbeats 2000000 in
theorem Level_any (b B t : Nat) (id : Int) (r : Raw) (l : List Th) (w : World) (h : RawAt w b r) (hl : ThRow w B r.vth l) (ht : t < 64) (hm : ∀ x ∈ l, x.mask < 18446744073709551616) (hid : -9223372036854775808 ≤ id ∧ id ≤ 9223372036854775807) :
    Calls Tryz.prog 108 #[.pointer (some ⟨b, 0, none⟩), .int .i64 t, .int .i64 id] w fun e w' => e = .returned (.tuple #[.int .i64 ((levelF l t id).getD 0), .int .i64 (lack (levelF l t id))]) ∧ Below w.heap.size w w' := by
  have ho := fun W hW hW' => level_any b B t id r l W hW hW' ht hm hid
  have hi := fun W => tenant_yes t ht W
  go_enter Tryz.func108, Tryz.ntmps108
  go_wp2_with fail
  refine (hi _).mono ?_
  rintro e w1 ⟨rfl, rfl⟩
  go_wp2_with fail
  refine (ho _ h hl).mono ?_
  rintro e w1 ⟨rfl, hb1⟩
  cases hown : levelF l t id with
  | none =>
    simp only [Option.getD_none, Option.isSome_none]
    go_wp2_with fail
    go_ret2
    rw [hown]
    exact ⟨rfl, hb1⟩
  | some n =>
    simp only [Option.getD_some, Option.isSome_some]
    go_wp2_with fail
    go_ret2
    rw [hown]
    exact ⟨rfl, hb1⟩
def kidsV (o : Option Th) : Value := match o with | some x => .agg #[.int .i64 x.p0, .int .i64 x.p1, .int .i64 x.p2, .int .i64 x.p3] | none => .agg #[.int .i64 0, .int .i64 0, .int .i64 0, .int .i64 0]
def squareF (l : List Th) (t : Nat) (id : Int) : Option Th := (ownF l t id).filter fun x => x.k == 1

set_option maxHeartbeats 2000000 in
theorem Kids_any (b B t : Nat) (id : Int) (r : Raw) (l : List Th) (w : World) (h : RawAt w b r) (hl : ThRow w B r.vth l) (ht : t < 64) (hm : ∀ x ∈ l, x.mask < 18446744073709551616) (hid : -9223372036854775808 ≤ id ∧ id ≤ 9223372036854775807) :
    Calls Tryz.prog 130 #[.pointer (some ⟨b, 0, none⟩), .int .i64 t, .int .i64 id] w fun e w' => e = .returned (.tuple #[kidsV (squareF l t id), .int .i64 (lack (squareF l t id))]) ∧ Below w.heap.size w w' := by
  have ho := fun W hW hW' => own_any b B t id r l W hW hW' ht hm hid
  have hi := fun W => tenant_yes t ht W
  have hb0 : Below w.heap.size w (w.alloc (.cells #[.int .i64 0, .int .i64 0, .int .i64 0, .int .i64 0] 69)) := (Below.refl _ _).alloc (Nat.le_refl _) _
  go_enter Tryz.func130, Tryz.ntmps130
  go_wp2_with fail
  refine (hi _).mono ?_
  rintro e w1 ⟨rfl, rfl⟩
  go_wp2_with fail
  refine (ho _ (h.go (hb0.block _ h.lt)) (hl.alloc _)).mono ?_
  rintro e w1 ⟨rfl, hb1⟩
  have hb1' := hb0.trans (hb1.mono hb0.size)
  have hA : w1.heap[w.heap.size]? = some (.cells #[.int .i64 0, .int .i64 0, .int .i64 0, .int .i64 0] 69 (0, 0)) := (hb1.block w.heap.size (by simp)).trans (heap_alloc_new w _)
  have hlt : w.heap.size < w1.heap.size := (Array.getElem?_eq_some_iff.1 hA).1
  have k0 : w1.cell? ⟨w.heap.size, 0, none⟩ = some (.int .i64 0) := Lib.cell_of_heap hA 0
  have k1 : w1.cell? ⟨w.heap.size, 1, none⟩ = some (.int .i64 0) := Lib.cell_of_heap hA 1
  have k2 : w1.cell? ⟨w.heap.size, 2, none⟩ = some (.int .i64 0) := Lib.cell_of_heap hA 2
  have k3 : w1.cell? ⟨w.heap.size, 3, none⟩ = some (.int .i64 0) := Lib.cell_of_heap hA 3
  have z0 := Lib.frozen_of_heap hA 0
  have z1 := Lib.frozen_of_heap hA 1
  have z2 := Lib.frozen_of_heap hA 2
  have z3 := Lib.frozen_of_heap hA 3
  have hset : ∀ (W : World) (c0 c1 c2 c3 : Value), W.heap[w.heap.size]? = some (.cells #[.int .i64 0, .int .i64 0, .int .i64 0, .int .i64 0] 69 (0, 0)) → ((((W.setCell ⟨w.heap.size, 0, none⟩ c0).setCell ⟨w.heap.size, 1, none⟩ c1).setCell ⟨w.heap.size, 2, none⟩ c2).setCell ⟨w.heap.size, 3, none⟩ c3).heap[w.heap.size]? = some (.cells #[c0, c1, c2, c3] 69 (0, 0)) := fun W c0 c1 c2 c3 hW =>
    Go.Joins.block_setCell (Go.Joins.block_setCell (Go.Joins.block_setCell (Go.Joins.block_setCell hW c0) c1) c2) c3
  cases hown : ownF l t id with
  | none =>
    have HX : Hid (squareF l t id = none) := by
      show _ = _
      unfold squareF
      rw [hown]; rfl
    simp only [Option.getD_none, Option.isSome_none, noTh, Th.val]
    clear hown ho
    go_wp2_with fail
    have hR := hset w1 (.int .i64 0) (.int .i64 0) (.int .i64 0) (.int .i64 0) hA
    refine bodyPost_ret (v := .tuple #[.agg #[.int .i64 0, .int .i64 0, .int .i64 0, .int .i64 0], .int .i64 6]) ?_ rfl ⟨?_, ?_⟩
    · simp [results, Tryz.results130, go_sem, Lib.cell_of_heap hR, hlt]
    · rw [HX.out]; rfl
    · exact ((((hb1'.setCell (p := ⟨w.heap.size, 0, none⟩) (Nat.le_refl _) _).setCell (p := ⟨w.heap.size, 1, none⟩) (Nat.le_refl _) _).setCell (p := ⟨w.heap.size, 2, none⟩) (Nat.le_refl _) _).setCell (p := ⟨w.heap.size, 3, none⟩) (Nat.le_refl _) _).alloc (by simpa [World.setCell] using hb1'.size) _
  | some x =>
    simp only [Option.getD_some, Option.isSome_some, Th.val]
    clear ho
    by_cases hk : x.k = 1
    · have HX : Hid (squareF l t id = some x) := by
        show _ = _
        unfold squareF
        rw [hown, Option.filter_some, if_pos (by simpa using hk)]
      rw [hk]
      clear hown
      go_wp2_with fail
      have hR := hset w1 (.int .i64 x.p0) (.int .i64 x.p1) (.int .i64 x.p2) (.int .i64 x.p3) hA
      refine bodyPost_ret (v := .tuple #[.agg #[.int .i64 x.p0, .int .i64 x.p1, .int .i64 x.p2, .int .i64 x.p3], .int .i64 0]) ?_ rfl ⟨?_, ?_⟩
      · simp [results, Tryz.results130, go_sem, Lib.cell_of_heap hR, hlt]
      · rw [HX.out]; rfl
      · exact ((((hb1'.setCell (p := ⟨w.heap.size, 0, none⟩) (Nat.le_refl _) _).setCell (p := ⟨w.heap.size, 1, none⟩) (Nat.le_refl _) _).setCell (p := ⟨w.heap.size, 2, none⟩) (Nat.le_refl _) _).setCell (p := ⟨w.heap.size, 3, none⟩) (Nat.le_refl _) _).alloc (by simpa [World.setCell] using hb1'.size) _
    · have HX : Hid (squareF l t id = none) := by
        show _ = _
        unfold squareF
        rw [hown, Option.filter_some, if_neg (by simpa using hk)]
      have hk' : (x.k != 1) = true := by simpa using hk
      clear hk hown
      go_wp2_with fail
      have hR := hset w1 (.int .i64 0) (.int .i64 0) (.int .i64 0) (.int .i64 0) hA
      refine bodyPost_ret (v := .tuple #[.agg #[.int .i64 0, .int .i64 0, .int .i64 0, .int .i64 0], .int .i64 6]) ?_ rfl ⟨?_, ?_⟩
      · simp [results, Tryz.results130, go_sem, Lib.cell_of_heap hR, hlt]
      · rw [HX.out]; rfl
      · exact ((((hb1'.setCell (p := ⟨w.heap.size, 0, none⟩) (Nat.le_refl _) _).setCell (p := ⟨w.heap.size, 1, none⟩) (Nat.le_refl _) _).setCell (p := ⟨w.heap.size, 2, none⟩) (Nat.le_refl _) _).setCell (p := ⟨w.heap.size, 3, none⟩) (Nat.le_refl _) _).alloc (by simpa [World.setCell] using hb1'.size) _
end Go.Proofs.YtgipjplifndniaaGreatDoor.A

namespace Go.Proofs.YtgipjplifndniaaGreatDoor.A
open Go.RowKit Go.Maps

theorem Tryz.laidOut : laidOutB Tryz.prog = true := by kernel_rfl
theorem Tryz.row112 : (97 : TypeId) < Tryz.prog.types.size := of_decide_eq_true (by kernel_rfl)
set_option maxRecDepth 100000 in
theorem Tryz.wide112 : (match Tryz.prog.underlying 97 with | some (.array _ _) | some (.struct _) => true | _ => false) = true := by rw [Tryz.underlying97]
set_option maxRecDepth 100000 in
theorem thLaw : Keyed Tryz.prog 97 := Keyed.of_law (deep_law_laid Tryz.laidOut (m := 5) (by omega) Tryz.row112 (by kernel_rfl) Tryz.wide112)
theorem Tryz.zero3 (w : World) : (zeroValue 3).run Tryz.prog w = .ok (.int .i64 0) w := by kernel_rfl

structure Ky where
  k : Int
  p0 : Int
  p1 : Int
  p2 : Int
  p3 : Int
  deriving DecidableEq
def Ky.val (q : Ky) : Value := .agg #[.int .i64 q.k, .int .i64 q.p0, .int .i64 q.p1, .int .i64 q.p2, .int .i64 q.p3]
def Fits (x : Int) : Prop := -9223372036854775808 ≤ x ∧ x ≤ 9223372036854775807
structure Ky.Fit (q : Ky) : Prop where
  k : Fits q.k
  p0 : Fits q.p0
  p1 : Fits q.p1
  p2 : Fits q.p2
  p3 : Fits q.p3
theorem wf_of_fits {x : Int} (h : Fits x) : (Lit.int .i64 x).wf = true := by
  have h1 : IntKind.i64.min = -9223372036854775808 := rfl
  have h2 : IntKind.i64.max = 9223372036854775807 := rfl
  unfold Fits at h
  simp only [Lit.wf, Bool.and_eq_true, decide_eq_true_eq]
  omega
def kl (q : Ky) : Lit := .string (keyBytes [.int .i64 q.k, .int .i64 q.p0, .int .i64 q.p1, .int .i64 q.p2, .int .i64 q.p3])

theorem Tryz.keyType112 : Tryz.prog.keyType 97 = true := by kernel_rfl
theorem Tryz.someTypes : ∃ d, Tryz.prog.types.size = d + 2 := ⟨Tryz.prog.types.size - 2, by have : 1 < Tryz.prog.types.size := of_decide_eq_true (by kernel_rfl); omega⟩
theorem Tryz.cells97 : Tryz.prog.cellsOf 97 = 5 := by kernel_rfl
theorem Tryz.cells69 : Tryz.prog.cellsOf 69 = 4 := by kernel_rfl
theorem Tryz.cells3 : Tryz.prog.cellsOf 3 = 1 := by kernel_rfl
theorem keyLits_int {x : Int} (d : Nat) (h : (Lit.int .i64 x).wf = true) : Tryz.prog.keyLits (d + 1) 3 [.int .i64 x] = some [.int .i64 x] := by
  unfold Program.keyLits
  simp only [Tryz.underlying3, h, and_self, if_true]
theorem keyLits_four {a b c e : Int} (d : Nat) (h0 : (Lit.int .i64 a).wf = true) (h1 : (Lit.int .i64 b).wf = true) (h2 : (Lit.int .i64 c).wf = true) (h3 : (Lit.int .i64 e).wf = true) : Tryz.prog.keyLits (d + 1 + 1) 69 [.int .i64 a, .int .i64 b, .int .i64 c, .int .i64 e] = some [.int .i64 a, .int .i64 b, .int .i64 c, .int .i64 e] := by
  unfold Program.keyLits
  simp only [Tryz.underlying69, Tryz.cells69, Tryz.cells3]
  simp [List.range, List.range.loop, keyLits_int d h0, keyLits_int d h1, keyLits_int d h2, keyLits_int d h3]
theorem keyLits_ky {k a b c e : Int} (d : Nat) (h : (Lit.int .i64 k).wf = true) (h0 : (Lit.int .i64 a).wf = true) (h1 : (Lit.int .i64 b).wf = true) (h2 : (Lit.int .i64 c).wf = true) (h3 : (Lit.int .i64 e).wf = true) : Tryz.prog.keyLits (d + 1 + 1 + 1) 97 [.int .i64 k, .int .i64 a, .int .i64 b, .int .i64 c, .int .i64 e] = some [.int .i64 k, .int .i64 a, .int .i64 b, .int .i64 c, .int .i64 e] := by
  unfold Program.keyLits
  simp only [Tryz.underlying97, Tryz.cells97]
  simp [Tryz.cells3, Tryz.cells69, keyLits_int (d + 1) h, keyLits_four d h0 h1 h2 h3]
theorem formed_ky (q : Ky) : q.val.formed Tryz.prog 97 = true := by
  unfold Ky.val Value.formed
  rw [Tryz.underlying97]
  simp only [Tryz.cells97]
  rfl
theorem key_ky {q : Ky} (h : q.Fit) : keyOf Tryz.prog 97 q.val = some (kl q) := by
  have hl : Tryz.prog.keyLits (Tryz.prog.types.size + 1) 97 q.val.cells.toList = some [.int .i64 q.k, .int .i64 q.p0, .int .i64 q.p1, .int .i64 q.p2, .int .i64 q.p3] := by
    obtain ⟨d, hd⟩ := Tryz.someTypes
    rw [hd]
    exact keyLits_ky d (wf_of_fits h.k) (wf_of_fits h.p0) (wf_of_fits h.p1) (wf_of_fits h.p2) (wf_of_fits h.p3)
  unfold keyOf
  rw [Tryz.underlying97]
  simp only [Tryz.keyType112, formed_ky, Bool.and_self, if_true, hl]
  rfl
theorem kl_inj {p q : Ky} (hp : p.Fit) (hq : q.Fit) (h : kl p = kl q) : p = q := by
  have h1 := key_ky hp
  have h2 := key_ky hq
  rw [h] at h1
  have := thLaw.inj h1 h2
  simp only [Ky.val, Value.agg.injEq] at this
  simp at this
  obtain ⟨a, b, c, d, e⟩ := this
  cases p; cases q
  simp_all
theorem kl_key (q : Ky) : WideAt.IsKeyLit (kl q) := trivial

def Th.key (x : Th) : Ky := ⟨x.k, x.p0, x.p1, x.p2, x.p3⟩
def spotF (l : List Th) (q : Ky) : Option Nat := l.findIdx? fun x => decide (x.key = q)
def numF (l : List Th) (q : Ky) : Int := match spotF l q with | some i => (i : Int) + 2 | none => 0
def NumIs (D : DataW Unit) (l : List Th) : Prop := ∀ q : Ky, q.Fit → q.k ≠ 0 → Maps.has D (kl q) = (spotF l q).isSome ∧ D.atKey (kl q) (.lit (.int .i64 0)) = .lit (.int .i64 (numF l q))
theorem NumIs.empty : NumIs (.map []) [] := fun _ _ _ => ⟨rfl, rfl⟩
end Go.Proofs.YtgipjplifndniaaGreatDoor.A

namespace Go.Proofs.YtgipjplifndniaaGreatDoor.A
open Go.RowKit Go.Maps

structure Ar where
  room : Int
  ths : List Th
  free : List Int
  lim : Nat → Int
  cnt : Nat → Int
  fresh : Nat → List Int

def IntRow (w : World) (v : Value) (l : List Int) : Prop := w.ownsRow 0 3 1 v l.length (l.map (Value.int .i64))
theorem IntRow.nil (w : World) : IntRow w (.slice none 0 0) [] := World.ownsRow_nil w 0 3 1
theorem IntRow.shape {w : World} {v : Value} {l : List Int} (h : IntRow w v l) : ∃ a c, v = .slice a l.length c := by
  rcases h.2 with ⟨h1, h2⟩ | ⟨g, cap, cur, h1, _⟩
  · exact ⟨none, 0, by rw [h1, h2]⟩
  · exact ⟨_, _, h1⟩
theorem row_kind {w : World} {B e s n k : Nat} {v : Value} {xs : List Value} (h : w.ownsRow B e s v n xs) (hk : v.ownBlock = some k) : ∃ c, w.heap[k]? = some (.cells c e (0, 0)) := by
  rcases h.2 with ⟨rfl, _⟩ | ⟨g, cap, cur, rfl, _, hg, _⟩
  · simp [Value.ownBlock] at hk
  · simp [Value.ownBlock] at hk
    subst hk
    exact ⟨cur, hg⟩
theorem row_other {w w' : World} {B e s n : Nat} {v : Value} {xs : List Value} (h : w.ownsRow B e s v n xs) (hb : ∀ k, v.ownBlock = some k → w'.heap[k]? = w.heap[k]?) : w'.ownsRow B e s v n xs := by
  obtain ⟨hl, h⟩ := h
  refine ⟨hl, ?_⟩
  rcases h with h | ⟨g, cap, cur, rfl, hB, hg, h⟩
  · exact Or.inl h
  · exact Or.inr ⟨g, cap, cur, rfl, hB, (hb g rfl).trans hg, h⟩
theorem map_other {w w' : World} {b n : Nat} {D : DataW Unit} (h : w.ownsMap Tryz.prog 97 (plainElem Tryz.prog 3) b n D) (hb : w'.heap[b]? = w.heap[b]?) : w'.ownsMap Tryz.prog 97 (plainElem Tryz.prog 3) b n D := by
  obtain ⟨es, clock, h1, h2⟩ := h
  exact ⟨es, clock, hb.trans h1, h2⟩

structure ArRaw (w : World) (b : Nat) (F : Nat → Prop) (n : Nat) (A : Ar) (r : Raw) (D : DataW Unit) : Prop where
  raw : RawAt w b r
  room : r.room = A.room
  ths : ThRow w 0 r.vth A.ths
  map : w.ownsMap Tryz.prog 97 (plainElem Tryz.prog 3) r.mp n D
  num : NumIs D A.ths
  free : IntRow w r.vfr A.free
  lim : ∀ t, t < 64 → (r.tn t).lim = A.lim t
  cnt : ∀ t, t < 64 → (r.tn t).cnt = A.cnt t
  fresh : ∀ t, t < 64 → IntRow w (r.tn t).fr (A.fresh t)
  apf : ∀ t, t < 64 → ∀ k, (r.tn t).fr.ownBlock = some k → r.vfr.ownBlock ≠ some k
  apt : ∀ t u, t < 64 → u < 64 → t ≠ u → ∀ k, (r.tn t).fr.ownBlock = some k → (r.tn u).fr.ownBlock ≠ some k
  fb : F b
  fm : F r.mp
  fv : ∀ k, r.vth.ownBlock = some k → F k
  ff : ∀ k, r.vfr.ownBlock = some k → F k
  ft : ∀ t, t < 64 → ∀ k, (r.tn t).fr.ownBlock = some k → F k
  flt : ∀ k, F k → k < w.heap.size

section
variable {w w' : World} {b n : Nat} {F F' : Nat → Prop} {A : Ar} {r : Raw} {D : DataW Unit}

theorem ArRaw.other (h : ArRaw w b F n A r D) (hs : w.heap.size ≤ w'.heap.size) (hb : ∀ k, F k → w'.heap[k]? = w.heap[k]?) : ArRaw w' b F n A r D :=
  ⟨h.raw.go (hb b h.fb), h.room, row_other h.ths fun k hk => hb k (h.fv k hk), map_other h.map (hb _ h.fm), h.num, row_other h.free fun k hk => hb k (h.ff k hk), h.lim, h.cnt,
    fun t ht => row_other (h.fresh t ht) fun k hk => hb k (h.ft t ht k hk), h.apf, h.apt, h.fb, h.fm, h.fv, h.ff, h.ft, fun k hk => Nat.lt_of_lt_of_le (h.flt k hk) hs⟩
theorem ArRaw.below (h : ArRaw w b F n A r D) (hb : Below w.heap.size w w') : ArRaw w' b F n A r D := h.other hb.size fun k hk => hb.block k (h.flt k hk)
theorem ArRaw.drewN (h : ArRaw w b F n A r D) (q : Nat) : ArRaw (w.drewN q) b F n A r D := h.other (Nat.le_refl _) fun _ _ => rfl
theorem ArRaw.drew (h : ArRaw w b F n A r D) : ArRaw w.drew b F n A r D := h.other (Nat.le_refl _) fun _ _ => rfl
theorem ArRaw.wider (h : ArRaw w b F n A r D) (hF : ∀ k, F k → F' k) (hl : ∀ k, F' k → k < w.heap.size) : ArRaw w b F' n A r D :=
  ⟨h.raw, h.room, h.ths, h.map, h.num, h.free, h.lim, h.cnt, h.fresh, h.apf, h.apt, hF _ h.fb, hF _ h.fm, fun k hk => hF k (h.fv k hk), fun k hk => hF k (h.ff k hk), fun t ht k hk => hF k (h.ft t ht k hk), hl⟩

/-! ### no two of its blocks are one -/
theorem ArRaw.kb (h : ArRaw w b F n A r D) : ∃ c, w.heap[b]? = some (.cells c 79 (0, 0)) := by
  obtain ⟨C, h1, _⟩ := h.raw
  exact ⟨C, h1⟩
theorem ArRaw.km (h : ArRaw w b F n A r D) : ∃ es c, w.heap[r.mp]? = some (.map es c) := by
  obtain ⟨es, c, h1, _⟩ := h.map
  exact ⟨es, c, h1⟩
theorem ArRaw.vb (h : ArRaw w b F n A r D) : r.vth.ownBlock ≠ some b := fun e => by
  obtain ⟨c, h1⟩ := h.kb
  obtain ⟨c', h2⟩ := row_kind h.ths e
  rw [h1] at h2; simp at h2
theorem ArRaw.vm (h : ArRaw w b F n A r D) : r.vth.ownBlock ≠ some r.mp := fun e => by
  obtain ⟨es, c, h1⟩ := h.km
  obtain ⟨c', h2⟩ := row_kind h.ths e
  rw [h1] at h2; simp at h2
theorem ArRaw.vf (h : ArRaw w b F n A r D) {k : Nat} (hk : r.vth.ownBlock = some k) : r.vfr.ownBlock ≠ some k := fun e => by
  obtain ⟨c, h1⟩ := row_kind h.free e
  obtain ⟨c', h2⟩ := row_kind h.ths hk
  rw [h1] at h2; simp at h2
theorem ArRaw.vt (h : ArRaw w b F n A r D) {k t : Nat} (ht : t < 64) (hk : r.vth.ownBlock = some k) : (r.tn t).fr.ownBlock ≠ some k := fun e => by
  obtain ⟨c, h1⟩ := row_kind (h.fresh t ht) e
  obtain ⟨c', h2⟩ := row_kind h.ths hk
  rw [h1] at h2; simp at h2
theorem ArRaw.mb (h : ArRaw w b F n A r D) : r.mp ≠ b := fun e => by
  obtain ⟨c, h1⟩ := h.kb
  obtain ⟨es, c', h2⟩ := h.km
  rw [e, h1] at h2; simp at h2
theorem ArRaw.fb' (h : ArRaw w b F n A r D) : r.vfr.ownBlock ≠ some b := fun e => by
  obtain ⟨c, h1⟩ := h.kb
  obtain ⟨c', h2⟩ := row_kind h.free e
  rw [h1] at h2; simp at h2
theorem ArRaw.fm' (h : ArRaw w b F n A r D) : r.vfr.ownBlock ≠ some r.mp := fun e => by
  obtain ⟨es, c, h1⟩ := h.km
  obtain ⟨c', h2⟩ := row_kind h.free e
  rw [h1] at h2; simp at h2
theorem ArRaw.tb (h : ArRaw w b F n A r D) {t : Nat} (ht : t < 64) : (r.tn t).fr.ownBlock ≠ some b := fun e => by
  obtain ⟨c, h1⟩ := h.kb
  obtain ⟨c', h2⟩ := row_kind (h.fresh t ht) e
  rw [h1] at h2; simp at h2
theorem ArRaw.tm (h : ArRaw w b F n A r D) {t : Nat} (ht : t < 64) : (r.tn t).fr.ownBlock ≠ some r.mp := fun e => by
  obtain ⟨es, c, h1⟩ := h.km
  obtain ⟨c', h2⟩ := row_kind (h.fresh t ht) e
  rw [h1] at h2; simp at h2

/-! ### what a store makes of it -/
theorem heap_set {W : World} {g k i : Nat} {v : Value} (h : k ≠ g) : (W.setCell ⟨g, i, none⟩ v).heap[k]? = W.heap[k]? := heap_setCell_other W ⟨g, i, none⟩ k v h
theorem size_set {W : World} {a : Addr} {v : Value} : (W.setCell a v).heap.size = W.heap.size := by simp [World.setCell]

theorem thsL_set : ∀ (l : List Th) (i : Nat) (x : Th) (m : Nat), l[i]? = some x → thsL (l.set i { x with mask := m }) = (thsL l).set (i * 8 + 7) (.int .u64 m)
  | [], i, x, m, h => by simp at h
  | y :: l, 0, x, m, h => by
    simp at h; subst h
    simp [thsL, Th.cells]
  | y :: l, i + 1, x, m, h => by
    have h' : l[i]? = some x := by simpa using h
    have ih := thsL_set l i x m h'
    have e : ∀ z : List Th, thsL (y :: z) = y.cells ++ thsL z := fun z => by simp [thsL]
    rw [List.set_cons_succ, e, e, ih, List.set_append_right _ _ (by simp [Th.cells]; omega)]
    congr 2
    simp [Th.cells]; omega
theorem spot_set (l : List Th) (i : Nat) (x : Th) (m : Nat) (q : Ky) (h : l[i]? = some x) : spotF (l.set i { x with mask := m }) q = spotF l q := by
  unfold spotF
  induction l generalizing i with
  | nil => simp at h
  | cons y l ih =>
    cases i with
    | zero =>
      simp at h; subst h
      rw [List.set_cons_zero, List.findIdx?_cons, List.findIdx?_cons]
      rfl
    | succ i =>
      rw [List.set_cons_succ, List.findIdx?_cons, List.findIdx?_cons, ih i (by simpa using h)]
theorem NumIs.set {l : List Th} (h : NumIs D l) {i : Nat} {x : Th} (m : Nat) (hi : l[i]? = some x) : NumIs D (l.set i { x with mask := m }) := fun q hq hk => by
  have := h q hq hk
  unfold numF at *
  rw [spot_set l i x m q hi]
  exact this

theorem ArRaw.setMask (h : ArRaw w b F n A r D) {g c i : Nat} {x : Th} (hv : r.vth = .slice (some ⟨g, 0, none⟩) A.ths.length c) (hi : A.ths[i]? = some x) (m : Nat) :
    ArRaw (w.setCell ⟨g, i * 8 + 7, none⟩ (.int .u64 m)) b F n { A with ths := A.ths.set i { x with mask := m } } r D := by
  have hg : r.vth.ownBlock = some g := by rw [hv]; rfl
  have hgb : b ≠ g := fun e => h.vb (by rw [hg, e])
  have hgm : r.mp ≠ g := fun e => h.vm (by rw [hg, e])
  refine ⟨h.raw.go (heap_set hgb), h.room, ?_, map_other h.map (heap_set hgm), h.num.set m hi, row_other h.free fun k hk => heap_set fun e => h.vf hg (by rw [hk, e]), h.lim, h.cnt,
    fun t ht => row_other (h.fresh t ht) fun k hk => heap_set fun e => h.vt ht hg (by rw [hk, e]), h.apf, h.apt, h.fb, h.fm, h.fv, h.ff, h.ft, fun k hk => by rw [size_set]; exact h.flt k hk⟩
  have ht := h.ths
  rw [hv] at ht ⊢
  have := World.ownsRow.stored ht (i * 8 + 7) (.int .u64 m)
  unfold ThRow
  rw [thsL_set _ _ _ _ hi, List.length_set]
  exact this.1

theorem ArRaw.inBlock (h : ArRaw w b F n A r D) {i : Nat} {v : Value} {r' : Raw} {A' : Ar} (hraw : RawAt (w.setCell ⟨b, i, none⟩ v) b r') (e1 : r'.room = A'.room) (e2 : r'.vth = r.vth) (e3 : r'.mp = r.mp) (e4 : r'.vfr = r.vfr) (e5 : A'.ths = A.ths) (e6 : A'.free = A.free)
    (e7 : ∀ t, t < 64 → (r'.tn t).lim = A'.lim t) (e8 : ∀ t, t < 64 → (r'.tn t).cnt = A'.cnt t) (e9 : ∀ t, t < 64 → (r'.tn t).fr = (r.tn t).fr) (e10 : ∀ t, t < 64 → A'.fresh t = A.fresh t) : ArRaw (w.setCell ⟨b, i, none⟩ v) b F n A' r' D := by
  refine ⟨hraw, e1, ?_, ?_, by rw [e5]; exact h.num, ?_, e7, e8, fun t ht => ?_, fun t ht k hk => ?_, fun t u ht hu htu k hk => ?_, h.fb, by rw [e3]; exact h.fm, fun k hk => h.fv k (by rw [← e2]; exact hk), fun k hk => h.ff k (by rw [← e4]; exact hk), fun t ht k hk => h.ft t ht k (by rw [← e9 t ht]; exact hk), fun k hk => by rw [size_set]; exact h.flt k hk⟩
  · rw [e2, e5]; exact row_other h.ths fun k hk => heap_set fun e => h.vb (by rw [hk, e])
  · rw [e3]; exact map_other h.map (heap_set h.mb)
  · rw [e4, e6]; exact row_other h.free fun k hk => heap_set fun e => h.fb' (by rw [hk, e])
  · rw [e9 t ht, e10 t ht]; exact row_other (h.fresh t ht) fun k hk => heap_set fun e => h.tb ht (by rw [hk, e])
  · rw [e4]; rw [e9 t ht] at hk; exact h.apf t ht k hk
  · rw [e9 t ht] at hk; rw [e9 u hu]; exact h.apt t u ht hu htu k hk

def upd {α : Type} (f : Nat → α) (t : Nat) (x : α) : Nat → α := fun u => if u = t then x else f u
theorem upd_same {α : Type} (f : Nat → α) (t : Nat) (x : α) : upd f t x t = x := if_pos rfl
theorem upd_other {α : Type} (f : Nat → α) {t u : Nat} (x : α) (h : u ≠ t) : upd f t x u = f u := if_neg h

theorem turn_same (r : Raw) (t : Nat) (x : Tn) : (r.turn t x).tn t = x := if_pos rfl
theorem turn_other (r : Raw) {t u : Nat} (x : Tn) (h : u ≠ t) : (r.turn t x).tn u = r.tn u := if_neg h

theorem ArRaw.setLim (h : ArRaw w b F n A r D) {t : Nat} (_ht : t < 64) (z : Int) : ArRaw (w.setCell ⟨b, 4 + t * 3, none⟩ (.int .i64 z)) b F n { A with lim := upd A.lim t z } (r.turn t { r.tn t with lim := z }) D :=
  h.inBlock (h.raw.setLim t z) h.room rfl rfl rfl rfl rfl
    (fun u hu => by by_cases e : u = t
                    · subst e; rw [turn_same]; exact (upd_same A.lim u z).symm
                    · rw [turn_other _ _ e]; exact (h.lim u hu).trans (upd_other A.lim z e).symm)
    (fun u hu => by by_cases e : u = t
                    · subst e; rw [turn_same]; exact h.cnt u hu
                    · rw [turn_other _ _ e]; exact h.cnt u hu)
    (fun u _ => by by_cases e : u = t
                   · subst e; rw [turn_same]
                   · rw [turn_other _ _ e]) (fun _ _ => rfl)
theorem ArRaw.setCnt (h : ArRaw w b F n A r D) {t : Nat} (_ht : t < 64) (z : Int) : ArRaw (w.setCell ⟨b, 4 + t * 3 + 1, none⟩ (.int .i64 z)) b F n { A with cnt := upd A.cnt t z } (r.turn t { r.tn t with cnt := z }) D :=
  h.inBlock (h.raw.setCnt t z) h.room rfl rfl rfl rfl rfl
    (fun u hu => by by_cases e : u = t
                    · subst e; rw [turn_same]; exact h.lim u hu
                    · rw [turn_other _ _ e]; exact h.lim u hu)
    (fun u hu => by by_cases e : u = t
                    · subst e; rw [turn_same]; exact (upd_same A.cnt u z).symm
                    · rw [turn_other _ _ e]; exact (h.cnt u hu).trans (upd_other A.cnt z e).symm)
    (fun u _ => by by_cases e : u = t
                   · subst e; rw [turn_same]
                   · rw [turn_other _ _ e]) (fun _ _ => rfl)

theorem ArRaw.setFresh (h : ArRaw w b F n A r D) {t : Nat} (_ht : t < 64) {w1 : World} {v : Value} {l : List Int} (hrow : IntRow w1 v l) (hb1 : ∀ k, F k → (r.tn t).fr.ownBlock ≠ some k → w1.heap[k]? = w.heap[k]?) (_hs : w.heap.size ≤ w1.heap.size)
    (hv : ∀ k, v.ownBlock = some k → (r.tn t).fr.ownBlock = some k ∨ w.heap.size ≤ k) (hF : ∀ k, F k → F' k) (hF' : ∀ k, v.ownBlock = some k → F' k) (hl : ∀ k, F' k → k < w1.heap.size) :
    ArRaw (w1.setCell ⟨b, 4 + t * 3 + 2, none⟩ v) b F' n { A with fresh := upd A.fresh t l } (r.turn t { r.tn t with fr := v }) D := by
  have hbb : w1.heap[b]? = w.heap[b]? := hb1 b h.fb (h.tb _ht)
  have hbv : v.ownBlock ≠ some b := fun e => by
    rcases hv b e with h1 | h1
    · exact h.tb _ht h1
    · have := h.flt b h.fb; omega
  refine ⟨(h.raw.go hbb).setFr t v, h.room, ?_, ?_, h.num, ?_, fun u hu => ?_, fun u hu => ?_, fun u hu => ?_, fun u hu k hk => ?_, fun u u' hu hu' huu k hk => ?_, hF _ h.fb, hF _ h.fm, fun k hk => hF k (h.fv k hk), fun k hk => hF k (h.ff k hk), fun u hu k hk => ?_, fun k hk => by rw [size_set]; exact hl k hk⟩
  · exact row_other (w := w) h.ths fun k hk => (heap_set fun e => h.vb (by rw [← e]; exact hk)).trans (hb1 k (h.fv k hk) (h.vt _ht hk))
  · exact map_other (w := w) h.map ((heap_set h.mb).trans (hb1 _ h.fm (h.tm _ht)))
  · exact row_other (w := w) h.free fun k hk => (heap_set fun e => h.fb' (by rw [← e]; exact hk)).trans (hb1 k (h.ff k hk) (fun e => h.apf t _ht k e hk))
  · by_cases e : u = t
    · subst e; rw [turn_same]; exact h.lim u hu
    · rw [turn_other _ _ e]; exact h.lim u hu
  · by_cases e : u = t
    · subst e; rw [turn_same]; exact h.cnt u hu
    · rw [turn_other _ _ e]; exact h.cnt u hu
  · by_cases e : u = t
    · subst e
      rw [turn_same]
      show IntRow _ v (upd A.fresh u l u)
      rw [upd_same]
      exact row_other (w := w1) hrow fun k hk => heap_set fun e => hbv (by rw [hk, e])
    · rw [turn_other _ _ e]
      show IntRow _ _ (upd A.fresh t l u)
      rw [upd_other _ _ e]
      exact row_other (w := w) (h.fresh u hu) fun k hk => (heap_set fun e' => h.tb hu (by rw [hk, e'])).trans (hb1 k (h.ft u hu k hk) (fun e' => h.apt u t hu _ht e k hk e'))
  · by_cases e : u = t
    · subst e
      rw [turn_same] at hk
      rcases hv k hk with h1 | h1
      · exact h.apf u hu k h1
      · exact fun e' => by have := h.flt k (h.ff k e'); omega
    · rw [turn_other _ _ e] at hk
      exact h.apf u hu k hk
  · by_cases e : u = t
    · subst e
      rw [turn_same] at hk
      rw [turn_other _ _ (fun e' => huu e'.symm)]
      rcases hv k hk with h1 | h1
      · exact h.apt u u' hu hu' huu k h1
      · exact fun e' => by have := h.flt k (h.ft u' hu' k e'); omega
    · rw [turn_other _ _ e] at hk
      by_cases e2 : u' = t
      · subst e2
        rw [turn_same]
        intro e'
        rcases hv k e' with h1 | h1
        · exact h.apt u u' hu hu' huu k hk h1
        · have := h.flt k (h.ft u hu k hk); omega
      · rw [turn_other _ _ e2]
        exact h.apt u u' hu hu' huu k hk
  · by_cases e : u = t
    · subst e
      rw [turn_same] at hk
      exact hF' k hk
    · rw [turn_other _ _ e] at hk
      exact hF k (h.ft u hu k hk)
end

structure Apart (F : Nat → Prop) (w w' : World) : Prop where
  os : w'.os = w.os
  tape : w'.tape = w.tape
  output : w'.output = w.output
  size : w.heap.size ≤ w'.heap.size
  block : ∀ k, k < w.heap.size → ¬ F k → w'.heap[k]? = w.heap[k]?
def More (F : Nat → Prop) (w w' : World) : Nat → Prop := fun k => F k ∨ w.heap.size ≤ k ∧ k < w'.heap.size
theorem Apart.refl (F : Nat → Prop) (w : World) : Apart F w w := ⟨rfl, rfl, rfl, Nat.le_refl _, fun _ _ _ => rfl⟩
theorem Apart.of {F : Nat → Prop} {w w' : World} (h : Below w.heap.size w w') : Apart F w w' := ⟨h.os, h.tape, h.output, h.size, fun k hk _ => h.block k hk⟩
theorem Apart.trans {F F' : Nat → Prop} {w w1 w2 : World} (h : Apart F w w1) (k : Apart F' w1 w2) (hF : ∀ k, F' k → More F w w1 k) : Apart F w w2 :=
  ⟨k.os.trans h.os, k.tape.trans h.tape, k.output.trans h.output, Nat.le_trans h.size k.size, fun j hj hn => (k.block j (Nat.lt_of_lt_of_le hj h.size) fun e => by
    rcases hF j e with h1 | h1
    · exact hn h1
    · omega).trans (h.block j hj hn)⟩
theorem Apart.set {F : Nat → Prop} (w : World) {g i : Nat} (v : Value) (h : F g) : Apart F w (w.setCell ⟨g, i, none⟩ v) :=
  ⟨rfl, rfl, rfl, by rw [size_set]; exact Nat.le_refl _, fun k _ hk => heap_set fun e => hk (by rw [e]; exact h)⟩
theorem Apart.drewN {F : Nat → Prop} {w w' : World} (h : Apart F w w') (q : Nat) : Apart F w (w'.drewN q) := ⟨h.os, h.tape, h.output, h.size, h.block⟩
theorem Apart.drew {F : Nat → Prop} {w w' : World} (h : Apart F w w') : Apart F w w'.drew := ⟨h.os, h.tape, h.output, h.size, h.block⟩
theorem Apart.grown {F : Nat → Prop} {w w' : World} {row : Option Nat} (h : w.grownBy w' row) (hr : ∀ k, row = some k → F k) : Apart F w w' := ⟨h.os, h.tape, h.output, h.size, fun k hk hn => h.block k hk fun e => hn (hr k e.symm)⟩
end Go.Proofs.YtgipjplifndniaaGreatDoor.A
