/- What lives next, in plain words. -/
import Derived.Test.YtofbcngcblleaaaGreatBoxLaw
import Derived.Test.YtofbcngcblleaaaGreatLpOne
import Derived.Test.YtofbcngcblleaaaGreatLpQtM
import Derived.Maps.OwnSet
import Derived.Maps.RangeWalk
import Derived.Test.YtofbcngcblleaaaGreatLpGood
import Derived.BigRegion
import Derived.Test.YtofbcngcblleaaaGreatQuCount
namespace Go.Proofs.YtofbcngcblleaaaGreat.F
open Go.RowKit Go.Maps Go.Proofs.YtofbcngcblleaaaGreat.L Go.Proofs.YtofbcngcblleaaaGreat.A
theorem Tryz.row52 : (52 : TypeId) < Tryz.prog.types.size := of_decide_eq_true (by kernel_rfl)
set_option maxRecDepth 100000 in
theorem Tryz.wide52 : (match Tryz.prog.underlying 52 with | some (.array _ _) | some (.struct _) => true | _ => false) = true := by rw [Tryz.underlying52]
set_option maxRecDepth 100000 in
theorem law : Keyed Tryz.prog 52 := Keyed.of_law (deep_law_laid Tryz.laidOut (m := 2) (by omega) Tryz.row52 (by kernel_rfl) Tryz.wide52)
theorem Tryz.zero3 (w : World) : (zeroValue 3).run Tryz.prog w = .ok (.int .i64 0) w := by kernel_rfl
def cellV (p : Int × Int) : Value := .agg #[.int .i64 p.1, .int .i64 p.2]
def FitsP (p : Int × Int) : Prop := Fits p.1 ∧ Fits p.2
theorem wf_of_fits {x : Int} (h : Fits x) : (Lit.int .i64 x).wf = true := by
  have h1 : IntKind.i64.min = -9223372036854775808 := rfl
  have h2 : IntKind.i64.max = 9223372036854775807 := rfl
  unfold Fits at h
  simp only [Lit.wf, Bool.and_eq_true, decide_eq_true_eq]
  omega
def cl (p : Int × Int) : Lit := .string (keyBytes [.int .i64 p.1, .int .i64 p.2])
theorem Tryz.keyType52 : Tryz.prog.keyType 52 = true := by kernel_rfl
theorem Tryz.someTypes : ∃ d, Tryz.prog.types.size = d + 1 := ⟨Tryz.prog.types.size - 1, by have : 0 < Tryz.prog.types.size := of_decide_eq_true (by kernel_rfl); omega⟩
theorem Tryz.cells52k : Tryz.prog.cellsOf 52 = 2 := by kernel_rfl
theorem keyLits_int {x : Int} (d : Nat) (h : (Lit.int .i64 x).wf = true) : Tryz.prog.keyLits (d + 1) 3 [.int .i64 x] = some [.int .i64 x] := by
  unfold Program.keyLits
  simp only [Tryz.underlying3, h, and_self, if_true]
theorem keyLits_cell {x y : Int} (d : Nat) (h0 : (Lit.int .i64 x).wf = true) (h1 : (Lit.int .i64 y).wf = true) : Tryz.prog.keyLits (d + 1 + 1) 52 [.int .i64 x, .int .i64 y] = some [.int .i64 x, .int .i64 y] := by
  unfold Program.keyLits
  simp only [Tryz.underlying52, Tryz.cells52k]
  simp [Tryz.cells3, keyLits_int d h0, keyLits_int d h1]
theorem formed_cell (p : Int × Int) : (cellV p).formed Tryz.prog 52 = true := by
  unfold cellV Value.formed
  rw [Tryz.underlying52]
  simp only [Tryz.cells52k]
  rfl
theorem key_cell {p : Int × Int} (h : FitsP p) : keyOf Tryz.prog 52 (cellV p) = some (cl p) := by
  have w0 := wf_of_fits h.1
  have w1 := wf_of_fits h.2
  have hl : Tryz.prog.keyLits (Tryz.prog.types.size + 1) 52 (cellV p).cells.toList = some [.int .i64 p.1, .int .i64 p.2] := by
    obtain ⟨d, hd⟩ := Tryz.someTypes
    rw [hd]
    exact keyLits_cell d w0 w1
  unfold keyOf
  rw [Tryz.underlying52]
  simp only [Tryz.keyType52, formed_cell, Bool.and_self, if_true, hl]
  rfl
theorem cl_inj {p q : Int × Int} (hp : FitsP p) (hq : FitsP q) (h : cl p = cl q) : p = q := by
  have h1 := key_cell hp
  have h2 := key_cell hq
  rw [h] at h1
  have := law.inj h1 h2
  simp only [cellV, Value.agg.injEq] at this
  simp at this
  exact Prod.ext this.1 this.2
theorem cl_key (p : Int × Int) : WideAt.IsKeyLit (cl p) := trivial
def total : List ((Int × Int) × Int) → Int × Int → Int
  | [], _ => 0
  | (q, d) :: r, p => (if q = p then d else 0) + total r p
theorem total_append : ∀ (a b : List ((Int × Int) × Int)) (p : Int × Int), total (a ++ b) p = total a p + total b p
  | [], b, p => by simp [total]
  | (q, d) :: r, b, p => by rw [List.cons_append, total, total, total_append r b p]; omega
theorem boolElem (b : Bool) : plainElem (H := Unit) Tryz.prog 4 (.bool b) = some (.lit (.bool b), []) := by simp [plainElem, Tryz.underlying4]
theorem boolElem_inv {v : Value} {z : DataW Unit × List MemPlace} (h : plainElem Tryz.prog 4 v = some z) : ∃ b, v = .bool b ∧ z = (.lit (.bool b), []) := by
  have hu := Tryz.underlying4
  unfold plainElem at h
  generalize Tryz.prog.underlying 4 = t at h hu
  subst hu
  cases v <;> simp at h
  exact ⟨_, rfl, h.symm⟩
theorem Tryz.zero4 (w : World) : (zeroValue 4).run Tryz.prog w = .ok (.bool false) w := by kernel_rfl
theorem makeFlags (w : World) : (Instr.makeMap 105 none).run Tryz.prog w = .ok (.map (some w.heap.size)) (w.alloc (.map #[] 0)) := by
  simp [Instr.makeMap, newObj, Result.andThen]
  rfl
def Flag (B N : Nat) (l : List (Int × Int)) (wr : World) : Prop :=
  ∃ D : DataW Unit, wr.ownsMap Tryz.prog 52 (plainElem Tryz.prog 4) B N D ∧ ∀ p, FitsP p → D.atKey (cl p) (.lit (.bool false)) = .lit (.bool (decide (p ∈ l)))
theorem Flag.made (w : World) : Flag w.heap.size 0 [] (w.alloc (.map #[] 0)) := ⟨.map [], World.ownsMap_made (H := Unit) w Tryz.prog 52 (plainElem Tryz.prog 4), fun _ _ => by simp; rfl⟩
theorem Flag.lt {B N : Nat} {l : List (Int × Int)} {wr : World} (h : Flag B N l wr) : B < wr.heap.size := by
  obtain ⟨D, h1, _⟩ := h
  exact h1.lt
theorem Flag.block {B N : Nat} {l : List (Int × Int)} {w wr : World} (h : Flag B N l w) (hb : wr.heap[B]? = w.heap[B]?) : Flag B N l wr := by
  obtain ⟨D, ⟨es, clock, h1, F⟩, h2⟩ := h
  exact ⟨D, ⟨es, clock, by rw [hb]; exact h1, F⟩, h2⟩
theorem Flag.alloc {B N : Nat} {l : List (Int × Int)} {w : World} (h : Flag B N l w) (o : Obj) : Flag B N l (w.alloc o) := h.block (Below.heap_alloc _ _ _ h.lt)
theorem Flag.below {B N g : Nat} {l : List (Int × Int)} {w wr : World} (h : Flag B N l w) (hb : Below g w wr) (hg : B < g) : Flag B N l wr := h.block (hb.block B hg)
theorem Flag.look {B N : Nat} {l : List (Int × Int)} {w : World} (h : Flag B N l w) (x y : Int) (hp : FitsP (x, y)) :
    (Instr.lookup 105 (.map (some B)) (.agg #[.int .i64 x, .int .i64 y]) false).run Tryz.prog w = .ok (.bool (decide ((x, y) ∈ l))) w := by
  obtain ⟨D, h1, h2⟩ := h
  obtain ⟨v, ps, hrun, hv⟩ := h1.lookup law Tryz.underlying105 (Tryz.zero4 w) (boolElem false) (key_cell hp)
  obtain ⟨b, rfl, hb⟩ := boolElem_inv hv
  simp only [Prod.mk.injEq] at hb
  rw [h2 (x, y) hp] at hb
  have hb1 := hb.1
  simp only [DataW.lit.injEq, Lit.bool.injEq] at hb1
  rw [hb1]
  exact hrun
theorem Flag.set {B N : Nat} {l : List (Int × Int)} {w : World} (h : Flag B N l w) (hN : N < 1000000) (x y : Int) (hp : FitsP (x, y)) :
    ∃ w', (Instr.mapUpdate 105 (.map (some B)) (.agg #[.int .i64 x, .int .i64 y]) (.bool true)).run Tryz.prog w = .ok () w' ∧ Flag B (N + 1) (l ++ [(x, y)]) w' ∧ w.grownBy w' (some B) := by
  obtain ⟨D, h1, h2⟩ := h
  obtain ⟨w', hrun, hown, hg⟩ := h1.update law Tryz.underlying105 (by unfold maxLen; omega) (key_cell hp) (boolElem true)
  refine ⟨w', hrun, ⟨_, hown, fun p hq => ?_⟩, hg⟩
  by_cases e : (x, y) = p
  · subst e
    rw [atKey_put_same h1.isMap (cl_key _)]
    simp
  · have hne : cl p ≠ cl (x, y) := fun k => e (cl_inj hp hq k.symm)
    rw [atKey_put_other hne, h2 p hq]
    have : ¬ p = (x, y) := fun k => e k.symm
    simp [this]
end Go.Proofs.YtofbcngcblleaaaGreat.F

namespace Go.Proofs.YtofbcngcblleaaaGreat.F
open Go.RowKit Go.Proofs.YtofbcngcblleaaaGreat.L Go.Proofs.YtofbcngcblleaaaGreat.A
theorem odd_tmod (x : Int) (n : Nat) : hasB x n = ((x / 2 ^ n).tmod 2 == 1 || (x / 2 ^ n).tmod 2 == -1) := by
  unfold hasB
  generalize x / 2 ^ n = a
  rw [Int.tmod_eq_emod]
  by_cases h1 : a % 2 = 1
  · simp only [h1]
    split <;> simp
  · have h0 : a % 2 = 0 := by omega
    rw [if_pos (by right; omega), h0]
    simp
set_option maxHeartbeats 1000000 in
theorem refLives_any (b l : Int) (now : Bool) (n : Int) (w : World) : Calls Tryz.prog 64 #[.agg #[.int .i64 b, .int .i64 l], .bool now, .int .i64 n] w fun e w' => e = .returned (.bool (livesB b l now n)) ∧ Below w.heap.size w w' := by
  by_cases h0 : n < 0
  · go_enter Tryz.func64, Tryz.ntmps64
    go_wp2
    go_ret
    exact ⟨by simp [livesB, h0], (Below.refl _ _).alloc (Nat.le_refl _) _⟩
  · by_cases h8 : n > 8
    · go_enter Tryz.func64, Tryz.ntmps64
      go_wp2
      go_ret
      exact ⟨by simp [livesB, h8], (Below.refl _ _).alloc (Nat.le_refl _) _⟩
    · obtain ⟨m, rfl⟩ := Int.eq_ofNat_of_zero_le (show 0 ≤ n by omega)
      have e : livesB b l now m = if now then hasB l m else hasB b m := by unfold livesB; rw [if_neg (by omega)]; simp
      rw [e]
      cases now
      · rw [if_neg (by simp), odd_tmod]
        go_enter Tryz.func64, Tryz.ntmps64
        go_wp2
        all_goals go_ret
        all_goals refine ⟨?_, (Below.refl _ _).alloc (Nat.le_refl _) _⟩
        all_goals simp [*]
      · rw [if_pos rfl, odd_tmod]
        go_enter Tryz.func64, Tryz.ntmps64
        go_wp2
        all_goals go_ret
        all_goals refine ⟨?_, (Below.refl _ _).alloc (Nat.le_refl _) _⟩
        all_goals simp [*]
theorem even_tmod (x : Int) (h0 : 0 ≤ x) : (x.tmod 2 == 0) = !hasB x 0 := by
  rw [Int.tmod_eq_emod_of_nonneg h0, hasB]
  simp only [Int.pow_zero, Int.ediv_one]
  by_cases h : x % 2 = 1
  · rw [h]; simp
  · have : x % 2 = 0 := by omega
    rw [this]; simp
set_option maxHeartbeats 1000000 in
theorem refGood_any (b l : Int) (w : World) : Calls Tryz.prog 12 #[.agg #[.int .i64 b, .int .i64 l]] w fun e w' => e = .returned (.bool (goodB b l)) ∧ Below w.heap.size w w' := by
  by_cases h0 : 0 ≤ b
  · by_cases h1 : b ≤ 511
    · by_cases h2 : 0 ≤ l
      · by_cases h3 : l ≤ 511
        · have e0 := even_tmod b h0
          have hg : goodB b l = (b % 2 == 0) := by rw [← Int.tmod_eq_emod_of_nonneg h0, e0]; simp [goodB, withinB]; omega
          rw [hg]
          go_enter Tryz.func12, Tryz.ntmps12
          go_wp2
          go_ret
          exact ⟨rfl, (Below.refl _ _).alloc (Nat.le_refl _) _⟩
        · have hg : goodB b l = false := by simp [goodB, withinB]; omega
          rw [hg]
          go_enter Tryz.func12, Tryz.ntmps12
          go_wp2
          go_ret
          exact ⟨rfl, (Below.refl _ _).alloc (Nat.le_refl _) _⟩
      · have hg : goodB b l = false := by simp [goodB, withinB]; omega
        rw [hg]
        go_enter Tryz.func12, Tryz.ntmps12
        go_wp2
        go_ret
        exact ⟨rfl, (Below.refl _ _).alloc (Nat.le_refl _) _⟩
    · have hg : goodB b l = false := by simp [goodB, withinB]; omega
      rw [hg]
      go_enter Tryz.func12, Tryz.ntmps12
      go_wp2
      go_ret
      exact ⟨rfl, (Below.refl _ _).alloc (Nat.le_refl _) _⟩
  · have hg : goodB b l = false := by simp [goodB, withinB]; omega
    rw [hg]
    go_enter Tryz.func12, Tryz.ntmps12
    go_wp2
    go_ret
    exact ⟨rfl, (Below.refl _ _).alloc (Nat.le_refl _) _⟩
end Go.Proofs.YtofbcngcblleaaaGreat.F

namespace Go.Proofs.YtofbcngcblleaaaGreat.F
open Go.RowKit Go.Maps Go.Proofs.YtofbcngcblleaaaGreat.L Go.Proofs.YtofbcngcblleaaaGreat.A
def RuleIn (w : World) (x y : Int) (wr : World) : Prop :=
  wr.cell? ⟨w.heap.size, 0, none⟩ = some (.int .i64 x) ∧ wr.cell? ⟨w.heap.size, 1, none⟩ = some (.int .i64 y) ∧ wr.frozen? ⟨w.heap.size, 0, none⟩ = false ∧ wr.frozen? ⟨w.heap.size, 1, none⟩ = false ∧ w.heap.size < wr.heap.size ∧ Below w.heap.size w wr
theorem RuleIn.born (w : World) (x y : Int) (t : TypeId) : RuleIn w x y (w.alloc (.cells #[.int .i64 x, .int .i64 y] t)) :=
  ⟨by rw [World.cell?_alloc_new]; rfl, by rw [World.cell?_alloc_new]; rfl, by simp [World.frozen?_alloc_new], by simp [World.frozen?_alloc_new], by simp, (Below.refl _ _).alloc (Nat.le_refl _) _⟩
theorem RuleIn.go {w w1 w2 : World} {x y : Int} (h : RuleIn w x y w1) (hb : Below w1.heap.size w1 w2) : RuleIn w x y w2 := by
  obtain ⟨h1, h2, h3, h4, h5, h6⟩ := h
  refine ⟨(hb.cell (p := ⟨w.heap.size, 0, none⟩) h5).trans h1, (hb.cell (p := ⟨w.heap.size, 1, none⟩) h5).trans h2, ?_, ?_, Nat.lt_of_lt_of_le h5 hb.size, h6.trans (hb.mono (Nat.le_of_lt h5))⟩
  · rw [hb.frozen (p := ⟨w.heap.size, 0, none⟩) h5]; exact h3
  · rw [hb.frozen (p := ⟨w.heap.size, 1, none⟩) h5]; exact h4
theorem below_drewN' (w : World) (q : Nat) : Below w.heap.size w (w.drewN q) := ⟨rfl, rfl, rfl, Nat.le_refl _, fun _ _ => rfl⟩
theorem tcode_zero {zs : List (Int × Int)} : tcode zs = 0 ↔ zs.length ≤ 4096 ∧ zs.any farP = false := by
  unfold tcode
  by_cases h1 : 4096 < zs.length
  · rw [if_pos h1]; constructor
    · intro h; omega
    · intro h; omega
  · rw [if_neg h1]
    by_cases h2 : zs.any farP = true
    · rw [if_pos h2, h2]; constructor
      · intro h; omega
      · intro h; exact absurd h.2 (by simp)
    · rw [if_neg h2]
      exact ⟨fun _ => ⟨by omega, by simpa using h2⟩, fun _ => rfl⟩
theorem row_at {w : World} {v : Value} {ys : List (Int × Int)} (h : Row w v ys) (hn : ys.any farP = false) (k : Nat) (hk : k < ys.length) :
    ∃ b off, (∃ c, v = .slice (some ⟨b, off, none⟩) ys.length c) ∧ b < w.heap.size ∧ w.cell? ⟨b, off + k * 2, none⟩ = some (.int .i64 (ys[k]!).1) ∧ w.cell? ⟨b, off + k * 2 + 1, none⟩ = some (.int .i64 (ys[k]!).2) ∧ FitsP ys[k]! := by
  rcases h with ⟨rfl, rfl⟩ | ⟨hz, b, off, c, rfl, hb, hl, hm, hh⟩
  · simp at hk
  · obtain ⟨c0, c1⟩ := hh k hk
    refine ⟨b, off, ⟨c, rfl⟩, hb, c0, c1, ?_⟩
    rw [List.any_eq_false] at hn
    have h2 := hn ys[k]! (by rw [getElem!_pos ys k hk]; exact List.getElem_mem _)
    generalize ys[k]! = z at h2 ⊢
    simp [farP, farI] at h2
    exact ⟨⟨by omega, by omega⟩, ⟨by omega, by omega⟩⟩
theorem _root_.Go.Proofs.YtofbcngcblleaaaGreat.Kept.but {w w' : World} {base r : Nat} {v : Value} {ys : List (Int × Int)} (h : Kept w base v ys) (hg : w.grownBy w' (some r)) (hr : r < base) : Kept w' base v ys := by
  rcases h with h | ⟨hne, h⟩
  · exact Or.inl h
  · refine Or.inr ⟨hne, owns_of_block h fun g hk => ?_⟩
    have := h.lt g hk
    exact hg.block g this.2 (by simp; omega)
theorem one_first (w : World) (a b : Value) (t : TypeId) : ∀ j u, [a, b][j]? = some u → (w.alloc (.cells #[a, b] t)).cell? ((⟨w.heap.size, 0, none⟩ : Addr).add j) = some u := by
  intro j u hj
  rw [addP, World.cell?_alloc_new, Nat.zero_add]
  simpa using hj
theorem _root_.Go.Proofs.YtofbcngcblleaaaGreat.Kept.owns {w : World} {base : Nat} {v : Value} {ys : List (Int × Int)} (h : Kept w base v ys) : w.ownsRow base 52 2 v ys.length (cellsL ys) := by
  rcases h with ⟨rfl, rfl⟩ | ⟨_, h⟩
  · exact World.ownsRow_nil _ _ _ _
  · exact h
def nine (c : Int × Int) : List (Int × Int) :=
  [(c.1 - 1, c.2 - 1), (c.1, c.2 - 1), (c.1 + 1, c.2 - 1), (c.1 - 1, c.2), (c.1, c.2), (c.1 + 1, c.2), (c.1 - 1, c.2 + 1), (c.1, c.2 + 1), (c.1 + 1, c.2 + 1)]
def opsTo (c : Int × Int) (m : Nat) : List ((Int × Int) × Int) := (c, 0) :: (((nine c).take m).filter (fun q => !decide (q = c))).map (fun q => (q, 1))
def opsL (l : List (Int × Int)) : List ((Int × Int) × Int) := l.flatMap (fun c => opsTo c 9)
theorem nine_at (c : Int × Int) : ∀ i j : Nat, i < 3 → j < 3 → (nine c)[3 * j + i]? = some (c.1 - 1 + i, c.2 - 1 + j)
  | 0, 0, _, _ => by simp [nine]
  | 1, 0, _, _ => by simp [nine]
  | 2, 0, _, _ => by simp [nine]; omega
  | 0, 1, _, _ => by simp [nine]
  | 1, 1, _, _ => by simp [nine]
  | 2, 1, _, _ => by simp [nine]; omega
  | 0, 2, _, _ => by simp [nine]; omega
  | 1, 2, _, _ => by simp [nine]; omega
  | 2, 2, _, _ => by simp [nine]; omega
def lvB (b l : Int) (ys : List (Int × Int)) (p : Int × Int) : Bool := livesB b l (decide (p ∈ ys)) (total (opsL ys) p)
def NextSet (b l : Int) (ys out : List (Int × Int)) : Prop := out.Nodup ∧ ∀ p, p ∈ out ↔ lvB b l ys p = true
def beside (p c : Int × Int) : Prop := p ≠ c ∧ c.1 - 1 ≤ p.1 ∧ p.1 ≤ c.1 + 1 ∧ c.2 - 1 ≤ p.2 ∧ p.2 ≤ c.2 + 1
instance (p c : Int × Int) : Decidable (beside p c) := by unfold beside; infer_instance
theorem total_ones : ∀ (qs : List (Int × Int)) (p : Int × Int), total (qs.map (fun q => (q, 1))) p = (qs.filter (fun q => decide (q = p))).length
  | [], p => rfl
  | q :: r, p => by
    rw [List.map_cons, total, total_ones r p]
    by_cases e : q = p
    · simp [e]; omega
    · simp [e]
theorem nine_but (cx cy : Int) : ((nine (cx, cy)).take 9).filter (fun q => !decide (q = (cx, cy))) = [(cx - 1, cy - 1), (cx, cy - 1), (cx + 1, cy - 1), (cx - 1, cy), (cx + 1, cy), (cx - 1, cy + 1), (cx, cy + 1), (cx + 1, cy + 1)] := by
  have h1 : ¬ cx - 1 = cx := by omega
  have h2 : ¬ cx + 1 = cx := by omega
  have h3 : ¬ cy - 1 = cy := by omega
  have h4 : ¬ cy + 1 = cy := by omega
  simp [nine, List.filter, h1, h2, h3, h4]
theorem pick3 (c p : Int) : (c - 1 = p ∧ ¬ c = p ∧ ¬ c + 1 = p) ∨ (¬ c - 1 = p ∧ c = p ∧ ¬ c + 1 = p) ∨ (¬ c - 1 = p ∧ ¬ c = p ∧ c + 1 = p) ∨ (¬ c - 1 = p ∧ ¬ c = p ∧ ¬ c + 1 = p) := by omega
set_option linter.unusedSimpArgs false in
theorem total_one (c p : Int × Int) : total (opsTo c 9) p = if beside p c then 1 else 0 := by
  obtain ⟨cx, cy⟩ := c
  obtain ⟨px, py⟩ := p
  rw [opsTo, total, nine_but]
  simp only [List.map, total, Prod.mk.injEq]
  have e1 : ∀ z : Int, ¬ z - 1 = z := fun z => by omega
  have e2 : ∀ z : Int, ¬ z + 1 = z := fun z => by omega
  rcases pick3 cx px with ⟨a1, a2, a3⟩ | ⟨a1, a2, a3⟩ | ⟨a1, a2, a3⟩ | ⟨a1, a2, a3⟩ <;> rcases pick3 cy py with ⟨b1, b2, b3⟩ | ⟨b1, b2, b3⟩ | ⟨b1, b2, b3⟩ | ⟨b1, b2, b3⟩
  all_goals first
    | rw [if_pos (show beside (px, py) (cx, cy) by unfold beside; simp only [ne_eq, Prod.mk.injEq]; omega)]
    | rw [if_neg (show ¬ beside (px, py) (cx, cy) by unfold beside; simp only [ne_eq, Prod.mk.injEq]; omega)]
  all_goals simp [a1, a2, a3, b1, b2, b3, e1, e2]
def around : List (Int × Int) → Int × Int → Int
  | [], _ => 0
  | c :: r, p => (if beside p c then 1 else 0) + around r p
theorem total_around : ∀ (ys : List (Int × Int)) (p : Int × Int), total (opsL ys) p = around ys p
  | [], p => rfl
  | c :: r, p => by
    have h : opsL (c :: r) = opsTo c 9 ++ opsL r := by simp [opsL]
    rw [h, total_append, total_one, total_around r p, around]
theorem perm_of {a b : List (Int × Int)} (ha : a.Nodup) (hb : b.Nodup) (h : ∀ p, p ∈ a ↔ p ∈ b) : a.Perm b := (List.perm_ext_iff_of_nodup ha hb).2 h
theorem tidy_nodup {l : List (Int × Int)} (h : Tidy l) : l.Nodup := by
  unfold Tidy at h
  refine h.imp ?_
  intro a b hab e
  subst e
  unfold ahead at hab
  omega
theorem lv_around (b l : Int) (ys : List (Int × Int)) (p : Int × Int) : lvB b l ys p = livesB b l (decide (p ∈ ys)) (around ys p) := by rw [lvB, total_around]
theorem lv_key {b l : Int} {ys : List (Int × Int)} (hg : goodB b l = true) {p : Int × Int} (hv : lvB b l ys p = true) : ∃ c ∈ ys, c.1 - 1 ≤ p.1 ∧ p.1 ≤ c.1 + 1 ∧ c.2 - 1 ≤ p.2 ∧ p.2 ≤ c.2 + 1 := by
  by_cases hp : p ∈ ys
  · exact ⟨p, hp, by omega, by omega, by omega, by omega⟩
  · have key : ∀ zs : List (Int × Int), around zs p ≠ 0 → ∃ c ∈ zs, beside p c := by
      intro zs
      induction zs with
      | nil => intro h; exact absurd rfl h
      | cons c r ih =>
        intro h
        rw [around] at h
        by_cases hb : beside p c
        · exact ⟨c, by simp, hb⟩
        · rw [if_neg hb, Int.zero_add] at h
          obtain ⟨d, hd, hbd⟩ := ih h
          exact ⟨d, List.mem_cons_of_mem _ hd, hbd⟩
    by_cases h0 : around ys p = 0
    · exfalso
      rw [lv_around, h0] at hv
      simp only [hp, decide_false, livesB] at hv
      simp [goodB] at hg
      simp at hv
      rw [hg.2] at hv
      cases hv
    · obtain ⟨c, hc, _, h1, h2, h3, h4⟩ := key ys h0
      exact ⟨c, hc, h1, h2, h3, h4⟩
def eightTo (ys : List (Int × Int)) (p : Int × Int) (m : Nat) : Nat := ((((nine p).take m).filter (fun q => !decide (q = p))).filter (fun q => decide (q ∈ ys))).length
theorem eightTo_zero (ys : List (Int × Int)) (p : Int × Int) : eightTo ys p 0 = 0 := by simp [eightTo]
theorem eightTo_succ (ys : List (Int × Int)) (p q : Int × Int) (m : Nat) (h : (nine p)[m]? = some q) : eightTo ys p (m + 1) = eightTo ys p m + if q ≠ p ∧ q ∈ ys then 1 else 0 := by
  have e : (nine p).take (m + 1) = (nine p).take m ++ [q] := by
    obtain ⟨hm, he⟩ := List.getElem?_eq_some_iff.1 h
    rw [List.take_succ_eq_append_getElem hm, he]
  unfold eightTo
  rw [e, List.filter_append, List.filter_append, List.length_append]
  by_cases h1 : q = p
  · simp [h1]
  · by_cases h2 : q ∈ ys
    · simp [h1, h2]
    · simp [h1, h2]
theorem eightTo_le (ys : List (Int × Int)) (p : Int × Int) (m : Nat) : eightTo ys p m ≤ m := by
  unfold eightTo
  refine Nat.le_trans (List.length_filter_le _ _) (Nat.le_trans (List.length_filter_le _ _) ?_)
  rw [List.length_take]
  omega
theorem filter_split {c : Int × Int} {ys : List (Int × Int)} (hc : ¬ c ∈ ys) : ∀ qs : List (Int × Int), (qs.filter (fun q => decide (q ∈ c :: ys))).length = (qs.filter (fun q => decide (q = c))).length + (qs.filter (fun q => decide (q ∈ ys))).length
  | [] => rfl
  | q :: r => by
    have ih := filter_split hc r
    simp only [List.filter_cons]
    by_cases h1 : q = c
    · subst h1
      simp [hc] at ih ⊢
      omega
    · by_cases h2 : q ∈ ys
      · simp [h1, h2] at ih ⊢
        omega
      · simp [h1, h2] at ih ⊢
        exact ih
theorem beside_comm (p c : Int × Int) : beside p c ↔ beside c p := by
  unfold beside
  constructor
  · rintro ⟨h1, h2⟩; exact ⟨fun e => h1 e.symm, by omega⟩
  · rintro ⟨h1, h2⟩; exact ⟨fun e => h1 e.symm, by omega⟩
theorem eight_is : ∀ (ys : List (Int × Int)) (p : Int × Int), ys.Nodup → (eightTo ys p 9 : Int) = around ys p
  | [], p, _ => by simp [eightTo, around]
  | c :: r, p, h => by
    rw [List.nodup_cons] at h
    have ih := eight_is r p h.2
    have h1 := total_one p c
    rw [opsTo, total, total_ones] at h1
    unfold eightTo at ih ⊢
    rw [filter_split h.1, around, ← ih]
    have h2 : (if beside p c then (1 : Int) else 0) = if beside c p then 1 else 0 := by
      by_cases hb : beside p c
      · rw [if_pos hb, if_pos ((beside_comm p c).1 hb)]
      · rw [if_neg hb, if_neg (fun k => hb ((beside_comm p c).2 k))]
    rw [h2, ← h1]
    simp
end Go.Proofs.YtofbcngcblleaaaGreat.F
