/- PROVED: for all rules, made so that they are ones, all lists of cells, of whatever length a slice may have, made of at most 30 cells near 0, all moves, made nearer to 0 than 2^20, and all numbers of steps, made less than 30, LeapMoves answers true (the moved cells go on as the cells do, moved: P6.2), and the input is left as it was. No condition. -/
import Derived.Test.YtofbcngcblleaaaGreatLpMvA
import Derived.Test.YtofbcngcblleaaaGreatLpMvC
import Derived.Laws.IdiomArrays
import Derived.Carry
import Derived.Test.YtofbcngcblleaaaGreatRows
namespace Go.Proofs.YtofbcngcblleaaaGreat
open Go.ChangeShapes Go.WideShapes Go.ChangeAt Go.RowKit Go.Deep

theorem IsRow.below {w w' : World} {v : Value} {n : Nat} {X Y : Nat → Int} (h : IsRow w v n X Y) (hb : Below w.heap.size w w') : IsRow w' v n X Y := by
  obtain ⟨a, c, hv, hc, hm, hn, h⟩ := h
  refine ⟨a, c, hv, hc, hm, hn, ?_⟩
  rcases h with h | ⟨b, off, ha, hlt, hp⟩
  · exact Or.inl h
  · refine Or.inr ⟨b, off, ha, Nat.lt_of_lt_of_le hlt hb.size, fun j hj => ?_⟩
    rw [hb.cell (p := ⟨b, off + j * 2, none⟩) hlt, hb.cell (p := ⟨b, off + j * 2 + 1, none⟩) hlt]
    exact hp j hj
end Go.Proofs.YtofbcngcblleaaaGreat

namespace Go.Proofs.YtofbcngcblleaaaGreat
open Go.RowKit Go.Lib Go.Sort

theorem RRow.below {w w' : World} {v : Value} {zs : List (Int × Int)} (h : RRow w v zs) (hb : Below w.heap.size w w') : RRow w' v zs := IsRow.below h hb

end Go.Proofs.YtofbcngcblleaaaGreat

namespace Go.Proofs.YtofbcngcblleaaaGreat
open Go.RowKit Go.Lib Go.Sort

theorem Kept.row {w : World} {base : Nat} {v : Value} {ys : List (Int × Int)} (h : Kept w base v ys) : Row w v ys := by
  rcases h with ⟨rfl, rfl⟩ | ⟨hz, hown⟩
  · exact Or.inl ⟨rfl, rfl⟩
  · rcases id hown with ⟨_, ⟨_, h0⟩ | ⟨g, cap, cur, hv, _, _, hc, hm, _⟩⟩
    · exact absurd (List.length_eq_zero_iff.1 h0) hz
    · subst hv
      exact Or.inr ⟨hz, g, 0, cap, rfl, (hown.lt g rfl).2, hc, hm, holdsR_of_owns hown⟩
end Go.Proofs.YtofbcngcblleaaaGreat

namespace Go.Proofs.YtofbcngcblleaaaGreat.A
open Go.RowKit Go.Maps Go.Proofs.YtofbcngcblleaaaGreat.L

variable {ys zs ts : List (Int × Int)} {dx dy : Int}
theorem mem_mv {p : Int × Int} : p ∈ ys.map (mv dx dy) ↔ (p.1 - dx, p.2 - dy) ∈ ys := by
  rw [List.mem_map]
  constructor
  · rintro ⟨q, hq, rfl⟩
    simp only [mv]
    rw [show q.1 + dx - dx = q.1 by omega, show q.2 + dy - dy = q.2 by omega]
    exact hq
  · intro h
    exact ⟨_, h, Prod.ext (by simp only [mv]; omega) (by simp only [mv]; omega)⟩
theorem mv_tidy (h : Tidy ys) : Tidy (ys.map (mv dx dy)) := by
  refine List.Pairwise.map _ (fun a b hab => ?_) h
  unfold ahead at *
  simp only [mv]
  omega
theorem tidy_nd (h : Tidy ys) : ys.Nodup := h.imp fun hab e => by subst e; exact ahead_irrefl _ hab
theorem near_tidied (h : Tidy ys) (hl : ys.length ≤ 4096) (hf : ys.any farP = false) : tcode ys = 0 ∧ Tidied ys ys := by
  have hc : tcode ys = 0 := by
    unfold tcode
    rw [if_neg (by omega), if_neg (by rw [hf]; simp)]
  exact ⟨hc, h, fun p => ⟨fun hp => ⟨hp, hc⟩, fun hp => hp.1⟩⟩
theorem cellsG_moved : cellsG (ys.map (mv dx dy)) = fun x y => cellsG ys (x - dx) (y - dy) := by
  funext x y
  unfold cellsG
  exact decide_eq_decide.2 mem_mv
theorem twin_len (h1 : zs.Nodup) (h2 : ts.Nodup) (h : ∀ p : Int × Int, p ∈ ts ↔ (p.1 - dx, p.2 - dy) ∈ zs) : ts.length = zs.length := by
  have a1 := len_le h2 (zs := zs.map (mv dx dy)) fun p hp => mem_mv.2 ((h p).1 hp)
  have a2 := len_le (ys := zs.map (mv dx dy)) (zs := ts) (by
    refine List.Pairwise.map _ (fun a b hab e => hab ?_) h1
    have e1 := congrArg Prod.fst e
    have e2 := congrArg Prod.snd e
    simp only [mv] at e1 e2
    exact Prod.ext (by omega) (by omega)) fun p hp => (h p).2 (mem_mv.1 hp)
  rw [List.length_map] at a1 a2
  omega
theorem twin_tidy (h1 : Tidy ys) (h2 : Tidy ts) (h : ∀ p : Int × Int, p ∈ ts ↔ (p.1 - dx, p.2 - dy) ∈ ys) : ts = ys.map (mv dx dy) :=
  tidy_unique _ _ h2 (mv_tidy h1) fun p => (h p).trans mem_mv.symm
theorem any_far {K : Int} (hK : K ≤ 1099511627775) (h : ∀ p ∈ ys, -K ≤ p.1 ∧ p.1 ≤ K ∧ -K ≤ p.2 ∧ p.2 ≤ K) : ys.any farP = false := by
  rw [List.any_eq_false]
  intro p hp
  have := h p hp
  simp [farP, farI]
  omega
end Go.Proofs.YtofbcngcblleaaaGreat.A

namespace Go.Proofs.YtofbcngcblleaaaGreat.A
open Go.RowKit Go.Maps Go.Proofs.YtofbcngcblleaaaGreat.L

variable {w w1 w2 : World} {o o1 : Nat → Nat} {v : Value} {zs : List (Int × Int)}
/-- a row in memory, no part of an arena -/
def LRow (w : World) (o : Nat → Nat) (v : Value) (zs : List (Int × Int)) : Prop :=
  (zs = [] ∧ v = .slice none 0 0) ∨ (zs ≠ [] ∧ ∃ b off c, v = .slice (some ⟨b, off, none⟩) zs.length c ∧ o b ≠ 1 ∧ b < w.heap.size ∧ zs.length ≤ c ∧ c ≤ maxLen ∧ HoldsR w b off zs)
theorem LRow.row (h : LRow w o v zs) : Row w v zs := by
  rcases h with h | ⟨h0, b, off, c, h1, _, h2, h3, h4, h5⟩
  · exact Or.inl h
  · exact Or.inr ⟨h0, b, off, c, h1, h2, h3, h4, h5⟩
theorem LRow.ch (h : LRow w o v zs) (k : Ch (fun l => l = 1) o w o1 w1) : LRow w1 o1 v zs := by
  rcases h with h | ⟨h0, b, off, c, h1, hl, h2, h3, h4, h5⟩
  · exact Or.inl h
  · have hb := k.block b h2 hl
    exact Or.inr ⟨h0, b, off, c, h1, by rw [k.lab b h2]; exact hl, Nat.lt_of_lt_of_le h2 k.size, h3, h4, fun j hj => ⟨(World.cell?_of_block (a := ⟨b, off + j * 2, none⟩) hb).trans (h5 j hj).1, (World.cell?_of_block (a := ⟨b, off + j * 2 + 1, none⟩) hb).trans (h5 j hj).2⟩⟩
theorem LRow.of (h : Row w v zs) (hl : ∀ k, k < w.heap.size → o k ≠ 1) : LRow w o v zs := by
  rcases h with h | ⟨h0, b, off, c, h1, h2, h3, h4, h5⟩
  · exact Or.inl h
  · exact Or.inr ⟨h0, b, off, c, h1, hl b h2, h2, h3, h4, h5⟩
theorem LRow.own {base : Nat} (h : ORow w base v zs) (hl : ∀ k, base ≤ k → k < w.heap.size → o k ≠ 1) : LRow w o v zs := by
  rcases h with h | ⟨h0, b, off, c, h1, hb, h2, h3, h4, h5⟩
  · exact Or.inl h
  · exact Or.inr ⟨h0, b, off, c, h1, hl b hb h2, h2, h3, h4, HoldsA.read h5⟩
/-- an arena, a rule and rows in memory -/
structure MvL (w W : World) (o : Nat → Nat) (b rk : Nat) (rb rl : Int) (A : Ar) (rows : List (Value × List (Int × Int))) : Prop where
  ar : ArL W o b A
  rule : W.heap[rk]? = some (.cells #[.int .i64 rb, .int .i64 rl] 23 (0, 0))
  lr : o rk ≠ 1
  rows : ∀ x ∈ rows, LRow W o x.1 x.2
  below : Below w.heap.size w W
  low : ∀ k, k < w.heap.size → o k ≠ 1
variable {W W' : World} {o' : Nat → Nat} {b rk : Nat} {rb rl : Int} {A A' : Ar} {rows : List (Value × List (Int × Int))}
theorem MvL.lt (h : MvL w W o b rk rb rl A rows) : rk < W.heap.size := (Array.getElem?_eq_some_iff.1 h.rule).1
/-- a deed on the arena -/
theorem MvL.ch (h : MvL w W o b rk rb rl A rows) (k : Ch (fun l => l = 1) o W o' W') (hA : ArL W' o' b A') : MvL w W' o' b rk rb rl A' rows := by
  have hs := h.below.size
  refine ⟨hA, (k.block rk h.lt h.lr).trans h.rule, by rw [k.lab rk h.lt]; exact h.lr, fun x hx => (h.rows x hx).ch k, ⟨k.os.trans h.below.os, k.tape.trans h.below.tape, k.output.trans h.below.output, Nat.le_trans hs k.size, fun i hi => (k.block i (by omega) (h.low i hi)).trans (h.below.block i hi)⟩, fun i hi => by rw [k.lab i (by omega)]; exact h.low i hi⟩
/-- what makes blocks alone -/
theorem MvL.grow (h : MvL w W o b rk rb rl A rows) (k : Below W.heap.size W W') : MvL w W' (ext o W.heap.size 0) b rk rb rl A rows :=
  h.ch (Ch.ofBelow k 0) (h.ar.ch (L := fun _ => False) (Ch.ofBelow k 0) fun h => h)
theorem MvL.more {u : Value} {ys : List (Int × Int)} (h : MvL w W' (ext o W.heap.size 0) b rk rb rl A rows) (hr : ORow W' W.heap.size u ys) : MvL w W' (ext o W.heap.size 0) b rk rb rl A ((u, ys) :: rows) :=
  ⟨h.ar, h.rule, h.lr, fun x hx => by
    rcases List.mem_cons.1 hx with rfl | hx
    · exact LRow.own hr fun k hk _ => by rw [ext_new hk]; decide
    · exact h.rows x hx, h.below, h.low⟩
/-- all places of a box -/
def sqC (c d : Int) (M : Nat) : List (Int × Int) := (List.range M).flatMap fun (i : Nat) => (List.range M).map fun (j : Nat) => (c + (i : Int), d + (j : Int))
theorem sqC_len (c d : Int) (M : Nat) : (sqC c d M).length = M * M := by
  unfold sqC
  rw [flat_len2 _ M _ fun i _ => by simp]
  simp
theorem sqC_in {c d : Int} {M : Nat} {X Y : Int} (h1 : c ≤ X) (h2 : X < c + M) (h3 : d ≤ Y) (h4 : Y < d + M) : (X, Y) ∈ sqC c d M :=
  List.mem_flatMap.2 ⟨(X - c).toNat, List.mem_range.2 (by omega), List.mem_map.2 ⟨(Y - d).toNat, List.mem_range.2 (by omega), Prod.ext (by simp only; omega) (by simp only; omega)⟩⟩
end Go.Proofs.YtofbcngcblleaaaGreat.A

namespace Go.Proofs.YtofbcngcblleaaaGreat.A
open Go.RowKit Go.Maps Go.Proofs.YtofbcngcblleaaaGreat.L

/-- what a run of few steps of cells near a place leaves -/
theorem run_big {PR : (Bool → Nat → Bool) → Int → Prop} {q : Nat → Int} {R : Bool → Nat → Bool} (hR : R false 0 = false) {g : Gr} {c d : Int} (hg : ∀ X Y, g X Y = true → c - (10 : Nat) ≤ X ∧ X < c + (10 : Nat) ∧ d - (10 : Nat) ≤ Y ∧ Y < d + (10 : Nat)) {s : Nat} (hs : s < 30) {A : Ar} {m : Nat} {x : Int} (h1 : NxSt PR 1 q A) (h2 : Rt A 1 m x (iter R s g)) : (cellsF A.ths (m + 1) x).length < 4611686018427387904 := by
  have h3 := cells_few h1 (by omega) h2 (sqC (c - 50) (d - 50) 100) fun X Y hXY => by
    have := box_live hR hg s X Y hXY
    exact sqC_in (by omega) (by omega) (by omega) (by omega)
  rw [sqC_len] at h3
  omega
theorem near_least {g : Gr} {c d : Int} {N : Nat} (hd : 0 ≤ c ∧ c < 1048576 ∧ 0 ≤ d ∧ d < 1048576) (hg : ∀ X Y, g X Y = true → c - (50 : Nat) ≤ X ∧ X < c + (50 : Nat) ∧ d - (50 : Nat) ≤ Y ∧ Y < d + (50 : Nat)) (hL : LeastG (N + 1) g) : N ≤ 21 := by
  have := least_le hL (M := 21) (by omega) fun X Y h => by
    have := hg X Y h
    omega
  omega
/-- a root that From has made is the least -/
theorem from_least {ys : List (Int × Int)} {t N : Nat} {A : Ar} {p : Int} (h2 : 1 ≤ N) (f1 : LeastLv (N + 1) ys) (hrt : Rt A t N p (cellsG ys)) : LeastG (N + 1) (cellsG ys) := by
  refine ⟨by omega, hrt.out, fun j h2 hj hf => f1.least j h2 hj fun p hp => ?_⟩
  obtain ⟨j', rfl⟩ : ∃ j', j = j' + 1 := ⟨j - 1, by omega⟩
  rw [halfN_succ, powI]
  have h3 := hf p.1 p.2 (by unfold cellsG; simpa using hp)
  rw [Nat.add_sub_cancel] at h3
  exact h3
/-- From of few cells is not refused -/
theorem from_fine {PR : (Bool → Nat → Bool) → Int → Prop} {A A' : Ar} {ys : List (Int × Int)} {p e' : Int} (hst : NxSt PR 1 (fun _ => 199999) A') (h : FromR 1 A A' ys p e') (hl : ys.length ≤ 30) (hc : A.cnt 1 ≤ 1500) (hlim : A.lim 1 = 200000) : e' = 0 ∧ A'.cnt 1 ≤ A.cnt 1 + 1300 ∧ A'.lim 1 = 200000 ∧ Goes1 1 A A' ∧ ∃ N, 1 ≤ N ∧ Rt A' 1 N p (cellsG ys) ∧ LeastG (N + 1) (cellsG ys) := by
  obtain ⟨N, f1, f2, f3, f4, f5⟩ := h
  have h1 := from_count f4 hst (by omega) (by omega)
  have h2 : (N + 1) * ys.length ≤ 41 * 30 := Nat.mul_le_mul (by omega) hl
  have h3 : A'.lim 1 = 200000 := f4.lim.trans hlim
  have hne : ¬ Er e' := gx_fine f4 hst (by show A'.cnt 1 < 199999; omega) (by omega)
  rcases f5 with ⟨h, _⟩ | ⟨h, hrt⟩
  · exact absurd h hne
  · exact ⟨h, by omega, h3, f4.toGoes1, N, f2, hrt, from_least f2 f1 hrt⟩
end Go.Proofs.YtofbcngcblleaaaGreat.A

namespace Go.Proofs.YtofbcngcblleaaaGreat.A
open Go.RowKit Go.Maps Go.Proofs.YtofbcngcblleaaaGreat.L

theorem kept_set {w : World} {base : Nat} {v : Value} {ys : List (Int × Int)} (h : Kept w base v ys) {g : Nat} (hg : g < base) (i : Nat) (u : Value) : Kept (w.setCell ⟨g, i, none⟩ u) base v ys := by
  rcases h with h | ⟨h0, h1⟩
  · exact Or.inl h
  · exact Or.inr ⟨h0, row_other h1 fun j hj => heap_set fun e => by have := (World.ownsRow.lt h1 j hj).1; omega⟩
/-- what the law knows behind its two runs -/
structure Twin (g : Gr) (ys : List (Int × Int)) (X Y : Int) : Prop where
  tidy : Tidy ys
  near : ∀ p ∈ ys, -(10 : Int) ≤ p.1 ∧ p.1 < 10 ∧ -(10 : Int) ≤ p.2 ∧ p.2 < 10
  len : ys.length ≤ 30
  plane : g = cellsG ys
theorem Twin.g1 {g : Gr} {ys : List (Int × Int)} {X Y : Int} (h : Twin g ys X Y) : ∀ x y, g x y = true → (0 : Int) - (10 : Nat) ≤ x ∧ x < 0 + (10 : Nat) ∧ (0 : Int) - (10 : Nat) ≤ y ∧ y < 0 + (10 : Nat) := fun x y hg => by
  rw [h.plane] at hg
  have := h.near (x, y) (by unfold cellsG at hg; simpa using hg)
  simp only at this
  omega
theorem Twin.g2 {g : Gr} {ys : List (Int × Int)} {X Y : Int} (h : Twin g ys X Y) : ∀ x y, (fun x y => g (x - X) (y - Y)) x y = true → X - (10 : Nat) ≤ x ∧ x < X + (10 : Nat) ∧ Y - (10 : Nat) ≤ y ∧ y < Y + (10 : Nat) := fun x y hg => by
  have := h.g1 (x - X) (y - Y) hg
  omega
theorem Twin.ofSome {zs ys : List (Int × Int)} {X Y : Int} (h : Tidied (someL 30 10 zs) ys) : Twin (cellsG ys) ys X Y :=
  ⟨h.1, fun p hp => someL_near (M := 30) (K := 10) (by omega) ((h.2 p).1 hp).1, Nat.le_trans (tidied_len h) (someL_len 30 10 zs), rfl⟩
theorem Twin.far {g : Gr} {ys : List (Int × Int)} {X Y : Int} (h : Twin g ys X Y) (hX : 0 ≤ X ∧ X < 1048576 ∧ 0 ≤ Y ∧ Y < 1048576) : (far2 X || far2 Y) = false ∧ (ys.map (mv X Y)).any farP = false ∧ tcode (ys.map (mv X Y)) = 0 ∧ Tidied (ys.map (mv X Y)) (ys.map (mv X Y)) := by
  have hn : (ys.map (mv X Y)).any farP = false := any_far (K := 2000000) (by omega) fun p hp => by
    have := h.near _ (mem_mv.1 hp)
    simp only at this
    omega
  obtain ⟨a, b⟩ := near_tidied (mv_tidy (dx := X) (dy := Y) h.tidy) (by have := h.len; rw [List.length_map]; omega) hn
  exact ⟨by simp [far2]; omega, hn, a, b⟩
set_option maxRecDepth 20000 in
set_option maxHeartbeats 8000000 in
theorem moves_law (rb0 rl0 : Int) (v : Value) (zs : List (Int × Int)) (dx dy n : Int) (w : World) (hv : RRow w v zs) :
    Calls Tryz.prog 6 #[.agg #[.int .i64 rb0, .int .i64 rl0], v, .int .i64 dx, .int .i64 dy, .int .i64 n] w fun e w' => e = .returned (.bool true) ∧ Below w.heap.size w w' := by
  have s0 := fun W => spot_any dx 1048576 W (by omega) (by omega)
  have s1 := fun W => spot_any dy 1048576 W (by omega) (by omega)
  have s2 := fun W => spot_any n 30 W (by omega) (by omega)
  have b0 := spotI_bound dx 1048576 (by omega)
  have b1 := spotI_bound dy 1048576 (by omega)
  have b2 := spotI_bound n 30 (by omega)
  generalize spotI dx 1048576 = X at *
  generalize spotI dy 1048576 = Y at *
  generalize spotI n 30 = N at *
  obtain ⟨k, rfl⟩ := Int.eq_ofNat_of_zero_le b2.1
  have HP : Hid ((0 ≤ X ∧ X < 1048576 ∧ 0 ≤ Y ∧ Y < 1048576) ∧ k < 30) := ⟨⟨b0.1, b0.2, b1.1, b1.2⟩, by omega⟩
  have hbg := fun W => begL_any W
  have hright := fun W => right_any rb0 rl0 W
  have hgood := right_good rb0 rl0
  generalize rightB rb0 = rb at *
  generalize spotI rl0 512 = rl at *
  have hR : lifeR rb rl false 0 = false := (goodR_of hgood).2.2
  have HG : Hid (goodB rb rl = true ∧ lifeR rb rl false 0 = false) := ⟨hgood, hR⟩
  have hX0 : (w.alloc (.cells #[.int .i64 rb0, .int .i64 rl0] 23)).heap[w.heap.size]? = some (.cells #[.int .i64 rb0, .int .i64 rl0] 23 (0, 0)) := heap_alloc_new w _
  have hb0 : Below w.heap.size w (w.alloc (.cells #[.int .i64 rb0, .int .i64 rl0] 23)) := (Below.refl _ _).alloc (Nat.le_refl _) _
  have f0 := Lib.cell_of_heap hX0 0
  have f1 := Lib.cell_of_heap hX0 1
  clear hgood hR b0 b1 b2
  go_enter Tryz.func6, Tryz.ntmps6
  go_wp2_with fail
  refine (hright _).mono ?_
  rintro e w1 ⟨rfl, c1⟩
  have hX1 := (c1.block w.heap.size (by simp)).trans hX0
  have hb1 := hb0.trans (c1.mono hb0.size)
  have hsome := some_any v zs 30 10 w1 (hv.below hb1) (by omega) (by omega) (by omega)
  clear f0 f1 hX0 hb0 c1 hright
  go_wp2_with fail
  refine hsome.mono ?_
  rintro e w2 ⟨vl, rfl, c2, k2⟩
  have hl1 : w.heap.size < w1.heap.size := (Array.getElem?_eq_some_iff.1 hX1).1
  have hX2 := (c2.block w.heap.size hl1).trans hX1
  have f0 := Lib.cell_of_heap hX2 0
  have f1 := Lib.cell_of_heap hX2 1
  have z0 := Lib.frozen_of_heap hX2 0
  have z1 := Lib.frozen_of_heap hX2 1
  have hb2 : Below w.heap.size w w2 := hb1.trans (c2.mono hb1.size)
  clear hsome hX1 hb1
  go_wp2_with fail
  have hX3 : ((w2.setCell ⟨w.heap.size, 0, none⟩ (.int .i64 rb)).setCell ⟨w.heap.size, 1, none⟩ (.int .i64 rl)).heap[w.heap.size]? = some (.cells #[.int .i64 rb, .int .i64 rl] 23 (0, 0)) := Go.Joins.block_setCell (Go.Joins.block_setCell hX2 _) _
  have hb3 : Below w.heap.size w ((w2.setCell ⟨w.heap.size, 0, none⟩ (.int .i64 rb)).setCell ⟨w.heap.size, 1, none⟩ (.int .i64 rl)) := (hb2.setCell (p := ⟨w.heap.size, 0, none⟩) (Nat.le_refl _) _).setCell (p := ⟨w.heap.size, 1, none⟩) (Nat.le_refl _) _
  have k3 := (kept_set (kept_set k2 hl1 0 (.int .i64 rb)) hl1 1 (.int .i64 rl)).row
  clear hX2 f0 f1 z0 z1 hb2 k2 c2 hl1
  generalize hw3 : (w2.setCell ⟨w.heap.size, 0, none⟩ (.int .i64 rb)).setCell ⟨w.heap.size, 1, none⟩ (.int .i64 rl) = w3 at *
  have H3 : Hid (w3.heap[w.heap.size]? = some (.cells #[.int .i64 rb, .int .i64 rl] 23 (0, 0)) ∧ Below w.heap.size w w3 ∧ Row w3 vl (someL 30 10 zs)) := ⟨hX3, hb3, k3⟩
  clear hX3 hb3 k3 hw3
  refine (s0 _).mono ?_
  rintro e wx ⟨rfl, hw⟩
  have hw2 := hw.symm
  subst hw2
  clear hw
  go_wp2_with fail
  refine (s1 _).mono ?_
  rintro e wx ⟨rfl, hw⟩
  have hw2 := hw.symm
  subst hw2
  clear hw
  go_wp2_with fail
  refine (s2 _).mono ?_
  rintro e wx ⟨rfl, hw⟩
  have hw2 := hw.symm
  subst hw2
  clear hw s0 s1 s2
  go_wp2_with fail
  refine (hbg _).mono ?_
  rintro e w4 ⟨rfl, hA4, hb4⟩
  have Q4 : MvL w w4 (fun k => if k < w3.heap.size then 0 else 1) (w3.heap.size + 1) w.heap.size rb rl arBegL [(vl, someL 30 10 zs)] := by
    have hs := H3.out.2.1.size
    have hlt : w.heap.size < w3.heap.size := (Array.getElem?_eq_some_iff.1 H3.out.1).1
    refine ⟨hA4, (hb4.block _ hlt).trans H3.out.1, by show (if _ then _ else _) ≠ 1; rw [if_pos hlt]; decide, fun x hx => ?_, H3.out.2.1.trans (hb4.mono hs), fun i hi => by show (if _ then _ else _) ≠ 1; rw [if_pos (by omega)]; decide⟩
    simp only [List.mem_singleton] at hx
    subst hx
    have : LRow w3 (fun k => if k < w3.heap.size then 0 else 1) vl (someL 30 10 zs) := LRow.of H3.out.2.2 fun i hi => by show (if _ then _ else _) ≠ 1; rw [if_pos hi]; decide
    rcases this with h | ⟨h0, b, off, c, h1, hl, h2, h3, h4, h5⟩
    · exact Or.inl h
    · have hbb := hb4.block b h2
      exact Or.inr ⟨h0, b, off, c, h1, hl, Nat.lt_of_lt_of_le h2 hb4.size, h3, h4, fun j hj => ⟨(World.cell?_of_block (a := ⟨b, off + j * 2, none⟩) hbb).trans (h5 j hj).1, (World.cell?_of_block (a := ⟨b, off + j * 2 + 1, none⟩) hbb).trans (h5 j hj).2⟩⟩
  generalize w3.heap.size + 1 = b at *
  generalize (fun k => if k < w3.heap.size then 0 else 1) = o4 at *
  have hsh := shift_any vl (someL 30 10 zs) X Y w4 (Q4.rows (vl, someL 30 10 zs) (by simp)).row
  have HQ4 : Hid (MvL w w4 o4 b w.heap.size rb rl arBegL [(vl, someL 30 10 zs)]) := Q4
  clear hA4 hb4 H3 hbg Q4
  go_wp2_with fail
  refine hsh.mono ?_
  rintro e w5 ⟨u, ys, hT, rfl, hb5, hr5⟩
  have hys : ∃ o5, MvL w w5 o5 b w.heap.size rb rl arBegL [(u, ys.map (mv X Y)), (vl, someL 30 10 zs)] := by
    have HT := Twin.ofSome (X := X) (Y := Y) hT
    have hc0 : tcode (someL 30 10 zs) = 0 := someL_code (by omega) (by omega) (by omega) zs
    obtain ⟨t1, t2, _, _⟩ := HT.far HP.out.1
    rw [hc0, shiftF_ok t1 t2] at hr5
    exact ⟨_, (HQ4.out.grow hb5).more hr5⟩
  obtain ⟨o5, Q5⟩ := hys
  have HT : Hid (Tidied (someL 30 10 zs) ys ∧ Twin (cellsG ys) ys X Y) := ⟨hT, Twin.ofSome hT⟩
  have hfr := from_rel (t := 1) Q5.ar (begL_st (oneR_u rb rl)) (by omega) vl (someL 30 10 zs) ys (Q5.rows (vl, someL 30 10 zs) (by simp)).row (someL_code (by omega) (by omega) (by omega) zs) hT
  have HQ5 : Hid (MvL w w5 o5 b w.heap.size rb rl arBegL [(u, ys.map (mv X Y)), (vl, someL 30 10 zs)]) := Q5
  clear hsh hb5 hr5 hT HQ4 Q5
  go_wp2_with fail
  refine hfr.mono ?_
  rintro e w6 ⟨p, e6, rfl, A6, o6, a1, a2, a3, hF⟩
  obtain ⟨rfl, hcn, hlm, hgo, M, hM1, hrt, hlg⟩ := from_fine a3 hF (Nat.le_trans (tidied_len HT.out.1) (someL_len 30 10 zs)) (by rw [begL_zero]; omega) begL_lim
  rw [begL_zero] at hcn
  have Q6 := HQ5.out.ch a2 a1
  obtain ⟨t1, t2, t3, t4⟩ := HT.out.2.far HP.out.1
  have hfr2 := from_rel (t := 1) a1 a3 (by omega) u (ys.map (mv X Y)) (ys.map (mv X Y)) (Q6.rows (u, ys.map (mv X Y)) (by simp)).row t3 t4
  have H6 : Hid (MvL w w6 o6 b w.heap.size rb rl A6 [(u, ys.map (mv X Y)), (vl, someL 30 10 zs)] ∧ NxSt (oneR rb rl) 1 (fun _ => 199999) A6 ∧ Rt A6 1 M p (cellsG ys) ∧ LeastG (M + 1) (cellsG ys) ∧ 1 ≤ M ∧ A6.cnt 1 ≤ 1300 ∧ A6.lim 1 = 200000) := ⟨Q6, a3, hrt, hlg, hM1, by omega, hlm⟩
  clear hfr a1 a2 a3 hF hcn hlm hgo hM1 hrt hlg Q6 HQ5 t1 t2 t3 t4
  go_wp2_with fail
  refine hfr2.mono ?_
  rintro e w7 ⟨p2, e7, rfl, A7, o7, a1, a2, a3, hF⟩
  obtain ⟨q6, st6, rt6, lg6, m6, cn6, lm6⟩ := H6.out
  obtain ⟨rfl, hcn, hlm, hgo, M2, hM2, hrt2, hlg2⟩ := from_fine a3 hF (by rw [List.length_map]; exact HT.out.2.len) (by omega) lm6
  have Q7 := q6.ch a2 a1
  obtain ⟨g, hgd⟩ : ∃ g, g = cellsG ys := ⟨_, rfl⟩
  rw [cellsG_moved, ← hgd] at hrt2 hlg2
  rw [← hgd] at rt6 lg6
  have tw : Twin g ys X Y := ⟨HT.out.2.tidy, HT.out.2.near, HT.out.2.len, hgd⟩
  have H7 : Hid (MvL w w7 o7 b w.heap.size rb rl A7 [(u, ys.map (mv X Y)), (vl, someL 30 10 zs)] ∧ NxSt (oneR rb rl) 1 (fun _ => 199999) A7 ∧ Rt A7 1 M p g ∧ Rt A7 1 M2 p2 (fun x y => g (x - X) (y - Y)) ∧ LeastG (M2 + 1) (fun x y => g (x - X) (y - Y)) ∧ 1 ≤ M2 ∧ A7.cnt 1 ≤ 3000 ∧ A7.lim 1 = 200000 ∧ Twin g ys X Y ∧ M2 ≤ 21) := ⟨Q7, a3, rt6.go st6 (by omega) hgo, hrt2, hlg2, hM2, by omega, hlm, tw, near_least HP.out.1 (fun x y h => by have := tw.g2 x y h; omega) hlg2⟩
  have hM21 : M ≤ 21 := near_least (c := 0) (d := 0) (by omega) (fun x y h => by have := tw.g1 x y h; omega) lg6
  have hf7 := Q7.rule
  have f0 := Lib.cell_of_heap hf7 0
  have f1 := Lib.cell_of_heap hf7 1
  have hst1 := Steps_rel (rb := rb) (rl := rl) a1 a3 (by omega) HG.out.1 ⟨rfl, rfl⟩ p M m6 (by omega) (rt6.go st6 (by omega) hgo) k (by have := HP.out.2; omega) (fun s hs A' m' x' h1 h2 _ => run_big (c := 0) (d := 0) HG.out.2 tw.g1 (by have := HP.out.2; omega) h1 h2)
  clear hfr2 H6 a1 a2 a3 hF q6 st6 rt6 lg6 m6 cn6 lm6 hcn hlm hgo hM2 hrt2 hlg2 Q7 tw hM21 hf7 hgd HT
  go_wp2_with fail
  refine hst1.mono ?_
  rintro e w8 ⟨x1, e8, rfl, A8, o8, a1, a2, a3, hS⟩
  obtain ⟨q7, st7, rt7, rt72, lg72, m72, cn7, lm7, tw, hM2⟩ := H7.out
  obtain ⟨rfl, gx8, M3, lg8, rt8⟩ : e8 = 0 ∧ Gx 1 A7 A8 0 0 (StepsD (lifeR rb rl) (rnum rb rl) (Has (view A7 1)) g k) ∧ ∃ N, LeastG (N + 1) (iter (lifeR rb rl) k g) ∧ Rt A8 1 N x1 (iter (lifeR rb rl) k g) := by
    rcases hS with ⟨h1, _, _, A1, h2, h3⟩ | h
    · exact absurd h1 (one_fine h2 h3 HG.out.2 HP.out.2 tw.g1 cn7 lm7)
    · exact h
  have Q8 := q7.ch a2 a1
  have hf8 := Q8.rule
  have f0 := Lib.cell_of_heap hf8 0
  have f1 := Lib.cell_of_heap hf8 1
  have rt82 := rt72.go st7 (by omega) gx8.toGoes1
  have hst2 := Steps_rel (rb := rb) (rl := rl) a1 a3 (by omega) HG.out.1 ⟨rfl, rfl⟩ p2 M2 m72 (by omega) rt82 k (by have := HP.out.2; omega) (fun s hs A' m' x' h1 h2 _ => run_big HG.out.2 tw.g2 (by have := HP.out.2; omega) h1 h2)
  have H8 : Hid (MvL w w8 o8 b w.heap.size rb rl A8 [(u, ys.map (mv X Y)), (vl, someL 30 10 zs)] ∧ NxSt (oneR rb rl) 1 (fun _ => 199999) A8 ∧ Gx 1 A7 A8 0 0 (StepsD (lifeR rb rl) (rnum rb rl) (Has (view A7 1)) g k) ∧ LeastG (M3 + 1) (iter (lifeR rb rl) k g) ∧ Rt A8 1 M3 x1 (iter (lifeR rb rl) k g)) := ⟨Q8, a3, gx8, lg8, rt8⟩
  clear hst1 a1 a2 a3 hS q7 st7 rt7 rt72 lg72 m72 hM2 gx8 lg8 rt8 rt82 Q8 hf8 tw cn7 lm7
  go_wp2_with fail
  refine hst2.mono ?_
  rintro e w9 ⟨x2, e9, rfl, A9, o9, a1, a2, a3, hS⟩
  obtain ⟨_, _, _, _, _, _, cn7, lm7, tw, _⟩ := H7.out
  obtain ⟨q8, st8, gx8, lg8, rt8⟩ := H8.out
  obtain ⟨rfl, gx9, M4, lg9, rt9⟩ : e9 = 0 ∧ Gx 1 A8 A9 0 0 (StepsD (lifeR rb rl) (rnum rb rl) (Has (view A8 1)) (fun x y => g (x - X) (y - Y)) k) ∧ ∃ N, LeastG (N + 1) (iter (lifeR rb rl) k (fun x y => g (x - X) (y - Y))) ∧ Rt A9 1 N x2 (iter (lifeR rb rl) k (fun x y => g (x - X) (y - Y))) := by
    rcases hS with ⟨h1, _, _, A1, h2, h3⟩ | h
    · exact absurd h1 (two_fine st8 h2 gx8 h3 HG.out.2 HP.out.2 tw.g1 tw.g2 HP.out.1 cn7 lm7)
    · exact h
  have Q9 := q8.ch a2 a1
  have live1 := fun x y h => box_live (R := lifeR rb rl) HG.out.2 tw.g1 k x y h
  have live2 := fun x y h => box_live (R := lifeR rb rl) HG.out.2 tw.g2 k x y h
  have hk30 := HP.out.2
  have hM3 : M3 ≤ 21 := near_least (c := 0) (d := 0) (by omega) (fun x y h => by have := live1 x y h; omega) lg8
  have hM4 : M4 ≤ 21 := near_least HP.out.1 (fun x y h => by have := live2 x y h; omega) lg9
  have rt91 := rt8.go st8 (by omega) gx9.toGoes1
  have hce1 := cells_rel (t := 1) a1 a3 (by omega) rt91 (by omega) (run_big (c := 0) (d := 0) HG.out.2 tw.g1 hk30 a3 rt91)
  have H9 : Hid (MvL w w9 o9 b w.heap.size rb rl A9 [(u, ys.map (mv X Y)), (vl, someL 30 10 zs)] ∧ NxSt (oneR rb rl) 1 (fun _ => 199999) A9 ∧ Rt A9 1 M4 x2 (iter (lifeR rb rl) k (fun x y => g (x - X) (y - Y))) ∧ M4 ≤ 21 ∧ Twin g ys X Y ∧ (∀ x y, iter (lifeR rb rl) k g x y = true → -(50 : Int) ≤ x ∧ x ≤ 50 ∧ -(50 : Int) ≤ y ∧ y ≤ 50) ∧ (∀ x y, iter (lifeR rb rl) k (fun x y => g (x - X) (y - Y)) x y = true ↔ iter (lifeR rb rl) k g (x - X) (y - Y) = true)) := ⟨Q9, a3, rt9, hM4, tw, fun x y h => by have := live1 x y h; omega, fun x y => by rw [iter_moved]⟩
  clear hst2 a1 a2 a3 hS q8 st8 gx8 gx9 lg8 lg9 rt8 rt9 rt91 Q9 tw cn7 lm7 live1 live2 hk30 hM3 hM4 H7 H8 f0 f1
  go_wp2_with fail
  refine hce1.mono ?_
  rintro e w10 ⟨z1, hz1, nd1, hC1⟩
  obtain ⟨q9, st9, rt9, hM4, tw, near1, same2⟩ := H9.out
  have big2 := run_big HG.out.2 tw.g2 HP.out.2 st9 rt9
  have hx2 : ∀ z2 : List (Int × Int), (∀ p : Int × Int, p ∈ z2 ↔ iter (lifeR rb rl) k (fun x y => g (x - X) (y - Y)) p.1 p.2 = true) → ∀ p : Int × Int, p ∈ z2 ↔ (p.1 - X, p.2 - Y) ∈ z1 := fun z2 h p => by rw [h, same2, hz1]
  have HX2 : Hid (∀ z2 : List (Int × Int), (∀ p : Int × Int, p ∈ z2 ↔ iter (lifeR rb rl) k (fun x y => g (x - X) (y - Y)) p.1 p.2 = true) → ∀ p : Int × Int, p ∈ z2 ↔ (p.1 - X, p.2 - Y) ∈ z1) := hx2
  have HN : Hid (z1.Nodup ∧ ∀ p ∈ z1, -(50 : Int) ≤ p.1 ∧ p.1 ≤ 50 ∧ -(50 : Int) ≤ p.2 ∧ p.2 ≤ 50) := ⟨nd1, fun p hp => near1 _ _ ((hz1 p).1 hp)⟩
  clear hx2 near1 same2 hz1 nd1 tw hce1 H9
  rcases hC1 with ⟨hbig, rfl, hb10⟩ | ⟨hle, u1, ys1, he, t1, r1, hb10⟩
  · have Q10 := q9.grow hb10
    have hce2 := cells_rel (t := 1) Q10.ar st9 (by omega) rt9 (by omega) big2
    have HB : Hid (Below w.heap.size w w10) := Q10.below
    have HL : Hid (4096 < z1.length) := hbig
    clear q9 st9 rt9 hM4 big2 hb10 Q10 hbig
    go_wp2_with fail
    refine hce2.mono ?_
    rintro e w11 ⟨z2, hz2, nd2, hC2⟩
    have hlen := twin_len HN.out.1 nd2 (HX2.out z2 hz2)
    have hl := HL.out
    rcases hC2 with ⟨_, rfl, hb11⟩ | ⟨h, _⟩
    · have HE := HB.out.trans (hb11.mono HB.out.size)
      clear hlen hl hz2 nd2 hce2
      go_wp2_with fail
      go_ret
      exact ⟨rfl, HE⟩
    · omega
  · have hc1 : tcode z1 = 0 := by
      unfold tcode
      rw [if_neg (by omega), if_neg (by rw [any_far (K := 50) (by omega) HN.out.2]; simp)]
    rw [hc1] at he
    subst he
    have Q10 := (q9.grow hb10).more r1
    have hce2 := cells_rel (t := 1) Q10.ar st9 (by omega) rt9 (by omega) big2
    have HL : Hid (z1.length ≤ 4096 ∧ tcode z1 = 0 ∧ Tidied z1 ys1) := ⟨hle, hc1, t1⟩
    obtain ⟨o10, ho10⟩ : ∃ o10, o10 = ext o9 w9.heap.size 0 := ⟨_, rfl⟩
    rw [← ho10] at Q10
    have HQ : Hid (MvL w w10 o10 b w.heap.size rb rl A9 [(u1, ys1), (u, ys.map (mv X Y)), (vl, someL 30 10 zs)]) := Q10
    clear q9 st9 rt9 hM4 big2 hb10 Q10 hle hc1 t1 r1 ho10
    go_wp2_with fail
    refine hce2.mono ?_
    rintro e w11 ⟨z2, hz2, nd2, hC2⟩
    have hlen := twin_len HN.out.1 nd2 (HX2.out z2 hz2)
    have hl := HL.out.1
    rcases hC2 with ⟨h, _⟩ | ⟨hle2, u2, ys2, he, t2, r2, hb11⟩
    · omega
    · have hc2 : tcode z2 = 0 := by
        unfold tcode
        rw [if_neg (by omega), if_neg (by
          rw [any_far (K := 2000000) (by omega) fun p hp => by
            have h1 := HN.out.2 _ ((HX2.out z2 hz2 p).1 hp)
            have h2 := HP.out.1
            simp only at h1
            omega]
          simp)]
      rw [hc2] at he
      subst he
      have Q11 := (HQ.out.grow hb11).more r2
      have hin1 : ∀ p ∈ ys1, -(50 : Int) ≤ p.1 ∧ p.1 ≤ 50 ∧ -(50 : Int) ≤ p.2 ∧ p.2 ≤ 50 := fun p hp => HN.out.2 p ((HL.out.2.2.2 p).1 hp).1
      have hlen1 : ys1.length ≤ 4096 := Nat.le_trans (tidied_len HL.out.2.2) hl
      obtain ⟨d1, d2⟩ := near_tidied HL.out.2.2.1 hlen1 (any_far (K := 50) (by omega) hin1)
      have hy2 : ys2 = ys1.map (mv X Y) := twin_tidy HL.out.2.2.1 t2.1 fun p => by
        rw [t2.2 p, HL.out.2.2.2]
        constructor
        · exact fun h => ⟨(HX2.out z2 hz2 p).1 h.1, HL.out.2.1⟩
        · exact fun h => ⟨(HX2.out z2 hz2 p).2 h.1, hc2⟩
      have hfar : (far2 X || far2 Y) = false ∧ (ys1.map (mv X Y)).any farP = false := by
        have h2 := HP.out.1
        refine ⟨by simp [far2]; omega, any_far (K := 2000000) (by omega) fun p hp => ?_⟩
        have h1 := hin1 _ (mem_mv.1 hp)
        simp only at h1
        omega
      have hsh := shift_any u1 ys1 X Y w11 (Q11.rows (u1, ys1) (by simp)).row
      have HS : Hid (tcode ys1 = 0 ∧ Tidied ys1 ys1 ∧ (far2 X || far2 Y) = false ∧ (ys1.map (mv X Y)).any farP = false) := ⟨d1, d2, hfar.1, hfar.2⟩
      obtain ⟨o11, ho11⟩ : ∃ o11, o11 = ext o10 w10.heap.size 0 := ⟨_, rfl⟩
      rw [← ho11, hy2] at Q11
      have HQ2 : Hid (MvL w w11 o11 b w.heap.size rb rl A9 [(u2, ys1.map (mv X Y)), (u1, ys1), (u, ys.map (mv X Y)), (vl, someL 30 10 zs)]) := Q11
      clear hlen hl hz2 nd2 hce2 hle2 hc2 t2 r2 hb11 Q11 hin1 hlen1 d1 d2 hy2 hfar ho11 HQ
      go_wp2_with fail
      refine hsh.mono ?_
      rintro e w12 ⟨u3, ys3, t3, rfl, hb12, r3⟩
      have hy3 : ys3 = ys1 := t3.unique HS.out.2.1
      rw [hy3, HS.out.1, shiftF_ok HS.out.2.2.1 HS.out.2.2.2] at r3
      rw [hy3, HS.out.1, shiftF_ok HS.out.2.2.1 HS.out.2.2.2]
      have Q12 := (HQ2.out.grow hb12).more r3
      have hsm := same_any u2 u3 (ys1.map (mv X Y)) w12 (Q12.rows (u2, ys1.map (mv X Y)) (by simp)).row (Q12.rows (u3, ys1.map (mv X Y)) (by simp)).row
      have HB : Hid (Below w.heap.size w w12) := Q12.below
      clear hsh t3 hb12 r3 hy3 Q12 HQ2 HS
      go_wp2_with fail
      refine hsm.mono ?_
      rintro e w13 ⟨rfl, hb13⟩
      have HE := HB.out.trans (hb13.mono HB.out.size)
      clear hsm
      go_wp2_with fail
      go_ret
      exact ⟨rfl, HE⟩
end Go.Proofs.YtofbcngcblleaaaGreat.A
namespace Go.Proofs.YtofbcngcblleaaaGreat
open Go.ChangeShapes Go.WideShapes Go.ChangeAt Go.RowKit Go.Joins

theorem open_cellrow {H : Type} {enc : TypeId × Value → H} {W : World} {v : Value} {d : DataW H} {ps : List MemPlace} {ts : List TypeId} {ds : List (DataW H)} (j : Nat)
    (hs : (DataW.weightsEach Tryz.prog ts ds).all (· ≤ reachBytes) = true) (hj : ts[j]? = some 24) (hd : ds[j]? = some d)
    (h : DataW.Trod enc Tryz.prog W 0 (fun _ => true) true 24 v d ps) (hlt : ∀ x ∈ ps, x.block < W.heap.size) (hv : ∃ a len cap, v = .slice a len cap) :
    ∃ zs : List (Int × Int), RRow W v zs := by
  obtain ⟨n, X, Y, ⟨a, c, hv, hc, hm, ha, hp⟩, hn, hf⟩ := open_row j hs hj hd h hlt hv
  refine ⟨zip2 n X Y, a, c, by rw [zip2_length]; exact hv, by rw [zip2_length]; exact hc, hm, ha, ?_⟩
  rw [zip2_length]
  rcases hp with hp | ⟨b, off, e, hb, hp⟩
  · exact Or.inl hp
  · refine Or.inr ⟨b, off, e, hb, fun i hi => ?_⟩
    simp only [zip2_get n X Y i hi]
    exact hp i hi
theorem Tryz.cells23 : Tryz.prog.cellsOf 23 = 2 := by kernel_rfl
set_option maxRecDepth 100000 in
/-- a rule among the arguments, opened -/
theorem open_arule {H : Type} {enc : TypeId × Value → H} {W : World} {v : Value} {d : DataW H} {p : List MemPlace} {r : Reach} {b0 : Nat} {spare : Nat → Bool}
    (hv : Value.okWide Tryz.prog W r b0 23 v) (h : DataW.Trod enc Tryz.prog W 0 spare true 23 v d p) :
    ∃ b l : Int, v = .agg #[.int .i64 b, .int .i64 l] ∧ p = [] ∧ ∀ (W' : World) (sp : Nat → Bool), DataW.Trod enc Tryz.prog W' 0 sp true 23 v d [] := by
  obtain ⟨v0, v1, ⟨y0, p0⟩, ⟨y1, p1⟩, n, rfl, rfl, rfl, h0, h1⟩ := open_agg2 Tryz.underlying23 (by kernel_rfl) Tryz.cells23 hv h
  obtain ⟨x, e0, d0, w0⟩ := DataW.trod_int Tryz.underlying3 h0
  obtain ⟨y, e1, d1, w1⟩ := DataW.trod_int Tryz.underlying3 h1
  simp only [List.cons.injEq, and_true, Prod.mk.injEq] at e0 e1 d0 d1
  obtain ⟨rfl, rfl⟩ := d0
  obtain ⟨rfl, rfl⟩ := d1
  subst e0 e1
  refine ⟨x, y, rfl, rfl, fun W' sp => ?_⟩
  exact shut_agg2 (y0 := (.lit (.int .i64 x), [])) (y1 := (.lit (.int .i64 y), [])) Tryz.underlying23 (by kernel_rfl) Tryz.cells23 ⟨_, trod_int_mk 0 Tryz.underlying3 w0⟩ ⟨_, trod_int_mk 0 Tryz.underlying3 w1⟩
section
variable {H : Type} {enc : TypeId × Value → H} {P : Program} {w : World} {base : Nat} {spare : Nat → Bool} {held : Bool}
theorem trodAll_5 {t t' t'' t3 t4 : TypeId} {args : Array Value} {ds : List (DataW H)} {ps : List MemPlace} (h : DataW.TrodAll enc P w base spare held [t, t', t'', t3, t4] args.toList ds ps) :
    ∃ v v' v'' v3 v4 d d' d'' d3 d4 p p' p'' p3 p4, args = #[v, v', v'', v3, v4] ∧ ds = [d, d', d'', d3, d4] ∧ ps = p ++ p' ++ p'' ++ p3 ++ p4 ∧ DataW.Trod enc P w base spare held t v d p ∧ DataW.Trod enc P w base spare held t' v' d' p' ∧ DataW.Trod enc P w base spare held t'' v'' d'' p'' ∧ DataW.Trod enc P w base spare held t3 v3 d3 p3 ∧ DataW.Trod enc P w base spare held t4 v4 d4 p4 := by
  obtain ⟨v, vs, d, ds', p, q, hargs, rfl, rfl, hd, hrest⟩ := trodAll_cons h
  obtain ⟨v', vs', d', ds'', p', q', rfl, rfl, rfl, hd', hrest'⟩ := trodAll_cons hrest
  obtain ⟨v'', vs'', d'', ds''', p'', q'', rfl, rfl, rfl, hd'', hrest''⟩ := trodAll_cons hrest'
  obtain ⟨v3, vs3, d3, ds3, p3, q3, rfl, rfl, rfl, hd3, hrest3⟩ := trodAll_cons hrest''
  obtain ⟨v4, vs4, d4, ds4, p4, q4, rfl, rfl, rfl, hd4, hrest4⟩ := trodAll_cons hrest3
  obtain ⟨rfl, rfl, rfl⟩ := trodAll_nil hrest4
  exact ⟨v, v', v'', v3, v4, d, d', d'', d3, d4, p, p', p'', p3, p4, by cases args; simp_all, rfl, by simp, hd, hd', hd'', hd3, hd4⟩
end
set_option maxRecDepth 100000 in
theorem moves_lifted (os : Os) (started : os.Started) (H : Type) (enc : TypeId × Value → H) :
    ReturnsInHanded {} Tryz.checked os 6 .any (Rows.leapMovesSpec.pre6 enc Tryz.prog Tryz.f6 Rows.leapMovesRow.domain false) (Rows.leapMovesSpec.post enc Tryz.prog Tryz.f6 false true false false) := by
  refine returnsInHanded_of_change_sized (C := Tryz.checked) (by kernel_rfl) started (by kernel_rfl) Tryz.func6
    (ChangeSpec.witness6 (enc := enc) (C := Tryz.checked) false ⟨#[], #[.agg #[.int .i64 0, .int .i64 0], .slice none 0 0, .int .i64 0, .int .i64 0, .int .i64 0], []⟩ 8 (by kernel_rfl) (by kernel_rfl) (by kernel_rfl) (by kernel_rfl)) ?_
  intro W base args ds gs before hval0 hW _ hsz0 _
  have hsz : (DataW.weightsEach Tryz.prog (Tryz.f6.params.toList ++ Rows.leapMovesSpec.plain.varTypes Tryz.prog) (ds ++ gs)).all (· ≤ reachBytes) = true := hsz0
  clear hsz0
  have hval : ∀ (j : Nat) t v, Tryz.f6.params[j]? = some t → args[j]? = some v → Value.okWide Tryz.prog W .any base t v := hval0
  have hW' := hW
  obtain ⟨p, q, hA0, hV, rfl, _, _⟩ := hW
  have hA : DataW.TrodAll enc Tryz.prog W 0 (fun _ => true) true Tryz.f6.params.toList args.toList ds p := hA0
  rw [Tryz.params6] at hA hval hsz
  obtain ⟨v0, v1, v2, v3, v4, d0, d1, d2, d3, d4, p0, p1, p2, p3, p4, rfl, rfl, rfl, h0, h1, h2, h3, h4⟩ := trodAll_5 hA
  obtain ⟨rfl, rfl⟩ := trodVars_none hV
  obtain ⟨b, l, rfl, rfl, hr⟩ := open_arule (hval 0 23 v0 rfl rfl) h0
  obtain ⟨dx, rfl, rfl, rfl, wx⟩ := open_int Tryz.underlying3 (hval 2 3 v2 rfl rfl) h2
  obtain ⟨dy, rfl, rfl, rfl, wy⟩ := open_int Tryz.underlying3 (hval 3 3 v3 rfl rfl) h3
  obtain ⟨n, rfl, rfl, rfl, wn⟩ := open_int Tryz.underlying3 (hval 4 3 v4 rfl rfl) h4
  clear hA0 hval0
  simp only [List.append_nil, List.nil_append] at hW'
  have hlt : ∀ x ∈ p1, x.block < W.heap.size := fun x hx => by simpa using hW'.lt x (by simpa using hx)
  obtain ⟨zs, hrow⟩ := open_cellrow 1 hsz rfl rfl h1 hlt (by obtain ⟨a, l, c, e⟩ := okWide_slice Tryz.underlying24 (hval 1 24 v1 rfl rfl); exact ⟨a, l, c, e⟩)
  have hargs : ∀ (W' : World), Below W.heap.size W W' → DataW.Trod enc Tryz.prog W' 0 (fun b => decide (b < W.heap.size)) true 24 v1 d1 p1 :=
    fun W' hb => Below.trod Tryz.laidOut (by kernel_rfl) (of_decide_eq_true (by kernel_rfl)) h1 hb hlt
  refine (A.moves_law b l v1 zs dx dy n W hrow).mono fun e W' ⟨he, hb⟩ => ?_
  subst he
  refine ⟨_, rfl, _, _, _, [], [] ++ (p1 ++ ([] ++ ([] ++ []))), [], hW', ?_, ?_, rfl, hb.frame _, fun h => by cases h⟩
  · exact trodAll_mk1 (shut_bool Tryz.underlying4 true)
  · exact ⟨_, _, hr _ _, trodAll_mk4 (hargs _ hb) (shut_int Tryz.underlying3 wx) (shut_int Tryz.underlying3 wy) (shut_int Tryz.underlying3 wn), rfl⟩

theorem moves_holds : Rows.LeapMovesSaid :=
  OpenClaim.holds_of_wide 6 Tryz.f6 rfl rfl rfl rfl rfl rfl rfl ⟨rfl, rfl, rfl, rfl, rfl⟩ rfl rfl rfl rfl rfl (by kernel_rfl) Tryz.func6 (by kernel_rfl)
    (of_decide_eq_true (by kernel_rfl)) (by unfold Func.isWrapper; first | (rw [if_pos (by decide +kernel)]; kernel_rfl) | (rw [if_neg (by decide +kernel)]; exact ⟨rfl, rfl⟩))
    (fun os started H enc _ => moves_lifted os started H enc)

#print axioms moves_holds
end Go.Proofs.YtofbcngcblleaaaGreat
