/- What LeapQuota has in memory: two arenas. -/
import Derived.Test.YtofbcngcblleaaaGreatQuCount
import Derived.Test.YtofbcngcblleaaaGreatLpMovesN
import Derived.Test.YtofbcngcblleaaaGreatLpSteps
import Derived.Test.YtofbcngcblleaaaGreatLpBoxD
import Derived.Test.YtofbcngcblleaaaGreatLpWideC
import Derived.Test.YtofbcngcblleaaaGreatLpStepsX
import Derived.Test.YtofbcngcblleaaaGreatArHand
namespace Go.Proofs.YtofbcngcblleaaaGreat.A
open Go.RowKit Go.Lib Go.Sort
def far2 (n : Int) : Bool := decide (n ≤ -2199023255552) || decide (2199023255552 ≤ n)
def mv (dx dy : Int) (p : Int × Int) : Int × Int := (p.1 + dx, p.2 + dy)
def shiftF (ys : List (Int × Int)) (tc dx dy : Int) : Int × List (Int × Int) :=
  if tc ≠ 0 then (tc, []) else if (far2 dx || far2 dy) = true then (3, []) else if (ys.map (mv dx dy)).any farP = true then (3, []) else (0, ys.map (mv dx dy))
def half (ys : List (Int × Int)) (dx dy : Int) (k : Nat) : List (Int × Int) := (ys.take k).map (mv dx dy) ++ ys.drop k
theorem tidied_near {zs ys : List (Int × Int)} (h : Tidied zs ys) : ys.any farP = false := by
  rw [List.any_eq_false]
  intro p hp
  obtain ⟨h1, h2⟩ := (h.2 p).1 hp
  unfold tcode at h2
  by_cases c1 : 4096 < zs.length
  · rw [if_pos c1] at h2; omega
  · rw [if_neg c1] at h2
    by_cases c2 : zs.any farP = true
    · rw [if_pos c2] at h2; omega
    · have := List.any_eq_false.1 (by simpa using c2) p h1
      exact this
theorem len_le : ∀ {ys zs : List (Int × Int)}, ys.Nodup → (∀ p, p ∈ ys → p ∈ zs) → ys.length ≤ zs.length
  | [], _, _, _ => Nat.zero_le _
  | p :: r, zs, hn, hs => by
    have h1 := List.nodup_cons.1 hn
    have hp : p ∈ zs := hs p (by simp)
    have h2 : r.length ≤ (zs.erase p).length := len_le h1.2 fun q hq => by
      have hne : q ≠ p := fun e => h1.1 (by rw [← e]; exact hq)
      exact (List.mem_erase_of_ne hne).2 (hs q (by simp [hq]))
    have h3 := List.length_erase_of_mem hp
    have h4 : 0 < zs.length := List.length_pos_of_mem hp
    rw [List.length_cons]
    omega
theorem tidied_short {zs ys : List (Int × Int)} (h : Tidied zs ys) (hz : tcode zs = 0) : ys.length ≤ 4096 := by
  have h1 : ys.Nodup := by
    refine h.1.imp ?_
    intro a b hab e
    subst e
    exact ahead_irrefl a hab
  have h2 : ys.length ≤ zs.length := len_le h1 (fun p hp => ((h.2 p).1 hp).1)
  have h3 : zs.length ≤ 4096 := by
    unfold tcode at hz
    by_cases c1 : 4096 < zs.length
    · rw [if_pos c1] at hz; omega
    · omega
  omega
def ShiftOut (zs : List (Int × Int)) (dx dy : Int) (w : World) (e : Ending) (w' : World) : Prop :=
  ∃ u ys, Tidied zs ys ∧ e = .returned (.tuple #[u, .int .i64 (shiftF ys (tcode zs) dx dy).1]) ∧ Below w.heap.size w w' ∧ ORow w' w.heap.size u (shiftF ys (tcode zs) dx dy).2
end Go.Proofs.YtofbcngcblleaaaGreat.A

namespace Go.Proofs.YtofbcngcblleaaaGreat.A
open Go.RowKit Go.Maps Go.Proofs.YtofbcngcblleaaaGreat.L
variable {ys zs ts : List (Int × Int)} {dx dy : Int}
theorem near_tidied (h : Tidy ys) (hl : ys.length ≤ 4096) (hf : ys.any farP = false) : tcode ys = 0 ∧ Tidied ys ys := by
  have hc : tcode ys = 0 := by
    unfold tcode
    rw [if_neg (by omega), if_neg (by rw [hf]; simp)]
  exact ⟨hc, h, fun p => ⟨fun hp => ⟨hp, hc⟩, fun hp => hp.1⟩⟩
end Go.Proofs.YtofbcngcblleaaaGreat.A

namespace Go.Proofs.YtofbcngcblleaaaGreat.A
open Go.RowKit Go.Lib Go.Sort
end Go.Proofs.YtofbcngcblleaaaGreat.A

namespace Go.Proofs.YtofbcngcblleaaaGreat.A
open Go.RowKit Go.Maps Go.Proofs.YtofbcngcblleaaaGreat.L
variable {w w1 w2 : World} {o o1 : Nat → Nat} {v : Value} {zs : List (Int × Int)}
def LRow (w : World) (o : Nat → Nat) (v : Value) (zs : List (Int × Int)) : Prop :=
  (zs = [] ∧ v = .slice none 0 0) ∨ (zs ≠ [] ∧ ∃ b off c, v = .slice (some ⟨b, off, none⟩) zs.length c ∧ o b ≠ 1 ∧ b < w.heap.size ∧ zs.length ≤ c ∧ c ≤ maxLen ∧ HoldsR w b off zs)
theorem LRow.row (h : LRow w o v zs) : Row w v zs := by
  rcases h with h | ⟨h0, b, off, c, h1, _, h2, h3, h4, h5⟩
  · exact Or.inl h
  · exact Or.inr ⟨h0, b, off, c, h1, h2, h3, h4, h5⟩
theorem LRow.ch (h : LRow w o v zs) (k : Ch (fun l => l = 1) o w o1 w1) : LRow w1 o1 v zs := by
  rcases h with h | ⟨h0, b, off, c, h1, hl, h2, h3, h4, h5⟩
  · exact Or.inl h
  · have hb := k.block b h2 hl
    exact Or.inr ⟨h0, b, off, c, h1, by rw [k.lab b h2]; exact hl, Nat.lt_of_lt_of_le h2 k.size, h3, h4, fun j hj => ⟨(World.cell?_of_block (a := ⟨b, off + j * 2, none⟩) hb).trans (h5 j hj).1, (World.cell?_of_block (a := ⟨b, off + j * 2 + 1, none⟩) hb).trans (h5 j hj).2⟩⟩
theorem LRow.of (h : Row w v zs) (hl : ∀ k, k < w.heap.size → o k ≠ 1) : LRow w o v zs := by
  rcases h with h | ⟨h0, b, off, c, h1, h2, h3, h4, h5⟩
  · exact Or.inl h
  · exact Or.inr ⟨h0, b, off, c, h1, hl b h2, h2, h3, h4, h5⟩
theorem LRow.own {base : Nat} (h : ORow w base v zs) (hl : ∀ k, base ≤ k → k < w.heap.size → o k ≠ 1) : LRow w o v zs := by
  rcases h with h | ⟨h0, b, off, c, h1, hb, h2, h3, h4, h5⟩
  · exact Or.inl h
  · exact Or.inr ⟨h0, b, off, c, h1, hl b hb h2, h2, h3, h4, HoldsA.read h5⟩
structure MvL (w W : World) (o : Nat → Nat) (b rk : Nat) (rb rl : Int) (A : Ar) (rows : List (Value × List (Int × Int))) : Prop where
  ar : ArL W o b A
  rule : W.heap[rk]? = some (.cells #[.int .i64 rb, .int .i64 rl] 23 (0, 0))
  lr : o rk ≠ 1
  rows : ∀ x ∈ rows, LRow W o x.1 x.2
  below : Below w.heap.size w W
  low : ∀ k, k < w.heap.size → o k ≠ 1
variable {W W' : World} {o' : Nat → Nat} {b rk : Nat} {rb rl : Int} {A A' : Ar} {rows : List (Value × List (Int × Int))}
theorem MvL.lt (h : MvL w W o b rk rb rl A rows) : rk < W.heap.size := (Array.getElem?_eq_some_iff.1 h.rule).1
theorem MvL.ch (h : MvL w W o b rk rb rl A rows) (k : Ch (fun l => l = 1) o W o' W') (hA : ArL W' o' b A') : MvL w W' o' b rk rb rl A' rows := by
  have hs := h.below.size
  refine ⟨hA, (k.block rk h.lt h.lr).trans h.rule, by rw [k.lab rk h.lt]; exact h.lr, fun x hx => (h.rows x hx).ch k, ⟨k.os.trans h.below.os, k.tape.trans h.below.tape, k.output.trans h.below.output, Nat.le_trans hs k.size, fun i hi => (k.block i (by omega) (h.low i hi)).trans (h.below.block i hi)⟩, fun i hi => by rw [k.lab i (by omega)]; exact h.low i hi⟩
theorem MvL.grow (h : MvL w W o b rk rb rl A rows) (k : Below W.heap.size W W') : MvL w W' (ext o W.heap.size 0) b rk rb rl A rows :=
  h.ch (Ch.ofBelow k 0) (h.ar.ch (L := fun _ => False) (Ch.ofBelow k 0) fun h => h)
theorem MvL.more {u : Value} {ys : List (Int × Int)} (h : MvL w W' (ext o W.heap.size 0) b rk rb rl A rows) (hr : ORow W' W.heap.size u ys) : MvL w W' (ext o W.heap.size 0) b rk rb rl A ((u, ys) :: rows) :=
  ⟨h.ar, h.rule, h.lr, fun x hx => by
    rcases List.mem_cons.1 hx with rfl | hx
    · exact LRow.own hr fun k hk _ => by rw [ext_new hk]; decide
    · exact h.rows x hx, h.below, h.low⟩
def sqC (c d : Int) (M : Nat) : List (Int × Int) := (List.range M).flatMap fun (i : Nat) => (List.range M).map fun (j : Nat) => (c + (i : Int), d + (j : Int))
theorem sqC_len (c d : Int) (M : Nat) : (sqC c d M).length = M * M := by
  unfold sqC
  rw [flat_len2 _ M _ fun i _ => by simp]
  simp
theorem sqC_in {c d : Int} {M : Nat} {X Y : Int} (h1 : c ≤ X) (h2 : X < c + M) (h3 : d ≤ Y) (h4 : Y < d + M) : (X, Y) ∈ sqC c d M :=
  List.mem_flatMap.2 ⟨(X - c).toNat, List.mem_range.2 (by omega), List.mem_map.2 ⟨(Y - d).toNat, List.mem_range.2 (by omega), Prod.ext (by simp only; omega) (by simp only; omega)⟩⟩
end Go.Proofs.YtofbcngcblleaaaGreat.A

namespace Go.Proofs.YtofbcngcblleaaaGreat.A
open Go.RowKit Go.Maps Go.Proofs.YtofbcngcblleaaaGreat.L
variable {R : Bool → Nat → Bool} {rn : Int} {S : Item → Prop} {g : Gr} {dx dy : Int}
def gs (k : Nat) : Nat := 2 ^ (k - 2)
def posL (d : Int) (k : Nat) : List Int := (List.range 6).map fun (i : Nat) => (d / (gs k : Int) - 4 + (i : Int)) * (gs k : Int)
def picL (g : Gr) (dx dy : Int) (k : Nat) : List Gr := noP :: (posL dx k).flatMap fun a => (posL dy k).map fun b => pic g a b k
def oneL (rn : Int) (k : Nat) (P : Gr) : List Item := .sq k P :: (List.range 31).map fun (j : Nat) => .nt rn k P (j : Int)
def stillL (g : Gr) (rn dx dy : Int) : List Item := (List.range 41).flatMap fun k => (picL g dx dy k).flatMap fun P => oneL rn k P
end Go.Proofs.YtofbcngcblleaaaGreat.A

namespace Go.Proofs.YtofbcngcblleaaaGreat.A
open Go.RowKit Go.Maps Go.Proofs.YtofbcngcblleaaaGreat.L
def gB : Gr := fun u v => decide ((u = 0 ∨ u = 1) ∧ (v = 0 ∨ v = 1))
def blockL (dx dy : Int) : List (Int × Int) := [(dx, dy), (dx + 1, dy), (dx, dy + 1), (dx + 1, dy + 1)]
theorem cells_few {PR : (Bool → Nat → Bool) → Int → Prop} {t : Nat} {q : Nat → Int} {A : Ar} {m : Nat} {x : Int} {g : Gr} (hst : NxSt PR t q A) (ht : t < 64) (h : Rt A t m x g) (X : List (Int × Int)) (hX : ∀ X' Y', g X' Y' = true → (X', Y') ∈ X) : (cellsF A.ths (m + 1) x).length ≤ X.length := by
  have hg : glevel A.ths x = some ((m + 1 : Nat) : Int) := glevel_of (t := t) (by rw [levelF_V]; exact h.lev)
  have hn := cells_nodup (good_of hst.s hst.g) (m + 1) x hg
  have hl : (shiftL (halfN (m + 1) : Int) (halfN (m + 1) : Int) X).length = X.length := by unfold shiftL; rw [List.length_map]
  rw [← hl]
  refine hn.length_le_of_subset fun p hp => mem_shift.2 (hX _ _ ?_)
  have := (h.cells hst ht (p.1 - (halfN (m + 1) : Int), p.2 - (halfN (m + 1) : Int))).1 (mem_abs.2 (by simp only [Int.sub_add_cancel]; exact hp))
  exact this
end Go.Proofs.YtofbcngcblleaaaGreat.A

namespace Go.Proofs.YtofbcngcblleaaaGreat.A
open Go.RowKit Go.Maps Go.Proofs.YtofbcngcblleaaaGreat.L
def oneR (rb rl : Int) (R : Bool → Nat → Bool) (rn : Int) : Prop := R = lifeR rb rl ∧ rn = rnum rb rl
theorem oneR_u (rb rl : Int) : ∀ R R' rn, oneR rb rl R rn → oneR rb rl R' rn → R = R' := fun _ _ _ h k => h.1.trans k.1.symm
theorem root_one {PR : (Bool → Nat → Bool) → Int → Prop} {t : Nat} {q : Nat → Int} {A : Ar} {N M : Nat} {x y : Int} {g : Gr} (hst : NxSt PR t q A) (ht : t < 64) (h1 : LeastG (N + 1) g) (h2 : LeastG (M + 1) g) (hx : Rt A t N x g) (hy : Rt A t M y g) : x = y := by
  have e := h1.unique h2
  have e' : N = M := by omega
  subst e'
  have hw := hst.g.wel t ht
  refine sq_one (uq_view hst.s t) (N + 1) (isSq_of_lev hw hst.p _ _ hx.lev) (isSq_of_lev hw hst.p _ _ hy.lev) fun X Y hX hY => ?_
  rw [hx.shows X Y hX hY, hy.shows X Y hX hY]
end Go.Proofs.YtofbcngcblleaaaGreat.A

namespace Go.Proofs.YtofbcngcblleaaaGreat.A
open Go.RowKit Go.Maps Go.Proofs.YtofbcngcblleaaaGreat.L
variable {w : World} {o : Nat → Nat} {b t : Nat} {A : Ar} {PR : (Bool → Nat → Bool) → Int → Prop} {q : Nat → Int} {g : Gr} {id : Int}
def CellsR (g : Gr) (w : World) (x : Ending) (w' : World) : Prop :=
  ∃ zs : List (Int × Int), (∀ p : Int × Int, p ∈ zs ↔ g p.1 p.2 = true) ∧ zs.Nodup ∧ ((4096 < zs.length ∧ x = .returned (.tuple #[.slice none 0 0, .int .i64 5]) ∧ Below w.heap.size w w') ∨ (zs.length ≤ 4096 ∧ ∃ u ys, x = .returned (.tuple #[u, .int .i64 (tcode zs)]) ∧ Tidied zs ys ∧ ORow w' w.heap.size u ys ∧ Below w.heap.size w w'))
theorem shift_nodup {dx dy : Int} {zs : List (Int × Int)} (h : zs.Nodup) : (shiftL dx dy zs).Nodup := by
  unfold shiftL
  refine List.Pairwise.map _ (fun a b hab e => hab ?_) h
  have h1 := congrArg Prod.fst e
  have h2 := congrArg Prod.snd e
  simp only at h1 h2
  exact Prod.ext (by omega) (by omega)
theorem cells_rel {n : Nat} (hA : ArL w o b A) (hst : NxSt PR t q A) (ht : t < 64) (hrt : Rt A t n id g) (hn : n + 1 ≤ 44) (hlen : (cellsF A.ths (n + 1) id).length < 4611686018427387904) :
    Calls Tryz.prog 14 #[.pointer (some ⟨b, 0, none⟩), .int .i64 t, .int .i64 id] w (CellsR g w) := by
  obtain ⟨F, hFA, hF1⟩ := hA
  obtain ⟨L, hat⟩ := hFA.ar
  have hI := inv_of hst.s hst.g L
  have hl : levelF A.ths t id = some ((n + 1 : Nat) : Int) := by rw [levelF_V]; exact hrt.lev
  have hf : A.ths.length < 1000000 := by have := hst.s.len; have := hst.s.room1; omega
  have hG : Good A.ths := good_of hst.s hst.g
  have hmem := hrt.cells hst ht
  have hnd : (absC A.ths (n + 1) id).Nodup := shift_nodup (cells_nodup hG (n + 1) id (glevel_of hl))
  have hsl : (absC A.ths (n + 1) id).length = (cellsF A.ths (n + 1) id).length := shift_len _ _ _
  by_cases hbig : (cellsF A.ths (n + 1) id).length ≤ 4096
  · refine (Cells_root b _ t (n + 1) id F _ w hat hI ht hst.s.mask hf hl (by omega) hn hbig).mono ?_
    rintro x w' ⟨u, ys, rfl, h1, h2, h3⟩
    exact ⟨_, hmem, hnd, Or.inr ⟨by rw [hsl]; exact hbig, u, ys, rfl, h1, h2, h3⟩⟩
  · refine (Cells_full b _ t n id F _ w hat hI ht hst.s.mask hf hl hn (Nat.lt_of_not_le hbig) hlen).mono ?_
    rintro x w' ⟨rfl, h3⟩
    exact ⟨_, hmem, hnd, Or.inl ⟨by rw [hsl]; omega, rfl, h3⟩⟩
end Go.Proofs.YtofbcngcblleaaaGreat.A

namespace Go.Proofs.YtofbcngcblleaaaGreat.A
open Go.RowKit Go.Maps Go.Proofs.YtofbcngcblleaaaGreat.L
theorem near_least {g : Gr} {c d : Int} {N : Nat} (hd : 0 ≤ c ∧ c < 1048576 ∧ 0 ≤ d ∧ d < 1048576) (hg : ∀ X Y, g X Y = true → c - (50 : Nat) ≤ X ∧ X < c + (50 : Nat) ∧ d - (50 : Nat) ≤ Y ∧ Y < d + (50 : Nat)) (hL : LeastG (N + 1) g) : N ≤ 21 := by
  have := least_le hL (M := 21) (by omega) fun X Y h => by
    have := hg X Y h
    omega
  omega
theorem from_least {ys : List (Int × Int)} {t N : Nat} {A : Ar} {p : Int} (h2 : 1 ≤ N) (f1 : LeastLv (N + 1) ys) (hrt : Rt A t N p (cellsG ys)) : LeastG (N + 1) (cellsG ys) := by
  refine ⟨by omega, hrt.out, fun j h2 hj hf => f1.least j h2 hj fun p hp => ?_⟩
  obtain ⟨j', rfl⟩ : ∃ j', j = j' + 1 := ⟨j - 1, by omega⟩
  rw [halfN_succ, powI]
  have h3 := hf p.1 p.2 (by unfold cellsG; simpa using hp)
  rw [Nat.add_sub_cancel] at h3
  exact h3
theorem from_fine {PR : (Bool → Nat → Bool) → Int → Prop} {A A' : Ar} {ys : List (Int × Int)} {p e' : Int} (hst : NxSt PR 1 (fun _ => 199999) A') (h : FromR 1 A A' ys p e') (hl : ys.length ≤ 30) (hc : A.cnt 1 ≤ 1500) (hlim : A.lim 1 = 200000) : e' = 0 ∧ A'.cnt 1 ≤ A.cnt 1 + 1300 ∧ A'.lim 1 = 200000 ∧ Goes1 1 A A' ∧ ∃ N, 1 ≤ N ∧ Rt A' 1 N p (cellsG ys) ∧ LeastG (N + 1) (cellsG ys) := by
  obtain ⟨N, f1, f2, f3, f4, f5⟩ := h
  have h1 := from_count f4 hst (by omega) (by omega)
  have h2 : (N + 1) * ys.length ≤ 41 * 30 := Nat.mul_le_mul (by omega) hl
  have h3 : A'.lim 1 = 200000 := f4.lim.trans hlim
  have hne : ¬ Er e' := gx_fine f4 hst (by show A'.cnt 1 < 199999; omega) (by omega)
  rcases f5 with ⟨h, _⟩ | ⟨h, hrt⟩
  · exact absurd h hne
  · exact ⟨h, by omega, h3, f4.toGoes1, N, f2, hrt, from_least f2 f1 hrt⟩
end Go.Proofs.YtofbcngcblleaaaGreat.A

namespace Go.Proofs.YtofbcngcblleaaaGreat.A
open Go.RowKit Go.Maps Go.Proofs.YtofbcngcblleaaaGreat.L
variable {w W W' : World} {o o' oa ob oa' : Nat → Nat} {a b rk : Nat} {rb rl : Int} {A B A' : Ar} {rows : List (Value × List (Int × Int))}
structure MvT (w W : World) (oa ob : Nat → Nat) (a b rk : Nat) (rb rl : Int) (A B : Ar) (rows : List (Value × List (Int × Int))) : Prop where
  a : MvL w W oa a rk rb rl A rows
  b : MvL w W ob b rk rb rl B rows
  ap : ∀ k, k < W.heap.size → ob k = 1 → oa k ≠ 1
variable {R : Bool → Nat → Bool} {rn : Int} {g : Gr} {PR : (Bool → Nat → Bool) → Int → Prop}
theorem tidied_exists (zs : List (Int × Int)) (hc : tcode zs = 0) : ∃ ys, Tidied zs ys := by
  have key : ∀ l : List (Int × Int), ∃ ys, Tidy ys ∧ ∀ p, p ∈ ys ↔ p ∈ l := fun l => by
    induction l with
    | nil => exact ⟨[], List.Pairwise.nil, fun _ => Iff.rfl⟩
    | cons c r ih =>
      obtain ⟨ys, h1, h2⟩ := ih
      have d : ∀ p q : Int × Int, Decidable (ahead p q) := fun p q => by unfold ahead; infer_instance
      refine ⟨ys.filter (fun p => decide (ahead p c)) ++ c :: ys.filter (fun p => decide (ahead c p)), ?_, fun p => ?_⟩
      · unfold Tidy at h1 ⊢
        rw [List.pairwise_append, List.pairwise_cons]
        refine ⟨h1.filter _, ⟨fun q hq => by simpa using (List.mem_filter.1 hq).2, h1.filter _⟩, fun a ha q hq => ?_⟩
        have h3 : ahead a c := by simpa using (List.mem_filter.1 ha).2
        rcases List.mem_cons.1 hq with rfl | hq
        · exact h3
        · exact ahead_trans h3 (by simpa using (List.mem_filter.1 hq).2)
      · rw [List.mem_append, List.mem_cons, List.mem_filter, List.mem_filter, List.mem_cons, ← h2 p]
        constructor
        · rintro (⟨h, _⟩ | h | ⟨h, _⟩)
          · exact .inr h
          · exact .inl h
          · exact .inr h
        · rintro (h | h)
          · exact .inr (.inl h)
          · rcases ahead_or p c with e | e | e
            · exact .inl ⟨h, by simpa using e⟩
            · exact .inr (.inl e)
            · exact .inr (.inr ⟨h, by simpa using e⟩)
  obtain ⟨ys, h1, h2⟩ := key zs
  exact ⟨ys, h1, fun p => by rw [h2 p]; simp [hc]⟩
theorem same_tidied {z1 z2 ys1 ys2 : List (Int × Int)} (h : ∀ p, p ∈ z2 ↔ p ∈ z1) (hl : z2.length = z1.length) (t1 : Tidied z1 ys1) (t2 : Tidied z2 ys2) : tcode z2 = tcode z1 ∧ ys2 = ys1 := by
  have hc : tcode z2 = tcode z1 := by
    have hf : z2.any farP = z1.any farP := by
      rw [Bool.eq_iff_iff, List.any_eq_true, List.any_eq_true]
      exact ⟨fun ⟨p, hp, h1⟩ => ⟨p, (h p).1 hp, h1⟩, fun ⟨p, hp, h1⟩ => ⟨p, (h p).2 hp, h1⟩⟩
    unfold tcode
    rw [hl, hf]
  exact ⟨hc, tidy_unique _ _ t2.1 t1.1 fun p => by rw [t2.2 p, t1.2 p, h p, hc]⟩
end Go.Proofs.YtofbcngcblleaaaGreat.A
