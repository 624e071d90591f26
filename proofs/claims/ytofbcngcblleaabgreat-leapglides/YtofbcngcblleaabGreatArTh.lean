/- Things by their numbers. -/
import Derived.Test.YtofbcngcblleaabGreatArLay
namespace Go.Proofs.YtofbcngcblleaabGreat.A
open Go.RowKit Go.Maps Go.ChangeMaps Go.WideElems
theorem look_num {w : World} {mp n : Nat} {D : DataW Unit} {l : List Th} (h : w.ownsMap Tryz.prog 75 (plainElem Tryz.prog 3) mp n D) (hn : NumIs D l) {q : Ky} (hq : q.Fit) (hk : q.k ≠ 0) :
    (Instr.lookup 63 (.map (some mp)) q.val true).run Tryz.prog w = .ok (.tuple #[.int .i64 (numF l q), .bool (spotF l q).isSome]) w := by
  obtain ⟨v, ps, hrun, hv⟩ := h.look_ok thLaw Tryz.underlying63 (Tryz.zero3 w) (plainElem_int (H := Unit) Tryz.underlying3 (show (Lit.int .i64 0).wf = true by decide)) (key_ky hq)
  obtain ⟨h1, h2⟩ := hn q hq hk
  rw [h2] at hv
  obtain ⟨a, rfl, hz, _⟩ := plainElem_int_inv Tryz.underlying3 hv
  simp at hz
  rw [hrun, h1, hz.1]
theorem More.step {F : Nat → Prop} {w w1 w2 : World} (hs : w.heap.size ≤ w1.heap.size) {k : Nat} (h : More F w1 w2 k) : More F w w2 k := by
  rcases h with h | h
  · exact Or.inl h
  · exact Or.inr ⟨by omega, h.2⟩
theorem More.lt {F : Nat → Prop} {w w2 : World} (hF : ∀ k, F k → k < w.heap.size) (hs : w.heap.size ≤ w2.heap.size) {k : Nat} (h : More F w w2 k) : k < w2.heap.size := by
  rcases h with h | h
  · have := hF k h; omega
  · exact h.2
def ArAt (w : World) (b : Nat) (F : Nat → Prop) (n : Nat) (A : Ar) : Prop := ∃ r D, ArRaw w b F n A r D
instance : Inhabited Th := ⟨noTh⟩
def Ar.become (A : Ar) (t : Nat) (x : Th) : Ar × Int × Int :=
  match spotF A.ths x.key with
  | some i => if (A.ths[i]!).mask.testBit t = true then (A, (i : Int) + 2, 0) else if A.lim t ≤ A.cnt t then (A, 0, 9) else (A.give t i (A.ths[i]!), (i : Int) + 2, 0)
  | none => if A.lim t ≤ A.cnt t then (A, 0, 9) else (({ A with ths := A.ths ++ [x] } : Ar).give t A.ths.length x, (A.ths.length : Int) + 2, 0)
set_option maxRecDepth 20000 in
set_option maxHeartbeats 4000000 in
theorem become_there (b n t i : Nat) (F : Nat → Prop) (A : Ar) (r : Raw) (D : DataW Unit) (x y : Th) (w : World) (h : ArRaw w b F n A r D) (hx : x.key.Fit) (hk : x.k ≠ 0) (hs : spotF A.ths x.key = some i) (hy : A.ths[i]? = some y) (hm : ∀ z ∈ A.ths, z.mask < 18446744073709551616) (ht : t < 64) (hlen : A.ths.length < 1000000) (hown : y.mask.testBit t = true) :
    Calls Tryz.prog 28 #[.pointer (some ⟨b, 0, none⟩), .int .i64 t, x.val] w fun e w' => e = .returned (.tuple #[.int .i64 ((i : Int) + 2), .int .i64 0]) ∧ Below w.heap.size w w' := by
  have hblt := h.raw.lt
  have hbx : Below w.heap.size w (w.alloc (.cells #[.int .i64 x.k, .int .i64 x.p0, .int .i64 x.p1, .int .i64 x.p2, .int .i64 x.p3, .int .i64 x.lv, .int .i64 x.va, .int .u64 x.mask] 78)) := (Below.refl _ _).alloc (Nat.le_refl _) _
  have hX : (w.alloc (.cells #[.int .i64 x.k, .int .i64 x.p0, .int .i64 x.p1, .int .i64 x.p2, .int .i64 x.p3, .int .i64 x.lv, .int .i64 x.va, .int .u64 x.mask] 78)).heap[w.heap.size]? = some (.cells #[.int .i64 x.k, .int .i64 x.p0, .int .i64 x.p1, .int .i64 x.p2, .int .i64 x.p3, .int .i64 x.lv, .int .i64 x.va, .int .u64 x.mask] 78 (0, 0)) := heap_alloc_new w _
  have hilt : i < A.ths.length := (List.getElem?_eq_some_iff.1 hy).1
  have hio := fun W => isOwn_any y t W (hm y (List.mem_of_getElem? hy)) ht
  rw [hown] at hio
  unfold Th.val
  go_enter Tryz.func28, Tryz.ntmps28
  go_wp2_with fail
  generalize hW0 : w.alloc (.cells #[.int .i64 x.k, .int .i64 x.p0, .int .i64 x.p1, .int .i64 x.p2, .int .i64 x.p3, .int .i64 x.lv, .int .i64 x.va, .int .u64 x.mask] 78) = W0 at *
  have HSZ : Hid (W0.heap.size = w.heap.size + 1) := by show _ = _; rw [← hW0]; simp
  clear hW0
  have H0 := h.below hbx
  obtain ⟨d0, d1, d2, d3, d4, d5, d6, d7⟩ := cells8 hX
  have c2 := H0.raw.at 2 (by omega)
  rw [Raw.c2] at c2
  have c1 := H0.raw.at 1 (by omega)
  obtain ⟨g, c, hv⟩ := H0.ths.shape' (by omega)
  rw [Raw.c1, hv] at c1
  have hth := H0.ths
  rw [hv] at hth
  obtain ⟨e0, e1, e2, e3, e4, e5, e6, e7⟩ := hth.cells hy
  have hlk := look_num (w := W0.drew) H0.drew.map H0.num hx hk
  rw [hs] at hlk
  have hnum : numF A.ths x.key = (i : Int) + 2 := by unfold numF; rw [hs]
  rw [hnum] at hlk
  unfold Ky.val Th.key at hlk
  simp only [Option.isSome_some] at hlk
  have hin : (i : Int) < (A.ths.length : Int) := by omega
  have hi0 : (0 : Int) ≤ i := by omega
  generalize A.ths.length = len at *
  go_region
  all_goals
    go_wp2_with fail
    refine (hio _).mono ?_
    rintro e w1 ⟨rfl, hb1⟩
    go_wp2_with fail
    go_ret2
    exact ⟨rfl, (hbx.drew).trans (hb1.mono hbx.size)⟩
set_option maxRecDepth 20000 in
set_option maxHeartbeats 4000000 in
theorem become_else (b n t i : Nat) (F : Nat → Prop) (A : Ar) (r : Raw) (D : DataW Unit) (x y : Th) (w : World) (h : ArRaw w b F n A r D) (hx : x.key.Fit) (hk : x.k ≠ 0) (hs : spotF A.ths x.key = some i) (hy : A.ths[i]? = some y) (hm : ∀ z ∈ A.ths, z.mask < 18446744073709551616) (ht : t < 64) (hlen : A.ths.length < 1000000) (hown : y.mask.testBit t = false)
    (hcnt : 0 ≤ A.cnt t ∧ A.cnt t < 4611686018427387904) (hlf : (A.fresh t).length < 10000000) :
    Calls Tryz.prog 28 #[.pointer (some ⟨b, 0, none⟩), .int .i64 t, x.val] w fun e w' => if A.lim t ≤ A.cnt t then e = .returned (.tuple #[.int .i64 0, .int .i64 9]) ∧ Below w.heap.size w w' else e = .returned (.tuple #[.int .i64 ((i : Int) + 2), .int .i64 0]) ∧ ArAt w' b (More F w w') n (A.give t i y) ∧ Apart F w w' := by
  have hblt := h.raw.lt
  have hbx : Below w.heap.size w (w.alloc (.cells #[.int .i64 x.k, .int .i64 x.p0, .int .i64 x.p1, .int .i64 x.p2, .int .i64 x.p3, .int .i64 x.lv, .int .i64 x.va, .int .u64 x.mask] 78)) := (Below.refl _ _).alloc (Nat.le_refl _) _
  have hX : (w.alloc (.cells #[.int .i64 x.k, .int .i64 x.p0, .int .i64 x.p1, .int .i64 x.p2, .int .i64 x.p3, .int .i64 x.lv, .int .i64 x.va, .int .u64 x.mask] 78)).heap[w.heap.size]? = some (.cells #[.int .i64 x.k, .int .i64 x.p0, .int .i64 x.p1, .int .i64 x.p2, .int .i64 x.p3, .int .i64 x.lv, .int .i64 x.va, .int .u64 x.mask] 78 (0, 0)) := heap_alloc_new w _
  have hilt : i < A.ths.length := (List.getElem?_eq_some_iff.1 hy).1
  have hmy := hm y (List.mem_of_getElem? hy)
  have hio := fun W => isOwn_any y t W hmy ht
  rw [hown] at hio
  have HG : Hid (∀ W, ArRaw W b F n A r D → _) := fun W hW => give_any b t i n F ((i : Int) + 2) A r D y W hW hy rfl ht hmy (by omega) hcnt hlf
  generalize hP : (fun (e : Ending) (w' : World) => if A.lim t ≤ A.cnt t then e = .returned (.tuple #[.int .i64 0, .int .i64 9]) ∧ Below w.heap.size w w' else e = .returned (.tuple #[.int .i64 ((i : Int) + 2), .int .i64 0]) ∧ ArAt w' b (More F w w') n (A.give t i y) ∧ Apart F w w') = Post
  have HP : Hid (_ = Post) := hP
  clear hP
  unfold Th.val
  go_enter Tryz.func28, Tryz.ntmps28
  go_wp2_with fail
  generalize hW0 : w.alloc (.cells #[.int .i64 x.k, .int .i64 x.p0, .int .i64 x.p1, .int .i64 x.p2, .int .i64 x.p3, .int .i64 x.lv, .int .i64 x.va, .int .u64 x.mask] 78) = W0 at *
  have HSZ : Hid (W0.heap.size = w.heap.size + 1) := by show _ = _; rw [← hW0]; simp
  clear hW0
  have H0 := h.below hbx
  obtain ⟨d0, d1, d2, d3, d4, d5, d6, d7⟩ := cells8 hX
  have c2 := H0.raw.at 2 (by omega)
  rw [Raw.c2] at c2
  have c1 := H0.raw.at 1 (by omega)
  obtain ⟨g, c, hv⟩ := H0.ths.shape' (by omega)
  rw [Raw.c1, hv] at c1
  have hth := H0.ths
  rw [hv] at hth
  obtain ⟨e0, e1, e2, e3, e4, e5, e6, e7⟩ := hth.cells hy
  have hlk := look_num (w := W0.drew) H0.drew.map H0.num hx hk
  rw [hs] at hlk
  have hnum : numF A.ths x.key = (i : Int) + 2 := by unfold numF; rw [hs]
  rw [hnum] at hlk
  unfold Ky.val Th.key at hlk
  simp only [Option.isSome_some] at hlk
  have hin : (i : Int) < (A.ths.length : Int) := by omega
  have hi0 : (0 : Int) ≤ i := by omega
  have h0 : (0 : Int) ≤ t := by omega
  have h1 : (t : Int) < 64 := by omega
  generalize A.ths.length = len at *
  go_region
  all_goals
    go_wp2_with fail
    refine (hio _).mono ?_
    rintro e w1 ⟨rfl, hb1⟩
    have hbw1 : Below w.heap.size w w1 := (hbx.drew).trans (hb1.mono hbx.size)
    have H1 := h.below hbw1
    have cl := H1.raw.at (4 + t * 3) (by omega)
    rw [Raw.cl, H1.lim t ht] at cl
    have cc := H1.raw.at (4 + t * 3 + 1) (by omega)
    rw [Raw.cc, H1.cnt t ht] at cc
    clear c1 c2 d0 d1 d2 d3 d4 d5 d6 d7 e0 e1 e2 e3 e4 e5 e6 e7 hlk hth
    by_cases hq : A.lim t ≤ A.cnt t
    · have hq' : decide (A.lim t ≤ A.cnt t) = true := by simpa using hq
      go_wp2_with fail
      go_quiet (fail)
      go_wp2_with fail
      rw [← HP.out]
      simp only [if_pos hq]
      exact ⟨rfl, ⟨hbw1.os, hbw1.tape, hbw1.output, hbw1.size, hbw1.block⟩⟩
    · have hq' : decide (A.lim t ≤ A.cnt t) = false := by simpa using hq
      go_wp2_with fail
      go_quiet (fail)
      go_wp2_with fail
      refine (HG.out _ (H1.drewN _)).mono ?_
      rintro e w2 ⟨rfl, ⟨r2, D2, H2⟩, P2⟩
      go_wp2_with fail
      rw [← HP.out]
      simp only [if_neg (show ¬ A.lim t ≤ A.cnt t by omega)]
      have a1 : Apart F w (w1.drewN nq) := Apart.drewN (Apart.of hbw1) nq
      exact ⟨rfl, ⟨r2, D2, H2.wider (fun k hk => More.step hbw1.size hk) (fun k hk => (More.lt (fun k hk => h.flt k hk) (Nat.le_trans hbw1.size P2.size) hk))⟩, a1.trans P2 fun k hk => Or.inl hk⟩
end Go.Proofs.YtofbcngcblleaabGreat.A

namespace Go.Proofs.YtofbcngcblleaabGreat.A
open Go.RowKit Go.Maps
def thAt (l : List Th) (id : Int) : Th := (l[(id - 2).toNat]?).getD noTh
def Uniq (l : List Th) : Prop := ∀ (i j : Nat) (x y : Th), l[i]? = some x → l[j]? = some y → x.k ≠ 0 → x.key = y.key → i = j
def ownN (l : List Th) (u : Nat) : Nat := l.countP fun x => x.mask.testBit u
def liveN (l : List Th) : Nat := l.countP fun x => x.k != 0
theorem upd_upd {α : Type} (f : Nat → α) (t : Nat) (x y : α) : upd (upd f t x) t y = upd f t y := by
  funext u
  unfold upd
  split <;> rfl
theorem upd_self {α : Type} (f : Nat → α) (t : Nat) : upd f t (f t) = f := by
  funext u
  unfold upd
  split
  · rename_i h; rw [h]
  · rfl
theorem key_k {x y : Th} (h : x.key = y.key) : x.k = y.k := congrArg Ky.k h
theorem spot_none {l : List Th} {q : Ky} (h : spotF l q = none) : ∀ x ∈ l, x.key ≠ q := by
  unfold spotF at h
  rw [List.findIdx?_eq_none_iff] at h
  intro x hx e
  have := h x hx
  simp [e] at this
end Go.Proofs.YtofbcngcblleaabGreat.A
