/- A leaper's small deeds: number, level, join. -/
import Derived.Test.YtofbcngcblleaabGreatLpOne
import Derived.Test.YtofbcngcblleaabGreatArGlob
import Derived.Test.YtofbcngcblleaabGreatArNote
import Derived.Test.YtofbcngcblleaabGreatArBack
import Derived.Test.YtofbcngcblleaabGreatArReach
import Derived.BigQuiet
import Derived.Deep.CutRange
namespace Go.Proofs.YtofbcngcblleaabGreat.A
open Go.RowKit Go.Proofs.YtofbcngcblleaabGreat.L
def QV (v : Vw) : Qs4 := fun id => match v.V id with
  | some f => if f.1.k = 1 then some (f.1.p0, f.1.p1, f.1.p2, f.1.p3) else none
  | none => none
theorem QV_some {v : Vw} {id : Int} {f : Ky × Int × Int} (h : v.V id = some f) (hk : f.1.k = 1) : QV v id = some (f.1.p0, f.1.p1, f.1.p2, f.1.p3) := by
  unfold QV
  rw [h]
  exact if_pos hk
def Sees (v v' : Vw) : Prop := ∀ id f, v.V id = some f → v'.V id = some f
theorem Sees.refl (v : Vw) : Sees v v := fun _ _ h => h
theorem Sees.trans {v v1 v2 : Vw} (h : Sees v v1) (k : Sees v1 v2) : Sees v v2 := fun id f hf => k id f (h id f hf)
theorem Sees.ext {v v' : Vw} (h : Sees v v') : Ext (QV v) (QV v') := fun id q hq => by
  unfold QV at hq ⊢
  cases hv : v.V id with
  | none => rw [hv] at hq; cases hq
  | some f => rw [hv] at hq; rw [h id f hv]; exact hq
theorem Sees.more {v : Vw} {id : Int} {f : Ky × Int × Int} (hn : v.V id = none) : Sees v (v.more id f) := fun k g hg => by
  show (if k = id then some f else v.V k) = some g
  rw [if_neg fun e => by rw [e, hn] at hg; cases hg]
  exact hg
theorem Sees.lev {v v' : Vw} (h : Sees v v') {id a : Int} (hl : levV v.V id = some a) : levV v'.V id = some a := by
  unfold levV at hl ⊢
  split at hl
  · rename_i h0; rw [if_pos h0]; exact hl
  · rename_i h0
    rw [if_neg h0]
    cases hv : v.V id with
    | none => rw [hv] at hl; cases hl
    | some f => rw [hv] at hl; rw [h id f hv]; exact hl
def PosL (v : Vw) : Prop := ∀ id f, v.V id = some f → f.1.k = 1 → 1 ≤ f.2.1
theorem isSq_of_lev {v : Vw} (hw : Wel v) (hp : PosL v) : ∀ (n : Nat) (id : Int), levV v.V id = some (n : Int) → IsSq (QV v) n id
  | 0, id, h => by
    unfold levV at h
    split at h
    · rename_i h0; exact h0
    · cases hv : v.V id with
      | none => rw [hv] at h; cases h
      | some f =>
        rw [hv] at h
        simp only at h
        split at h
        · rename_i hk
          have := hp id f hv hk
          have h2 := Option.some.inj h
          omega
        · cases h
  | n + 1, id, h => by
    unfold levV at h
    split at h
    · have := Option.some.inj h; omega
    · cases hv : v.V id with
      | none => rw [hv] at h; cases h
      | some f =>
        rw [hv] at h
        simp only at h
        split at h
        · rename_i hk
          have h2 := Option.some.inj h
          have hr : refsV f = [f.1.p0, f.1.p1, f.1.p2, f.1.p3] := by unfold refsV; rw [if_pos hk]
          have hl : ∀ r ∈ refsV f, levV v.V r = some (n : Int) := fun r hr => by rw [hw.lev id f hv hk r hr, h2]; congr 1; omega
          rw [hr] at hl
          exact ⟨_, QV_some hv hk, isSq_of_lev hw hp n _ (hl _ (by simp)), isSq_of_lev hw hp n _ (hl _ (by simp)), isSq_of_lev hw hp n _ (hl _ (by simp)), isSq_of_lev hw hp n _ (hl _ (by simp))⟩
        · cases h
def NotesOk (R : Bool → Nat → Bool) (rn : Int) (v : Vw) : Prop := ∀ id f (n j : Nat), v.V id = some f → f.1.k = 2 → f.1.p1 = rn → levV v.V f.1.p0 = some ((n + 2 : Nat) : Int) → f.1.p2 = (j : Int) → j ≤ n → Nx R (QV v) n f.1.p0 j f.2.2
theorem pos_more {v : Vw} {id : Int} {f : Ky × Int × Int} (h : PosL v) (hf : f.1.k = 1 → 1 ≤ f.2.1) : PosL (v.more id f) := by
  intro k g hg hk
  change (if k = id then some f else v.V k) = some g at hg
  split at hg
  · cases hg; exact hf hk
  · exact h k g hg hk
end Go.Proofs.YtofbcngcblleaabGreat.A

namespace Go.Proofs.YtofbcngcblleaabGreat.A
open Go.RowKit Go.Proofs.YtofbcngcblleaabGreat.L
structure Ch (L : Nat → Prop) (o : Nat → Nat) (w : World) (o' : Nat → Nat) (w' : World) : Prop where
  os : w'.os = w.os
  tape : w'.tape = w.tape
  output : w'.output = w.output
  size : w.heap.size ≤ w'.heap.size
  lab : ∀ k, k < w.heap.size → o' k = o k
  block : ∀ k, k < w.heap.size → ¬ L (o k) → w'.heap[k]? = w.heap[k]?
def ext (o : Nat → Nat) (s l : Nat) : Nat → Nat := fun k => if k < s then o k else l
theorem ext_old {o : Nat → Nat} {s l k : Nat} (h : k < s) : ext o s l k = o k := by unfold ext; rw [if_pos h]
theorem ext_new {o : Nat → Nat} {s l k : Nat} (h : s ≤ k) : ext o s l k = l := by unfold ext; rw [if_neg (by omega)]
theorem ext_is {o : Nat → Nat} {s l k : Nat} (h : o k = l) : ext o s l k = l := by unfold ext; split; exact h; rfl
variable {L M : Nat → Prop} {o o1 o2 : Nat → Nat} {w w1 w2 : World}
theorem Ch.refl (L : Nat → Prop) (o : Nat → Nat) (w : World) : Ch L o w o w := ⟨rfl, rfl, rfl, Nat.le_refl _, fun _ _ => rfl, fun _ _ _ => rfl⟩
theorem Ch.trans (h : Ch L o w o1 w1) (k : Ch L o1 w1 o2 w2) : Ch L o w o2 w2 :=
  ⟨k.os.trans h.os, k.tape.trans h.tape, k.output.trans h.output, Nat.le_trans h.size k.size, fun i hi => (k.lab i (Nat.lt_of_lt_of_le hi h.size)).trans (h.lab i hi), fun i hi hn => (k.block i (Nat.lt_of_lt_of_le hi h.size) (by rw [h.lab i hi]; exact hn)).trans (h.block i hi hn)⟩
theorem Ch.mono (h : Ch L o w o1 w1) (hm : ∀ k, L k → M k) : Ch M o w o1 w1 := ⟨h.os, h.tape, h.output, h.size, h.lab, fun k hk hn => h.block k hk fun e => hn (hm _ e)⟩
theorem Ch.ofBelow (h : Below w.heap.size w w1) (l : Nat) : Ch L o w (ext o w.heap.size l) w1 := ⟨h.os, h.tape, h.output, h.size, fun _ hk => ext_old hk, fun k hk _ => h.block k hk⟩
theorem Ch.set (o : Nat → Nat) (w : World) (a : Addr) (u : Value) (h : L (o a.block)) : Ch L o w o (w.setCell a u) :=
  ⟨rfl, rfl, rfl, by simp [World.setCell], fun _ _ => rfl, fun k _ hn => Below.heap_setCell _ _ _ _ fun e => hn (e ▸ h)⟩
theorem Ch.drew (h : Ch L o w o1 w1) : Ch L o w o1 w1.drew := ⟨h.os, h.tape, h.output, h.size, h.lab, h.block⟩
theorem Ch.drewN (h : Ch L o w o1 w1) (n : Nat) : Ch L o w o1 (w1.drewN n) := ⟨h.os, h.tape, h.output, h.size, h.lab, h.block⟩
theorem Ch.at (h : Ch L o w o1 w1) {k l : Nat} (hk : k < w.heap.size) (hl : o k = l) (hn : ¬ L l) : w1.heap[k]? = w.heap[k]? ∧ o1 k = l := ⟨h.block k hk (by rw [hl]; exact hn), (h.lab k hk).trans hl⟩
def ArL (w : World) (o : Nat → Nat) (b : Nat) (A : Ar) : Prop := ∃ F, AtP w b F A ∧ ∀ k, F k → o k = 1
theorem ArL.ch {b : Nat} {A : Ar} (h : ArL w o b A) (k : Ch L o w o1 w1) (hn : ¬ L 1) : ArL w1 o1 b A := by
  obtain ⟨F, h1, h2⟩ := h
  exact ⟨F, h1.other k.size fun i hi => (k.at (h1.flt i hi) (h2 i hi) hn).1, fun i hi => (k.at (h1.flt i hi) (h2 i hi) hn).2⟩
theorem led_ch {b : Nat} {F : Nat → Prop} {A : Ar} (hF : ∀ k, F k → o k = 1) (h : Led w b F A w1) : ArL w1 (ext o w.heap.size 1) b A ∧ Ch (fun l => l = 1) o w (ext o w.heap.size 1) w1 := by
  obtain ⟨F', h1, h2, h3⟩ := h
  refine ⟨⟨F', h2, fun k hk => ?_⟩, h3.os, h3.tape, h3.output, h3.size, fun _ hk => ext_old hk, fun k hk hn => h3.block k hk fun f => hn (hF k f)⟩
  rcases h1 k hk with h4 | h4
  · exact ext_is (hF k h4)
  · exact ext_new h4
def LpB (w : World) (lb b : Nat) (t : Nat) (rb rl e : Int) : Prop := w.heap[lb]? = some (.cells #[.pointer (some ⟨b, 0, none⟩), .int .i64 t, .int .i64 rb, .int .i64 rl, .int .i64 e] 88 (0, 0))
structure LS (w : World) (o : Nat → Nat) (lb b t : Nat) (rb rl e : Int) (A : Ar) : Prop where
  blk : LpB w lb b t rb rl e
  lab : o lb = 2
  ar : ArL w o b A
theorem LS.lt {lb b t : Nat} {rb rl e : Int} {A : Ar} (h : LS w o lb b t rb rl e A) : lb < w.heap.size := (Array.getElem?_eq_some_iff.1 h.blk).1
def AL (l : Nat) : Prop := l = 1 ∨ l = 2
theorem LS.ch {lb b t : Nat} {rb rl e : Int} {A : Ar} (h : LS w o lb b t rb rl e A) (k : Ch L o w o1 w1) (hn : ∀ l, L l → ¬ AL l) : LS w1 o1 lb b t rb rl e A :=
  ⟨(k.at h.lt h.lab fun e => hn 2 e (.inr rfl)).1.trans h.blk, (k.at h.lt h.lab fun e => hn 2 e (.inr rfl)).2, h.ar.ch k fun e => hn 1 e (.inl rfl)⟩
theorem LS.below {lb b t : Nat} {rb rl e : Int} {A : Ar} (h : LS w o lb b t rb rl e A) (hb : Below w.heap.size w w1) : LS w1 (ext o w.heap.size 0) lb b t rb rl e A := h.ch (L := fun _ => False) (Ch.ofBelow hb 0) fun _ h => h.elim
theorem LS.drew {lb b t : Nat} {rb rl e : Int} {A : Ar} (h : LS w o lb b t rb rl e A) : LS w.drew o lb b t rb rl e A := h.ch ((Ch.refl (fun _ => False) o w).drew) fun _ h => h.elim
theorem LS.setA {lb b t : Nat} {rb rl e : Int} {A A' : Ar} (h : LS w o lb b t rb rl e A) (k : Ch (fun l => l = 1) o w o1 w1) (hA : ArL w1 o1 b A') : LS w1 o1 lb b t rb rl e A' :=
  ⟨(k.at h.lt h.lab (by omega)).1.trans h.blk, (k.at h.lt h.lab (by omega)).2, hA⟩
theorem LS.setE {lb b t : Nat} {rb rl e : Int} {A : Ar} (h : LS w o lb b t rb rl e A) (e' : Int) : LS (w.setCell ⟨lb, 4, none⟩ (.int .i64 e')) o lb b t rb rl e' A ∧ Ch AL o w o (w.setCell ⟨lb, 4, none⟩ (.int .i64 e')) := by
  have k : Ch (fun l => l = 2) o w o (w.setCell ⟨lb, 4, none⟩ (.int .i64 e')) := Ch.set o w ⟨lb, 4, none⟩ _ h.lab
  exact ⟨⟨Go.Joins.block_setCell h.blk _, h.lab, h.ar.ch k (by omega)⟩, k.mono fun _ h => .inr h⟩
theorem AtP.drew' {b : Nat} {F : Nat → Prop} {A : Ar} (h : AtP w b F A) : AtP w.drew b F A := h.other (Nat.le_refl _) fun _ _ => rfl
theorem one_AL : ∀ l, l = 1 → AL l := fun _ h => .inl h
theorem LS.cells {lb b t : Nat} {rb rl e : Int} {A : Ar} (h : LS w o lb b t rb rl e A) : w.cell? ⟨lb, 0, none⟩ = some (.pointer (some ⟨b, 0, none⟩)) ∧ w.cell? ⟨lb, 1, none⟩ = some (.int .i64 t) ∧ w.cell? ⟨lb, 2, none⟩ = some (.int .i64 rb) ∧ w.cell? ⟨lb, 3, none⟩ = some (.int .i64 rl) ∧ w.cell? ⟨lb, 4, none⟩ = some (.int .i64 e) ∧ w.frozen? ⟨lb, 4, none⟩ = false :=
  ⟨Lib.cell_of_heap h.blk 0, Lib.cell_of_heap h.blk 1, Lib.cell_of_heap h.blk 2, Lib.cell_of_heap h.blk 3, Lib.cell_of_heap h.blk 4, Lib.frozen_of_heap h.blk 4⟩
structure OnlyL (b : Nat) (w w' : World) : Prop where
  os : w'.os = w.os
  tape : w'.tape = w.tape
  output : w'.output = w.output
  size : w.heap.size ≤ w'.heap.size
  block : ∀ k, k < w.heap.size → k ≠ b → w'.heap[k]? = w.heap[k]?
theorem OnlyL.of {b : Nat} (h : Below w.heap.size w w1) : OnlyL b w w1 := ⟨h.os, h.tape, h.output, h.size, fun k hk _ => h.block k hk⟩
theorem OnlyL.set {b : Nat} (h : OnlyL b w w1) (a : Addr) (v : Value) (ha : a.block = b ∨ w.heap.size ≤ a.block) : OnlyL b w (w1.setCell a v) :=
  ⟨h.os, h.tape, h.output, by rw [show (w1.setCell a v).heap.size = w1.heap.size by simp [World.setCell]]; exact h.size, fun k hk hn => (Below.heap_setCell _ _ _ _ (by rcases ha with e | e <;> omega)).trans (h.block k hk hn)⟩
theorem LS.after {lb b t : Nat} {rb rl e e' : Int} {A : Ar} (h : LS w o lb b t rb rl e A) (k : OnlyL lb w w1) (hb : LpB w1 lb b t rb rl e') : LS w1 (ext o w.heap.size 0) lb b t rb rl e' A ∧ Ch AL o w (ext o w.heap.size 0) w1 := by
  have hlt := h.lt
  have hc : Ch (fun l => l = 2) o w (ext o w.heap.size 0) { w1 with heap := w1.heap } := ⟨k.os, k.tape, k.output, k.size, fun _ hk => ext_old hk, fun i hi hn => k.block i hi fun e => hn (by rw [e]; exact h.lab)⟩
  exact ⟨⟨hb, by rw [ext_old hlt]; exact h.lab, h.ar.ch hc (by omega)⟩, hc.mono fun _ h => .inr h⟩
theorem LpB.set {lb b t : Nat} {rb rl e : Int} (h : LpB w lb b t rb rl e) (e' : Int) : LpB (w.setCell ⟨lb, 4, none⟩ (.int .i64 e')) lb b t rb rl e' := Go.Joins.block_setCell h _
theorem LpB.far {lb b t : Nat} {rb rl e : Int} (h : LpB w lb b t rb rl e) (a : Addr) (v : Value) (ha : lb ≠ a.block) : LpB (w.setCell a v) lb b t rb rl e := (Below.heap_setCell _ _ _ _ ha).trans h
end Go.Proofs.YtofbcngcblleaabGreat.A

namespace Go.Proofs.YtofbcngcblleaabGreat.A
open Go.RowKit Go.Proofs.YtofbcngcblleaabGreat.L
variable {w : World} {o : Nat → Nat} {lb b t : Nat} {rb rl e : Int} {A : Ar}
def rnum (rb rl : Int) : Int := bits BinOp.xor IntKind.i64 (-1) (bits BinOp.or IntKind.i64 (rb * 512) rl)
theorem rnum_fits (rb rl : Int) : Fits (rnum rb rl) := by
  unfold rnum
  generalize bits BinOp.or IntKind.i64 (rb * 512) rl = x
  unfold bits
  simp only
  rw [IntKind.wrap_i64]
  unfold Fits
  omega
set_option maxRecDepth 20000 in
theorem number_any (h : LS w o lb b t rb rl e A) (h0 : 0 ≤ rb) (h1 : rb ≤ 511) :
    Calls Tryz.prog 84 #[.pointer (some ⟨lb, 0, none⟩)] w fun e w' => e = .returned (.int .i64 (rnum rb rl)) ∧ ∃ n, w' = w.drewN n := by
  obtain ⟨_, _, c2, c3, _, _⟩ := h.cells
  clear h
  go_enter Tryz.func84, Tryz.ntmps84
  go_wp2_with fail
  go_quiet (fail)
  go_wp2_with fail
  go_ret
  all_goals first | exact ⟨rfl, _, rfl⟩ | (rename_i hh; exact absurd hh (by decide))
theorem lpLevel_ok (h : LS w o lb b t rb rl 0 A) (hS : Sound A) (ht : t < 64) (id : Int) (hid : Fits id) :
    Calls Tryz.prog 60 #[.pointer (some ⟨lb, 0, none⟩), .int .i64 id] w fun e w' => e = .returned (.int .i64 ((levelF A.ths t id).getD 0)) ∧ ∃ o', LS w' o' lb b t rb rl (lack (levelF A.ths t id)) A ∧ Ch AL o w o' w' := by
  obtain ⟨c0, c1, _, _, c4, z4⟩ := h.cells
  obtain ⟨F, ha, hF⟩ := h.ar
  obtain ⟨LL, r, D, hr, _⟩ := ha.drew'
  have hl := Level_any b 0 t id r A.ths w.drew hr.raw hr.ths ht hS.mask hid
  have HH : Hid (LS w o lb b t rb rl 0 A) := h
  have KC : Hid (∀ W, Below w.drew.heap.size w.drew W → W.cell? ⟨lb, 4, none⟩ = some (.int .i64 0) ∧ W.frozen? ⟨lb, 4, none⟩ = false) := fun W hW => by
    obtain ⟨_, _, _, _, k4, k5⟩ := (HH.out.drew.below hW).cells
    exact ⟨k4, k5⟩
  generalize levelF A.ths t id = ol at *
  clear h ha hr
  go_enter Tryz.func60, Tryz.ntmps60
  go_wp2_with fail
  go_region_with (go_at_call 21; refine hl.mono ?_; rintro e w1 ⟨rfl, hb1⟩; obtain ⟨q4, q5⟩ := KC.out w1 hb1)
  all_goals
    go_wp2_with fail
    go_ret
    have h1 := HH.out.drew.below hb1
    obtain ⟨h2, k2⟩ := h1.setE (lack ol)
    exact ⟨rfl, _, h2, Ch.trans (Ch.ofBelow (o := o) (⟨hb1.os, hb1.tape, hb1.output, hb1.size, hb1.block⟩ : Below w.heap.size w w1) 0) k2⟩
set_option maxRecDepth 20000 in
set_option maxHeartbeats 2000000 in
theorem lpJoin_ok (h : LS w o lb b t rb rl 0 A) (hS : Sound A) (ht : t < 64) (q0 q1 q2 q3 : Int) (h0 : Fits q0) (h1 : Fits q1) (h2 : Fits q2) (h3 : Fits q3) :
    Calls Tryz.prog 100 #[.pointer (some ⟨lb, 0, none⟩), quad4 q0 q1 q2 q3] w fun e w' => e = .returned (.int .i64 (A.joinP t q0 q1 q2 q3).2.1) ∧ ∃ o', LS w' o' lb b t rb rl (A.joinP t q0 q1 q2 q3).2.2 (A.joinP t q0 q1 q2 q3).1 ∧ Ch AL o w o' w' := by
  have hbx : Below w.heap.size w (w.alloc (.cells #[.int .i64 q0, .int .i64 q1, .int .i64 q2, .int .i64 q3] 41)) := (Below.refl _ _).alloc (Nat.le_refl _) _
  have hx := h.below hbx
  obtain ⟨c0, c1, _, _, c4, z4⟩ := hx.cells
  have HK : Hid (Ch AL o w (ext o w.heap.size 0) (w.alloc (.cells #[.int .i64 q0, .int .i64 q1, .int .i64 q2, .int .i64 q3] 41))) := Ch.ofBelow hbx 0
  generalize ext o w.heap.size 0 = o1 at *
  generalize hwx : w.alloc (.cells #[.int .i64 q0, .int .i64 q1, .int .i64 q2, .int .i64 q3] 41) = wx at *
  have HWX : Hid (w.alloc (.cells #[.int .i64 q0, .int .i64 q1, .int .i64 q2, .int .i64 q3] 41) = wx) := hwx
  have d0 : wx.cell? ⟨w.heap.size, 0, none⟩ = some (.int .i64 q0) := by rw [← hwx]; simp
  have d1 : wx.cell? ⟨w.heap.size, 1, none⟩ = some (.int .i64 q1) := by rw [← hwx]; simp
  have d2 : wx.cell? ⟨w.heap.size, 2, none⟩ = some (.int .i64 q2) := by rw [← hwx]; simp
  have d3 : wx.cell? ⟨w.heap.size, 3, none⟩ = some (.int .i64 q3) := by rw [← hwx]; simp
  obtain ⟨F, ha, hF⟩ := hx.drew.ar
  have hj := joinP_any b t q0 q1 q2 q3 F A wx.drew ha hS ht h0 h1 h2 h3
  have HX : Hid (LS wx o1 lb b t rb rl 0 A ∧ ∀ k, F k → o1 k = 1) := ⟨hx, hF⟩
  unfold JoinPOut at hj
  obtain ⟨P, hP⟩ : ∃ P, P = A.joinP t q0 q1 q2 q3 := ⟨_, rfl⟩
  rw [← hP] at hj ⊢
  clear hP h hbx hx ha hF
  unfold quad4 at hj ⊢
  go_enter Tryz.func100, Tryz.ntmps100
  go_wp2_with fail
  (try rw [hwx])
  clear hwx
  go_region_with (go_at_call 10; refine hj.mono ?_; rintro e w1 ⟨rfl, hled⟩; obtain ⟨a1, k1⟩ := led_ch HX.out.2 hled; have hs1 := HX.out.1.drew.setA k1 a1; obtain ⟨_, _, _, _, q4, q5⟩ := hs1.cells)
  all_goals
    go_wp2_with fail
    go_ret
    obtain ⟨h2, k2⟩ := hs1.setE P.2.2
    exact ⟨rfl, _, h2, (HK.out.drew.trans (k1.mono one_AL)).trans k2⟩
end Go.Proofs.YtofbcngcblleaabGreat.A
