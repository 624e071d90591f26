/- Labels on blocks: what a call changes has a label of its own. Rows of '?' that begin anywhere in their block. -/
import Derived.Test.YtpldaghhledjlaaGreatDoorTuMem
import Derived.Test.YtpldaghhledjlaaGreatDoorHoMem
namespace Go.Proofs.YtpldaghhledjlaaGreatDoor.H
open Go.RowKit

/-- what has changed bears a label of L; the labels of what was there stay -/
structure Ch (L : Nat → Prop) (o : Nat → Nat) (w : World) (o' : Nat → Nat) (w' : World) : Prop where
  os : w'.os = w.os
  tape : w'.tape = w.tape
  output : w'.output = w.output
  size : w.heap.size ≤ w'.heap.size
  lab : ∀ k, k < w.heap.size → o' k = o k
  block : ∀ k, k < w.heap.size → ¬ L (o k) → w'.heap[k]? = w.heap[k]?
/-- new blocks bear the label l -/
def ext (o : Nat → Nat) (s l : Nat) : Nat → Nat := fun k => if k < s then o k else l
theorem ext_old {o : Nat → Nat} {s l k : Nat} (h : k < s) : ext o s l k = o k := by unfold ext; rw [if_pos h]
theorem ext_new {o : Nat → Nat} {s l k : Nat} (h : s ≤ k) : ext o s l k = l := by unfold ext; rw [if_neg (by omega)]
theorem ext_is {o : Nat → Nat} {s l k : Nat} (h : o k = l) : ext o s l k = l := by unfold ext; split; exact h; rfl
variable {L M : Nat → Prop} {o o1 o2 : Nat → Nat} {w w1 w2 : World} {v v' : Value} {d : Nat}
theorem Ch.refl (L : Nat → Prop) (o : Nat → Nat) (w : World) : Ch L o w o w := ⟨rfl, rfl, rfl, Nat.le_refl _, fun _ _ => rfl, fun _ _ _ => rfl⟩
theorem Ch.trans (h : Ch L o w o1 w1) (k : Ch L o1 w1 o2 w2) : Ch L o w o2 w2 :=
  ⟨k.os.trans h.os, k.tape.trans h.tape, k.output.trans h.output, Nat.le_trans h.size k.size, fun i hi => (k.lab i (Nat.lt_of_lt_of_le hi h.size)).trans (h.lab i hi), fun i hi hn => (k.block i (Nat.lt_of_lt_of_le hi h.size) (by rw [h.lab i hi]; exact hn)).trans (h.block i hi hn)⟩
theorem Ch.mono (h : Ch L o w o1 w1) (hm : ∀ k, L k → M k) : Ch M o w o1 w1 := ⟨h.os, h.tape, h.output, h.size, h.lab, fun k hk hn => h.block k hk fun e => hn (hm _ e)⟩
theorem Ch.of {F : Nat → Prop} (h : OnlyF F w w1) (l : Nat) (hF : ∀ k, F k → k < w.heap.size → L (o k)) : Ch L o w (ext o w.heap.size l) w1 :=
  ⟨h.os, h.tape, h.output, h.size, fun _ hk => ext_old hk, fun k hk hn => h.block k hk fun f => hn (hF k f hk)⟩
theorem Ch.ofBelow (h : Below w.heap.size w w1) (l : Nat) : Ch L o w (ext o w.heap.size l) w1 :=
  ⟨h.os, h.tape, h.output, h.size, fun _ hk => ext_old hk, fun k hk _ => h.block k hk⟩
theorem Ch.below {B : Nat} (h : Ch L o w o1 w1) (hB : B ≤ w.heap.size) (hL : ∀ k, k < B → ¬ L (o k)) : Below B w w1 :=
  ⟨h.os, h.tape, h.output, h.size, fun k hk => h.block k (by omega) (hL k hk)⟩
theorem Ch.set (o : Nat → Nat) (w : World) (a : Addr) (u : Value) (h : L (o a.block)) : Ch L o w o (w.setCell a u) :=
  ⟨rfl, rfl, rfl, by simp [World.setCell], fun _ _ => rfl, fun k _ hn => Below.heap_setCell _ _ _ _ fun e => hn (e ▸ h)⟩

/-- the line '?' -/
def qm : ByteArray := ⟨#[63]⟩
/-- the block of a row that has room -/
def QsOwn (v : Value) (k : Nat) : Prop := ∃ off n c, v = .slice (some ⟨k, off, none⟩) n c ∧ 0 < c
/-- a row of d times '?', anywhere in its block -/
structure QsR (w : World) (ao : Option Addr) (b off d c : Nat) : Prop where
  le : d ≤ c
  max : c ≤ maxLen
  addr : 0 < c → ao = some ⟨b, off, none⟩
  lt : 0 < c → b < w.heap.size
  old : ∀ j, j < d → w.cell? ⟨b, off + j, none⟩ = some (.string qm)
  there : ∀ j, j < c → (w.cell? ⟨b, off + j, none⟩).isSome = true ∧ w.frozen? ⟨b, off + j, none⟩ = false
def Qs (w : World) (v : Value) (d : Nat) : Prop := ∃ ao b off c, v = .slice ao d c ∧ QsR w ao b off d c
theorem Qs.nil (w : World) : Qs w (.slice none 0 0) 0 := ⟨none, 0, 0, 0, rfl, Nat.le_refl _, by unfold maxLen; omega, fun h => absurd h (by omega), fun h => absurd h (by omega), fun j h => absurd h (by omega), fun j h => absurd h (by omega)⟩
theorem Qs.lt (h : Qs w v d) {k : Nat} (hk : QsOwn v k) : k < w.heap.size := by
  obtain ⟨ao, b, off, c, rfl, h⟩ := h
  obtain ⟨off', n', c', e, hc⟩ := hk
  cases e
  have := h.addr hc
  cases this
  exact h.lt hc
theorem Qs.keep (h : Qs w v d) (hk : ∀ k, QsOwn v k → w1.heap[k]? = w.heap[k]?) : Qs w1 v d := by
  obtain ⟨ao, b, off, c, rfl, h⟩ := h
  refine ⟨ao, b, off, c, rfl, h.le, h.max, h.addr, fun hc => ?_, fun j hj => ?_, fun j hj => ?_⟩
  · have e := hk b ⟨off, d, c, by rw [h.addr hc], hc⟩
    have := h.lt hc
    rw [Array.getElem?_eq_getElem this] at e
    exact (Array.getElem?_eq_some_iff.1 e).1
  · have hc : 0 < c := by have := h.le; omega
    exact (World.cell?_of_block (a := ⟨b, off + j, none⟩) (hk b ⟨off, d, c, by rw [h.addr hc], hc⟩)).trans (h.old j hj)
  · have hc : 0 < c := by omega
    have e := hk b ⟨off, d, c, by rw [h.addr hc], hc⟩
    rw [World.cell?_of_block (a := ⟨b, off + j, none⟩) e, World.frozen?_of_block (a := ⟨b, off + j, none⟩) e]
    exact h.there j hj
/-- a row of one's own is one -/
theorem Qs.ofOwn {B : Nat} (h : w.ownsRow B 9 1 v d (List.replicate d (.string qm))) : Qs w v d := by
  have h0 := h
  rcases h.2 with ⟨rfl, rfl⟩ | ⟨g, cap, cur, rfl, _, hg, h1, h2, h3, _⟩
  · exact Qs.nil w
  · refine ⟨_, g, 0, cap, rfl, h1, h2, fun _ => rfl, fun _ => (Array.getElem?_eq_some_iff.1 hg).1, fun j hj => ?_, fun j hj => ⟨?_, Lib.frozen_of_heap hg _⟩⟩
    · rw [Nat.zero_add, h0.cellAt j (by omega), List.getElem?_replicate, if_pos hj]
    · rw [Lib.cell_of_heap hg, Nat.zero_add, Array.getElem?_eq_getElem (by omega)]
      rfl
theorem rep_add (d : Nat) (x : Value) : List.replicate d x ++ [x] = List.replicate (d + 1) x := by rw [List.replicate_succ']
/-- one more '?' -/
theorem run_append_qs (h : Qs w v d) (ad : Addr) (c2 : Nat) (ty : TypeId) (hx : w.cell? ad = some (.string qm)) (hd : d ≤ 1000) :
    ∃ v' w', (Builtin.append_ #[34, 34] ty #[v, .slice (some ad) 1 c2]).run Tryz.prog w = .ok v' w' ∧ Qs w' v' (d + 1) ∧ OnlyF (QsOwn v) w w' ∧ ∀ k, QsOwn v' k → QsOwn v k ∨ w.heap.size ≤ k := by
  obtain ⟨i0, hi, hz0, hz1, hz2⟩ := info_parts Tryz.infoStr
  obtain ⟨ao, b, off, c, rfl, h⟩ := h
  have hnews : ∀ j u, [Value.string qm][j]? = some u → w.cell? (ad.add j) = some u := by
    intro j u hu
    match j, hu with
    | 0, hu => simp at hu; subst hu; simpa [Addr.add] using hx
  have hone : ∀ u ∈ [Value.string qm], u.oneCell' = true := by intro u hu; simp at hu; subst hu; rfl
  by_cases hr : d + 1 ≤ c
  · have hc : 0 < c := by omega
    obtain rfl := h.addr hc
    have hrun := run_append_room_cells (P := Tryz.prog) w 34 ty 9 i0 Tryz.underlying34 hi b off d c ad 1 c2 [.string qm] (by rw [hz1]; rfl) hnews hone hr (fun j hj => by
      have : j = 0 := by simpa using hj
      subst this
      rw [hz1, Nat.mul_one, Nat.add_zero]; exact (h.there d (by omega)).1) (fun j hj => by
      have : j = 0 := by simpa using hj
      subst this
      rw [hz1, Nat.mul_one, Nat.add_zero]; exact (h.there d (by omega)).2)
    rw [hz1, Nat.mul_one] at hrun
    refine ⟨_, _, hrun, ⟨_, b, off, c, rfl, hr, h.max, fun _ => rfl, fun _ => ?_, fun j hj => ?_, fun j hj => ⟨?_, ?_⟩⟩, ?_, ?_⟩
    · exact Nat.lt_of_lt_of_le (h.lt hc) (by simp [World.setCells, World.setCell])
    · by_cases hjd : j = d
      · subst hjd
        have := World.cell?_setCells_in b [.string qm] (off + j) w (fun i hi => by
          have : i = 0 := by simpa using hi
          subst this
          exact (h.there j (by omega)).1) 0 (by simp)
        simpa using this
      · rw [World.cell?_setCells_out b _ _ _ _ (fun _ _ => Or.inl (by show off + j < off + d; omega))]
        exact h.old j (by omega)
    · by_cases hjd : j = d
      · subst hjd
        have := World.cell?_setCells_in b [.string qm] (off + j) w (fun i hi => by
          have : i = 0 := by simpa using hi
          subst this
          exact (h.there j (by omega)).1) 0 (by simp)
        rw [Nat.add_zero] at this
        rw [this]; rfl
      · rw [World.cell?_setCells_out b _ _ _ _ (fun _ _ => by show off + j < off + d ∨ off + d + 1 ≤ off + j; omega)]
        exact (h.there j hj).1
    · exact (World.frozen?_setCells b _ _ _ _).trans (h.there j hj).2
    · refine ⟨rfl, rfl, rfl, by simp [World.setCells, World.setCell], fun k hk hn => ?_⟩
      exact Below.heap_setCell _ _ _ _ fun e => hn ⟨off, d, c, by rw [e], hc⟩
    · rintro k ⟨off', n', c', e, h0⟩
      cases e
      exact .inl ⟨_, _, _, rfl, hc⟩
  · have hdc : d = c := by have := h.le; omega
    have hold : ∀ a', ao = some a' → ∀ j u, (List.replicate d (Value.string qm))[j]? = some u → w.cell? (a'.add j) = some u := by
      intro a' ha j u hu
      rw [List.getElem?_replicate] at hu
      split at hu
      · rename_i hj
        rw [h.addr (by omega)] at ha
        cases ha
        cases hu
        rw [Addr.add_lit]
        exact h.old j hj
      · cases hu
    have fin : ∀ v' w', w'.ownsRow w.heap.size 9 1 v' (d + 1) (List.replicate d (.string qm) ++ [.string qm]) → w.grownBy w' none → Qs w' v' (d + 1) ∧ OnlyF (QsOwn (.slice ao d c)) w w' ∧ ∀ k, QsOwn v' k → QsOwn (.slice ao d c) k ∨ w.heap.size ≤ k := by
      intro v' w' h1 h2
      rw [rep_add] at h1
      refine ⟨Qs.ofOwn h1, OnlyF.grown h2 fun k e => (by cases e), ?_⟩
      rintro k ⟨off', n', c', e, h0⟩
      subst e
      exact .inr (h1.lt k rfl).1
    cases ao with
    | none =>
      have h0 : d = 0 := by
        by_cases hc : 0 < c
        · have := h.addr hc; cases this
        · omega
      have hc0 : c = 0 := by omega
      subst h0 hc0
      obtain ⟨v', w', hrun, r1, r2, _⟩ := run_append_own (P := Tryz.prog) w w.heap.size 34 ty 9 i0 (.string ByteArray.empty) 1 16 Tryz.underlying34 hi hz0 hz1 hz2 rfl (by decide) (.slice none 0 0) 0 [] (World.ownsRow_nil w _ 9 1) ad 1 c2 [.string qm] rfl hnews hone (by unfold maxLen; omega) (by omega) (Nat.le_refl _)
      exact ⟨v', w', hrun, fin v' w' (by simpa using r1) r2⟩
    | some a' =>
      obtain ⟨v', w', hrun, r1, r2⟩ := run_append_arg_grows (P := Tryz.prog) w 34 ty 9 i0 (.string ByteArray.empty) 1 16 Tryz.underlying34 hi hz0 hz1 hz2 rfl (by decide) a' d c (List.replicate d (.string qm)) (by simp) (hold a' rfl) ad 1 c2 [.string qm] rfl hnews (by omega) (by unfold maxLen; omega) (by omega)
      exact ⟨v', w', hrun, fin v' w' r1 r2⟩
theorem wpList_append_qs {ops : Array Oper} {rest : List Oper} {op : Oper} {a : Act} {Q : Exit → Act → World → Prop} (hgd : op.guard = none) (s x : Operand)
    (ho : op.op = .call { callee := .builtin .append, args := #[s, x], argTypes := #[34, 34] })
    (hs : a.eval s = v) (h : Qs w v d) (ad : Addr) (c2 : Nat) (hx : a.eval x = .slice (some ad) 1 c2) (hxc : w.cell? ad = some (.string qm)) (hd : d ≤ 1000)
    (hK : ∀ v' w', Qs w' v' (d + 1) → OnlyF (QsOwn v) w w' → (∀ k, QsOwn v' k → QsOwn v k ∨ w.heap.size ≤ k) → wpList Tryz.prog ops Q rest (a.put op.dst v') w') : wpList Tryz.prog ops Q (op :: rest) a w := by
  refine wpList_plain hgd fun K hK' => ?_
  obtain ⟨v', w', hrun, r1, r2, r3⟩ := run_append_qs h ad c2 op.type hxc hd
  unfold Oper.wp
  simp [execOp, ho, resolve, invoke, builtin, hs, hx, hrun, Result.andThen]
  exact hK' _ _ (hK v' w' r1 r2 r3)
end Go.Proofs.YtpldaghhledjlaaGreatDoor.H
