/- The plain store: give, first half in plain words. -/
import Derived.Test.YtfogedmghhacdaaRsNo
import Derived.Test.YtfogedmghhacdaaRsRecall
import Derived.BigQuiet
namespace Go.Proofs.Ytfogedmghhacdaa.A
open Go.RowKit

/-- two things are one by their kind and parts -/
def Rt.same (x y : Rt) : Prop := x.k = y.k ∧ x.p0 = y.p0 ∧ x.p1 = y.p1 ∧ x.p2 = y.p2 ∧ x.p3 = y.p3
instance (x y : Rt) : Decidable (x.same y) := by unfold Rt.same; infer_instance
def haveF (l : List Rt) (x : Rt) : Option Nat := l.findIdx? fun y => decide (y.same x)
def OneKey (l : List Rt) : Prop := ∀ (i j : Nat) (x y : Rt), l[i]? = some x → l[j]? = some y → x.same y → i = j
theorem haveF_some {l : List Rt} {x y : Rt} {i : Nat} (hO : OneKey l) (hy : l[i]? = some y) (hs : y.same x) : haveF l x = some i := by
  obtain ⟨hlt, he⟩ := List.getElem?_eq_some_iff.1 hy
  unfold haveF
  rw [List.findIdx?_eq_some_iff_getElem]
  refine ⟨hlt, by rw [he]; simpa using hs, fun j hj => ?_⟩
  intro hj1
  have hj2 : (l[j]'(by omega)).same x := by simpa using hj1
  have : j = i := hO j i _ y (List.getElem?_eq_getElem (by omega)) hy ⟨hj2.1.trans hs.1.symm, hj2.2.1.trans hs.2.1.symm, hj2.2.2.1.trans hs.2.2.1.symm, hj2.2.2.2.1.trans hs.2.2.2.1.symm, hj2.2.2.2.2.trans hs.2.2.2.2.symm⟩
  omega
theorem haveF_at {l : List Rt} {x : Rt} {i : Nat} (h : haveF l x = some i) : ∃ y, l[i]? = some y ∧ y.same x := by
  unfold haveF at h
  obtain ⟨hlt, hs, _⟩ := List.findIdx?_eq_some_iff_getElem.1 h
  exact ⟨_, List.getElem?_eq_getElem hlt, by simpa using hs⟩
/-- the one that was found so far -/
def haveTo (l : List Rt) (x : Rt) (i : Nat) : Option Nat := (haveF l x).filter fun j => decide (j < i)
theorem haveTo_zero (l : List Rt) (x : Rt) : haveTo l x 0 = none := by
  unfold haveTo
  cases haveF l x <;> rfl
theorem haveTo_no {l : List Rt} {x y : Rt} {i : Nat} (hy : l[i]? = some y) (hs : ¬ y.same x) : haveTo l x (i + 1) = haveTo l x i := by
  unfold haveTo
  cases h : haveF l x with
  | none => rfl
  | some j =>
    obtain ⟨z, hz, hzs⟩ := haveF_at h
    have hne : j ≠ i := fun e => by
      subst e
      rw [hy] at hz
      cases hz
      exact hs hzs
    rw [Option.filter_some, Option.filter_some]
    by_cases hj : j < i
    · rw [decide_eq_true hj, decide_eq_true (show j < i + 1 by omega)]
    · rw [decide_eq_false hj, decide_eq_false (show ¬ j < i + 1 by omega)]
theorem haveTo_yes {l : List Rt} {x y : Rt} {i : Nat} (hO : OneKey l) (hy : l[i]? = some y) (hs : y.same x) : haveTo l x (i + 1) = some i := by
  unfold haveTo
  rw [haveF_some hO hy hs, Option.filter_some, decide_eq_true (show i < i + 1 by omega)]
  rfl
theorem haveTo_all {l : List Rt} {x : Rt} {i : Nat} (h : l.length ≤ i) : haveTo l x i = haveF l x := by
  unfold haveTo
  cases hh : haveF l x with
  | none => rfl
  | some j =>
    obtain ⟨z, hz, _⟩ := haveF_at hh
    have := (List.getElem?_eq_some_iff.1 hz).1
    rw [Option.filter_some, decide_eq_true (show j < i by omega)]
    rfl
def St.made (S : St) : St := if S.room ≤ (S.ths.length : Int) then S.swept else S
def insL (l : List Rt) (m : Nat) (x : Rt) : List Rt := l.take m ++ x :: l.drop m
def St.put (S : St) (l : List Rt) (t : Nat) (id : Int) : St := { S with ths := l, since := upd S.since t (S.since t ++ [id]) }
def Rt.set0 (x : Rt) (m t : Nat) : Rt := { x with id := 2 + m, mask := 2 ^ t }
/-- what give makes of it -/
def giveR (S : St) (t : Nat) (x : Rt) (m : Nat) : St × Int × Int :=
  match haveF S.ths x with
  | some i => match S.ths[i]? with
    | some y => if y.mask.testBit t = true then (S, y.id, 0) else if S.quota t ≤ (ownS S.ths t : Int) then (S, 0, 9) else (S.put (S.ths.set i { y with mask := y.mask ||| 2 ^ t }) t y.id, y.id, 0)
    | none => (S, 0, 0)
  | none => if S.quota t ≤ (ownS S.ths t : Int) then (S, 0, 9) else if S.made.room ≤ (S.made.ths.length : Int) then (S.made, 0, 5) else (S.made.put (insL S.made.ths m (x.set0 m t)) t (2 + m), 2 + m, 0)
/-- the row of a struct's size is copied onto another place of its block -/
theorem run_copy_wide (P : Program) (w : World) (dT sT ty elem : TypeId) (g o dLen dCap : Nat) (a : Addr) (sLen sCap z : Nat) (cur : Array Value) (t : TypeId) (cs : List Value)
    (hu : P.underlying dT = some (.slice elem)) (hs : (P.info? elem).map (·.size) = some z)
    (hg : w.heap[g]? = some (.cells cur t (0, 0))) (hn : cs.length = Nat.min sLen dLen * z)
    (hsrc : ∀ j v, cs[j]? = some v → w.cell? (a.add j) = some v) (hfit : o + cs.length ≤ cur.size) (h1 : ∀ v ∈ cs, v.oneCell' = true) :
    (Builtin.copy_ #[dT, sT] ty #[.slice (some ⟨g, o, none⟩) dLen dCap, .slice (some a) sLen sCap]).run P w =
      .ok (goInt (Nat.min sLen dLen)) (w.setRow g (cur.toList.take o ++ cs ++ cur.toList.drop (o + cs.length)).toArray) := by
  have hl := run_loadCells_list (P := P) w a cs hsrc
  have hst := run_storeCells_at P g o t cs 0 cur w hg (by simpa using hfit) h1
  cases hq : P.info? elem with
  | none => simp [hq] at hs
  | some i =>
    have hi : i.size = z := by simpa [hq] using hs
    simp [Builtin.copy_, run_underlying hu, Builtin.lenOf, Builtin.firstCells, sizeOf, typeInfo, hq, hi, ← hn, hl, hst]
theorem bel_drewN {B : Nat} {a w : World} (h : Below B a w) (n : Nat) : Below B a (w.drewN n) := ⟨h.os, h.tape, h.output, h.size, h.block⟩
/-- midway: the store in memory, and what it has grown to since w -/
structure GvSt (w : World) (b : Nat) (G : Nat → Prop) (S : St) (r : Sr) (G' : Nat → Prop) (W : World) : Prop where
  raw : StRaw W b G' S r
  h1 : ∀ k, G' k → G k ∨ w.heap.size ≤ k
  ap : Apart G w W
section
variable {w W W' : World} {b : Nat} {G G' G2 : Nat → Prop} {S S2 : St} {r : Sr}
theorem GvSt.start (h : StRaw w b G S r) : GvSt w b G S r G w := ⟨h, fun _ h => .inl h, Apart.refl _ _⟩
theorem Apart.after (a1 : Apart G w W) (h1 : ∀ k, G' k → G k ∨ w.heap.size ≤ k) (a2 : Apart G' W W') : Apart G w W' :=
  ⟨a2.os.trans a1.os, a2.tape.trans a1.tape, a2.output.trans a1.output, Nat.le_trans a1.size a2.size, fun k hk hn => (a2.block k (Nat.lt_of_lt_of_le hk a1.size) fun e => by
    rcases h1 k e with e1 | e1
    · exact hn e1
    · omega).trans (a1.block k hk hn)⟩
theorem GvSt.below (h : GvSt w b G S r G' W) (hb : Below W.heap.size W W') : GvSt w b G S r G' W' := ⟨h.raw.below hb, h.h1, h.ap.after h.h1 (Apart.of hb)⟩
theorem GvSt.led (h : GvSt w b G S r G' W) (hl : LedS W b G' S2 W') : ∃ G2 r2, GvSt w b G S2 r2 G2 W' := by
  obtain ⟨G2, q1, ⟨r2, q2⟩, q3⟩ := hl
  refine ⟨G2, r2, q2, fun k hk => ?_, h.ap.after h.h1 q3⟩
  rcases q1 k hk with e | e
  · exact h.h1 k e
  · exact .inr (Nat.le_trans h.ap.size e)
theorem GvSt.out (h : GvSt w b G S r G' W) : LedS w b G S W := ⟨G', h.h1, ⟨r, h.raw⟩, h.ap⟩
theorem GvSt.mask (h : GvSt w b G S r G' W) {g c i : Nat} {x : Rt} (hv : r.vth = .slice (some ⟨g, 0, none⟩) S.ths.length c) (hi : S.ths[i]? = some x) (m : Nat) :
    GvSt w b G { S with ths := S.ths.set i { x with mask := m } } r G' (W.setCell ⟨g, i * 9 + 8, none⟩ (.int .u64 m)) :=
  ⟨h.raw.setMask hv hi m, h.h1, h.ap.after h.h1 (Apart.set W _ (h.raw.fv g (by rw [hv]; rfl)))⟩
/-- a tenant's numbers have grown by one -/
theorem GvSt.since (h : GvSt w b G S r G' W) {t g5 cap5 : Nat} {o : Obj} {l : List Int} {id : Int} {w5 : World} (ht : t < 64) (hl : S.since t = l) (hgrow : (W.alloc o).drew.grownBy w5 (r.since t).ownBlock) (hat : (r.since t).ownBlock = some g5 ∨ g5 = (W.alloc o).drew.heap.size)
    (hown : w5.ownsRow 0 3 1 (.slice (some ⟨g5, 0, none⟩) (l.length + 1) cap5) (l.length + 1) (l.map (Value.int .i64) ++ [.int .i64 id])) (hlt : g5 < w5.heap.size) :
    LedS w b G { S with since := upd S.since t (S.since t ++ [id]) } (w5.setCell ⟨b, 66 + t, none⟩ (.slice (some ⟨g5, 0, none⟩) (l.length + 1) cap5)) := by
  subst hl
  have hsz : (W.alloc o).drew.heap.size = W.heap.size + 1 := by simp
  have hs5 := hgrow.size
  rw [hsz] at hs5 hat
  have hrow : IntRow w5 (.slice (some ⟨g5, 0, none⟩) ((S.since t).length + 1) cap5) (S.since t ++ [id]) := by
    unfold IntRow
    rw [List.length_append, List.map_append]
    exact hown
  have hge : g5 = W.heap.size + 1 → w.heap.size ≤ g5 := fun e => by have := h.ap.size; omega
  refine ⟨fun k => G' k ∨ k = g5, fun k hk => ?_, ⟨_, h.raw.setS (G' := fun k => G' k ∨ k = g5) ht hrow (fun k hk => .inl hk) (fun k hk => ?_) (fun k hk => ?_) fun k hk hne => grown_blk hgrow (h.raw.flt k hk) hne⟩, ?_⟩
  · rcases hk with e | e
    · exact h.h1 k e
    · subst e
      rcases hat with e | e
      · exact h.h1 _ (h.raw.ft t ht _ e)
      · exact .inr (hge e)
  · simp only [Value.ownBlock, Option.some.injEq] at hk
    subst hk
    refine ⟨.inr rfl, ?_⟩
    rcases hat with e | e
    · exact .inl e
    · exact .inr fun hg => by have := h.raw.flt _ hg; omega
  · rcases hk with e | e
    · have := h.raw.flt k e; omega
    · rw [e]; exact hlt
  · have a1 : Apart G' W (W.alloc o).drew := ⟨rfl, rfl, rfl, by omega, fun k hk _ => by show (W.heap.push o)[k]? = _; rw [Array.getElem?_push, if_neg (by omega)]⟩
    have a2 : Apart G' (W.alloc o).drew w5 := Apart.grown hgrow fun k hk => h.raw.ft t ht k hk
    have a3 : Apart G' w5 (w5.setCell ⟨b, 66 + t, none⟩ (.slice (some ⟨g5, 0, none⟩) ((S.since t).length + 1) cap5)) := Apart.set w5 _ h.raw.fb
    exact ((h.ap.after h.h1 a1).after h.h1 a2).after h.h1 a3
end
theorem or_bit (m t : Nat) (ht : t < 64) (hm : m < 18446744073709551616) : bits .or .u64 (m : Int) (IntKind.u64.wrap ((2 : Int) ^ t)) = ((m ||| 2 ^ t : Nat) : Int) := by
  rw [wrap_bit t ht]
  exact u64_or_nat m (bitN t) hm (bitN_lt t ht)
end Go.Proofs.Ytfogedmghhacdaa.A
