/- Both in one memory, apart. -/
import Derived.Test.YtcgmnpofpnpfcaaTuRel
namespace Go.Proofs.Ytcgmnpofpnpfcaa
open Go.RowKit

structure St (w W : World) (b R qb : Nat) (vs : List Value) (v : Value) (T : Tu) (Q : Qu) : Prop where
  tu : TuAt W w.heap.size b R vs T
  qu : QuAt W w.heap.size qb v Q
  dis : ∀ k, TuOwn b R vs k → ¬ QuOwn qb v k
  bel : Below w.heap.size w W
variable {w W W' : World} {b R qb : Nat} {vs vs' : List Value} {v v' : Value} {T T' : Tu} {Q Q' : Qu}
theorem St.afterT (h : St w W b R qb vs v T Q) (ht : TuAt W' w.heap.size b R vs' T') (ho : OnlyF (TuOwn b R vs) W W') (hw : ∀ q, TuOwn b R vs' q → TuOwn b R vs q ∨ W.heap.size ≤ q) : St w W' b R qb vs' v T' Q where
  tu := ht
  qu := h.qu.only ho fun k hk ht => h.dis k ht hk
  dis := fun k hk hq => by
    rcases hw k hk with h1 | h1
    · exact h.dis k h1 hq
    · have := (h.qu.lt k hq).2; omega
  bel := h.bel.trans (ho.below h.bel.size fun k hk => (h.tu.lt k hk).1)
theorem St.afterQ (h : St w W b R qb vs v T Q) (ht : QuAt W' w.heap.size qb v' Q') (ho : OnlyF (QuOwn qb v) W W') (hw : ∀ q, QuOwn qb v' q → QuOwn qb v q ∨ W.heap.size ≤ q) : St w W' b R qb vs v' T Q' where
  tu := h.tu.only ho fun k hk hq => h.dis k hk hq
  qu := ht
  dis := fun k hk hq => by
    rcases hw k hq with h1 | h1
    · exact h.dis k hk h1
    · have := (h.tu.lt k hk).2; omega
  bel := h.bel.trans (ho.below h.bel.size fun k hk => (h.qu.lt k hk).1)
theorem St.below (h : St w W b R qb vs v T Q) (hb : Below W.heap.size W W') : St w W' b R qb vs v T Q where
  tu := h.tu.below hb
  qu := h.qu.below hb
  dis := h.dis
  bel := h.bel.trans (hb.mono h.bel.size)
/-- a block that neither owns -/
def Free (b R qb : Nat) (vs : List Value) (v : Value) (k : Nat) : Prop := ¬ TuOwn b R vs k ∧ ¬ QuOwn qb v k
theorem St.free (h : St w W b R qb vs v T Q) : Free b R qb vs v W.heap.size := ⟨fun hk => by have := (h.tu.lt _ hk).2; omega, fun hk => by have := (h.qu.lt _ hk).2; omega⟩
/-- a deed -/
structure Ps where
  kind : Int
  tenant : Int
  text : ByteArray
/-- deeds that can be read -/
def HP (w : World) (v : Value) (ps : List Ps) : Prop :=
  ∃ p cap, v = .slice p ps.length cap ∧ ps.length ≤ cap ∧ cap ≤ 9223372036854775807 ∧ (ps.length = 0 ∨ ∃ b off, p = some ⟨b, off, none⟩ ∧ b < w.heap.size ∧ ∀ (k : Nat) x, ps[k]? = some x → w.cell? ⟨b, off + k * 3, none⟩ = some (.int .i64 x.kind) ∧ w.cell? ⟨b, off + k * 3 + 1, none⟩ = some (.int .i64 x.tenant) ∧ w.cell? ⟨b, off + k * 3 + 2, none⟩ = some (.string x.text))
end Go.Proofs.Ytcgmnpofpnpfcaa
