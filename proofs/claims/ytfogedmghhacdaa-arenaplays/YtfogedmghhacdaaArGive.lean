/- give and take: a thing becomes a tenant's own, or is no more. -/
import Derived.Test.YtfogedmghhacdaaArState
import Derived.Deep.CutRange
import Derived.Deep.RegionLaw
import Derived.Deep.LoopGhost
import Derived.Deep.AppendLies
namespace Go.Proofs.Ytfogedmghhacdaa.A
open Go.RowKit Go.Maps

theorem info_parts {P : Program} {e : TypeId} {z : Value} {size bytes : Nat} (h : (P.info? e).map (fun i => (i.zero, i.size, i.bytes)) = some (some z, size, bytes)) : ∃ i, P.info? e = some i ∧ i.zero = some z ∧ i.size = size ∧ i.bytes = bytes := by
  cases hi : P.info? e with
  | none => rw [hi] at h; simp at h
  | some i => rw [hi] at h; simp at h; exact ⟨i, rfl, h.1, h.2.1, h.2.2⟩
theorem Try.info3 : (Try.prog.info? 3).map (fun i => (i.zero, i.size, i.bytes)) = some (some (.int .i64 0), 1, 8) := by kernel_rfl
theorem Try.info82 : (Try.prog.info? 82).map (fun i => (i.zero, i.size, i.bytes)) = some (some noTh.val, 8, 64) := by kernel_rfl
/-- what a row grows to -/
theorem own_slice {w : World} {B e s n : Nat} {v : Value} {xs : List Value} (h : w.ownsRow B e s v (n + 1) xs) : ∃ g cap, v = .slice (some ⟨g, 0, none⟩) (n + 1) cap := by
  rcases h.2 with ⟨_, h0⟩ | ⟨g, cap, cur, hv, _⟩
  · omega
  · exact ⟨g, cap, hv⟩
theorem grown_blk {w w' : World} {row : Option Nat} {o : Obj} {k : Nat} (hg : (w.alloc o).drew.grownBy w' row) (hlt : k < w.heap.size) (hne : row ≠ some k) : w'.heap[k]? = w.heap[k]? :=
  (hg.block k (by simp; omega) (fun e => hne e.symm)).trans (by show (w.heap.push o)[k]? = _; rw [Array.getElem?_push, if_neg (by omega)])

/-- a tenant's list of what can be undone has grown by one number -/
theorem fresh_end {w wc w5 : World} {b n t g5 cap5 : Nat} {F : Nat → Prop} {A1 : Ar} {r : Raw} {D : DataW Unit} {o : Obj} {l : List Int} {id : Int} (H4 : ArRaw wc b F n A1 r D) (P4 : Apart F w wc) (_hFw : ∀ k, F k → k < w.heap.size) (ht : t < 64)
    (hgrow5 : (wc.alloc o).drew.grownBy w5 (r.tn t).fr.ownBlock) (hat5 : (r.tn t).fr.ownBlock = some g5 ∨ g5 = (wc.alloc o).drew.heap.size) (_hl : A1.fresh t = l)
    (hown5 : w5.ownsRow 0 3 1 (.slice (some ⟨g5, 0, none⟩) (l.length + 1) cap5) (l.length + 1) (l.map (Value.int .i64) ++ [.int .i64 id])) (hlt5 : g5 < w5.heap.size) :
    ArRaw (w5.setCell ⟨b, 4 + t * 3 + 2, none⟩ (.slice (some ⟨g5, 0, none⟩) (l.length + 1) cap5)) b (More F w (w5.setCell ⟨b, 4 + t * 3 + 2, none⟩ (.slice (some ⟨g5, 0, none⟩) (l.length + 1) cap5))) n { A1 with fresh := upd A1.fresh t (l ++ [id]) } (r.turn t { r.tn t with fr := .slice (some ⟨g5, 0, none⟩) (l.length + 1) cap5 }) D ∧
      Apart F w (w5.setCell ⟨b, 4 + t * 3 + 2, none⟩ (.slice (some ⟨g5, 0, none⟩) (l.length + 1) cap5)) := by
  have hsz : (wc.alloc o).drew.heap.size = wc.heap.size + 1 := by simp
  have hs5 := hgrow5.size
  have hs4 := P4.size
  rw [hsz] at hs5 hat5
  have hrow : IntRow w5 (.slice (some ⟨g5, 0, none⟩) (l.length + 1) cap5) (l ++ [id]) := by
    unfold IntRow
    rw [List.length_append, List.map_append]
    exact hown5
  refine ⟨H4.setFresh ht hrow (fun k hk hne => grown_blk hgrow5 (H4.flt k hk) hne) (by omega) (fun k hk => ?_) (fun k hk => Or.inl hk) (fun k hk => ?_) (fun k hk => ?_), ?_⟩
  · simp only [Value.ownBlock, Option.some.injEq] at hk
    subst hk
    rcases hat5 with h1 | h1
    · exact Or.inl h1
    · exact Or.inr (by omega)
  · simp only [Value.ownBlock, Option.some.injEq] at hk
    subst hk
    rcases hat5 with h1 | h1
    · exact Or.inl (H4.ft t ht _ h1)
    · exact Or.inr ⟨by omega, by rw [size_set]; exact hlt5⟩
  · rcases hk with h1 | h1
    · have := H4.flt k h1; omega
    · rw [size_set] at h1; exact h1.2
  · have a1 : Apart F wc (wc.alloc o).drew := ⟨rfl, rfl, rfl, by omega, fun k hk _ => by show (wc.heap.push o)[k]? = _; rw [Array.getElem?_push, if_neg (by omega)]⟩
    have a2 : Apart F (wc.alloc o).drew w5 := Apart.grown hgrow5 fun k hk => H4.ft t ht k hk
    have a3 : Apart F w5 (w5.setCell ⟨b, 4 + t * 3 + 2, none⟩ (.slice (some ⟨g5, 0, none⟩) (l.length + 1) cap5)) := Apart.set w5 _ H4.fb
    exact ((P4.trans a1 fun k hk => Or.inl hk).trans a2 fun k hk => Or.inl hk).trans a3 fun k hk => Or.inl hk

/-- a thing given to a tenant -/
def Ar.give (A : Ar) (t i : Nat) (x : Th) : Ar := { A with ths := A.ths.set i { x with mask := x.mask ||| bitN t }, cnt := upd A.cnt t (A.cnt t + 1), fresh := upd A.fresh t (A.fresh t ++ [(i : Int) + 2]) }

set_option maxRecDepth 20000 in
set_option maxHeartbeats 4000000 in
theorem give_any (b t i n : Nat) (F : Nat → Prop) (id : Int) (A : Ar) (r : Raw) (D : DataW Unit) (x : Th) (w : World) (h : ArRaw w b F n A r D) (hx : A.ths[i]? = some x) (hid : id = (i : Int) + 2) (ht : t < 64) (hm : x.mask < 18446744073709551616) (hn : A.ths.length < 4611686018427387904)
    (hcnt : 0 ≤ A.cnt t ∧ A.cnt t < 4611686018427387904) (hlf : (A.fresh t).length < 10000000) :
    Calls Try.prog 58 #[.pointer (some ⟨b, 0, none⟩), .int .i64 t, .int .i64 id] w fun e w' => e = .returned (.tuple #[]) ∧ (∃ r' D', ArRaw w' b (More F w w') n (A.give t i x) r' D') ∧ Apart F w w' := by
  have hi : i < A.ths.length := (List.getElem?_eq_some_iff.1 hx).1
  obtain ⟨g, c, hv⟩ := h.ths.shape' (by omega)
  have hth := h.ths
  rw [hv] at hth
  obtain ⟨_, _, _, _, _, _, _, hg⟩ := hth.cells hx
  have hz := hth.frozenAt (i * 8 + 7)
  have hF : F g := h.fv g (by rw [hv]; rfl)
  have hbne : b ≠ g := fun e => h.vb (by rw [hv, e]; rfl)
  have hb := fun W => bit_any t W ht
  have c1 := h.raw.at 1 (by omega)
  rw [Raw.c1, hv] at c1
  have h0 : (0 : Int) ≤ t := by omega
  have h1 : (t : Int) < 64 := by omega
  have hi0 : (0 : Int) ≤ i := by omega
  have hin : (i : Int) < (A.ths.length : Int) := by omega
  have hw : IntKind.i64.wrap (id - 2) = (i : Int) := by rw [IntKind.wrap_i64]; omega
  have hor : Hid (bits .or .u64 (x.mask : Int) (bitN t : Int) = ((x.mask ||| bitN t : Nat) : Int)) := u64_or_nat x.mask (bitN t) hm (bitN_lt t ht)
  have H1 := h.setMask hv hx (x.mask ||| bitN t)
  have HID : Hid (id = (i : Int) + 2) := hid
  have hFw := h.flt
  generalize hA1 : { A with ths := A.ths.set i { x with mask := x.mask ||| bitN t } } = A1 at H1
  generalize A.ths.length = len at *
  clear hid hth hn hi hv
  go_enter Try.func58, Try.ntmps58
  go_wp2_with fail
  go_cut [] from 6 to 19 (fun wc => ArRaw wc b F n A1 r D ∧ Apart F w wc)
  case first =>
    go_region_with (go_at_call 59; refine (hb _).mono ?_; rintro e w1 ⟨rfl, rfl⟩)
    all_goals
      go_wp2_with fail
      go_meet
      case rel =>
        rw [hor.out]
        exact ⟨H1.drew, (Apart.set w _ hF).drew⟩
  case rest =>
  obtain ⟨H2, P2⟩ := hcut
  clear c1 hg hz H1
  have cc := H2.raw.at (4 + t * 3 + 1) (by omega)
  rw [Raw.cc, H2.cnt t ht] at cc
  have e1 : A1.cnt t = A.cnt t := by rw [← hA1]
  have e2 : A1.fresh t = A.fresh t := by rw [← hA1]
  rw [e1] at cc
  have z1 := H2.raw.frozen (4 + t * 3 + 1)
  have hwc : IntKind.i64.wrap (A.cnt t + 1) = A.cnt t + 1 := by rw [IntKind.wrap_i64]; omega
  have H3 := H2.setCnt ht (A.cnt t + 1)
  go_wp2_with fail
  go_cut [] from 20 to 31 (fun wd => ArRaw wd b F n { A1 with cnt := upd A1.cnt t (A.cnt t + 1) } (r.turn t { r.tn t with cnt := A.cnt t + 1 }) D ∧ Apart F w wd)
  case first =>
    go_region
    all_goals
      go_wp2_with fail
      go_meet
      case rel =>
        exact ⟨H3.drew, (P2.trans (Apart.set wc _ H2.fb) fun k hk => Or.inl hk).drew⟩
  case rest =>
  obtain ⟨H4, P4⟩ := hcut
  clear cc z1 H3 H2 P2
  have cf := H4.raw.at (4 + t * 3 + 2) (by omega)
  rw [Raw.cf, turn_same] at cf
  have hrow := H4.fresh t ht
  rw [turn_same] at hrow
  simp only at cf hrow
  rw [e2] at hrow
  have z2 := H4.raw.frozen (4 + t * 3 + 2)
  have hbt := H4.tb ht
  rw [turn_same] at hbt
  simp only at hbt
  have hblt := H4.raw.lt
  generalize hfr : (r.tn t).fr = v at *
  obtain ⟨i0, hi, hz0, hz1, hz2⟩ := info_parts Try.info3
  have OW : Hid (∀ o, (wc.alloc o).drew.ownsRow 0 3 1 v (A.fresh t).length ((A.fresh t).map (Value.int .i64))) := fun o => hrow.alloc o
  go_wp2_with fail
  go_region_law (refine step_append_lies _ (by rfl) _ _ 31 (by rfl) 0 3 i0 (.int .i64 0) 1 8 Try.underlying31 hi hz0 hz1 hz2 rfl (by decide) v (A.fresh t).length ((A.fresh t).map (Value.int .i64)) (by rfl) (OW.out _) ⟨wc.heap.size, 0, none⟩ 1 1 [.int .i64 id] (by rfl) rfl (cell_one_new _ _ _) (by intro u hu; simp at hu; subst hu; rfl) (by omega) (by unfold maxLen; omega) (by omega) (by omega) _ rfl ?_; intro g5 cap5 w5 hown5 hgrow5 hat5 hlt5; have R5 := H4.raw.go (grown_blk hgrow5 hblt hbt); have q4 := R5.at (4 + t * 3 + 2) (by omega); rw [Raw.cf, turn_same] at q4; have q5 := R5.frozen (4 + t * 3 + 2))
  all_goals
    go_wp2_with fail
    go_end0
    have hE := fresh_end H4 P4 (fun k hk => hFw k hk) ht (by rw [turn_same]; exact hfr ▸ hgrow5) (by rw [turn_same]; exact hfr ▸ hat5) (l := A.fresh t) e2 hown5 hlt5
    have hA : A.give t i x = { A1 with cnt := upd A1.cnt t (A.cnt t + 1), fresh := upd A1.fresh t (A.fresh t ++ [id]) } := by
      rw [← hA1, HID.out]; rfl
    rw [hA]
    exact ⟨rfl, ⟨_, _, hE.1⟩, hE.2⟩
end Go.Proofs.Ytfogedmghhacdaa.A
