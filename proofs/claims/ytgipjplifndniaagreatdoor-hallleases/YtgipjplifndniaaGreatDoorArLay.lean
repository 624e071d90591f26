/- lay: a new thing where no number is free. -/
import Derived.Test.YtgipjplifndniaaGreatDoorArState
import Derived.Deep.CutRange
import Derived.Deep.RegionLaw
import Derived.Deep.LoopGhost
import Derived.Deep.AppendLies
namespace Go.Proofs.YtgipjplifndniaaGreatDoor.A
open Go.RowKit Go.Maps

theorem info_parts {P : Program} {e : TypeId} {z : Value} {size bytes : Nat} (h : (P.info? e).map (fun i => (i.zero, i.size, i.bytes)) = some (some z, size, bytes)) : ∃ i, P.info? e = some i ∧ i.zero = some z ∧ i.size = size ∧ i.bytes = bytes := by
  cases hi : P.info? e with
  | none => rw [hi] at h; simp at h
  | some i => rw [hi] at h; simp at h; exact ⟨i, rfl, h.1, h.2.1, h.2.2⟩
theorem Tryz.info3 : (Tryz.prog.info? 3).map (fun i => (i.zero, i.size, i.bytes)) = some (some (.int .i64 0), 1, 8) := by kernel_rfl
theorem Tryz.info100 : (Tryz.prog.info? 100).map (fun i => (i.zero, i.size, i.bytes)) = some (some noTh.val, 8, 64) := by kernel_rfl
theorem grown_blk {w w' : World} {row : Option Nat} {o : Obj} {k : Nat} (hg : (w.alloc o).drew.grownBy w' row) (hlt : k < w.heap.size) (hne : row ≠ some k) : w'.heap[k]? = w.heap[k]? :=
  (hg.block k (by simp; omega) (fun e => hne e.symm)).trans (by show (w.heap.push o)[k]? = _; rw [Array.getElem?_push, if_neg (by omega)])

theorem fresh_end {w wc w5 : World} {b n t g5 cap5 : Nat} {F : Nat → Prop} {A1 : Ar} {r : Raw} {D : DataW Unit} {o : Obj} {l : List Int} {id : Int} (H4 : ArRaw wc b F n A1 r D) (P4 : Apart F w wc) (_hFw : ∀ k, F k → k < w.heap.size) (ht : t < 64)
    (hgrow5 : (wc.alloc o).drew.grownBy w5 (r.tn t).fr.ownBlock) (hat5 : (r.tn t).fr.ownBlock = some g5 ∨ g5 = (wc.alloc o).drew.heap.size) (_hl : A1.fresh t = l)
    (hown5 : w5.ownsRow 0 3 1 (.slice (some ⟨g5, 0, none⟩) (l.length + 1) cap5) (l.length + 1) (l.map (Value.int .i64) ++ [.int .i64 id])) (hlt5 : g5 < w5.heap.size) :
    ArRaw (w5.setCell ⟨b, 4 + t * 3 + 2, none⟩ (.slice (some ⟨g5, 0, none⟩) (l.length + 1) cap5)) b (More F w (w5.setCell ⟨b, 4 + t * 3 + 2, none⟩ (.slice (some ⟨g5, 0, none⟩) (l.length + 1) cap5))) n { A1 with fresh := upd A1.fresh t (l ++ [id]) } (r.turn t { r.tn t with fr := .slice (some ⟨g5, 0, none⟩) (l.length + 1) cap5 }) D ∧
      Apart F w (w5.setCell ⟨b, 4 + t * 3 + 2, none⟩ (.slice (some ⟨g5, 0, none⟩) (l.length + 1) cap5)) := by
  have hsz : (wc.alloc o).drew.heap.size = wc.heap.size + 1 := by simp
  have hs5 := hgrow5.size
  have hs4 := P4.size
  rw [hsz] at hs5 hat5
  have hrow : IntRow w5 (.slice (some ⟨g5, 0, none⟩) (l.length + 1) cap5) (l ++ [id]) := by
    unfold IntRow
    rw [List.length_append, List.map_append]
    exact hown5
  refine ⟨H4.setFresh ht hrow (fun k hk hne => grown_blk hgrow5 (H4.flt k hk) hne) (by omega) (fun k hk => ?_) (fun k hk => Or.inl hk) (fun k hk => ?_) (fun k hk => ?_), ?_⟩
  · simp only [Value.ownBlock, Option.some.injEq] at hk
    subst hk
    rcases hat5 with h1 | h1
    · exact Or.inl h1
    · exact Or.inr (by omega)
  · simp only [Value.ownBlock, Option.some.injEq] at hk
    subst hk
    rcases hat5 with h1 | h1
    · exact Or.inl (H4.ft t ht _ h1)
    · exact Or.inr ⟨by omega, by rw [size_set]; exact hlt5⟩
  · rcases hk with h1 | h1
    · have := H4.flt k h1; omega
    · rw [size_set] at h1; exact h1.2
  · have a1 : Apart F wc (wc.alloc o).drew := ⟨rfl, rfl, rfl, by omega, fun k hk _ => by show (wc.heap.push o)[k]? = _; rw [Array.getElem?_push, if_neg (by omega)]⟩
    have a2 : Apart F (wc.alloc o).drew w5 := Apart.grown hgrow5 fun k hk => H4.ft t ht k hk
    have a3 : Apart F w5 (w5.setCell ⟨b, 4 + t * 3 + 2, none⟩ (.slice (some ⟨g5, 0, none⟩) (l.length + 1) cap5)) := Apart.set w5 _ H4.fb
    exact ((P4.trans a1 fun k hk => Or.inl hk).trans a2 fun k hk => Or.inl hk).trans a3 fun k hk => Or.inl hk

def Ar.give (A : Ar) (t i : Nat) (x : Th) : Ar := { A with ths := A.ths.set i { x with mask := x.mask ||| bitN t }, cnt := upd A.cnt t (A.cnt t + 1), fresh := upd A.fresh t (A.fresh t ++ [(i : Int) + 2]) }

set_option maxRecDepth 20000 in
set_option maxHeartbeats 4000000 in
theorem give_any (b t i n : Nat) (F : Nat → Prop) (id : Int) (A : Ar) (r : Raw) (D : DataW Unit) (x : Th) (w : World) (h : ArRaw w b F n A r D) (hx : A.ths[i]? = some x) (hid : id = (i : Int) + 2) (ht : t < 64) (hm : x.mask < 18446744073709551616) (hn : A.ths.length < 4611686018427387904)
    (hcnt : 0 ≤ A.cnt t ∧ A.cnt t < 4611686018427387904) (hlf : (A.fresh t).length < 10000000) :
    Calls Tryz.prog 84 #[.pointer (some ⟨b, 0, none⟩), .int .i64 t, .int .i64 id] w fun e w' => e = .returned (.tuple #[]) ∧ (∃ r' D', ArRaw w' b (More F w w') n (A.give t i x) r' D') ∧ Apart F w w' := by
  have hi : i < A.ths.length := (List.getElem?_eq_some_iff.1 hx).1
  obtain ⟨g, c, hv⟩ := h.ths.shape' (by omega)
  have hth := h.ths
  rw [hv] at hth
  obtain ⟨_, _, _, _, _, _, _, hg⟩ := hth.cells hx
  have hz := hth.frozenAt (i * 8 + 7)
  have hF : F g := h.fv g (by rw [hv]; rfl)
  have hbne : b ≠ g := fun e => h.vb (by rw [hv, e]; rfl)
  have hb := fun W => bit_any t W ht
  have c1 := h.raw.at 1 (by omega)
  rw [Raw.c1, hv] at c1
  have h0 : (0 : Int) ≤ t := by omega
  have h1 : (t : Int) < 64 := by omega
  have hi0 : (0 : Int) ≤ i := by omega
  have hin : (i : Int) < (A.ths.length : Int) := by omega
  have hw : IntKind.i64.wrap (id - 2) = (i : Int) := by rw [IntKind.wrap_i64]; omega
  have hor : Hid (bits .or .u64 (x.mask : Int) (bitN t : Int) = ((x.mask ||| bitN t : Nat) : Int)) := u64_or_nat x.mask (bitN t) hm (bitN_lt t ht)
  have H1 := h.setMask hv hx (x.mask ||| bitN t)
  have HID : Hid (id = (i : Int) + 2) := hid
  have hFw := h.flt
  generalize hA1 : { A with ths := A.ths.set i { x with mask := x.mask ||| bitN t } } = A1 at H1
  generalize A.ths.length = len at *
  clear hid hth hn hi hv
  go_enter Tryz.func84, Tryz.ntmps84
  go_wp2_with fail
  go_cut [] from 6 to 19 (fun wc => ArRaw wc b F n A1 r D ∧ Apart F w wc)
  case first =>
    go_region_with (go_at_call 116; refine (hb _).mono ?_; rintro e w1 ⟨rfl, rfl⟩)
    all_goals
      go_wp2_with fail
      go_meet
      case rel =>
        rw [hor.out]
        exact ⟨H1.drew, (Apart.set w _ hF).drew⟩
  case rest =>
  obtain ⟨H2, P2⟩ := hcut
  clear c1 hg hz H1
  have cc := H2.raw.at (4 + t * 3 + 1) (by omega)
  rw [Raw.cc, H2.cnt t ht] at cc
  have e1 : A1.cnt t = A.cnt t := by rw [← hA1]
  have e2 : A1.fresh t = A.fresh t := by rw [← hA1]
  rw [e1] at cc
  have z1 := H2.raw.frozen (4 + t * 3 + 1)
  have hwc : IntKind.i64.wrap (A.cnt t + 1) = A.cnt t + 1 := by rw [IntKind.wrap_i64]; omega
  have H3 := H2.setCnt ht (A.cnt t + 1)
  go_wp2_with fail
  go_cut [] from 20 to 31 (fun wd => ArRaw wd b F n { A1 with cnt := upd A1.cnt t (A.cnt t + 1) } (r.turn t { r.tn t with cnt := A.cnt t + 1 }) D ∧ Apart F w wd)
  case first =>
    go_region
    all_goals
      go_wp2_with fail
      go_meet
      case rel =>
        exact ⟨H3.drew, (P2.trans (Apart.set wc _ H2.fb) fun k hk => Or.inl hk).drew⟩
  case rest =>
  obtain ⟨H4, P4⟩ := hcut
  clear cc z1 H3 H2 P2
  have cf := H4.raw.at (4 + t * 3 + 2) (by omega)
  rw [Raw.cf, turn_same] at cf
  have hrow := H4.fresh t ht
  rw [turn_same] at hrow
  simp only at cf hrow
  rw [e2] at hrow
  have z2 := H4.raw.frozen (4 + t * 3 + 2)
  have hbt := H4.tb ht
  rw [turn_same] at hbt
  simp only at hbt
  have hblt := H4.raw.lt
  generalize hfr : (r.tn t).fr = v at *
  obtain ⟨i0, hi, hz0, hz1, hz2⟩ := info_parts Tryz.info3
  have OW : Hid (∀ o, (wc.alloc o).drew.ownsRow 0 3 1 v (A.fresh t).length ((A.fresh t).map (Value.int .i64))) := fun o => hrow.alloc o
  go_wp2_with fail
  go_region_law (refine step_append_lies _ (by rfl) _ _ 73 (by rfl) 0 3 i0 (.int .i64 0) 1 8 Tryz.underlying73 hi hz0 hz1 hz2 rfl (by decide) v (A.fresh t).length ((A.fresh t).map (Value.int .i64)) (by rfl) (OW.out _) ⟨wc.heap.size, 0, none⟩ 1 1 [.int .i64 id] (by rfl) rfl (cell_one_new _ _ _) (by intro u hu; simp at hu; subst hu; rfl) (by omega) (by unfold maxLen; omega) (by omega) (by omega) _ rfl ?_; intro g5 cap5 w5 hown5 hgrow5 hat5 hlt5; have R5 := H4.raw.go (grown_blk hgrow5 hblt hbt); have q4 := R5.at (4 + t * 3 + 2) (by omega); rw [Raw.cf, turn_same] at q4; have q5 := R5.frozen (4 + t * 3 + 2))
  all_goals
    go_wp2_with fail
    go_end0
    have hE := fresh_end H4 P4 (fun k hk => hFw k hk) ht (by rw [turn_same]; exact hfr ▸ hgrow5) (by rw [turn_same]; exact hfr ▸ hat5) (l := A.fresh t) e2 hown5 hlt5
    have hA : A.give t i x = { A1 with cnt := upd A1.cnt t (A.cnt t + 1), fresh := upd A1.fresh t (A.fresh t ++ [id]) } := by
      rw [← hA1, HID.out]; rfl
    rw [hA]
    exact ⟨rfl, ⟨_, _, hE.1⟩, hE.2⟩
end Go.Proofs.YtgipjplifndniaaGreatDoor.A

namespace Go.Proofs.YtgipjplifndniaaGreatDoor.A
open Go.RowKit Go.Maps Go.ChangeMaps Go.WideElems

theorem spot_append (l : List Th) (x : Th) (q : Ky) : spotF (l ++ [x]) q = match spotF l q with | some i => some i | none => if x.key = q then some l.length else none := by
  unfold spotF
  rw [List.findIdx?_append]
  cases h : l.findIdx? (fun x => decide (x.key = q)) with
  | some i => rfl
  | none =>
    simp only [Option.none_or, List.findIdx?_cons, List.findIdx?_nil]
    by_cases e : x.key = q <;> simp [e]
theorem NumIs.push {D : DataW Unit} {l : List Th} (h : NumIs D l) (hD : IsMap D) {x : Th} (hx : x.key.Fit) (h0 : spotF l x.key = none) : NumIs (D.put (kl x.key) (.lit (.int .i64 ((l.length : Int) + 2)))) (l ++ [x]) := by
  intro q hq hk
  obtain ⟨h1, h2⟩ := h q hq hk
  unfold numF at *
  rw [spot_append]
  by_cases e : x.key = q
  · subst e
    rw [h0]
    simp only [if_true]
    exact ⟨has_put_same hD (kl_key _) _, atKey_put_same hD (kl_key _) _ _⟩
  · have hne : kl q ≠ kl x.key := fun k => e (kl_inj hq hx k).symm
    rw [has_put_other hne, atKey_put_other hne, h1, h2]
    cases spotF l q with
    | some i => exact ⟨rfl, rfl⟩
    | none => rw [if_neg e]; exact ⟨rfl, rfl⟩

theorem thsL_append (l : List Th) (x : Th) : thsL (l ++ [x]) = thsL l ++ x.cells := by simp [thsL]

section
variable {w w1 w2 : World} {b n : Nat} {F F' : Nat → Prop} {A : Ar} {r : Raw} {D D' : DataW Unit}
theorem ArRaw.setThings (h : ArRaw w b F n A r D) {v : Value} {l : List Th} (hrow : ThRow w1 0 v l) (hb1 : ∀ k, F k → r.vth.ownBlock ≠ some k → w1.heap[k]? = w.heap[k]?)
    (hv : ∀ k, v.ownBlock = some k → r.vth.ownBlock = some k ∨ w.heap.size ≤ k) (hnum : NumIs D' l) (hmap : w2.ownsMap Tryz.prog 97 (plainElem Tryz.prog 3) r.mp (n + 1) D') (hb2 : ∀ k, k ≠ r.mp → w2.heap[k]? = (w1.setCell ⟨b, 1, none⟩ v).heap[k]?)
    (hF : ∀ k, F k → F' k) (hF' : ∀ k, v.ownBlock = some k → F' k) (hl : ∀ k, F' k → k < w2.heap.size) :
    ArRaw w2 b F' (n + 1) { A with ths := l } { r with vth := v } D' := by
  have hbb : w1.heap[b]? = w.heap[b]? := hb1 b h.fb h.vb
  have hvlt : ∀ k, F k → ¬ w.heap.size ≤ k := fun k hk => by have := h.flt k hk; omega
  have hbv : v.ownBlock ≠ some b := fun e => by
    rcases hv b e with h1 | h1
    · exact h.vb h1
    · exact hvlt b h.fb h1
  have hmv : v.ownBlock ≠ some r.mp := fun e => by
    rcases hv _ e with h1 | h1
    · exact h.vm h1
    · exact hvlt _ h.fm h1
  have hR := (h.raw.go hbb).setTh v
  refine ⟨hR.go (hb2 b h.mb.symm), h.room, row_other (w := w1) hrow fun k hk => (hb2 k fun e => hmv (by rw [← e]; exact hk)).trans (heap_set fun e => hbv (by rw [← e]; exact hk)), hmap, hnum,
    row_other (w := w) h.free fun k hk => (hb2 k fun e => h.fm' (by rw [← e]; exact hk)).trans ((heap_set fun e => h.fb' (by rw [← e]; exact hk)).trans (hb1 k (h.ff k hk) fun e => h.vf e hk)), h.lim, h.cnt,
    fun t ht => row_other (w := w) (h.fresh t ht) fun k hk => (hb2 k fun e => h.tm ht (by rw [← e]; exact hk)).trans ((heap_set fun e => h.tb ht (by rw [← e]; exact hk)).trans (hb1 k (h.ft t ht k hk) fun e => h.vt ht e hk)),
    h.apf, h.apt, hF _ h.fb, hF _ h.fm, hF', fun k hk => hF k (h.ff k hk), fun t ht k hk => hF k (h.ft t ht k hk), hl⟩
end

theorem grown_of_turned {w w' : World} {b : Nat} (h : w.mapTurned w' b) : w.grownBy w' (some b) := by
  obtain ⟨es, c, es', c', hb, rfl⟩ := h
  exact ⟨rfl, rfl, rfl, by simp [setBlock], fun i _ hi => heap_setBlock_other hb _ (fun e => hi (by rw [e]))⟩
theorem size_of_turned {w w' : World} {b : Nat} (h : w.mapTurned w' b) : w'.heap.size = w.heap.size := by
  obtain ⟨es, c, es', c', hb, rfl⟩ := h
  simp [setBlock]

theorem laid_end {w W0 w5 : World} {b n g5 cap5 len : Nat} {F : Nat → Prop} {A : Ar} {r : Raw} {D : DataW Unit} {x : Th} {o : Obj} {va : Option Addr} {vc : Nat} (h : ArRaw w b F n A r D) (hbx : Below w.heap.size w W0) (H0 : ArRaw W0 b F n A r D) (hv : r.vth = .slice va len vc) (hsz : W0.heap.size = w.heap.size + 1) (hlen : A.ths.length = len) (hx : x.key.Fit) (h0 : spotF A.ths x.key = none)
    (hX : W0.heap[w.heap.size]? = some (.cells #[.int .i64 x.k, .int .i64 x.p0, .int .i64 x.p1, .int .i64 x.p2, .int .i64 x.p3, .int .i64 x.lv, .int .i64 x.va, .int .u64 x.mask] 100 (0, 0)))
    (hown5 : w5.ownsRow 0 100 8 (.slice (some ⟨g5, 0, none⟩) (len + 1) cap5) (len + 1) (thsL A.ths ++ x.cells)) (hgrow5 : (W0.alloc o).drew.grownBy w5 (Value.slice va len vc).ownBlock) (hat5 : (Value.slice va len vc).ownBlock = some g5 ∨ g5 = W0.heap.size + 1) (hlt5 : g5 < w5.heap.size) :
    RawAt (w5.setCell ⟨b, 1, none⟩ (.slice (some ⟨g5, 0, none⟩) (len + 1) cap5)) b { r with vth := .slice (some ⟨g5, 0, none⟩) (len + 1) cap5 } ∧
    (w5.setCell ⟨b, 1, none⟩ (.slice (some ⟨g5, 0, none⟩) (len + 1) cap5)).heap[w.heap.size]? = some (.cells #[.int .i64 x.k, .int .i64 x.p0, .int .i64 x.p1, .int .i64 x.p2, .int .i64 x.p3, .int .i64 x.lv, .int .i64 x.va, .int .u64 x.mask] 100 (0, 0)) ∧
    (w5.setCell ⟨b, 1, none⟩ (.slice (some ⟨g5, 0, none⟩) (len + 1) cap5)).drew.ownsMap Tryz.prog 97 (plainElem Tryz.prog 3) r.mp n D ∧
    ∀ w6, w6.ownsMap Tryz.prog 97 (plainElem Tryz.prog 3) r.mp (n + 1) (D.put (kl x.key) (.lit (.int .i64 ((len : Int) + 2)))) → (w5.setCell ⟨b, 1, none⟩ (.slice (some ⟨g5, 0, none⟩) (len + 1) cap5)).drew.mapTurned w6 r.mp →
      (∃ r' D', ArRaw w6 b (More F w w6) (n + 1) { A with ths := A.ths ++ [x] } r' D') ∧ Apart F w w6 := by
  rw [← hv] at hgrow5 hat5
  have hs5 := hgrow5.size
  have hs5' : (W0.alloc o).drew.heap.size = W0.heap.size + 1 := by simp
  rw [hs5'] at hs5
  have hblt : b < W0.heap.size := H0.flt b h.fb
  have hnew : b ≠ w.heap.size := by have := h.raw.lt; omega
  have hbk : ∀ k, F k → r.vth.ownBlock ≠ some k → w5.heap[k]? = W0.heap[k]? := fun k hk hne => grown_blk hgrow5 (H0.flt k hk) hne
  have hR := (H0.raw.go (hbk b h.fb H0.vb)).setTh (.slice (some ⟨g5, 0, none⟩) (len + 1) cap5)
  have hvn : r.vth.ownBlock ≠ some w.heap.size := fun e => by have := h.flt _ (h.fv _ e); omega
  refine ⟨hR, ?_, ?_, fun w6 hm6 ht6 => ?_⟩
  · rw [heap_set (fun e => hnew e.symm)]
    exact (grown_blk hgrow5 (by omega) hvn).trans hX
  · exact map_other (w := W0) H0.map ((heap_set H0.mb).trans (hbk _ h.fm H0.vm))
  · have hg6 := grown_of_turned ht6
    have hs6 := size_of_turned ht6
    have hs6' : w6.heap.size = w5.heap.size := hs6.trans (show (w5.setCell _ _).heap.size = _ from size_set)
    have hrow : ThRow w5 0 (.slice (some ⟨g5, 0, none⟩) (len + 1) cap5) (A.ths ++ [x]) := by
      unfold ThRow
      rw [List.length_append, hlen, thsL_append]
      exact hown5
    have hnum := H0.num.push H0.map.isMap hx h0
    rw [hlen] at hnum
    have hE := H0.setThings (w1 := w5) (w2 := w6) (v := .slice (some ⟨g5, 0, none⟩) (len + 1) cap5) (F' := More F w w6) hrow hbk (fun k hk => ?_) hnum hm6 (fun k hk => ?_) (fun k hk => Or.inl hk) (fun k hk => ?_) (fun k hk => ?_)
    · refine ⟨⟨_, _, hE⟩, ?_⟩
      have a0 : Apart F w W0 := Apart.of hbx
      have a1 : Apart F W0 (W0.alloc o).drew := ⟨rfl, rfl, rfl, by omega, fun k hk _ => by show (W0.heap.push o)[k]? = _; rw [Array.getElem?_push, if_neg (by omega)]⟩
      have a2 : Apart F (W0.alloc o).drew w5 := Apart.grown hgrow5 fun k hk => h.fv k hk
      have a3 : Apart F w5 (w5.setCell ⟨b, 1, none⟩ (.slice (some ⟨g5, 0, none⟩) (len + 1) cap5)).drew := (Apart.set w5 _ h.fb).drew
      have a4 : Apart F (w5.setCell ⟨b, 1, none⟩ (.slice (some ⟨g5, 0, none⟩) (len + 1) cap5)).drew w6 := Apart.grown hg6 fun k hk => by cases hk; exact h.fm
      exact (((a0.trans a1 fun k hk => Or.inl hk).trans a2 fun k hk => Or.inl hk).trans a3 fun k hk => Or.inl hk).trans a4 fun k hk => Or.inl hk
    · simp only [Value.ownBlock, Option.some.injEq] at hk
      subst hk
      rcases hat5 with h1 | h1
      · exact Or.inl h1
      · exact Or.inr (by omega)
    · by_cases hkl : k < (w5.setCell ⟨b, 1, none⟩ (.slice (some ⟨g5, 0, none⟩) (len + 1) cap5)).drew.heap.size
      · exact hg6.block k hkl fun e => hk (Option.some.inj e)
      · rw [Array.getElem?_eq_none (by rw [hs6]; omega), Array.getElem?_eq_none (by show _ ≤ k; exact Nat.le_of_not_lt hkl)]
    · simp only [Value.ownBlock, Option.some.injEq] at hk
      subst hk
      rcases hat5 with h1 | h1
      · exact Or.inl (h.fv _ h1)
      · exact Or.inr ⟨by omega, by omega⟩
    · rcases hk with h1 | h1
      · have := h.flt k h1; omega
      · exact h1.2

set_option maxRecDepth 20000 in
set_option maxHeartbeats 4000000 in
theorem lay_any (b n : Nat) (F : Nat → Prop) (A : Ar) (r : Raw) (D : DataW Unit) (x : Th) (w : World) (h : ArRaw w b F n A r D) (hf : A.free = []) (hx : x.key.Fit) (h0 : spotF A.ths x.key = none) (hn : n < 1000000000) (hlen : A.ths.length < 1000000) :
    Calls Tryz.prog 83 #[.pointer (some ⟨b, 0, none⟩), x.val] w fun e w' => e = .returned (.int .i64 ((A.ths.length : Int) + 2)) ∧ (∃ r' D', ArRaw w' b (More F w w') (n + 1) { A with ths := A.ths ++ [x] } r' D') ∧ Apart F w w' := by
  have hblt := h.raw.lt
  obtain ⟨va, vc, hv⟩ := h.ths.shape
  obtain ⟨fa, fc, hfr⟩ := h.free.shape
  rw [hf] at hfr
  simp only [List.length_nil] at hfr
  have c1 := h.raw.at 1 (by omega)
  rw [Raw.c1] at c1
  have c3 := h.raw.at 3 (by omega)
  rw [Raw.c3, hfr] at c3
  have hw : IntKind.i64.wrap (2 + (A.ths.length : Int)) = (A.ths.length : Int) + 2 := by rw [IntKind.wrap_i64]; omega
  have hbx : Below w.heap.size w (w.alloc (.cells #[.int .i64 x.k, .int .i64 x.p0, .int .i64 x.p1, .int .i64 x.p2, .int .i64 x.p3, .int .i64 x.lv, .int .i64 x.va, .int .u64 x.mask] 100)) := (Below.refl _ _).alloc (Nat.le_refl _) _
  have hX : (w.alloc (.cells #[.int .i64 x.k, .int .i64 x.p0, .int .i64 x.p1, .int .i64 x.p2, .int .i64 x.p3, .int .i64 x.lv, .int .i64 x.va, .int .u64 x.mask] 100)).heap[w.heap.size]? = some (.cells #[.int .i64 x.k, .int .i64 x.p0, .int .i64 x.p1, .int .i64 x.p2, .int .i64 x.p3, .int .i64 x.lv, .int .i64 x.va, .int .u64 x.mask] 100 (0, 0)) := heap_alloc_new w _
  have HV : Hid (r.vth = .slice va A.ths.length vc) := hv
  have c1' : w.cell? ⟨b, 1, none⟩ = some (.slice va A.ths.length vc) := by rw [c1, hv]
  clear hv c1
  unfold Th.val
  go_enter Tryz.func83, Tryz.ntmps83
  go_wp2_with fail
  obtain ⟨i0, hi, hz0, hz1, hz2⟩ := info_parts Tryz.info100
  generalize hW0 : w.alloc (.cells #[.int .i64 x.k, .int .i64 x.p0, .int .i64 x.p1, .int .i64 x.p2, .int .i64 x.p3, .int .i64 x.lv, .int .i64 x.va, .int .u64 x.mask] 100) = W0 at *
  have HSZ : Hid (W0.heap.size = w.heap.size + 1) := by show _ = _; rw [← hW0]; simp
  clear hW0
  have H0 := h.below hbx
  have hrow := H0.ths
  rw [HV.out] at hrow
  have hbt := H0.vb
  rw [HV.out] at hbt
  have hblt0 : b < W0.heap.size := by have := HSZ.out; omega
  obtain ⟨d0, d1, d2, d3, d4, d5, d6, d7⟩ := cells8 hX
  have c1 : W0.cell? ⟨b, 1, none⟩ = some (.slice va A.ths.length vc) := (hbx.cell (p := ⟨b, 1, none⟩) hblt).trans c1'
  have OW : Hid (∀ o, (W0.alloc o).drew.ownsRow 0 100 8 (.slice va A.ths.length vc) A.ths.length (thsL A.ths)) := fun o => World.ownsRow.alloc hrow o
  have hnw : ∀ W : World, ∀ j u, x.cells[j]? = some u → (W.alloc (.cells #[.int .i64 x.k, .int .i64 x.p0, .int .i64 x.p1, .int .i64 x.p2, .int .i64 x.p3, .int .i64 x.lv, .int .i64 x.va, .int .u64 x.mask] 100)).drew.cell? ((⟨W.heap.size, 0, none⟩ : Addr).add j) = some u := fun W =>
    World.news_of_block (cs := #[.int .i64 x.k, .int .i64 x.p0, .int .i64 x.p1, .int .i64 x.p2, .int .i64 x.p3, .int .i64 x.lv, .int .i64 x.va, .int .u64 x.mask]) (t := 100) (fr := (0, 0)) (heap_alloc_new W _)
  have hone : ∀ u ∈ x.cells, u.oneCell' = true := by
    intro u hu
    simp [Th.cells] at hu
    rcases hu with rfl | rfl | rfl | rfl | rfl | rfl | rfl | rfl <;> rfl
  generalize hlenA : A.ths.length = len at *
  clear c1' c3 hfr
  go_cut [] from 32 to 41 (fun wc => ∃ g5 cap5 w5 o, w5.ownsRow 0 100 8 (.slice (some ⟨g5, 0, none⟩) (len + 1) cap5) (len + 1) (thsL A.ths ++ x.cells) ∧ (W0.alloc o).drew.grownBy w5 (Value.slice va len vc).ownBlock ∧ ((Value.slice va len vc).ownBlock = some g5 ∨ g5 = W0.heap.size + 1) ∧ g5 < w5.heap.size ∧ wc = w5.setCell ⟨b, 1, none⟩ (.slice (some ⟨g5, 0, none⟩) (len + 1) cap5))
  case first =>
    go_region_law (refine step_append_lies _ (by rfl) _ _ 71 (by rfl) 0 100 i0 noTh.val 8 64 Tryz.underlying71 hi hz0 hz1 hz2 rfl (by decide) (.slice va len vc) len (thsL A.ths) (by rfl) (OW.out _) ⟨W0.heap.size, 0, none⟩ 1 1 x.cells (by rfl) rfl (hnw _) hone (by omega) (by unfold maxLen; omega) (by omega) (by omega) (W0.heap.size + 1) (by simp) ?_; intro g5 cap5 w5 hown5 hgrow5 hat5 hlt5; have R5 := H0.raw.go (grown_blk hgrow5 hblt0 hbt); have q4 := R5.at 1 (by omega); have q5 := R5.frozen 1)
    all_goals
      go_wp2_with fail
      go_meet
      case rel => exact ⟨g5, cap5, w5, _, hown5, hgrow5, hat5, hlt5, rfl⟩
  case rest =>
  obtain ⟨g5, cap5, w5, o, hown5, hgrow5, hat5, hlt5, rfl⟩ := hcut
  have HL := laid_end h hbx H0 HV.out HSZ.out hlenA hx h0 hX hown5 hgrow5 hat5 hlt5
  have R6 : RawAt (w5.setCell ⟨b, 1, none⟩ (.slice (some ⟨g5, 0, none⟩) (len + 1) cap5)) b { r with vth := .slice (some ⟨g5, 0, none⟩) (len + 1) cap5 } := HL.1
  have hX6 := HL.2.1
  have hM6 := HL.2.2.1
  have HE : Hid _ := HL.2.2.2
  clear HL hown5 hgrow5 hat5 hlt5 hX hrow OW hnw hone H0 c1 d0 d1 d2 d3 d4 d5 d6 d7 hbt
  generalize w5.setCell ⟨b, 1, none⟩ (.slice (some ⟨g5, 0, none⟩) (len + 1) cap5) = W1 at *
  have c2 := R6.at 2 (by omega)
  rw [Raw.c2] at c2
  simp only at c2
  obtain ⟨d0, d1, d2, d3, d4, d5, d6, d7⟩ := cells8 hX6
  obtain ⟨w6, hrun, hown6, hturn⟩ := World.ownsMap.store (w := W1.drew) hM6 thLaw Tryz.underlying72 (show n < maxLen by unfold maxLen; omega) (key_ky hx) (plainElem_int (H := Unit) Tryz.underlying3 (show (Lit.int .i64 ((len : Int) + 2)).wf = true from wf_of_fits (by unfold Fits; omega)))
  unfold Ky.val Th.key at hrun
  simp only at hrun
  go_wp2_with fail
  go_region
  all_goals
    go_wp2_with fail
    go_ret
    exact ⟨ret_i (by rw [hlenA]), HE.out w6 hown6 hturn⟩
end Go.Proofs.YtgipjplifndniaaGreatDoor.A
