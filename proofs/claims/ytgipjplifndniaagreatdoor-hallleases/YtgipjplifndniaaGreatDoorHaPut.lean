/- What a hall answers; a universe's root. -/
import Derived.Test.YtgipjplifndniaaGreatDoorArLoseP
import Derived.Lib.MinMax
import Derived.Test.YtgipjplifndniaaGreatDoorLpItem
import Derived.Test.YtgipjplifndniaaGreatDoorArReach
import Derived.Test.YtgipjplifndniaaGreatDoorArGlob
import Derived.Test.YtgipjplifndniaaGreatDoorKyCopies
namespace Go.Proofs.YtgipjplifndniaaGreatDoor.A
open Go.RowKit Go.Maps

def backK (m : Int) (l : List Int) : Nat := (min (max m 0) (l.length : Int)).toNat
theorem backN_sound {A : Ar} (hS : Sound A) {t : Nat} (ht : t < 64) (k : Nat) : Sound (A.lose t ((A.fresh t).drop k) ((A.fresh t).take k)) := by
  obtain ⟨h1, h2⟩ := fresh_own hS ht
  refine lose_sound hS ht ⟨h1.sublist (List.drop_sublist _ _), fun id hid => h2 id (List.mem_of_mem_drop hid)⟩ ⟨h1.sublist (List.take_sublist _ _), fun id hid => h2 id (List.mem_of_mem_take hid)⟩ fun id hid hd => ?_
  have h3 : ((A.fresh t).take k ++ (A.fresh t).drop k).Nodup := by rw [List.take_append_drop]; exact h1
  exact (List.nodup_append.1 h3).2.2 id hid id hd rfl
end Go.Proofs.YtgipjplifndniaaGreatDoor.A

namespace Go.Proofs.YtgipjplifndniaaGreatDoor.A
open Go.RowKit Go.Proofs.YtgipjplifndniaaGreatDoor.L

structure Ch (L : Nat → Prop) (o : Nat → Nat) (w : World) (o' : Nat → Nat) (w' : World) : Prop where
  os : w'.os = w.os
  tape : w'.tape = w.tape
  output : w'.output = w.output
  size : w.heap.size ≤ w'.heap.size
  lab : ∀ k, k < w.heap.size → o' k = o k
  block : ∀ k, k < w.heap.size → ¬ L (o k) → w'.heap[k]? = w.heap[k]?
def ext (o : Nat → Nat) (s l : Nat) : Nat → Nat := fun k => if k < s then o k else l
theorem ext_old {o : Nat → Nat} {s l k : Nat} (h : k < s) : ext o s l k = o k := by unfold ext; rw [if_pos h]
theorem ext_new {o : Nat → Nat} {s l k : Nat} (h : s ≤ k) : ext o s l k = l := by unfold ext; rw [if_neg (by omega)]
theorem ext_is {o : Nat → Nat} {s l k : Nat} (h : o k = l) : ext o s l k = l := by unfold ext; split; exact h; rfl
variable {L M : Nat → Prop} {o o1 o2 : Nat → Nat} {w w1 w2 : World}
theorem Ch.refl (L : Nat → Prop) (o : Nat → Nat) (w : World) : Ch L o w o w := ⟨rfl, rfl, rfl, Nat.le_refl _, fun _ _ => rfl, fun _ _ _ => rfl⟩
theorem Ch.trans (h : Ch L o w o1 w1) (k : Ch L o1 w1 o2 w2) : Ch L o w o2 w2 :=
  ⟨k.os.trans h.os, k.tape.trans h.tape, k.output.trans h.output, Nat.le_trans h.size k.size, fun i hi => (k.lab i (Nat.lt_of_lt_of_le hi h.size)).trans (h.lab i hi), fun i hi hn => (k.block i (Nat.lt_of_lt_of_le hi h.size) (by rw [h.lab i hi]; exact hn)).trans (h.block i hi hn)⟩
theorem Ch.mono (h : Ch L o w o1 w1) (hm : ∀ k, L k → M k) : Ch M o w o1 w1 := ⟨h.os, h.tape, h.output, h.size, h.lab, fun k hk hn => h.block k hk fun e => hn (hm _ e)⟩
theorem Ch.ofBelow (h : Below w.heap.size w w1) (l : Nat) : Ch L o w (ext o w.heap.size l) w1 := ⟨h.os, h.tape, h.output, h.size, fun _ hk => ext_old hk, fun k hk _ => h.block k hk⟩
theorem Ch.set (o : Nat → Nat) (w : World) (a : Addr) (u : Value) (h : L (o a.block)) : Ch L o w o (w.setCell a u) :=
  ⟨rfl, rfl, rfl, by simp [World.setCell], fun _ _ => rfl, fun k _ hn => Below.heap_setCell _ _ _ _ fun e => hn (e ▸ h)⟩
theorem Ch.drew (h : Ch L o w o1 w1) : Ch L o w o1 w1.drew := ⟨h.os, h.tape, h.output, h.size, h.lab, h.block⟩
theorem Ch.drewN (h : Ch L o w o1 w1) (n : Nat) : Ch L o w o1 (w1.drewN n) := ⟨h.os, h.tape, h.output, h.size, h.lab, h.block⟩
theorem Ch.at (h : Ch L o w o1 w1) {k l : Nat} (hk : k < w.heap.size) (hl : o k = l) (hn : ¬ L l) : w1.heap[k]? = w.heap[k]? ∧ o1 k = l := ⟨h.block k hk (by rw [hl]; exact hn), (h.lab k hk).trans hl⟩
def ArL (w : World) (o : Nat → Nat) (b : Nat) (A : Ar) : Prop := ∃ F, AtP w b F A ∧ ∀ k, F k → o k = 1
theorem ArL.ch {b : Nat} {A : Ar} (h : ArL w o b A) (k : Ch L o w o1 w1) (hn : ¬ L 1) : ArL w1 o1 b A := by
  obtain ⟨F, h1, h2⟩ := h
  exact ⟨F, h1.other k.size fun i hi => (k.at (h1.flt i hi) (h2 i hi) hn).1, fun i hi => (k.at (h1.flt i hi) (h2 i hi) hn).2⟩
theorem led_ch {b : Nat} {F : Nat → Prop} {A : Ar} (hF : ∀ k, F k → o k = 1) (h : Led w b F A w1) : ArL w1 (ext o w.heap.size 1) b A ∧ Ch (fun l => l = 1) o w (ext o w.heap.size 1) w1 := by
  obtain ⟨F', h1, h2, h3⟩ := h
  refine ⟨⟨F', h2, fun k hk => ?_⟩, h3.os, h3.tape, h3.output, h3.size, fun _ hk => ext_old hk, fun k hk hn => h3.block k hk fun f => hn (hF k f)⟩
  rcases h1 k hk with h4 | h4
  · exact ext_is (hF k h4)
  · exact ext_new h4
def LpB (w : World) (lb b : Nat) (t : Nat) (rb rl e : Int) : Prop := w.heap[lb]? = some (.cells #[.pointer (some ⟨b, 0, none⟩), .int .i64 t, .int .i64 rb, .int .i64 rl, .int .i64 e] 206 (0, 0))
structure LS (w : World) (o : Nat → Nat) (lb b t : Nat) (rb rl e : Int) (A : Ar) : Prop where
  blk : LpB w lb b t rb rl e
  lab : o lb = 2
  ar : ArL w o b A
def AL (l : Nat) : Prop := l = 1 ∨ l = 2
structure OnlyL (b : Nat) (w w' : World) : Prop where
  os : w'.os = w.os
  tape : w'.tape = w.tape
  output : w'.output = w.output
  size : w.heap.size ≤ w'.heap.size
  block : ∀ k, k < w.heap.size → k ≠ b → w'.heap[k]? = w.heap[k]?
end Go.Proofs.YtgipjplifndniaaGreatDoor.A

namespace Go.Proofs.YtgipjplifndniaaGreatDoor.A
open Go.RowKit Go.Maps

theorem glob_back {A : Ar} (h : Glob A) (hS : Sound A) {t : Nat} (ht : t < 64) (k : Nat) : Glob (A.lose t ((A.fresh t).drop k) ((A.fresh t).take k)) := by
  obtain ⟨hnd, hown⟩ := fresh_own hS ht
  have ho : OwnIds A.ths t ((A.fresh t).drop k) := ⟨hnd.sublist (List.drop_sublist _ _), fun id hid => hown id (List.mem_of_mem_drop hid)⟩
  refine ⟨gl_lose h.gl hS ht ho, fun u hu => ?_⟩
  obtain ⟨v1, v2⟩ := view_lose (f := (A.fresh t).take k) hS ht ho
  by_cases e : u = t
  · subst e
    rw [v1]
    refine (h.wel u hu).less (fun id f hf hn => ?_) (fun n id f hf hn hn2 r hr => ?_) (fun id hid => ?_)
    · exact (h.wel u hu).fr k id f hf hn
    · by_cases hl : n ≤ ((A.fresh u).take k).length
      · have hd : (A.fresh u).drop n = ((A.fresh u).take k).drop n ++ (A.fresh u).drop k := by
          rw [← List.drop_append_of_le_length hl, List.take_append_drop]
        have h1 := (h.wel u hu).fr n id f hf (by
          show id ∉ (A.fresh u).drop n
          rw [hd]
          exact fun hm => (List.mem_append.1 hm).elim hn2 hn) r hr
        have h1 : r ∉ (A.fresh u).drop n := h1
        rw [hd] at h1
        exact fun hm => h1 (List.mem_append_left _ hm)
      · rw [List.drop_of_length_le (by omega)]
        simp
    · refine ⟨fun hd => ?_, (h.wel u hu).fo id (List.mem_of_mem_take hid)⟩
      have h3 : ((A.fresh u).take k ++ (A.fresh u).drop k).Nodup := by rw [List.take_append_drop]; exact hnd
      exact (List.nodup_append.1 h3).2.2 id hid id hd rfl
  · rw [v2 u e]; exact h.wel u hu
end Go.Proofs.YtgipjplifndniaaGreatDoor.A

namespace Go.Proofs.YtgipjplifndniaaGreatDoor.U
open Go.RowKit Go.Maps Go.Proofs.YtgipjplifndniaaGreatDoor.L Go.Proofs.YtgipjplifndniaaGreatDoor.A Go.Proofs.YtgipjplifndniaaGreatDoor.K

structure Wd where
  name : ByteArray
  born : Int
  live : Int
  root : Int
structure Hl where
  ws : List Wd
  serial : Int
  ks : List K.Ky
def WdB (w : World) (k : Nat) (x : Wd) : Prop := w.heap[k]? = some (.cells #[.string x.name, .int .i64 x.born, .int .i64 x.live, .int .i64 x.root] 107 (0, 0))
def HlB (w : World) (hb ab t : Nat) (draw : Int) (wv : Value) (serial : Int) (kv : Value) : Prop := w.heap[hb]? = some (.cells #[.pointer (some ⟨ab, 0, none⟩), .int .i64 t, .int .i64 draw, wv, .int .i64 serial, kv] 56 (0, 0))
def PRow (w : World) (v : Value) (ids : List Nat) : Prop := w.ownsRow 0 103 1 v ids.length (ids.map fun b => Value.pointer (some ⟨b, 0, none⟩))
structure HlAt (w : World) (o : Nat → Nat) (L hb ab t : Nat) (draw : Int) (S : Hl) (ids : List Nat) (wv kv : Value) : Prop where
  own : HlB w hb ab t draw wv S.serial kv
  lab : o hb = L
  row : PRow w wv ids
  rlab : ∀ k, wv.ownBlock = some k → o k = L
  len : ids.length = S.ws.length
  each : ∀ (i k : Nat) (x : Wd), ids[i]? = some k → S.ws[i]? = some x → WdB w k x ∧ o k = L
  nodup : ids.Nodup
  keys : KRow w 0 kv S.ks
  klab : ∀ k, kv.ownBlock = some k → o k = L
  rne : ∀ k, wv.ownBlock = some k → k ≠ hb ∧ k ∉ ids
  kne : ∀ k, kv.ownBlock = some k → k ≠ hb ∧ k ∉ ids
  hne : hb ∉ ids
variable {w w1 : World} {o o1 : Nat → Nat} {L hb ab t : Nat} {draw : Int} {S : Hl} {ids : List Nat} {wv kv : Value} {M : Nat → Prop}
theorem HlAt.lt (h : HlAt w o L hb ab t draw S ids wv kv) : hb < w.heap.size := (Array.getElem?_eq_some_iff.1 h.own).1
theorem HlAt.wlt (h : HlAt w o L hb ab t draw S ids wv kv) {i k : Nat} (hk : ids[i]? = some k) : ∃ x, S.ws[i]? = some x ∧ WdB w k x ∧ o k = L ∧ k < w.heap.size := by
  have hi := (List.getElem?_eq_some_iff.1 hk).1
  have hx : S.ws[i]? = some (S.ws[i]'(by rw [← h.len]; exact hi)) := List.getElem?_eq_getElem _
  obtain ⟨h1, h2⟩ := h.each i k _ hk hx
  exact ⟨_, hx, h1, h2, (Array.getElem?_eq_some_iff.1 h1).1⟩
theorem HlAt.keep (h : HlAt w o L hb ab t draw S ids wv kv) (hb' : ∀ k, k < w.heap.size → o k = L → w1.heap[k]? = w.heap[k]? ∧ o1 k = L) : HlAt w1 o1 L hb ab t draw S ids wv kv := by
  have hr : ∀ k, wv.ownBlock = some k → k < w.heap.size := fun k hk => (World.ownsRow.lt h.row k hk).2
  have hq : ∀ k, kv.ownBlock = some k → k < w.heap.size := fun k hk => (World.ownsRow.lt h.keys k hk).2
  refine ⟨(hb' hb h.lt h.lab).1.trans h.own, (hb' hb h.lt h.lab).2, row_other h.row fun k hk => (hb' k (hr k hk) (h.rlab k hk)).1, fun k hk => (hb' k (hr k hk) (h.rlab k hk)).2, h.len, fun i k x hk hx => ?_, h.nodup, row_other h.keys fun k hk => (hb' k (hq k hk) (h.klab k hk)).1, fun k hk => (hb' k (hq k hk) (h.klab k hk)).2, h.rne, h.kne, h.hne⟩
  obtain ⟨h1, h2⟩ := h.each i k x hk hx
  have h3 := hb' k (Array.getElem?_eq_some_iff.1 h1).1 h2
  exact ⟨h3.1.trans h1, h3.2⟩
theorem HlAt.ch (h : HlAt w o L hb ab t draw S ids wv kv) (k : Ch M o w o1 w1) (hn : ¬ M L) : HlAt w1 o1 L hb ab t draw S ids wv kv := h.keep fun _ hk hl => k.at hk hl hn
theorem HlAt.below (h : HlAt w o L hb ab t draw S ids wv kv) (k : Below w.heap.size w w1) (l : Nat) : HlAt w1 (ext o w.heap.size l) L hb ab t draw S ids wv kv := h.ch (M := fun _ => False) (Ch.ofBelow k l) fun h => h
theorem HlAt.cells (h : HlAt w o L hb ab t draw S ids wv kv) : w.cell? ⟨hb, 0, none⟩ = some (.pointer (some ⟨ab, 0, none⟩)) ∧ w.cell? ⟨hb, 1, none⟩ = some (.int .i64 t) ∧ w.cell? ⟨hb, 2, none⟩ = some (.int .i64 draw) ∧ w.cell? ⟨hb, 3, none⟩ = some wv ∧ w.cell? ⟨hb, 4, none⟩ = some (.int .i64 S.serial) ∧ w.cell? ⟨hb, 5, none⟩ = some kv :=
  ⟨by rw [Lib.cell_of_heap h.own]; rfl, by rw [Lib.cell_of_heap h.own]; rfl, by rw [Lib.cell_of_heap h.own]; rfl, by rw [Lib.cell_of_heap h.own]; rfl, by rw [Lib.cell_of_heap h.own]; rfl, by rw [Lib.cell_of_heap h.own]; rfl⟩
theorem HlAt.free (h : HlAt w o L hb ab t draw S ids wv kv) (i : Nat) : w.frozen? ⟨hb, i, none⟩ = false := Lib.frozen_of_heap h.own i
theorem WdB.cells {k : Nat} {x : Wd} (h : WdB w k x) : w.cell? ⟨k, 0, none⟩ = some (.string x.name) ∧ w.cell? ⟨k, 1, none⟩ = some (.int .i64 x.born) ∧ w.cell? ⟨k, 2, none⟩ = some (.int .i64 x.live) ∧ w.cell? ⟨k, 3, none⟩ = some (.int .i64 x.root) :=
  ⟨by rw [Lib.cell_of_heap h]; rfl, by rw [Lib.cell_of_heap h]; rfl, by rw [Lib.cell_of_heap h]; rfl, by rw [Lib.cell_of_heap h]; rfl⟩
theorem prow_at {v : Value} (h : PRow w v ids) : ∃ a c, v = .slice a ids.length c ∧ (ids = [] ∨ ∃ g off, a = some ⟨g, off, none⟩ ∧ ∀ (i k : Nat), ids[i]? = some k → w.cell? ⟨g, off + i, none⟩ = some (.pointer (some ⟨k, 0, none⟩))) := by
  have h' := h
  rcases h'.2 with ⟨rfl, h2⟩ | ⟨g, cap, cur, rfl, _⟩
  · have hn : ids.length = 0 := h2
    exact ⟨none, 0, by rw [hn], .inl (List.eq_nil_of_length_eq_zero hn)⟩
  · refine ⟨some ⟨g, 0, none⟩, cap, rfl, .inr ⟨g, 0, rfl, fun i k hk => ?_⟩⟩
    have h3 : (ids.map fun b => Value.pointer (some ⟨b, 0, none⟩))[i]? = some (.pointer (some ⟨k, 0, none⟩)) := by rw [List.getElem?_map, hk]; rfl
    rw [Nat.zero_add]
    rw [World.ownsRow.cellAt h i (by have := (List.getElem?_eq_some_iff.1 hk).1; omega)]
    exact h3
end Go.Proofs.YtgipjplifndniaaGreatDoor.U

namespace Go.Proofs.YtgipjplifndniaaGreatDoor.U
open Go.RowKit Go.Maps Go.Proofs.YtgipjplifndniaaGreatDoor.L Go.Proofs.YtgipjplifndniaaGreatDoor.A Go.Proofs.YtgipjplifndniaaGreatDoor.K

variable {w w1 : World} {o o1 : Nat → Nat} {L hb ab t : Nat} {draw : Int} {S : Hl} {ids : List Nat} {wv kv : Value}
def atN (ws : List Wd) (name : ByteArray) : Option Nat := ws.findIdx? fun x => decide (x.name = name)
theorem atN_some {ws : List Wd} {name : ByteArray} {i : Nat} (h : atN ws name = some i) : ∃ x, ws[i]? = some x ∧ x.name = name ∧ ∀ (j : Nat), j < i → ∀ y, ws[j]? = some y → y.name ≠ name := by
  unfold atN at h
  rw [List.findIdx?_eq_some_iff_getElem] at h
  obtain ⟨h1, h2, h3⟩ := h
  refine ⟨ws[i], List.getElem?_eq_getElem h1, by simpa using h2, fun j hj y hy => ?_⟩
  have h4 := h3 j hj
  obtain ⟨h5, rfl⟩ := List.getElem?_eq_some_iff.1 hy
  simpa using h4
theorem atN_is {ws : List Wd} {name : ByteArray} {i : Nat} {x : Wd} (h1 : ws[i]? = some x) (h2 : x.name = name) (h3 : ∀ (j : Nat), j < i → ∀ y, ws[j]? = some y → y.name ≠ name) : atN ws name = some i := by
  unfold atN
  rw [List.findIdx?_eq_some_iff_getElem]
  obtain ⟨h5, rfl⟩ := List.getElem?_eq_some_iff.1 h1
  exact ⟨h5, by simpa using h2, fun j hj => by simpa using h3 j hj _ (List.getElem?_eq_getElem (by omega))⟩
theorem atN_none {ws : List Wd} {name : ByteArray} (h : ∀ (j : Nat) y, ws[j]? = some y → y.name ≠ name) : atN ws name = none := by
  unfold atN
  rw [List.findIdx?_eq_none_iff]
  intro x hx
  obtain ⟨j, hj⟩ := List.getElem?_of_mem hx
  simpa using h j x hj
def ptN (ws : List Wd) (ids : List Nat) (name : ByteArray) : Value := match atN ws name with
  | none => .pointer none
  | some i => .pointer (some ⟨ids[i]!, 0, none⟩)
set_option maxRecDepth 20000 in
set_option maxHeartbeats 2000000 in
theorem world_any (h : HlAt w o L hb ab t draw S ids wv kv) (name : ByteArray) (hn : ids.length ≤ 1000000) :
    Calls Tryz.prog 50 #[.pointer (some ⟨hb, 0, none⟩), .string name] w fun r w' => r = .returned (ptN S.ws ids name) ∧ w' = w := by
  obtain ⟨_, _, _, c3, _, _⟩ := h.cells
  obtain ⟨a, cp, rfl, hrow⟩ := prow_at h.row
  have H0 : Hid (HlAt w o L hb ab t draw S ids (.slice a ids.length cp) kv) := h
  have HROW : Hid (ids = [] ∨ ∃ g off, a = some ⟨g, off, none⟩ ∧ ∀ (i k : Nat), ids[i]? = some k → w.cell? ⟨g, off + i, none⟩ = some (.pointer (some ⟨k, 0, none⟩))) := hrow
  clear h hrow
  obtain ⟨n, hN⟩ : ∃ n, ids.length = n := ⟨_, rfl⟩
  have HN : Hid (ids.length = n) := hN
  rw [hN] at c3 hn
  clear hN
  go_enter Tryz.func50, Tryz.ntmps50
  go_wp2_with fail
  go_loopg [12] n (fun gk s12 wr => ∃ j : Nat, j + gk = n ∧ s12 = .int .i64 j ∧ wr = w ∧ (∀ (i : Nat) (y : Wd), i < j → S.ws[i]? = some y → y.name ≠ name))
  case atStart => exact ⟨0, by omega, rfl, rfl, fun i y hi => absurd hi (by omega)⟩
  case round =>
    obtain ⟨j, hj, rfl, rfl, hall⟩ := hrel
    have HJ : Hid (j + gk = n) := hj
    have HA : Hid (∀ (i : Nat) (y : Wd), i < j → S.ws[i]? = some y → y.name ≠ name) := hall
    have hjn : j ≤ n := by omega
    clear hj hall
    by_cases hlt : j < n
    · have hjk : j < ids.length := by have := HN.out; omega
      obtain ⟨k, hk⟩ : ∃ k, ids[j]? = some k := ⟨_, List.getElem?_eq_getElem hjk⟩
      obtain ⟨g, off, rfl, hc⟩ : ∃ g off, a = some ⟨g, off, none⟩ ∧ ∀ (i k : Nat), ids[i]? = some k → wr.cell? ⟨g, off + i, none⟩ = some (.pointer (some ⟨k, 0, none⟩)) := by
        rcases HROW.out with h | h
        · rw [h] at hjk; simp at hjk
        · exact h
      have hcj := hc j k hk
      obtain ⟨x, hx, hxb, _, _⟩ := H0.out.wlt hk
      obtain ⟨x0, _⟩ := hxb.cells
      have HX : Hid (ids[j]? = some k ∧ S.ws[j]? = some x) := ⟨hk, hx⟩
      have hi1 : (0 : Int) ≤ (j : Int) := by omega
      have hi2 : (j : Int) < (n : Int) := by omega
      clear hc hk hx hxb hjk
      by_cases he : x.name = name
      · have HE : Hid (x.name = name) := he
        clear he
        have hq : (x.name.toList == name.toList) = true := by rw [beq_ba]; exact decide_eq_true HE.out
        go_wp2_with fail
        go_ret
        have h1 : atN S.ws name = some j := atN_is HX.out.2 HE.out fun i hi y hy => HA.out i y hi hy
        refine ⟨?_, rfl⟩
        unfold ptN
        rw [h1]
        simp only
        rw [show ids[j]! = k by rw [List.getElem!_eq_getElem?_getD, HX.out.1]; rfl]
        rfl
      · have HE : Hid (¬ x.name = name) := he
        clear he
        have hq : (x.name.toList == name.toList) = false := by rw [beq_ba]; exact decide_eq_false HE.out
        go_wp2_with fail
        go_roundg (gk - 1)
        case measure => have := HJ.out; omega
        case rel =>
          refine ⟨j + 1, by have := HJ.out; omega, by go_num, rfl, fun i y hi hy => ?_⟩
          by_cases hij : i = j
          · subst hij
            have h2 := HX.out.2
            rw [hy] at h2
            cases h2
            exact HE.out
          · exact HA.out i y (by omega) hy
    · have hq : ¬ (j : Int) < (n : Int) := by omega
      have HL : Hid (¬ j < n) := hlt
      clear hlt
      go_wp2_with fail
      go_ret
      have h1 : atN S.ws name = none := atN_none fun i y hy => by
        have := (List.getElem?_eq_some_iff.1 hy).1
        have := H0.out.len
        exact HA.out i y (by have := HN.out; have := HL.out; omega) hy
      refine ⟨?_, rfl⟩
      unfold ptN
      rw [h1]
      rfl
end Go.Proofs.YtgipjplifndniaaGreatDoor.U

namespace Go.Proofs.YtgipjplifndniaaGreatDoor.U
open Go.RowKit Go.Maps Go.Proofs.YtgipjplifndniaaGreatDoor.L Go.Proofs.YtgipjplifndniaaGreatDoor.A Go.Proofs.YtgipjplifndniaaGreatDoor.K

variable {w w1 : World} {o o1 : Nat → Nat} {L hb ab t : Nat} {draw : Int} {S : Hl} {ids : List Nat} {wv kv : Value}
def reqV (verb : Int) (name other : ByteArray) (born live n : Int) (cells : Value) : Value := .agg #[.int .i64 verb, .string name, .string other, .int .i64 born, .int .i64 live, .int .i64 n, cells]
def ansV (code n x0 y0 x1 y1 born live : Int) (key : ByteArray) (cells : Value) : Value := .agg #[.int .i64 code, .int .i64 n, .int .i64 x0, .int .i64 y0, .int .i64 x1, .int .i64 y1, .int .i64 born, .int .i64 live, .string key, cells]
def codeV (code : Int) : Value := ansV code 0 0 0 0 0 0 0 ⟨#[]⟩ (.slice none 0 0)
set_option maxRecDepth 20000 in
set_option maxHeartbeats 1000000 in
theorem become_any (k : Nat) (x : Wd) (h : WdB w k x) (r e : Int) :
    Calls Tryz.prog 52 #[.pointer (some ⟨k, 0, none⟩), .int .i64 r, .int .i64 e] w fun y w' => y = .returned (.int .i64 e) ∧ w' = if e = 0 then w.setCell ⟨k, 3, none⟩ (.int .i64 r) else w := by
  obtain ⟨_, _, _, c3⟩ := h.cells
  have f3 : w.frozen? ⟨k, 3, none⟩ = false := Lib.frozen_of_heap h 3
  by_cases he : e = 0
  · subst he
    rw [if_pos rfl]
    clear h
    go_enter Tryz.func52, Tryz.ntmps52
    go_wp2_with fail
    go_ret
    exact ⟨rfl, rfl⟩
  · rw [if_neg he]
    clear h
    go_enter Tryz.func52, Tryz.ntmps52
    go_wp2_with fail
    go_ret
    exact ⟨rfl, rfl⟩
def Hl.put (S : Hl) (i : Nat) (r : Int) : Hl := { S with ws := S.ws.modify i fun x => { x with root := r } }
theorem HlAt.put (h : HlAt w o L hb ab t draw S ids wv kv) {i k : Nat} (hk : ids[i]? = some k) (r : Int) : HlAt (w.setCell ⟨k, 3, none⟩ (.int .i64 r)) o L hb ab t draw (S.put i r) ids wv kv := by
  have hmem : k ∈ ids := List.mem_of_getElem? hk
  have far : ∀ j, j ≠ k → (w.setCell ⟨k, 3, none⟩ (.int .i64 r)).heap[j]? = w.heap[j]? := fun j hj => Below.heap_setCell _ _ _ _ hj
  refine ⟨(far hb fun e => h.hne (e ▸ hmem)).trans h.own, h.lab, row_other h.row fun q hq => far q fun e => (h.rne q hq).2 (e ▸ hmem), h.rlab, ?_, ?_, h.nodup, row_other h.keys fun q hq => far q fun e => (h.kne q hq).2 (e ▸ hmem), h.klab, h.rne, h.kne, h.hne⟩
  · show ids.length = (S.ws.modify i _).length
    rw [List.length_modify]
    exact h.len
  · intro j k' x hk' hx
    have hx' : (S.ws.modify i fun x => { x with root := r })[j]? = some x := hx
    rw [List.getElem?_modify] at hx'
    by_cases hij : i = j
    · subst hij
      rw [hk] at hk'
      cases hk'
      cases hs : S.ws[i]? with
      | none => rw [hs] at hx'; cases hx'
      | some y =>
        rw [hs] at hx'
        have e : { y with root := r } = x := by simpa using hx'
        subst e
        obtain ⟨h1, h2⟩ := h.each i k y hk hs
        exact ⟨Go.Joins.block_setCell h1 _, h2⟩
    · have hx2 : S.ws[j]? = some x := by simpa [hij] using hx'
      have hne : k' ≠ k := fun e => hij (by
        subst e
        exact (List.getElem?_inj (List.getElem?_eq_some_iff.1 hk).1 h.nodup).1 (hk.trans hk'.symm))
      obtain ⟨h1, h2⟩ := h.each j k' x hk' hx2
      exact ⟨(far k' hne).trans h1, h2⟩
theorem HlAt.table (h : HlAt w o L hb ab t draw S ids wv kv) {u : Value} {ks' : List K.Ky} {s' : Int} (hu : KRow w 0 u ks') (hl : ∀ k, u.ownBlock = some k → o k = L ∧ k ≠ hb ∧ k ∉ ids) :
    HlAt ((w.setCell ⟨hb, 4, none⟩ (.int .i64 s')).setCell ⟨hb, 5, none⟩ u) o L hb ab t draw { S with serial := s', ks := ks' } ids wv u := by
  have far : ∀ j, j ≠ hb → ((w.setCell ⟨hb, 4, none⟩ (.int .i64 s')).setCell ⟨hb, 5, none⟩ u).heap[j]? = w.heap[j]? := fun j hj => (Below.heap_setCell _ _ _ _ hj).trans (Below.heap_setCell _ _ _ _ hj)
  refine ⟨Go.Joins.block_setCell (Go.Joins.block_setCell h.own _) _, h.lab, row_other h.row fun q hq => far q (h.rne q hq).1, h.rlab, h.len, fun i k x hk hx => ?_, h.nodup, row_other hu fun q hq => far q (hl q hq).2.1, fun k hk => (hl k hk).1, h.rne, fun k hk => (hl k hk).2, h.hne⟩
  obtain ⟨h1, h2⟩ := h.each i k x hk hx
  exact ⟨(far k fun e => h.hne (e ▸ List.mem_of_getElem? hk)).trans h1, h2⟩
end Go.Proofs.YtgipjplifndniaaGreatDoor.U
