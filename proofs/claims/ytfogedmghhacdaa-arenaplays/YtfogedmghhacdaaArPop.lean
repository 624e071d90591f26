/- heap.Pop of the free numbers: what a heap is; Swap. -/
import Derived.Test.YtfogedmghhacdaaArTake
namespace Go.Proofs.Ytfogedmghhacdaa.A
open Go.RowKit Go.Maps

theorem RawAt.setFree {w : World} {b : Nat} {r : Raw} (h : RawAt w b r) (v : Value) : RawAt (w.setCell ⟨b, 3, none⟩ v) b { r with vfr := v } :=
  h.set 3 v fun j _ => by
    by_cases e : j = 3
    · subst e; rfl
    · rw [if_neg e]
      unfold Raw.cell
      simp only [if_neg e]

section
variable {w w1 : World} {b n : Nat} {F F' : Nat → Prop} {A : Ar} {r : Raw} {D : DataW Unit}
/-- the free numbers turned: by a slice that lies apart -/
theorem ArRaw.setFree (h : ArRaw w b F n A r D) {v : Value} {l : List Int} (hrow : IntRow w1 v l) (hb1 : ∀ k, F k → r.vfr.ownBlock ≠ some k → w1.heap[k]? = w.heap[k]?)
    (hv : ∀ k, v.ownBlock = some k → r.vfr.ownBlock = some k ∨ w.heap.size ≤ k) (hF : ∀ k, F k → F' k) (hF' : ∀ k, v.ownBlock = some k → F' k) (hl : ∀ k, F' k → k < w1.heap.size) :
    ArRaw (w1.setCell ⟨b, 3, none⟩ v) b F' n { A with free := l } { r with vfr := v } D := by
  have hbb : w1.heap[b]? = w.heap[b]? := hb1 b h.fb h.fb'
  have hbv : v.ownBlock ≠ some b := fun e => by
    rcases hv b e with h1 | h1
    · exact h.fb' h1
    · have := h.flt b h.fb; omega
  refine ⟨(h.raw.go hbb).setFree v, h.room, ?_, ?_, h.num, ?_, h.lim, h.cnt, fun t ht => ?_, fun t ht k hk e => ?_, h.apt, hF _ h.fb, hF _ h.fm, fun k hk => hF k (h.fv k hk), hF', fun t ht k hk => hF k (h.ft t ht k hk), fun k hk => by rw [size_set]; exact hl k hk⟩
  · exact row_other (w := w) h.ths fun k hk => (heap_set fun e => h.vb (by rw [← e]; exact hk)).trans (hb1 k (h.fv k hk) (h.vf hk))
  · exact map_other (w := w) h.map ((heap_set h.mb).trans (hb1 _ h.fm h.fm'))
  · exact row_other (w := w1) hrow fun k hk => heap_set fun e => hbv (by rw [hk, e])
  · exact row_other (w := w) (h.fresh t ht) fun k hk => (heap_set fun e' => h.tb ht (by rw [hk, e'])).trans (hb1 k (h.ft t ht k hk) (fun e' => h.apf t ht k hk e'))
  · rcases hv k e with h1 | h1
    · exact h.apf t ht k hk h1
    · have := h.flt k (h.ft t ht k hk); omega
end

set_option maxHeartbeats 1000000 in
theorem less_any (g n c i j : Nat) (L : List Int) (w : World) (h : IntRow w (.slice (some ⟨g, 0, none⟩) n c) L) (hi : i < L.length) (hj : j < L.length) :
    Calls Try.prog 81 #[.slice (some ⟨g, 0, none⟩) n c, .int .i64 i, .int .i64 j] w fun e w' => e = .returned (.bool (decide (L[i]! < L[j]!))) ∧ ∃ q, w' = w.drewN q := by
  have ci := h.get i hi
  have cj := h.get j hj
  have hn : n = L.length := by
    obtain ⟨a, c', e⟩ := h.shape
    simp only [Value.slice.injEq] at e
    exact e.2.1
  rw [← hn] at hi hj
  have h0 : (0 : Int) ≤ (i : Int) := by omega
  have h1 : (i : Int) < (n : Int) := by omega
  have h2 : (0 : Int) ≤ (j : Int) := by omega
  have h3 : (j : Int) < (n : Int) := by omega
  generalize L[i]! = x at *
  generalize L[j]! = y at *
  clear hn h
  go_enter Try.func81, Try.ntmps81
  go_wp2_with fail
  go_region
  all_goals
    go_wp2_with fail
    go_ret
    exact ⟨rfl, _, rfl⟩

set_option maxHeartbeats 1000000 in
theorem len_any (a : Option Addr) (n c : Nat) (w : World) : Calls Try.prog 80 #[.slice a n c] w fun e w' => e = .returned (.int .i64 (n : Int)) ∧ w' = w := by
  go_enter Try.func80, Try.ntmps80
  go_wp2_with fail
  go_ret
  exact ⟨rfl, rfl⟩

theorem Try.mPush (a : Addr) (w : World) : (method 234 96 (.pointer (some a)) "Push").run Try.prog w = .ok (84, .pointer (some a)) w := by kernel_rfl
theorem Try.mLen (a : Addr) (w : World) : (method 234 96 (.pointer (some a)) "Len").run Try.prog w = (do let v ← loadVar 65 a; pure (80, v) : Sem (FuncId × Value)).run Try.prog w := by kernel_rfl
theorem Try.mLess (a : Addr) (w : World) : (method 234 96 (.pointer (some a)) "Less").run Try.prog w = (do let v ← loadVar 65 a; pure (81, v) : Sem (FuncId × Value)).run Try.prog w := by kernel_rfl
theorem Try.ldFree (a : Addr) (v : Value) (w : World) (h : w.cell? a = some v) : (loadVar 65 a).run Try.prog w = .ok v w := by
  simp [go_sem, h]
theorem Try.mLen' (a : Addr) (v : Value) (w : World) (h : w.cell? a = some v) : (method 234 96 (.pointer (some a)) "Len").run Try.prog w = .ok (80, v) w := by
  rw [Try.mLen]
  have := Try.ldFree a v w h
  simp [go_sem, h]
theorem Try.mLess' (a : Addr) (v : Value) (w : World) (h : w.cell? a = some v) : (method 234 96 (.pointer (some a)) "Less").run Try.prog w = .ok (81, v) w := by
  rw [Try.mLess]
  have := Try.ldFree a v w h
  simp [go_sem, h]

/-- the free numbers have grown by one -/
theorem free_end {w w5 : World} {b n g5 cap5 : Nat} {F : Nat → Prop} {A : Ar} {r : Raw} {D : DataW Unit} {o : Obj} {id : Int} (H4 : ArRaw w b F n A r D)
    (hgrow5 : (w.alloc o).drew.grownBy w5 r.vfr.ownBlock) (hat5 : r.vfr.ownBlock = some g5 ∨ g5 = (w.alloc o).drew.heap.size)
    (hown5 : w5.ownsRow 0 3 1 (.slice (some ⟨g5, 0, none⟩) (A.free.length + 1) cap5) (A.free.length + 1) (A.free.map (Value.int .i64) ++ [.int .i64 id])) (hlt5 : g5 < w5.heap.size) :
    ArRaw (w5.setCell ⟨b, 3, none⟩ (.slice (some ⟨g5, 0, none⟩) (A.free.length + 1) cap5)) b (More F w (w5.setCell ⟨b, 3, none⟩ (.slice (some ⟨g5, 0, none⟩) (A.free.length + 1) cap5))) n { A with free := A.free ++ [id] } { r with vfr := .slice (some ⟨g5, 0, none⟩) (A.free.length + 1) cap5 } D ∧
      Apart F w (w5.setCell ⟨b, 3, none⟩ (.slice (some ⟨g5, 0, none⟩) (A.free.length + 1) cap5)) := by
  have hsz : (w.alloc o).drew.heap.size = w.heap.size + 1 := by simp
  have hs5 := hgrow5.size
  rw [hsz] at hs5 hat5
  have hrow : IntRow w5 (.slice (some ⟨g5, 0, none⟩) (A.free.length + 1) cap5) (A.free ++ [id]) := by
    unfold IntRow
    rw [List.length_append, List.map_append]
    exact hown5
  refine ⟨H4.setFree hrow (fun k hk hne => grown_blk hgrow5 (H4.flt k hk) hne) (fun k hk => ?_) (fun k hk => Or.inl hk) (fun k hk => ?_) (fun k hk => ?_), ?_⟩
  · simp only [Value.ownBlock, Option.some.injEq] at hk
    subst hk
    rcases hat5 with h1 | h1
    · exact Or.inl h1
    · exact Or.inr (by omega)
  · simp only [Value.ownBlock, Option.some.injEq] at hk
    subst hk
    rcases hat5 with h1 | h1
    · exact Or.inl (H4.ff _ h1)
    · exact Or.inr ⟨by omega, by rw [size_set]; exact hlt5⟩
  · rcases hk with h1 | h1
    · have := H4.flt k h1; omega
    · rw [size_set] at h1; exact h1.2
  · have a1 : Apart F w (w.alloc o).drew := ⟨rfl, rfl, rfl, by omega, fun k hk _ => by show (w.heap.push o)[k]? = _; rw [Array.getElem?_push, if_neg (by omega)]⟩
    have a2 : Apart F (w.alloc o).drew w5 := Apart.grown hgrow5 fun k hk => H4.ff k hk
    have a3 : Apart F w5 (w5.setCell ⟨b, 3, none⟩ (.slice (some ⟨g5, 0, none⟩) (A.free.length + 1) cap5)) := Apart.set w5 _ H4.fb
    exact (a1.trans a2 fun k hk => Or.inl hk).trans a3 fun k hk => Or.inl hk

set_option maxRecDepth 20000 in
set_option maxHeartbeats 4000000 in
theorem lpush_any (b n : Nat) (F : Nat → Prop) (id : Int) (A : Ar) (r : Raw) (D : DataW Unit) (w : World) (h : ArRaw w b F n A r D) (hlf : A.free.length < 10000000) :
    Calls Try.prog 84 #[.pointer (some ⟨b, 3, none⟩), .iface 3 (.int .i64 id)] w fun e w' => e = .returned (.tuple #[]) ∧ (∃ g c, ArRaw w' b (More F w w') n { A with free := A.free ++ [id] } { r with vfr := .slice (some ⟨g, 0, none⟩) (A.free.length + 1) c } D) ∧ Apart F w w' := by
  have cf := h.raw.at 3 (by omega)
  rw [Raw.c3] at cf
  have z2 := h.raw.frozen 3
  have hblt := h.raw.lt
  have hbt := h.fb'
  obtain ⟨i0, hi, hz0, hz1, hz2⟩ := info_parts Try.info3
  have OW : Hid (∀ o, (w.alloc o).drew.ownsRow 0 3 1 r.vfr A.free.length (A.free.map (Value.int .i64))) := fun o => World.ownsRow.alloc h.free o
  generalize hfr : r.vfr = v at *
  have hta : ∀ w, (Instr.typeAssert (.iface 3 (.int .i64 id)) 20 3 false).run Try.prog w = .ok (.int .i64 id) w := fun _ => by kernel_rfl
  generalize hln : A.free.length = ln at *
  go_enter Try.func84, Try.ntmps84
  go_wp2_with fail
  go_region_law (refine step_append_lies _ (by rfl) _ _ 65 (by rfl) 0 3 i0 (.int .i64 0) 1 8 Try.underlying65 hi hz0 hz1 hz2 rfl (by decide) v ln (A.free.map (Value.int .i64)) (by rfl) (OW.out _) ⟨w.heap.size, 0, none⟩ 1 1 [.int .i64 id] (by rfl) rfl (cell_one_new _ _ _) (by intro u hu; simp at hu; subst hu; rfl) (by omega) (by unfold maxLen; omega) (by omega) (by omega) _ rfl ?_; intro g5 cap5 w5 hown5 hgrow5 hat5 hlt5; have R5 := h.raw.go (grown_blk hgrow5 hblt hbt); have q4 := R5.at 3 (by omega); rw [Raw.c3] at q4; have q5 := R5.frozen 3)
  all_goals
    go_wp2_with fail
    go_end0
    subst hln
    have hE := free_end h (hfr ▸ hgrow5) (hfr ▸ hat5) hown5 hlt5
    exact ⟨rfl, ⟨_, _, hE.1⟩, hE.2⟩

set_option maxRecDepth 20000 in
set_option maxHeartbeats 4000000 in
theorem up_any (b g n c : Nat) (L : List Int) (w : World) (hc : w.cell? ⟨b, 3, none⟩ = some (.slice (some ⟨g, 0, none⟩) n c)) (h : IntRow w (.slice (some ⟨g, 0, none⟩) n c) L) (hn : n = L.length) (h0 : 0 < n) (hb : n < 10000000) (hmax : ∀ i, i < n → L[i]! ≤ L[n - 1]!) (j : Int) (hj : j = (n : Int) - 1) :
    Calls Try.prog 60 #[.iface 96 (.pointer (some ⟨b, 3, none⟩)), .int .i64 j] w fun e w' => e = .returned (.tuple #[]) ∧ ∃ q, w' = w.drewN q := by
  subst hj
  obtain ⟨m, rfl⟩ : ∃ m, n = m + 1 := ⟨n - 1, by omega⟩
  rw [show ((m + 1 : Nat) : Int) - 1 = (m : Int) by omega]
  rw [show m + 1 - 1 = m by omega] at hmax
  have hml := fun W (hW : W.cell? ⟨b, 3, none⟩ = some (.slice (some ⟨g, 0, none⟩) (m + 1) c)) => Try.mLess' ⟨b, 3, none⟩ _ W hW
  rcases Nat.eq_zero_or_pos m with e | hm
  · subst e
    clear hml hmax h hc
    go_enter Try.func60, Try.ntmps60
    go_wp2_with fail
    refine wp_loop_rounds 1 ?_
    rw [rounds_succ]
    go_wp2_with fail
    go_end0
    exact ⟨rfl, 0, rfl⟩
  · obtain ⟨k, hk⟩ : ∃ k, k = (m - 1) / 2 := ⟨_, rfl⟩
    have hkm : k < m := by omega
    have hle := less_any g (m + 1) c m k L w h (by omega) (by omega)
    rw [show decide (L[m]! < L[k]!) = false by
      have := hmax k (by omega)
      exact decide_eq_false (by omega)] at hle
    have hq : Int.tdiv ((m : Int) - 1) 2 = (k : Int) := by
      rw [hk, show (m : Int) - 1 = ((m - 1 : Nat) : Int) by omega]
      rfl
    have hw1 : IntKind.i64.wrap ((m : Int) - 1) = (m : Int) - 1 := by rw [IntKind.wrap_i64]; omega
    have hw2 : IntKind.i64.wrap (k : Int) = (k : Int) := by rw [IntKind.wrap_i64]; omega
    have hne : ¬ (k : Int) = (m : Int) := by omega
    clear hk hmax h hn h0
    go_enter Try.func60, Try.ntmps60
    go_wp2_with fail
    refine wp_loop_rounds 1 ?_
    rw [rounds_succ]
    go_wp2_with fail
    refine hle.mono ?_
    rintro e w1 ⟨rfl, q, rfl⟩
    go_wp2_with fail
    go_end0
    exact ⟨rfl, q, rfl⟩

set_option maxRecDepth 20000 in
set_option maxHeartbeats 4000000 in
theorem push_any (b n : Nat) (F : Nat → Prop) (id : Int) (A : Ar) (r : Raw) (D : DataW Unit) (w : World) (h : ArRaw w b F n A r D) (hlf : A.free.length < 1000000) (hmax : ∀ x ∈ A.free, x < id) :
    Calls Try.prog 49 #[.iface 96 (.pointer (some ⟨b, 3, none⟩)), .iface 3 (.int .i64 id)] w fun e w' => e = .returned (.tuple #[]) ∧ (∃ r', ArRaw w' b (More F w w') n { A with free := A.free ++ [id] } r' D ∧ r'.vth = r.vth) ∧ Apart F w w' := by
  have hm := fun W => Try.mPush ⟨b, 3, none⟩ W
  have hp := lpush_any b n F id A r D w h (by omega)
  have hml := fun W v (hW : W.cell? ⟨b, 3, none⟩ = some v) => Try.mLen' ⟨b, 3, none⟩ v W hW
  go_enter Try.func49, Try.ntmps49
  go_wp2_with fail
  refine hp.mono ?_
  rintro e w1 ⟨rfl, ⟨g, c, H1⟩, P1⟩
  have c3 := H1.raw.at 3 (by omega)
  rw [Raw.c3] at c3
  simp only at c3
  have hml' := hml w1 _ c3
  have hrow := H1.free
  simp only at hrow
  generalize hln : A.free.length = ln at *
  have hlen := len_any (some ⟨g, 0, none⟩) (ln + 1) c w1
  have hup := fun j hj => up_any b g (ln + 1) c (A.free ++ [id]) w1 c3 hrow (by simp [hln]) (by omega) (by omega) (fun i hi => by
    have e1 : (A.free ++ [id])[ln + 1 - 1]! = id := by
      rw [getElem!_pos _ _ (by simp [hln]), List.getElem_append_right (by omega)]
      simp [hln]
    rw [e1, getElem!_pos _ _ (by simp [hln]; omega)]
    rcases List.mem_append.1 (List.getElem_mem (l := A.free ++ [id]) (n := i) (by simp [hln]; omega)) with h1 | h1
    · have := hmax _ h1; omega
    · simp only [List.mem_singleton] at h1
      omega) j hj
  have hw1 : IntKind.i64.wrap (((ln + 1 : Nat) : Int) - 1) = (ln : Int) := by rw [IntKind.wrap_i64]; omega
  have hup' := hup (ln : Int) (by omega)
  clear hml hp hm hup
  go_wp2_with fail
  refine hlen.mono ?_
  rintro e w1' ⟨rfl, hw⟩
  have hw' := hw.symm
  subst hw'
  clear hlen hw
  go_wp2_with fail
  refine hup'.mono ?_
  rintro e w2 ⟨rfl, q, rfl⟩
  go_wp2_with fail
  go_end0
  exact ⟨rfl, ⟨_, H1.drewN q, rfl⟩, P1.drewN q⟩
end Go.Proofs.Ytfogedmghhacdaa.A

namespace Go.Proofs.Ytfogedmghhacdaa.A
open Go.RowKit Go.Maps

def swapL (L : List Int) (i j : Nat) : List Int := (L.set i L[j]!).set j L[i]!
theorem swap_len (L : List Int) (i j : Nat) : (swapL L i j).length = L.length := by simp [swapL]
theorem swap_get (L : List Int) (i j k : Nat) (hk : k < L.length) : (swapL L i j)[k]! = if k = j then L[i]! else if k = i then L[j]! else L[k]! := by
  have e0 : (swapL L i j)[k]! = ((L.set i L[j]!).set j L[i]!)[k]! := rfl
  rw [e0, getElem!_pos _ k (by rw [List.length_set, List.length_set]; exact hk), List.getElem_set, List.getElem_set]
  by_cases e : j = k
  · rw [if_pos e, if_pos e.symm]
  · rw [if_neg e, if_neg (show ¬ k = j from fun h => e h.symm)]
    by_cases e2 : i = k
    · rw [if_pos e2, if_pos e2.symm]
    · rw [if_neg e2, if_neg (show ¬ k = i from fun h => e2 h.symm), getElem!_pos L k hk]
theorem swap_mem (L : List Int) (i j : Nat) (hi : i < L.length) (hj : j < L.length) : (swapL L i j).Perm L := by
  unfold swapL
  rw [getElem!_pos L i hi, getElem!_pos L j hj]
  exact List.set_set_perm hi hj

/-- a heap: none is below its parent; but for one place -/
def HeapEx (L : List Int) (n i : Nat) : Prop := (∀ k, 0 < k → k < n → (k - 1) / 2 ≠ i → L[(k - 1) / 2]! ≤ L[k]!) ∧ (∀ k, 0 < k → k < n → (k - 1) / 2 = i → 0 < i → L[(i - 1) / 2]! ≤ L[k]!)
def Heap (L : List Int) (n : Nat) : Prop := ∀ k, 0 < k → k < n → L[(k - 1) / 2]! ≤ L[k]!
theorem heap_min {L : List Int} {n : Nat} (h : Heap L n) : ∀ k, k < n → L[0]! ≤ L[k]! := by
  intro k
  induction k using Nat.strongRecOn with
  | ind k ih =>
    intro hk
    rcases Nat.eq_zero_or_pos k with e | e
    · rw [e]; exact Int.le_refl _
    · exact Int.le_trans (ih ((k - 1) / 2) (by omega) (by omega)) (h k e hk)
theorem heap_down {L : List Int} {n i j : Nat} (h : HeapEx L n i) (hn : n ≤ L.length) (hj : j < n) (hj0 : 0 < j) (hp : (j - 1) / 2 = i) (hle : L[j]! < L[i]!) (hs : ∀ k, 0 < k → k < n → (k - 1) / 2 = i → L[j]! ≤ L[k]!) : HeapEx (swapL L i j) n j := by
  have hi : i < j := by omega
  have g := fun k (hk : k < L.length) => swap_get L i j k hk
  refine ⟨fun k hk0 hk hne => ?_, fun k hk0 hk he _ => ?_⟩
  · rw [g k (by omega), g ((k - 1) / 2) (by omega)]
    by_cases e1 : k = j
    · subst e1
      rw [if_pos rfl, hp, if_neg (by omega), if_pos rfl]
      omega
    · rw [if_neg e1, if_neg hne]
      by_cases e2 : (k - 1) / 2 = i
      · rw [if_pos e2, if_neg (by omega)]
        exact hs k hk0 hk e2
      · rw [if_neg e2]
        by_cases e3 : k = i
        · subst e3
          rw [if_pos rfl]
          exact h.2 j hj0 hj hp hk0
        · rw [if_neg e3]
          exact h.1 k hk0 hk e2
  · rw [g k (by omega), g ((j - 1) / 2) (by omega), hp, if_neg (show ¬ i = j by omega), if_pos rfl, if_neg (show ¬ k = j by omega), if_neg (show ¬ k = i by omega)]
    have := h.1 k hk0 hk (by omega)
    rw [he] at this
    exact this

section
variable {w : World} {b n : Nat} {F : Nat → Prop} {A : Ar} {r : Raw} {D : DataW Unit}
/-- a free number turned -/
theorem ArRaw.setFreeAt (h : ArRaw w b F n A r D) {g c : Nat} (hv : r.vfr = .slice (some ⟨g, 0, none⟩) A.free.length c) (i : Nat) (z : Int) :
    ArRaw (w.setCell ⟨g, i, none⟩ (.int .i64 z)) b F n { A with free := A.free.set i z } r D := by
  have hg : r.vfr.ownBlock = some g := by rw [hv]; rfl
  have hgb : b ≠ g := fun e => h.fb' (by rw [hg, e])
  have hgm : r.mp ≠ g := fun e => h.fm' (by rw [hg, e])
  refine ⟨h.raw.go (heap_set hgb), h.room, row_other h.ths fun k hk => heap_set fun e => h.vf (by rw [hk, e]) hg, map_other h.map (heap_set hgm), h.num, ?_, h.lim, h.cnt,
    fun t ht => row_other (h.fresh t ht) fun k hk => heap_set fun e => h.apf t ht k hk (by rw [hg, e]), h.apf, h.apt, h.fb, h.fm, h.fv, h.ff, h.ft, fun k hk => by rw [size_set]; exact h.flt k hk⟩
  have hf := h.free
  unfold IntRow at hf ⊢
  rw [hv] at hf ⊢
  have := (World.ownsRow.stored hf i (.int .i64 z)).1
  rw [List.length_set, List.map_set]
  exact this
end

set_option maxRecDepth 20000 in
set_option maxHeartbeats 2000000 in
theorem lswap_any (b n g c i j : Nat) (F : Nat → Prop) (A : Ar) (r : Raw) (D : DataW Unit) (w : World) (h : ArRaw w b F n A r D) (hv : r.vfr = .slice (some ⟨g, 0, none⟩) A.free.length c) (hi : i < A.free.length) (hj : j < A.free.length) :
    Calls Try.prog 82 #[.slice (some ⟨g, 0, none⟩) A.free.length c, .int .i64 i, .int .i64 j] w fun e w' => e = .returned (.tuple #[]) ∧ ArRaw w' b F n { A with free := swapL A.free i j } r D ∧ Apart F w w' := by
  have hrow := h.free
  rw [hv] at hrow
  have ci := hrow.get i hi
  have cj := hrow.get j hj
  have zi := World.ownsRow.frozenAt hrow i
  have zj := World.ownsRow.frozenAt hrow j
  have h0 : (0 : Int) ≤ (i : Int) := by omega
  have h1 : (i : Int) < (A.free.length : Int) := by omega
  have h2 : (0 : Int) ≤ (j : Int) := by omega
  have h3 : (j : Int) < (A.free.length : Int) := by omega
  have H1 := h.setFreeAt hv i A.free[j]!
  have H2 := H1.setFreeAt (by show r.vfr = .slice (some ⟨g, 0, none⟩) (A.free.set i A.free[j]!).length c; rw [List.length_set]; exact hv) j A.free[i]!
  have hFg : F g := h.ff g (by rw [hv]; rfl)
  have HP : Hid (Apart F w ((w.setCell ⟨g, i, none⟩ (.int .i64 A.free[j]!)).setCell ⟨g, j, none⟩ (.int .i64 A.free[i]!))) := (Apart.set w _ hFg).trans (Apart.set _ _ hFg) fun k hk => Or.inl hk
  have HH : Hid (ArRaw ((w.setCell ⟨g, i, none⟩ (.int .i64 A.free[j]!)).setCell ⟨g, j, none⟩ (.int .i64 A.free[i]!)) b F n { A with free := swapL A.free i j } r D) := H2
  have hrow1 := H1.free
  rw [show r.vfr = .slice (some ⟨g, 0, none⟩) A.free.length c from hv] at hrow1
  have c3 := hrow1.get j (by show j < (A.free.set i A.free[j]!).length; rw [List.length_set]; exact hj)
  have z3 := World.ownsRow.frozenAt (n := A.free.length) (by have := hrow1; unfold IntRow at this; rw [show (A.free.set i A.free[j]!).length = A.free.length from List.length_set] at this; exact this) j
  generalize (A.free.set i A.free[j]!)[j]! = zz at c3
  clear H1 H2 h hrow hi hj hrow1
  generalize A.free[i]! = x at *
  generalize A.free[j]! = y at *
  generalize A.free.length = ln at *
  go_enter Try.func82, Try.ntmps82
  go_wp2_with fail
  go_region
  all_goals
    go_wp2_with fail
    go_end0
    exact ⟨rfl, HH.out.drew, HP.out.drew⟩
end Go.Proofs.Ytfogedmghhacdaa.A
