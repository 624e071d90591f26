/- Boot: what it calls, and its memory midway. -/
import Derived.Test.YtpldaghhledjlaaGreatDoorHoMove
import Derived.Test.YtpldaghhledjlaaGreatDoorHoPut
import Derived.Test.YtpldaghhledjlaaGreatDoorHoCheck
import Derived.Laws.EntriesVeiled
namespace Go.Proofs.YtpldaghhledjlaaGreatDoor.H
open Go.RowKit Go.Maps

/-- an arena's block, of room 1000 -/
def ArB (w : World) (b : Nat) : Prop := ∃ cs, w.heap[b]? = some (.cells cs 81 (0, 0)) ∧ cs.size = 196 ∧ cs[0]? = some (.int .i64 1000)
theorem ArB.lt {w : World} {b : Nat} (h : ArB w b) : b < w.heap.size := by
  obtain ⟨cs, h1, _⟩ := h
  exact (Array.getElem?_eq_some_iff.1 h1).1
theorem ArB.cell0 {w : World} {b : Nat} (h : ArB w b) : w.cell? ⟨b, 0, none⟩ = some (.int .i64 1000) := by
  obtain ⟨cs, h1, h2, h3⟩ := h
  rw [Lib.cell_of_heap h1]
  exact h3
theorem ArB.cell {w : World} {b : Nat} (h : ArB w b) (i : Nat) (hi : i < 196) : ∃ v, w.cell? ⟨b, i, none⟩ = some v := by
  obtain ⟨cs, h1, h2, h3⟩ := h
  rw [Lib.cell_of_heap h1]
  exact ⟨cs[i]'(by omega), Array.getElem?_eq_getElem _⟩
theorem ArB.frozen {w : World} {b : Nat} (h : ArB w b) (i : Nat) : w.frozen? ⟨b, i, none⟩ = false := by
  obtain ⟨cs, h1, h2, h3⟩ := h
  exact Lib.frozen_of_heap h1 i
theorem ArB.set {w : World} {b : Nat} (h : ArB w b) (i : Nat) (hi : 0 < i) (v : Value) : ArB (w.setCell ⟨b, i, none⟩ v) b := by
  obtain ⟨cs, h1, h2, h3⟩ := h
  refine ⟨_, Go.Joins.block_setCell h1 v, by simpa using h2, ?_⟩
  rw [Array.getElem?_setIfInBounds]
  rw [if_neg (by show ¬ i = 0; omega)]
  exact h3
theorem ArB.keep {w w1 : World} {b : Nat} (h : ArB w b) (hk : w1.heap[b]? = w.heap[b]?) : ArB w1 b := by
  obtain ⟨cs, h1, h2, h3⟩ := h
  exact ⟨cs, hk.trans h1, h2, h3⟩
set_option maxRecDepth 20000 in
set_option maxHeartbeats 4000000 in
theorem arena_new (w : World) : Calls Tryz.prog 16 #[.int .i64 1000] w fun e w' => e = .returned (.tuple #[.pointer (some ⟨w.heap.size + 1, 0, none⟩), .int .i64 0]) ∧ ArB w' (w.heap.size + 1) ∧ Below w.heap.size w w' := by
  have hmm := @run_makeMap Tryz.prog
  go_enter Tryz.func16, Tryz.ntmps16
  go_wp2_with fail
  go_loopg [16] 64 (fun g s16 wr => ∃ k : Nat, k + g = 64 ∧ s16 = .int .i64 k ∧ ArB wr (w.heap.size + 1) ∧ Below w.heap.size w wr)
  case atStart =>
    refine ⟨0, by omega, rfl, ⟨_, heap_alloc2_new w _ _, rfl, rfl⟩, ((Below.refl _ _).alloc (Nat.le_refl _) _).alloc (by simp) _⟩
  case round =>
    obtain ⟨k, hkg, rfl, hr, hbw⟩ := hrel
    have HK : Hid (k + gk = 64) := hkg
    have hk64 : k ≤ 64 := by omega
    clear hkg
    by_cases hlt : k < 64
    · have hi0 : (0 : Int) ≤ k := by omega
      have hi1 : (k : Int) < 64 := by omega
      obtain ⟨v, cl⟩ := hr.cell (4 + k * 3) (by omega)
      have fz := hr.frozen (4 + k * 3)
      have hwk : IntKind.i64.wrap ((k : Int) + 1) = (k : Int) + 1 := by rw [IntKind.wrap_i64]; omega
      go_wp2_with fail
      go_roundg (gk - 1)
      case measure => have := HK.out; omega
      case rel =>
        exact ⟨k + 1, by have := HK.out; omega, by go_num, hr.set _ (by omega) _, hbw.setCell (p := ⟨w.heap.size + 1, 4 + k * 3, none⟩) (Nat.le_succ _) _⟩
    · have hi1 : ¬ (k : Int) < 64 := by omega
      have hk : k = 64 := by omega
      subst hk
      go_wp2_with fail
      go_ret2
      exact ⟨rfl, hr, hbw⟩
theorem isTenant_any (t : Nat) (ht : t < 64) (w : World) : Calls Tryz.prog 29 #[.int .i64 t] w fun e w' => e = .returned (.bool true) ∧ w' = w := by
  have h1 : (0 : Int) ≤ (t : Int) := by omega
  have h2 : (t : Int) < 64 := by omega
  go_enter Tryz.func29, Tryz.ntmps29
  go_wp2_with fail
  go_ret
  exact ⟨rfl, rfl⟩
set_option maxRecDepth 20000 in
theorem limit_any (ab t : Nat) (ht : t < 64) (w : World) (h : ArB w ab) : Calls Tryz.prog 18 #[.pointer (some ⟨ab, 0, none⟩), .int .i64 t, .int .i64 0] w fun e w' => e = .returned (.int .i64 0) ∧ w' = w.setCell ⟨ab, 4 + t * 3, none⟩ (.int .i64 0) := by
  have c0 := h.cell0
  obtain ⟨v, cl⟩ := h.cell (4 + t * 3) (by omega)
  have fz := h.frozen (4 + t * 3)
  have hit := isTenant_any t ht
  have h1 : (0 : Int) ≤ (t : Int) := by omega
  have h2 : (t : Int) < 64 := by omega
  clear h
  go_enter Tryz.func18, Tryz.ntmps18
  go_wp2_with (go_at_call 29; refine (hit _).mono ?_; rintro e wz ⟨rfl, rfl⟩)
  go_ret
  exact ⟨rfl, rfl⟩
theorem hall_good (a : Addr) (tenant draw : Int) (w : World) (h0 : 0 ≤ tenant) (h1 : tenant < 64) : Calls Tryz.prog 19 #[.pointer (some a), .int .i64 tenant, .int .i64 draw] w fun e w' => e = .returned (.tuple #[.pointer (some ⟨w.heap.size, 0, none⟩), .int .i64 0]) ∧ ∃ o, w' = w.alloc o := by
  have h2 : ¬ tenant < 0 := by omega
  have h3 : ¬ 64 ≤ tenant := by omega
  go_enter Tryz.func19, Tryz.ntmps19
  go_wp2_with fail
  go_ret2
  exact ⟨rfl, _, rfl⟩
/-- midway in Boot: so many ports are there -/
structure BoSt (w0 w : World) (o : Nat → Nat) (hb ab tb R n : Nat) (pbs : List Nat) (pv : Value) : Prop where
  own : o hb = 1
  blk : HoB w hb (.pointer (some ⟨ab, 0, none⟩)) (.pointer (some ⟨tb, 0, none⟩)) pv 0 (.slice none 0 0)
  tu : TuAt w 0 tb R (List.replicate n (.slice none 0 0)) ⟨n, 0, List.replicate n []⟩
  tl : ∀ k, TuOwn tb R (List.replicate n (.slice none 0 0)) k → o k = 2
  ar : ArB w ab
  al : o ab = 7
  row : w.ownsRow 0 61 1 pv pbs.length (pbs.map fun b => Value.pointer (some ⟨b, 0, none⟩))
  rl : ∀ k, pv.ownBlock = some k → o k = 3
  port : ∀ (t pb : Nat), pbs[t]? = some pb → o pb = 10 + 3 * t ∧ ∃ hv, PoB w pb hv ⟨#[]⟩ (.slice none 0 0) (.slice none 0 0)
  old : ∀ k, k < w0.heap.size → o k = 0
  bel : Below w0.heap.size w0 w
variable {w0 w w1 : World} {o o1 : Nat → Nat} {hb ab tb R n : Nat} {pbs : List Nat} {pv : Value}
/-- the arena alone has changed -/
theorem BoSt.limit (h : BoSt w0 w o hb ab tb R n pbs pv) (i : Nat) (hi : 0 < i) (v : Value) : BoSt w0 (w.setCell ⟨ab, i, none⟩ v) o hb ab tb R n pbs pv := by
  have hne : ∀ k, o k ≠ 7 → (w.setCell ⟨ab, i, none⟩ v).heap[k]? = w.heap[k]? := fun k hk => Below.heap_setCell _ _ _ _ fun e => hk (by change k = ab at e; rw [e]; exact h.al)
  refine ⟨h.own, (hne hb (by rw [h.own]; omega)).trans h.blk, h.tu.keep fun k hk => hne k (by rw [h.tl k hk]; omega), h.tl, h.ar.set i hi v, h.al, ownsRow_keepB h.row fun k hk => hne k (by rw [h.rl k hk]; omega), h.rl, fun t pb hp => ?_, h.old, h.bel.setCell (p := ⟨ab, i, none⟩) ?_ _⟩
  · obtain ⟨h1, hv, h2⟩ := h.port t pb hp
    exact ⟨h1, hv, (hne pb (by rw [h1]; omega)).trans h2⟩
  · show w0.heap.size ≤ ab
    rcases Nat.lt_or_ge ab w0.heap.size with h1 | h1
    · have := h.old ab h1
      have := h.al
      omega
    · exact h1
/-- another port is there: w2 is w and new blocks but for the row of ports -/
theorem BoSt.more (h : BoSt w0 w o hb ab tb R n pbs pv) {w2 : World} {pb g cap : Nat} {hv : Value} (hg : w.grownBy w2 pv.ownBlock) (hpw : w.heap.size ≤ pb) (hpb : PoB w2 pb hv ⟨#[]⟩ (.slice none 0 0) (.slice none 0 0)) (hrow : w2.ownsRow 0 61 1 (.slice (some ⟨g, 0, none⟩) (pbs.length + 1) cap) (pbs.length + 1) ((pbs ++ [pb]).map fun b => Value.pointer (some ⟨b, 0, none⟩)))
    (hat : pv.ownBlock = some g ∨ w.heap.size ≤ g) (hgp : g ≠ pb) :
    ∃ o', BoSt w0 (w2.setCell ⟨hb, 2, none⟩ (.slice (some ⟨g, 0, none⟩) (pbs.length + 1) cap)) o' hb ab tb R n (pbs ++ [pb]) (.slice (some ⟨g, 0, none⟩) (pbs.length + 1) cap) := by
  have hhb : hb < w.heap.size := (Array.getElem?_eq_some_iff.1 h.blk).1
  have hab : ab < w.heap.size := h.ar.lt
  have hbel := h.bel.size
  have hkeep : ∀ k, k < w.heap.size → o k ≠ 3 → o k ≠ 1 → (w2.setCell ⟨hb, 2, none⟩ (.slice (some ⟨g, 0, none⟩) (pbs.length + 1) cap)).heap[k]? = w.heap[k]? := fun k hk h3 h1 => by
    rw [Below.heap_setCell _ _ _ _ (by intro e; change k = hb at e; rw [e] at h1; exact h1 h.own)]
    exact hg.block k hk fun e => h3 (h.rl k e.symm)
  have e1 : w2.heap[hb]? = w.heap[hb]? := hg.block hb hhb fun e => by have := h.rl hb e.symm; rw [h.own] at this; omega
  refine ⟨fun k => if k < w.heap.size then o k else if k = pb then 10 + 3 * pbs.length else 3, ?_, ?_, ?_, ?_, ?_, ?_, ?_, ?_, ?_, ?_, ?_⟩
  · show (if hb < w.heap.size then o hb else _) = 1
    rw [if_pos hhb]; exact h.own
  · exact block_set (e1.trans h.blk) 2 _
  · exact h.tu.keep fun k hk => hkeep k (h.tu.lt k hk).2 (by rw [h.tl k hk]; omega) (by rw [h.tl k hk]; omega)
  · intro k hk
    show (if k < w.heap.size then o k else _) = 2
    rw [if_pos (h.tu.lt k hk).2]; exact h.tl k hk
  · exact h.ar.keep (hkeep ab hab (by rw [h.al]; omega) (by rw [h.al]; omega))
  · show (if ab < w.heap.size then o ab else _) = 7
    rw [if_pos hab]; exact h.al
  · rw [List.length_append]
    refine ownsRow_keepB hrow fun k hk => Below.heap_setCell _ _ _ _ fun e => ?_
    change k = hb at e
    have hk2 : g = k := by simpa [Value.ownBlock] using hk
    rcases hat with h2 | h2
    · have := h.rl g h2
      rw [hk2, e, h.own] at this
      omega
    · omega
  · intro k hk
    have hk2 : g = k := by simpa [Value.ownBlock] using hk
    subst hk2
    show (if g < w.heap.size then o g else if g = pb then _ else 3) = 3
    rcases hat with h2 | h2
    · rw [if_pos (h.row.lt g h2).2]; exact h.rl g h2
    · rw [if_neg (by omega), if_neg hgp]
  · intro t p hp
    show (if p < w.heap.size then o p else if p = pb then _ else 3) = _ ∧ _
    rcases Nat.lt_or_ge t pbs.length with ht | ht
    · rw [List.getElem?_append_left ht] at hp
      obtain ⟨h1, hv, h2⟩ := h.port t p hp
      have hlt : p < w.heap.size := (Array.getElem?_eq_some_iff.1 h2).1
      rw [if_pos hlt]
      exact ⟨h1, hv, (hkeep p hlt (by rw [h1]; omega) (by rw [h1]; omega)).trans h2⟩
    · rw [List.getElem?_append_right ht] at hp
      have ht2 : t - pbs.length = 0 := by
        have := (List.getElem?_eq_some_iff.1 hp).1
        simp at this
        omega
      rw [ht2] at hp
      simp at hp
      subst hp
      rw [if_neg (by omega), if_pos rfl]
      refine ⟨by omega, hv, ?_⟩
      exact (Below.heap_setCell _ _ _ _ (by intro e; change pb = hb at e; omega)).trans hpb
  · intro k hk
    show (if k < w.heap.size then o k else _) = 0
    rw [if_pos (by omega)]; exact h.old k hk
  · have h3 : Below w0.heap.size w w2 := ⟨hg.os, hg.tape, hg.output, hg.size, fun k hk => hg.block k (by omega) fun e => by have h1 := h.rl k e.symm; have h2 := h.old k hk; omega⟩
    refine (h.bel.trans h3).setCell (p := ⟨hb, 2, none⟩) ?_ _
    show w0.heap.size ≤ hb
    rcases Nat.lt_or_ge hb w0.heap.size with h1 | h1
    · have := h.old hb h1
      have := h.own
      omega
    · exact h1
/-- at the end it is a house -/
theorem BoSt.house {g cap : Nat} (h : BoSt w0 w o hb ab tb R n pbs (.slice (some ⟨g, 0, none⟩) n cap)) (hn : pbs.length = n) : HoAt w o hb ⟨.pointer (some ⟨ab, 0, none⟩), tb, R, g, cap, pbs⟩ ⟨⟨n, 0, List.replicate n []⟩, List.replicate n 0, 0, []⟩ 0 := by
  have hgo := h.row.lt g rfl
  have hrow := h.row
  rw [hn] at hrow
  rcases hrow.2 with ⟨h0, _⟩ | ⟨g2, cap2, cur, hv, _, _, h1, h2, _⟩
  · cases h0
  · cases hv
    refine ⟨h.own, ⟨_, h.tu, h.tl⟩, h.rl g rfl, hgo.2, fun t pb ht => ?_, h1, h2, hn, by simp, ⟨_, h.blk, World.ownsRow_nil _ _ _ _, fun k hk => by cases hk⟩, fun t pb d hp hd => ?_⟩
    · have htl : t < n := by rw [← hn]; exact (List.getElem?_eq_some_iff.1 ht).1
      have := hrow.cellAt t (by omega)
      rw [this, List.getElem?_map, ht]
      rfl
    · obtain ⟨h3, hv, h4⟩ := h.port t pb hp
      change (List.replicate n 0)[t]? = some d at hd
      rw [List.getElem?_replicate] at hd
      split at hd
      · cases hd
        exact ⟨h3, hv, _, _, [], h4, Qs.nil _, fun k hk => (by obtain ⟨_, _, _, e, _⟩ := hk; cases e), World.ownsRow_nil _ _ _ _, fun k hk => (by cases hk), Nat.le_refl _⟩
      · cases hd
end Go.Proofs.YtpldaghhledjlaaGreatDoor.H
