/- The document's Push. -/
import Derived.Test.YtpldaghhledjlaaGreatDoorTuWaits
namespace Go.Proofs.YtpldaghhledjlaaGreatDoor
open Go.RowKit

/-- what the document's Push answers, and what it leaves -/
def Qu.push (Q : Qu) (t : Int) (s : ByteArray) : Int × Qu :=
  if 0 ≤ t ∧ t < Q.n then
    if 8 ≤ cntL t Q.wait then (5, Q) else (0, ⟨Q.n, Q.next, Q.wait ++ [(t.toNat, s)]⟩)
  else (3, Q)
theorem below_own {F : Nat → Prop} {w w' : World} (h : Below w.heap.size w w') : OnlyF F w w' := OnlyF.of h
theorem cell_two_new (w : World) (u v : Value) (t : TypeId) : ∀ j x, [u, v][j]? = some x → (w.alloc (.cells #[u, v] t)).cell? ((⟨w.heap.size, 0, none⟩ : Addr).add j) = some x := by
  intro j x hx
  match j, hx with
  | 0, hx => simp at hx; subst hx; simp [Addr.add]
  | 1, hx => simp at hx; subst hx; simp [Addr.add]
/-- another row of lines is put in the place of the one that was -/
theorem QuAt.setWait {w w1 : World} {B b : Nat} {v v' : Value} {Q : Qu} (h : QuAt w B b v Q) (ls : List (Nat × ByteArray)) (hg : w.grownBy w1 v.ownBlock) (hr : LRow w1 B v' ls) (ht : ∀ l ∈ ls, l.1 < Q.n) (hat : ∀ q, v'.ownBlock = some q → v.ownBlock = some q ∨ w.heap.size ≤ q) :
    QuAt (w1.setCell ⟨b, 2, none⟩ v') B b v' ⟨Q.n, Q.next, ls⟩ ∧ OnlyF (QuOwn b v) w (w1.setCell ⟨b, 2, none⟩ v') ∧ ∀ k, QuOwn b v' k → QuOwn b v k ∨ w.heap.size ≤ k := by
  have hbl := (h.lt b (.inl rfl)).2
  have h1 : w1.heap[b]? = w.heap[b]? := hg.block b hbl (fun e => h.far e.symm)
  have far' : ∀ q, v'.ownBlock = some q → q ≠ b := by
    intro q hq e
    subst e
    rcases hat q hq with h2 | h2
    · exact h.far h2
    · omega
  refine ⟨⟨?_, ?_, (fun e => far' b e rfl), h.hb, h.pos, h.le, h.nx, ht⟩, ?_, ?_⟩
  · rw [Go.Joins.block_setCell (h1.trans h.head)]; rfl
  · exact ownsRow_keepB hr fun k e => Below.heap_setCell _ _ _ _ (far' k e)
  · exact (OnlyF.grown hg fun k e => .inr e).trans (OnlyF.set (F := QuOwn b v) w1 ⟨b, 2, none⟩ v' (.inl rfl)) fun k hk => .inl hk
  · intro k hk
    rcases hk with h2 | h2
    · exact .inl (.inl h2)
    · rcases hat k h2 with h3 | h3
      · exact .inl (.inr h3)
      · exact .inr h3
theorem grown_fromQ {w w1 w5 : World} {row : Option Nat} (hb : Below w.heap.size w w1) (o : Obj) (hg : (w1.alloc o).grownBy w5 row) : w.grownBy w5 row :=
  have h2 := hb.alloc hb.size o
  ⟨hg.os.trans h2.os, hg.tape.trans h2.tape, hg.output.trans h2.output, Nat.le_trans h2.size hg.size, fun k hk hne => (hg.block k (Nat.lt_of_lt_of_le hk h2.size) hne).trans (h2.block k hk)⟩

set_option maxRecDepth 20000 in
set_option maxHeartbeats 1000000 in
theorem RefPush_any (B b : Nat) (v : Value) (Q : Qu) (t : Int) (s : ByteArray) (w : World) (h : QuAt w B b v Q) (hlen : Q.wait.length < 300) (hB : B ≤ w.heap.size) :
    Calls Tryz.prog 7 #[.pointer (some ⟨b, 0, none⟩), .int .i64 t, .string s] w fun e w' => e = .returned (.int .i64 (Q.push t s).1) ∧ ∃ v', QuAt w' B b v' (Q.push t s).2 ∧ OnlyF (QuOwn b v) w w' ∧ ∀ q, QuOwn b v' q → QuOwn b v q ∨ w.heap.size ≤ q := by
  obtain ⟨i0, hi, hz0, hz1, hz2⟩ := info_parts Tryz.infoLine
  obtain ⟨c0, -, -, -, -⟩ := h.cells
  have HQ : Hid (QuAt w B b v Q) := h
  by_cases h1 : 0 ≤ t ∧ t < Q.n
  · have hw := RefWaits_any B b v Q t w h (by omega)
    have hq1 : ¬ t < 0 := by omega
    have hq2 : ¬ (Q.n : Int) ≤ t := by omega
    by_cases h8 : 8 ≤ cntL t Q.wait
    · have ep : Q.push t s = (5, Q) := by unfold Qu.push; rw [if_pos h1, if_pos h8]
      rw [ep]
      have h8' : (8 : Int) ≤ (cntL t Q.wait : Int) := by omega
      generalize cntL t Q.wait = m at *
      clear h ep h1 hlen
      go_enter Tryz.func7, Tryz.ntmps7
      go_wp2_with fail
      refine hw.mono ?_
      rintro e w1 ⟨rfl, hb1⟩
      go_wp2_with fail
      go_ret
      exact ⟨rfl, v, HQ.out.below hb1, OnlyF.of hb1, fun q hq => .inl hq⟩
    · obtain ⟨k, rfl⟩ : ∃ k : Nat, t = k := ⟨t.toNat, by omega⟩
      have ep : Q.push k s = (0, ⟨Q.n, Q.next, Q.wait ++ [(k, s)]⟩) := by unfold Qu.push; rw [if_pos h1, if_neg h8, Int.toNat_natCast]
      rw [ep]
      have h8' : ¬ (8 : Int) ≤ (cntL (k : Int) Q.wait : Int) := by omega
      have HKN : Hid (k < Q.n) := by show k < Q.n; omega
      generalize cntL (k : Int) Q.wait = m at *
      have HB : Hid (B ≤ w.heap.size ∧ Q.wait.length < 300) := ⟨hB, hlen⟩
      clear h ep h1 hlen hB
      go_enter Tryz.func7, Tryz.ntmps7
      go_wp2_with fail
      refine hw.mono ?_
      rintro e w1 ⟨rfl, hb1⟩
      obtain ⟨n, p, c, hn, hv, hnc, hcm, -⟩ := HQ.out.opened
      subst hv
      obtain ⟨-, -, d2, -, z2⟩ := (HQ.out.below hb1).cells
      have HN : Hid (n = Q.wait.length) := hn
      have OWN : Hid (w1.ownsRow B 68 2 (.slice p n c) n (linesL Q.wait)) := by
        show World.ownsRow _ _ _ _ _ _ _
        have := (HQ.out.below hb1).row
        unfold LRow at this
        rw [← hn] at this
        exact this
      have HEND : Hid (∀ w5 o, (w1.alloc o).grownBy w5 (Value.slice p n c).ownBlock → w5.cell? ⟨b, 2, none⟩ = some (.slice p n c) ∧ w5.frozen? ⟨b, 2, none⟩ = false) := fun w5 o hg => by
        have e : w5.heap[b]? = w1.heap[b]? := (grown_fromQ (Below.refl _ w1) o hg).block b ((HQ.out.below hb1).lt b (.inl rfl)).2 (fun e => HQ.out.far e.symm)
        exact ⟨(World.cell?_of_block (a := ⟨b, 2, none⟩) e).trans d2, (World.frozen?_of_block (a := ⟨b, 2, none⟩) e).trans z2⟩
      have hn300 : n < 300 := by have := HB.out.2; omega
      have hBw : B ≤ w1.heap.size := Nat.le_trans HB.out.1 hb1.size
      clear c0 hw hn
      go_wp2_with (at_builtin; refine wpList_append_lies _ (by rfl) _ _ 64 (by rfl) B 68 i0 (.agg #[.int .i64 0, .string ByteArray.empty]) 2 24 Tryz.underlying64 hi hz0 hz1 hz2 rfl (by decide) (.slice p n c) n (linesL Q.wait) (by rfl) (World.ownsRow.alloc OWN.out _) ⟨w1.heap.size, 0, none⟩ 1 1 [.int .i64 k, .string s] (by rfl) rfl (cell_two_new _ _ _ _) (by intro u hu; simp at hu; rcases hu with rfl | rfl <;> rfl) (by omega) (by unfold maxLen; omega) (by omega) (by simp; omega) (w1.heap.size + 1) (by simp) ?_; intro g5 cap5 w5 hown5 hgrow5 hat5 hlt5; obtain ⟨q4, q5⟩ := HEND.out w5 _ hgrow5)
      go_ret
      have hrow5 : LRow w5 B (.slice (some ⟨g5, 0, none⟩) (n + 1) cap5) (Q.wait ++ [(k, s)]) := by
        unfold LRow
        rw [List.length_append, ← HN.out, linesL_append]
        exact hown5
      obtain ⟨t1, t2, t3⟩ := (HQ.out.below hb1).setWait (Q.wait ++ [(k, s)]) (grown_fromQ (Below.refl _ w1) _ hgrow5) hrow5 (fun l hl => by
        rcases List.mem_append.1 hl with h | h
        · exact HQ.out.ten l h
        · simp at h; subst h; exact HKN.out) (fun q hq => by
        have hq' : g5 = q := by simpa [Value.ownBlock] using hq
        subst hq'
        rcases hat5 with h1 | h1
        · exact .inl h1
        · right; omega)
      refine ⟨rfl, _, t1, (OnlyF.of hb1).trans t2 fun q hq => .inl hq, fun q hq => ?_⟩
      rcases t3 q hq with h | h
      · exact .inl h
      · exact .inr (Nat.le_trans hb1.size h)
  · have ep : Q.push t s = (3, Q) := by unfold Qu.push; rw [if_neg h1]
    rw [ep]
    clear h ep hlen hB
    by_cases h2 : t < 0
    · go_enter Tryz.func7, Tryz.ntmps7
      go_wp2_with fail
      go_ret
      exact ⟨rfl, v, HQ.out, OnlyF.refl _ _, fun q hq => .inl hq⟩
    · have h3 : (Q.n : Int) ≤ t := by omega
      go_enter Tryz.func7, Tryz.ntmps7
      go_wp2_with fail
      go_ret
      exact ⟨rfl, v, HQ.out, OnlyF.refl _ _, fun q hq => .inl hq⟩
end Go.Proofs.YtpldaghhledjlaaGreatDoor
