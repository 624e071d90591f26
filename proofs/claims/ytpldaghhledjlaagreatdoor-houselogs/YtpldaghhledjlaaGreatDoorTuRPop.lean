/- The document's Pop. -/
import Derived.Test.YtpldaghhledjlaaGreatDoorTuRPush
namespace Go.Proofs.YtpldaghhledjlaaGreatDoor
open Go.RowKit

theorem addr_add (g o j : Nat) : (⟨g, o, none⟩ : Addr).add j = ⟨g, o + j, none⟩ := by
  unfold Addr.add
  split
  · rename_i h; rw [h, Nat.add_zero]
  · rfl
theorem own_slice {w : World} {base : Nat} {e : TypeId} {size : Nat} {v : Value} {n : Nat} {xs : List Value} (h : w.ownsRow base e size v n xs) : ∃ a n c, v = .slice a n c := by
  rcases h.2 with ⟨rfl, _⟩ | ⟨g, cap, cur, rfl, _⟩ <;> exact ⟨_, _, _, rfl⟩
/-- how far a tenant is behind the next one -/
def Qu.d (Q : Qu) (t : Nat) : Nat := (t + Q.n - Q.next) % Q.n
/-- the first of the lines whose tenant is nearest -/
def Qu.Best (Q : Qu) (j k : Nat) (x : Nat × ByteArray) : Prop := Q.wait[k]? = some x ∧ k < j ∧ ∀ (i : Nat) y, i < j → Q.wait[i]? = some y → Q.d x.1 ≤ Q.d y.1 ∧ (i < k → Q.d x.1 < Q.d y.1)
/-- what the loop has found in the first j lines -/
def Qu.Seen (Q : Qu) (j : Nat) (best : Int) (dist : Nat) : Prop := (best = -1 ∧ dist = Q.n ∧ j = 0) ∨ ∃ k x, Q.Best j k x ∧ best = (k : Int) ∧ dist = Q.d x.1
theorem Qu.Seen.step {Q : Qu} {j : Nat} {best : Int} {dist : Nat} {y : Nat × ByteArray} (h : Q.Seen j best dist) (hy : Q.wait[j]? = some y) (hn : 1 ≤ Q.n) :
    (Q.d y.1 < dist → Q.Seen (j + 1) j (Q.d y.1)) ∧ (¬ Q.d y.1 < dist → Q.Seen (j + 1) best dist) := by
  have hdl : Q.d y.1 < Q.n := Nat.mod_lt _ hn
  rcases h with ⟨h1, h2, h3⟩ | ⟨k, x, ⟨hx, hkj, hall⟩, h1, h2⟩
  · subst h3
    refine ⟨fun _ => .inr ⟨0, y, ⟨hy, by omega, fun i z hi hz => ?_⟩, rfl, rfl⟩, fun h => by omega⟩
    have : i = 0 := by omega
    subst this
    rw [hy] at hz
    cases hz
    exact ⟨Nat.le_refl _, fun h => by omega⟩
  · refine ⟨fun h => .inr ⟨j, y, ⟨hy, by omega, fun i z hi hz => ?_⟩, rfl, rfl⟩, fun h => .inr ⟨k, x, ⟨hx, by omega, fun i z hi hz => ?_⟩, h1, h2⟩⟩
    · by_cases hij : i < j
      · have := (hall i z hij hz).1
        constructor
        · omega
        · intro _; omega
      · have : i = j := by omega
        subst this
        rw [hy] at hz
        cases hz
        exact ⟨Nat.le_refl _, fun h => by omega⟩
    · by_cases hij : i < j
      · exact hall i z hij hz
      · have : i = j := by omega
        subst this
        rw [hy] at hz
        cases hz
        exact ⟨by omega, fun h => by omega⟩
/-- what the document's Pop answers, and what it leaves -/
def RPopOut (B b : Nat) (v : Value) (Q : Qu) (w : World) (e : Ending) (w' : World) : Prop :=
  (Q.wait = [] ∧ e = .returned (.tuple #[.int .i64 0, .string ⟨#[]⟩, .bool false]) ∧ Below w.heap.size w w') ∨
  ∃ k x, Q.Best Q.wait.length k x ∧ e = .returned (.tuple #[.int .i64 (x.1 : Int), .string x.2, .bool true]) ∧
    ∃ v', QuAt w' B b v' ⟨Q.n, (x.1 + 1) % Q.n, Q.wait.take k ++ Q.wait.drop (k + 1)⟩ ∧ OnlyF (QuOwn b v) w w' ∧ ∀ q, QuOwn b v' q → QuOwn b v q ∨ w.heap.size ≤ q

theorem step_append_own {P : Program} (w : World) {ops : Array Oper} {o : Oper} {a : Act} {K : Act → World → Prop} {Q : Exit → Act → World → Prop} {E : Prop} (hgd : o.guard = none) (s x : Operand) (t : TypeId)
    (ho : o.op = .call { callee := .builtin .append, args := #[s, x], argTypes := #[t, t] })
    (base : Nat) (e : TypeId) (i : TypeInfo) (z : Value) (size bytes : Nat) (ht : P.underlying t = some (.slice e)) (hi : P.info? e = some i) (hz : i.zero = some z)
    (hsize : i.size = size) (hby : i.bytes = bytes) (hzs : z.cells.size = size) (hsz : 0 < size)
    (v : Value) (n : Nat) (xs : List Value) (hs : a.eval s = v) (hown : w.ownsRow base e size v n xs)
    (ad : Addr) (m c : Nat) (news : List Value) (hx : a.eval x = .slice (some ad) m c) (hl : news.length = m * size) (hnews : ∀ j u, news[j]? = some u → w.cell? (ad.add j) = some u) (h1 : ∀ u, u ∈ news → u.oneCell' = true)
    (h63 : n + m ≤ maxLen) (hbytes : (n + m) * bytes ≤ 140737488355328) (hbase : base ≤ w.heap.size)
    (h : ∀ v' w', w'.ownsRow base e size v' (n + m) (xs ++ news) → w.grownBy w' v.ownBlock → (v' = .slice none 0 0 ↔ v = .slice none 0 0 ∧ m = 0) → K (a.put o.dst v') w') :
    if Region.wanted o (yielded ops a.tmps) = true then Oper.wp P o a w K Q else E := by
  have hw : Region.wanted o (yielded ops a.tmps) = true := by simp [Region.wanted, hgd]
  rw [if_pos hw]
  exact wp_append_own w s x t ho base e i z size bytes ht hi hz hsize hby hzs hsz v n xs hs hown ad m c news hx hl hnews h1 h63 hbytes hbase h
/-- another one is next -/
theorem QuAt.setNext {w : World} {B b : Nat} {v : Value} {Q : Qu} (h : QuAt w B b v Q) (m : Nat) (hm : m < Q.n) : QuAt (w.setCell ⟨b, 1, none⟩ (.int .i64 m)) B b v ⟨Q.n, m, Q.wait⟩ := by
  refine ⟨?_, ?_, h.far, h.hb, h.pos, h.le, hm, h.ten⟩
  · rw [Go.Joins.block_setCell h.head]; rfl
  · exact ownsRow_keepB h.row fun k e => Below.heap_setCell _ _ _ _ (fun e2 => h.far (by rw [e, e2]))

set_option maxRecDepth 20000 in
set_option maxHeartbeats 1000000 in
theorem RefPop_any (B b : Nat) (v : Value) (Q : Qu) (w : World) (h : QuAt w B b v Q) (hlen : Q.wait.length ≤ 300) (hB : B ≤ w.heap.size) :
    Calls Tryz.prog 9 #[.pointer (some ⟨b, 0, none⟩)] w (RPopOut B b v Q w) := by
  obtain ⟨i0, hi, hz0, hz1, hz2⟩ := info_parts Tryz.infoLine
  obtain ⟨c0, c1, c2, f1, f2⟩ := h.cells
  obtain ⟨n, p, c, hn, rfl, hnc, hcm, hrow⟩ := h.opened
  have HN : Hid (n = Q.wait.length) := hn
  have hn300 : n ≤ 300 := by omega
  have HQ : Hid (QuAt w B b (.slice p n c) Q) := h
  have HROW : Hid (n = 0 ∨ ∃ g, p = some ⟨g, 0, none⟩ ∧ g < w.heap.size ∧ ∀ (k : Nat) (x : Nat × ByteArray), Q.wait[k]? = some x → w.cell? ⟨g, k * 2, none⟩ = some (.int .i64 x.1) ∧ w.cell? ⟨g, k * 2 + 1, none⟩ = some (.string x.2)) := hrow
  have HB : Hid (B ≤ w.heap.size) := hB
  have hbl : b < w.heap.size := (h.lt b (.inl rfl)).2
  have hq1 := h.pos
  have hq2 := h.le
  have hq3 := h.nx
  obtain ⟨N, hN⟩ : ∃ N, N = Q.n := ⟨_, rfl⟩
  obtain ⟨X, hX⟩ : ∃ X, X = Q.next := ⟨_, rfl⟩
  rw [← hN] at c0 hq1 hq2 hq3
  rw [← hX] at c1 hq3
  have HNX : Hid (N = Q.n ∧ X = Q.next) := ⟨hN, hX⟩
  clear h hlen hn hrow hB hN hX
  go_enter Tryz.func9, Tryz.ntmps9
  go_wp2_with fail
  go_region
  go_wp2_with fail
  go_loopg [5, 6, 20] n (fun gk s5 s6 s20 wr => ∃ (j D : Nat) (best : Int), j + gk = n ∧ s20 = .int .i64 j ∧ s5 = .int .i64 best ∧ s6 = .int .i64 D ∧ D ≤ N ∧ Q.Seen j best D ∧ Below w.heap.size w wr)
  case atStart => exact ⟨0, N, -1, by omega, rfl, rfl, rfl, Nat.le_refl _, .inl ⟨rfl, HNX.out.1, rfl⟩, (Below.refl _ _).drew⟩
  case round =>
    obtain ⟨j, D, best, hj, rfl, rfl, rfl, hDN, hsn, hbr⟩ := hrel
    have HJ : Hid (j + gk = n) := hj
    have HS : Hid (Q.Seen j best D) := hsn
    have HBR : Hid (Below w.heap.size w wr) := hbr
    have hjn : j ≤ n := by omega
    have e0 := (hbr.cell (p := ⟨b, 0, none⟩) hbl).trans c0
    have e1 := (hbr.cell (p := ⟨b, 1, none⟩) hbl).trans c1
    have e2 := (hbr.cell (p := ⟨b, 2, none⟩) hbl).trans c2
    clear hj hsn
    by_cases hlt : j < n
    · obtain ⟨g, rfl, hgl, hc⟩ : ∃ g, p = some ⟨g, 0, none⟩ ∧ g < w.heap.size ∧ ∀ (k : Nat) (x : Nat × ByteArray), Q.wait[k]? = some x → w.cell? ⟨g, k * 2, none⟩ = some (.int .i64 x.1) ∧ w.cell? ⟨g, k * 2 + 1, none⟩ = some (.string x.2) := by
        rcases HROW.out with h | h
        · omega
        · exact h
      have hjk : j < Q.wait.length := by have := HN.out; omega
      obtain ⟨x, hx⟩ : ∃ x, x = Q.wait[j] := ⟨_, rfl⟩
      have hxg : Q.wait[j]? = some x := by rw [hx]; exact List.getElem?_eq_getElem hjk
      have d0 := (hbr.cell (p := ⟨g, j * 2, none⟩) hgl).trans (hc j x hxg).1
      have d1 := (hbr.cell (p := ⟨g, j * 2 + 1, none⟩) hgl).trans (hc j x hxg).2
      have HST : Hid ((Q.d x.1 < D → Q.Seen (j + 1) j (Q.d x.1)) ∧ (¬ Q.d x.1 < D → Q.Seen (j + 1) best D)) := HS.out.step hxg (by rw [← HNX.out.1]; exact hq1)
      have hxN : x.1 < N := by rw [HNX.out.1]; exact HQ.out.ten x (List.mem_of_getElem? hxg)
      obtain ⟨y, z⟩ := x
      simp only at d0 d1 hxN
      obtain ⟨E, hE⟩ : ∃ E, E = Q.d y := ⟨_, rfl⟩
      have hEN : E < N := by rw [hE, HNX.out.1]; exact Nat.mod_lt _ (by rw [← HNX.out.1]; exact hq1)
      have htm : ((y : Int) - (X : Int) + (N : Int)).tmod (N : Int) = (E : Int) := by
        rw [hE]
        unfold Qu.d
        rw [← HNX.out.1, ← HNX.out.2, show (y : Int) - (X : Int) + (N : Int) = ((y + N - X : Nat) : Int) by omega, Int.tmod_eq_emod_of_nonneg (by omega)]
        omega
      have HE : Hid (E = Q.d y) := hE
      have hN0 : ¬ (N : Int) = 0 := by omega
      have hw1 : IntKind.i64.wrap ((y : Int) - (X : Int)) = (y : Int) - (X : Int) := by rw [IntKind.wrap_i64]; omega
      have hw2 : IntKind.i64.wrap ((y : Int) - (X : Int) + (N : Int)) = (y : Int) - (X : Int) + (N : Int) := by rw [IntKind.wrap_i64]; omega
      have hw3 : IntKind.i64.wrap (E : Int) = (E : Int) := by rw [IntKind.wrap_i64]; omega
      clear hc hxg hx hbr hE
      have hi1 : (0 : Int) ≤ (j : Int) := by omega
      have hi2 : (j : Int) < (n : Int) := by omega
      have hba : Below wr.heap.size wr (wr.alloc (.cells #[.int .i64 y, .string z] 68)) := (Below.refl _ _).alloc (Nat.le_refl _) _
      have hbl2 : b < wr.heap.size := Nat.lt_of_lt_of_le hbl HBR.out.size
      have a0 : (wr.alloc (.cells #[.int .i64 y, .string z] 68)).cell? ⟨wr.heap.size, 0, none⟩ = some (.int .i64 y) := by rw [World.cell?_alloc_new]; rfl
      have e0' := (hba.cell (p := ⟨b, 0, none⟩) hbl2).trans e0
      have e1' := (hba.cell (p := ⟨b, 1, none⟩) hbl2).trans e1
      have HBA : Hid (Below w.heap.size w (wr.alloc (.cells #[.int .i64 y, .string z] 68))) := HBR.out.alloc HBR.out.size _
      clear hba
      by_cases hy : E < D
      · have hy' : (E : Int) < (D : Int) := by omega
        have HY : Hid (E < D) := hy
        go_wp2_with fail
        go_region
        go_wp2_with fail
        go_roundg (gk - 1)
        case measure => have := HJ.out; omega
        case rel =>
          have h1 := HJ.out
          exact ⟨j + 1, E, j, by omega, by go_num, rfl, rfl, by omega, by rw [HE.out]; exact HST.out.1 (by rw [← HE.out]; exact HY.out), HBA.out.drew⟩
      · have hy' : ¬ (E : Int) < (D : Int) := by omega
        have HY : Hid (¬ E < D) := hy
        go_wp2_with fail
        go_region
        go_wp2_with fail
        go_roundg (gk - 1)
        case measure => have := HJ.out; omega
        case rel =>
          have h1 := HJ.out
          exact ⟨j + 1, D, best, by omega, by go_num, rfl, rfl, by omega, HST.out.2 (by rw [← HE.out]; exact HY.out), HBA.out.drew⟩
    · have hq : ¬ (j : Int) < (n : Int) := by omega
      have HSN : Hid (Q.Seen n best D) := by have h1 := HS.out; rw [show j = n by omega] at h1; exact h1
      rcases HSN.out with ⟨hb1, _, hn0⟩ | ⟨k, x, hbest, hb1, _⟩
      · subst hb1
        have HN0 : Hid (n = 0) := hn0
        clear hn0
        go_wp2_with fail
        go_ret3
        exact .inl ⟨List.eq_nil_of_length_eq_zero (by rw [← HN.out]; exact HN0.out), rfl, HBR.out⟩
      · subst hb1
        have HBEST : Hid (Q.Best n k x) := hbest
        clear hbest
        have hkn : k < n := HBEST.out.2.1
        obtain ⟨g, rfl, hgl, hc⟩ : ∃ g, p = some ⟨g, 0, none⟩ ∧ g < w.heap.size ∧ ∀ (k : Nat) (x : Nat × ByteArray), Q.wait[k]? = some x → w.cell? ⟨g, k * 2, none⟩ = some (.int .i64 x.1) ∧ w.cell? ⟨g, k * 2 + 1, none⟩ = some (.string x.2) := by
          rcases HROW.out with h | h
          · omega
          · exact h
        have d0 := (hbr.cell (p := ⟨g, k * 2, none⟩) hgl).trans (hc k x HBEST.out.1).1
        have d1 := (hbr.cell (p := ⟨g, k * 2 + 1, none⟩) hgl).trans (hc k x HBEST.out.1).2
        clear hc hbr
        have hk0 : ¬ (k : Int) < 0 := by omega
        have hk1 : (0 : Int) ≤ (k : Int) := by omega
        have hk2 : (k : Int) < (n : Int) := by omega
        have hxN : x.1 < N := by rw [HNX.out.1]; exact HQ.out.ten x (List.mem_of_getElem? HBEST.out.1)
        obtain ⟨y, z⟩ := x
        simp only at d0 d1 hxN
        go_wp2_with fail
        have HBA : Hid (Below w.heap.size w (wr.alloc (.cells #[.int .i64 y, .string z] 68))) := HBR.out.alloc HBR.out.size _
        have HQA : Hid (QuAt (wr.alloc (.cells #[.int .i64 y, .string z] 68)) B b (.slice (some ⟨g, 0, none⟩) n c) Q) := HQ.out.below HBA.out
        have HAL : Hid ((wr.alloc (.cells #[.int .i64 y, .string z] 68)).heap[wr.heap.size]? = some (.cells #[.int .i64 y, .string z] 68 (0, 0)) ∧ b < wr.heap.size ∧ wr.heap.size < (wr.alloc (.cells #[.int .i64 y, .string z] 68)).heap.size) := ⟨heap_alloc_new _ _, Nat.lt_of_lt_of_le hbl HBR.out.size, by simp⟩
        generalize hwA : wr.alloc (.cells #[.int .i64 y, .string z] 68) = wA at *
        clear hwA
        generalize wr.heap.size = L at *
        obtain ⟨x0, x1, x2, x3, x4⟩ := HQA.out.cells
        have hgA : g < wA.heap.size := (HQA.out.row.lt g rfl).2
        have hbA : b < wA.heap.size := (HQA.out.lt b (.inl rfl)).2
        -- what lies below is kept by both appends
        have KC : Hid (∀ W, Below wA.heap.size wA W → W.cell? ⟨b, 2, none⟩ = some (.slice (some ⟨g, 0, none⟩) n c) ∧ W.frozen? ⟨b, 2, none⟩ = false) := fun W hW => ⟨(HQA.out.below hW).cells.2.2.1, (HQA.out.below hW).cells.2.2.2.2⟩
        have HTK : Hid (∀ (q : Nat) u, (linesL (Q.wait.take k))[q]? = some u → wA.cell? ((⟨g, 0, none⟩ : Addr).add q) = some u) := fun q u hu => by
          rw [linesL_take, List.getElem?_take] at hu
          split at hu
          · exact HQA.out.row.cells rfl q u hu
          · cases hu
        have HL1 : Hid ((Q.wait.take k).length = k ∧ (Q.wait.drop (k + 1)).length = n - (k + 1)) := by
          have := HN.out
          exact ⟨by rw [List.length_take]; omega, by rw [List.length_drop]; omega⟩
        have hk3 : (k : Int) ≤ (n : Int) := by omega
        have hk4 : (k : Int) ≤ (c : Int) := by omega
        have hk5 : (k : Int) + 1 ≤ (n : Int) := by omega
        have hk6 : (k : Int) + 1 ≤ (c : Int) := by omega
        have hk7 : (0 : Int) ≤ (k : Int) + 1 := by omega
        have hkw : IntKind.i64.wrap ((k : Int) + 1) = (k : Int) + 1 := by rw [IntKind.wrap_i64]; omega
        obtain ⟨A, hA, hDR⟩ : ∃ A : Addr, (if c = k + 1 then some (⟨g, 0, none⟩ : Addr) else some ⟨g, (k + 1) * 2, none⟩) = some A ∧ ∀ W, Below wA.heap.size wA W → ∀ (q : Nat) u, (linesL (Q.wait.drop (k + 1)))[q]? = some u → W.cell? (A.add q) = some u := by
          by_cases hck : c = k + 1
          · refine ⟨⟨g, 0, none⟩, by rw [if_pos hck], fun W hW q u hu => ?_⟩
            have h0 : Q.wait.drop (k + 1) = [] := List.eq_nil_of_length_eq_zero (by rw [HL1.out.2]; omega)
            rw [h0] at hu
            simp [linesL] at hu
          · refine ⟨⟨g, (k + 1) * 2, none⟩, by rw [if_neg hck], fun W hW q u hu => ?_⟩
            rw [linesL_drop, List.getElem?_drop] at hu
            have := HQA.out.row.cells rfl ((k + 1) * 2 + q) u hu
            rw [addr_add, Nat.zero_add] at this
            rw [addr_add]
            exact (hW.cell (p := ⟨g, (k + 1) * 2 + q, none⟩) hgA).trans this
        have HDR : Hid (∀ W, Below wA.heap.size wA W → ∀ (q : Nat) u, (linesL (Q.wait.drop (k + 1)))[q]? = some u → W.cell? (A.add q) = some u) := hDR
        clear hDR
        have HB1 : Hid (∀ wB, wA.drew.grownBy wB (Value.slice none 0 0).ownBlock → Below wA.heap.size wA wB) := fun wB hg => ⟨hg.os, hg.tape, hg.output, hg.size, fun q hq => hg.block q hq (fun e => by cases e)⟩
        have HB2 : Hid (∀ wB wC u1 m xs, Below wA.heap.size wA wB → wB.ownsRow wA.heap.size 68 2 u1 m xs → wB.grownBy wC u1.ownBlock → Below wA.heap.size wA wC) := fun wB wC u1 m xs hb ho hg => ⟨hg.os.trans hb.os, hg.tape.trans hb.tape, hg.output.trans hb.output, Nat.le_trans hb.size hg.size, fun q hq => (hg.block q (Nat.lt_of_lt_of_le hq hb.size) (fun e => by have := (ho.lt q e.symm).1; omega)).trans (hb.block q hq)⟩
        -- the rest, behind the store
        have HFIN : Hid (∀ wC u2, Below wA.heap.size wA wC → wC.ownsRow wA.heap.size 68 2 u2 (k + (n - (k + 1))) (linesL (Q.wait.take k) ++ linesL (Q.wait.drop (k + 1))) →
            QuAt (wC.setCell ⟨b, 2, none⟩ u2) B b u2 ⟨Q.n, Q.next, Q.wait.take k ++ Q.wait.drop (k + 1)⟩ ∧ OnlyF (QuOwn b (.slice (some ⟨g, 0, none⟩) n c)) wA (wC.setCell ⟨b, 2, none⟩ u2) ∧ ∀ q, QuOwn b u2 q → QuOwn b (.slice (some ⟨g, 0, none⟩) n c) q ∨ wA.heap.size ≤ q) := fun wC u2 hb ho => by
          have hrow : LRow wC B u2 (Q.wait.take k ++ Q.wait.drop (k + 1)) := by
            unfold LRow
            rw [List.length_append, HL1.out.1, HL1.out.2, linesL_append]
            exact ho.mono (Nat.le_trans HB.out HBA.out.size)
          exact HQA.out.setWait _ ⟨hb.os, hb.tape, hb.output, hb.size, fun q hq _ => hb.block q hq⟩ hrow (fun l hl => by
            rcases List.mem_append.1 hl with h | h
            · exact HQ.out.ten l (List.mem_of_mem_take h)
            · exact HQ.out.ten l (List.mem_of_mem_drop h)) (fun q hq => .inr (ho.lt q hq).1)
        have hsum : k + (n - (k + 1)) ≤ 300 := by omega
        have HLL : Hid (∀ wC u2, Below wA.heap.size wA wC → (wC.setCell ⟨b, 2, none⟩ u2).cell? ⟨L, 0, none⟩ = some (.int .i64 y) ∧ (wC.setCell ⟨b, 2, none⟩ u2).cell? ⟨L, 1, none⟩ = some (.string z)) := fun wC u2 hb => by
          have e : (wC.setCell ⟨b, 2, none⟩ u2).heap[L]? = some (.cells #[.int .i64 y, .string z] 68 (0, 0)) := by
            rw [Below.heap_setCell _ _ _ _ (by show L ≠ b; have := HAL.out.2.1; omega), hb.block L HAL.out.2.2]
            exact HAL.out.1
          exact ⟨by rw [Lib.cell_of_heap e]; rfl, by rw [Lib.cell_of_heap e]; rfl⟩
        go_region_law (first | (refine step_append_own _ (by rfl) _ _ 64 (by rfl) wA.heap.size 68 i0 (.agg #[.int .i64 0, .string ByteArray.empty]) 2 24 Tryz.underlying64 hi hz0 hz1 hz2 rfl (by decide) (.slice none 0 0) 0 [] (by rfl) (World.ownsRow_nil _ _ _ _) ⟨g, 0, none⟩ k c (linesL (Q.wait.take k)) (by rfl) (by rw [linesL_len, HL1.out.1]) HTK.out (linesL_one _) (by unfold maxLen; omega) (by omega) (Nat.le_refl _) ?_; intro u1 wB hownB' hgrowB hnilB; have hownB : wB.ownsRow wA.heap.size 68 2 u1 k (linesL (Q.wait.take k)) := (by rw [Nat.zero_add, List.nil_append] at hownB'; exact hownB'); clear hownB' hnilB; have hbB := HB1.out wB hgrowB; obtain ⟨y0, y1⟩ := KC.out wB hbB) | (refine step_append_own _ (by rfl) _ _ 64 (by rfl) wA.heap.size 68 i0 (.agg #[.int .i64 0, .string ByteArray.empty]) 2 24 Tryz.underlying64 hi hz0 hz1 hz2 rfl (by decide) u1 k (linesL (Q.wait.take k)) (by rfl) hownB A (n - (k + 1)) (c - (k + 1)) (linesL (Q.wait.drop (k + 1))) (by rfl) (by rw [linesL_len, HL1.out.2]) (HDR.out _ hbB) (linesL_one _) (by unfold maxLen; omega) (by omega) hbB.size ?_; intro u2 wC hownC hgrowC hnilC; have hbC := HB2.out wB wC u1 _ _ hbB hownB hgrowC; obtain ⟨y2, y3⟩ := KC.out wC hbC; obtain ⟨ua, un, uc, hu2⟩ := own_slice hownC; subst hu2))
        all_goals
          obtain ⟨t1, t2, t3⟩ := HFIN.out wC (.slice ua un uc) hbC hownC
          obtain ⟨l0, l1⟩ := HLL.out wC (.slice ua un uc) hbC
          have HT1 : Hid (QuAt (wC.setCell ⟨b, 2, none⟩ (.slice ua un uc)) B b (.slice ua un uc) ⟨Q.n, Q.next, Q.wait.take k ++ Q.wait.drop (k + 1)⟩) := t1
          have HT2 : Hid (OnlyF (QuOwn b (.slice (some ⟨g, 0, none⟩) n c)) wA (wC.setCell ⟨b, 2, none⟩ (.slice ua un uc)) ∧ ∀ q, QuOwn b (.slice ua un uc) q → QuOwn b (.slice (some ⟨g, 0, none⟩) n c) q ∨ wA.heap.size ≤ q) := ⟨t2, t3⟩
          obtain ⟨r0, r1, -, r3, -⟩ := t1.cells
          simp only at r0 r1
          rw [← HNX.out.1] at r0
          clear t1 t2 t3 hownB hownC hgrowB hgrowC hnilC y0 y1 y2 y3 hbB
          generalize hwD : wC.setCell ⟨b, 2, none⟩ (.slice ua un uc) = wD at *
          clear hwD
          obtain ⟨E, hE⟩ : ∃ E, E = (y + 1) % N := ⟨_, rfl⟩
          have hEN : E < N := by rw [hE]; exact Nat.mod_lt _ hq1
          have htm : ((y : Int) + 1).tmod (N : Int) = (E : Int) := by
            rw [hE, show (y : Int) + 1 = ((y + 1 : Nat) : Int) by omega, Int.tmod_eq_emod_of_nonneg (by omega)]
            omega
          have HE2 : Hid (E = (y + 1) % N) := hE
          have hN0 : ¬ (N : Int) = 0 := by omega
          have hw1 : IntKind.i64.wrap ((y : Int) + 1) = (y : Int) + 1 := by rw [IntKind.wrap_i64]; omega
          have hw3 : IntKind.i64.wrap (E : Int) = (E : Int) := by rw [IntKind.wrap_i64]; omega
          clear hE
          have hLb : L ≠ b := by have := HAL.out.2.1; omega
          go_wp2_with fail
          go_region
          go_wp2_with fail
          go_region
          go_wp2_with fail
          go_ret3
          have hbe := HBEST.out
          rw [HN.out] at hbe
          have hEQ : E < Q.n := by rw [← HNX.out.1]; exact hEN
          have ht := HT1.out.setNext E hEQ
          refine .inr ⟨k, (y, z), hbe, rfl, .slice ua un uc, ?_, ?_, ?_⟩
          · show QuAt _ B b _ ⟨Q.n, (y + 1) % Q.n, _⟩
            rw [← HNX.out.1, ← HE2.out, HNX.out.1]
            exact ht.keep fun _ _ => rfl
          · have h1 := (OnlyF.of (F := QuOwn b (.slice (some ⟨g, 0, none⟩) n c)) HBA.out).trans HT2.out.1 fun q hq => .inl hq
            have h2 := h1.trans (OnlyF.set (F := QuOwn b (.slice (some ⟨g, 0, none⟩) n c)) wD ⟨b, 1, none⟩ (.int .i64 E) (.inl rfl)) fun q hq => .inl hq
            exact ⟨h2.os, h2.tape, h2.output, h2.size, h2.block⟩
          · intro q hq
            rcases HT2.out.2 q hq with h | h
            · exact .inl h
            · exact .inr (Nat.le_trans HBA.out.size h)
end Go.Proofs.YtpldaghhledjlaaGreatDoor
