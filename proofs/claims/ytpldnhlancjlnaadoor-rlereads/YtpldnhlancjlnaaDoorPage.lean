/- A page that is being filled: live and put. -/
import Derived.Test.YtpldnhlancjlnaaDoorRleHead
import Derived.Test.YtpldnhlancjlnaaDoorOrderLaw
import Derived.Test.YtpldnhlancjlnaaDoorRefShift
import Derived.Lib.OthersKept
import Derived.Lib.SmallJoins
import Derived.Deep.RegionHeld3
import Derived.Deep.RegionLaw
import Derived.Deep.LoopGhost
import Derived.Deep.CutRange
import Derived.BigQuiet
namespace Go.Proofs.YtpldnhlancjlnaaDoor
open Go.Shelf Go.RowKit

/-- a page in its block -/
def PgAt (B pb : Nat) (W H x y : Int) (cs : List (Int × Int)) (w : World) : Prop :=
  B ≤ pb ∧ ∃ v, w.heap[pb]? = some (.cells #[.int .i64 W, .int .i64 H, .int .i64 x, .int .i64 y, v] 61 (0, 0)) ∧ Kept w B v cs
/-- what a call that fills a page leaves as it was -/
def LeftP (B pb : Nat) (w w' : World) : Prop := Below B w w' ∧ Lib.OthersKept 56 (some pb) w w'
theorem LeftP.refl (B pb : Nat) (w : World) : LeftP B pb w w := ⟨Below.refl _ _, Lib.OthersKept.refl _ _ _⟩
theorem LeftP.trans {B pb : Nat} {a c d : World} (h : LeftP B pb a c) (k : LeftP B pb c d) : LeftP B pb a d := ⟨h.1.trans k.1, h.2.trans k.2⟩
theorem LeftP.of {B pb : Nat} {w w' : World} (h : Below w.heap.size w w') (hB : B ≤ w.heap.size) : LeftP B pb w w' :=
  ⟨h.mono hB, fun k _ hk _ _ => (h.block k (Array.getElem?_eq_some_iff.1 hk).1).trans hk⟩
theorem LeftP.drew {B pb : Nat} {w w' : World} (h : LeftP B pb w w') : LeftP B pb w w'.drew := ⟨h.1.drew, h.2.drew⟩
theorem LeftP.drewN {B pb : Nat} {w w' : World} (h : LeftP B pb w w') (q : Nat) : LeftP B pb w (w'.drewN q) := ⟨⟨h.1.os, h.1.tape, h.1.output, h.1.size, h.1.block⟩, h.2⟩
theorem LeftP.setCell {B pb : Nat} {a w : World} (h : LeftP B pb a w) (hB : B ≤ pb) (i : Nat) (v : Value) : LeftP B pb a (w.setCell ⟨pb, i, none⟩ v) :=
  ⟨h.1.setCell (p := ⟨pb, i, none⟩) hB v, h.2.setCell ⟨pb, i, none⟩ rfl v⟩

theorem PgAt.lt {B pb : Nat} {W H x y : Int} {cs : List (Int × Int)} {w : World} (h : PgAt B pb W H x y cs w) : pb < w.heap.size := by
  obtain ⟨_, v, hb, _⟩ := h
  exact (Array.getElem?_eq_some_iff.1 hb).1
theorem PgAt.go {B pb : Nat} {W H x y : Int} {cs : List (Int × Int)} {w w' : World} (h : PgAt B pb W H x y cs w) (hb : Below w.heap.size w w') : PgAt B pb W H x y cs w' := by
  have hlt := h.lt
  obtain ⟨hB, v, hbk, hk⟩ := h
  exact ⟨hB, v, (hb.block pb hlt).trans hbk, hk.block fun g hg => hb.block g hg⟩
theorem PgAt.drewN {B pb : Nat} {W H x y : Int} {cs : List (Int × Int)} {w : World} (h : PgAt B pb W H x y cs w) (q : Nat) : PgAt B pb W H x y cs (w.drewN q) := h
theorem PgAt.cells {B pb : Nat} {W H x y : Int} {cs : List (Int × Int)} {w : World} (h : PgAt B pb W H x y cs w) : w.cell? ⟨pb, 0, none⟩ = some (.int .i64 W) ∧ w.cell? ⟨pb, 1, none⟩ = some (.int .i64 H) ∧ w.cell? ⟨pb, 2, none⟩ = some (.int .i64 x) ∧ w.cell? ⟨pb, 3, none⟩ = some (.int .i64 y) ∧ w.frozen? ⟨pb, 2, none⟩ = false ∧ w.frozen? ⟨pb, 3, none⟩ = false ∧ w.frozen? ⟨pb, 4, none⟩ = false := by
  obtain ⟨_, v, hb, _⟩ := h
  refine ⟨by rw [Lib.cell_of_heap hb]; rfl, by rw [Lib.cell_of_heap hb]; rfl, by rw [Lib.cell_of_heap hb]; rfl, by rw [Lib.cell_of_heap hb]; rfl, Lib.frozen_of_heap hb 2, Lib.frozen_of_heap hb 3, Lib.frozen_of_heap hb 4⟩
theorem kept_kind {w : World} {B : Nat} {v : Value} {cs : List (Int × Int)} (h : Kept w B v cs) : ∀ g, v.ownBlock = some g → ∃ c fz, w.heap[g]? = some (.cells c 56 fz) := by
  intro g hg
  rcases h.owns.2 with ⟨rfl, _⟩ | ⟨g', cap, cur, rfl, _, hgg, _⟩
  · simp [Value.ownBlock] at hg
  · simp [Value.ownBlock] at hg
    subst hg
    exact ⟨cur, _, hgg⟩
theorem kept_ne {w : World} {B pb : Nat} {v : Value} {cs : List (Int × Int)} {o : Array Value} {fz : Nat × Nat} (h : Kept w B v cs) (hb : w.heap[pb]? = some (.cells o 61 fz)) : v.ownBlock ≠ some pb := by
  intro e
  obtain ⟨c, fz', hc⟩ := kept_kind h pb e
  rw [hb] at hc
  simp at hc
theorem Kept.setOther {w : World} {B pb i : Nat} {v u : Value} {cs : List (Int × Int)} (h : Kept w B v cs) (hne : v.ownBlock ≠ some pb) : Kept (w.setCell ⟨pb, i, none⟩ u) B v cs := by
  rcases h with h | ⟨hz, hown⟩
  · exact Or.inl h
  · exact Or.inr ⟨hz, owns_of_block hown fun g hg => Below.heap_setCell _ _ _ _ (fun e => hne (by rw [hg, e]))⟩
theorem PgAt.set {B pb : Nat} {W H x y : Int} {cs : List (Int × Int)} {w : World} (h : PgAt B pb W H x y cs w) (i : Nat) (u : Value) (x' y' : Int) (hi : ∀ v, #[.int .i64 W, .int .i64 H, .int .i64 x, .int .i64 y, v].setIfInBounds i u = #[.int .i64 W, .int .i64 H, .int .i64 x', .int .i64 y', v]) : PgAt B pb W H x' y' cs (w.setCell ⟨pb, i, none⟩ u) := by
  obtain ⟨hB, v, hb, hk⟩ := h
  refine ⟨hB, v, ?_, hk.setOther (kept_ne hk hb)⟩
  rw [← hi v]
  exact Go.Joins.block_setCell hb u
theorem PgAt.setX {B pb : Nat} {W H x y : Int} {cs : List (Int × Int)} {w : World} (h : PgAt B pb W H x y cs w) (x' : Int) : PgAt B pb W H x' y cs (w.setCell ⟨pb, 2, none⟩ (.int .i64 x')) := h.set 2 _ x' y fun _ => rfl
theorem PgAt.setY {B pb : Nat} {W H x y : Int} {cs : List (Int × Int)} {w : World} (h : PgAt B pb W H x y cs w) (y' : Int) : PgAt B pb W H x y' cs (w.setCell ⟨pb, 3, none⟩ (.int .i64 y')) := h.set 3 _ x y' fun _ => rfl

theorem putF_o (W H x y : Int) (cs : List (Int × Int)) (n : Int) : putF W H x y cs n 111 = (if W < x + n ∨ H ≤ y then (3, x, y, cs) else if 4096 < (cs.length : Int) + n then (5, x, y, cs) else (0, x + n, y, cs ++ cellsAt x y n.toNat)) := by
  unfold putF
  rw [if_neg (by decide), if_neg (by decide), if_pos rfl]

theorem slice_shape {w : World} {B n : Nat} {v : Value} {xs : List Value} (h : w.ownsRow B 56 2 v (n + 1) xs) : ∃ g cap, v = .slice (some ⟨g, 0, none⟩) (n + 1) cap := by
  rcases h.2 with ⟨_, h0⟩ | ⟨g, cap, cur, hv, _⟩
  · omega
  · exact ⟨g, cap, hv⟩
theorem grown_block {w w' : World} {row : Option Nat} {o x : Obj} {pb : Nat} (hg : (w.alloc o).drew.grownBy w' row) (hlt : pb < w.heap.size) (hb : w.heap[pb]? = some x) (hne : row ≠ some pb) : w'.heap[pb]? = some x := by
  rw [hg.block pb (by simp; omega) (fun e => hne e.symm)]
  exact (Lib.alloc_old w o pb hlt).trans hb

theorem page_put {B pb : Nat} {W H x y : Int} {cs : List (Int × Int)} {k : Nat} {w wr w5 : World} {v : Value} {o : Obj} {g5 cap5 : Nat}
    (hpg : PgAt B pb W H (x + k) y (cs ++ cellsAt x y k) wr) (hlf : LeftP B pb w wr) (HBK : Hid (wr.heap[pb]? = some (.cells #[.int .i64 W, .int .i64 H, .int .i64 (x + k), .int .i64 y, v] 61 (0, 0)))) (hkp : Kept wr B v (cs ++ cellsAt x y k)) (hB : B ≤ wr.heap.size)
    (hown5 : w5.ownsRow B 56 2 (.slice (some ⟨g5, 0, none⟩) (cs.length + k + 1) cap5) (cs.length + k + 1) (cellsL (cs ++ cellsAt x y k) ++ [.int .i64 (x + k), .int .i64 y])) (hgrow5 : (wr.alloc o).drew.grownBy w5 v.ownBlock) :
    PgAt B pb W H (x + k) y (cs ++ cellsAt x y (k + 1)) (w5.setCell ⟨pb, 4, none⟩ (.slice (some ⟨g5, 0, none⟩) (cs.length + k + 1) cap5)) ∧ LeftP B pb w (w5.setCell ⟨pb, 4, none⟩ (.slice (some ⟨g5, 0, none⟩) (cs.length + k + 1) cap5)) := by
  have hlt := hpg.lt
  have hb5 := grown_block hgrow5 hlt HBK.out (kept_ne hkp HBK.out)
  have hcs : cellsL (cs ++ cellsAt x y (k + 1)) = cellsL (cs ++ cellsAt x y k) ++ [.int .i64 (x + k), .int .i64 y] := by
    rw [cellsAt_snoc, ← List.append_assoc, cellsL_append]
    rfl
  have hlen : (cs ++ cellsAt x y (k + 1)).length = cs.length + k + 1 := by rw [List.length_append, cellsAt_length]; omega
  have hk5 : Kept w5 B (.slice (some ⟨g5, 0, none⟩) (cs.length + k + 1) cap5) (cs ++ cellsAt x y (k + 1)) := Or.inr ⟨by intro e; rw [e] at hlen; simp at hlen, by rw [hlen, hcs]; exact hown5⟩
  refine ⟨⟨hpg.1, _, Go.Joins.block_setCell hb5 _, hk5.setOther (kept_ne hk5 hb5)⟩, ?_⟩
  refine LeftP.setCell (w := w5) ⟨?_, ?_⟩ hpg.1 4 _
  · exact ((hlf.1.alloc hB o).drew).grown hgrow5 (by simp; omega) (fun g hg => (hkp.owns.lt g hg).1)
  · exact ((hlf.2.alloc o).drew).grown hgrow5 (fun g hg => by
      obtain ⟨c, fz, hc⟩ := kept_kind hkp g hg
      exact ⟨c, fz, (Lib.alloc_old wr o g (hkp.owns.lt g hg).2).trans hc⟩)

set_option maxRecDepth 200000 in
set_option maxHeartbeats 2000000 in
theorem live_any (B pb : Nat) (W H x y : Int) (cs : List (Int × Int)) (n : Int) (w : World) (h : PgAt B pb W H x y cs w) (hB : B ≤ w.heap.size) (hn : 1 ≤ n ∧ n < 1000000000000) (hx : 0 ≤ x ∧ x ≤ 100000000000000000) (hy : 0 ≤ y ∧ y ≤ 100000000000000000) (hW : W < 1000000000000) (hcs : cs.length ≤ 4096) :
    Calls Tryd.prog 90 #[.pointer (some ⟨pb, 0, none⟩), .int .i64 n] w fun e w' => e = .returned (.int .i64 (putF W H x y cs n 111).1) ∧ PgAt B pb W H (putF W H x y cs n 111).2.1 (putF W H x y cs n 111).2.2.1 (putF W H x y cs n 111).2.2.2 w' ∧ LeftP B pb w w' := by
  obtain ⟨c0, c1, c2, c3, z2, z3, z4⟩ := h.cells
  have hpf := putF_o W H x y cs n
  have hlt := h.lt
  obtain ⟨hn1, hn2⟩ := hn
  obtain ⟨hx1, hx2⟩ := hx
  obtain ⟨hy1, hy2⟩ := hy
  by_cases h1 : W < x + n
  · have hd : decide (W < x + n) = true := by simpa using h1
    have HX : Hid (putF W H x y cs n 111 = (3, x, y, cs)) := by show _ = _; rw [hpf, if_pos (Or.inl h1)]
    clear hpf
    go_enter Tryd.func90, Tryd.ntmps90
    go_wp2_with fail
    go_quiet (fail)
    go_wp2
    go_ret
    rw [HX.out]
    exact ⟨rfl, h.drewN _, (LeftP.refl _ _ _).drewN _⟩
  · have hd : decide (W < x + n) = false := by simpa using h1
    by_cases h2 : H ≤ y
    · have HX : Hid (putF W H x y cs n 111 = (3, x, y, cs)) := by show _ = _; rw [hpf, if_pos (Or.inr h2)]
      clear hpf
      go_enter Tryd.func90, Tryd.ntmps90
      go_wp2_with fail
      go_quiet (fail)
      go_wp2
      go_ret
      rw [HX.out]
      exact ⟨rfl, h.drewN _, (LeftP.refl _ _ _).drewN _⟩
    · have hd2 : decide (H ≤ y) = false := by simpa using h2
      obtain ⟨hBp, v, hbk, hk⟩ := id h
      obtain ⟨va, vc, rfl, _⟩ := hk.row.shape
      have c4 : w.cell? ⟨pb, 4, none⟩ = some (.slice va cs.length vc) := by rw [Lib.cell_of_heap hbk]; rfl
      clear hbk hk
      by_cases h3 : 4096 < (cs.length : Int) + n
      · have HX : Hid (putF W H x y cs n 111 = (5, x, y, cs)) := by show _ = _; rw [hpf, if_neg (by omega), if_pos h3]
        clear hpf
        go_enter Tryd.func90, Tryd.ntmps90
        go_wp2_with fail
        go_quiet (fail)
        go_wp2
        go_ret
        rw [HX.out]
        exact ⟨rfl, h.drewN _, (LeftP.refl _ _ _).drewN _⟩
      · have HX : Hid (putF W H x y cs n 111 = (0, x + n, y, cs ++ cellsAt x y n.toNat)) := by show _ = _; rw [hpf, if_neg (by omega), if_neg h3]
        have h3' : (cs.length : Int) + n ≤ 4096 := by omega
        obtain ⟨m, hm⟩ := Int.eq_ofNat_of_zero_le (show 0 ≤ n by omega)
        have HM : Hid (n = (m : Int)) := hm
        have HT : Hid (n.toNat = m) := by show _ = _; rw [hm, Int.toNat_natCast]
        clear hpf h3 hm
        go_enter Tryd.func90, Tryd.ntmps90
        go_wp2_with fail
        go_quiet (fail)
        go_wp2_with fail
        go_loopg [36] m (fun gk s36 wr => ∃ k : Nat, k + gk = m ∧ s36 = .int .i64 k ∧ PgAt B pb W H (x + k) y (cs ++ cellsAt x y k) wr ∧ LeftP B pb w wr)
        case atStart => exact ⟨0, by omega, rfl, by simpa [cellsAt] using h.drewN _, (LeftP.refl _ _ _).drewN _⟩
        case round =>
          obtain ⟨k, hkk, rfl, hpg, hlf⟩ := hrel
          have HK : Hid (k + gk = m) := hkk
          have hkm : k ≤ m := by omega
          clear hkk
          by_cases hlt2 : k < m
          · have hi1 : (k : Int) < n := by have := HM.out; omega
            obtain ⟨_, _, p2, p3, f2, f3, f4⟩ := hpg.cells
            have hplt := hpg.lt
            have hsz := hlf.1.size
            obtain ⟨_, v, hbk, hkp⟩ := id hpg
            have hne := kept_ne hkp hbk
            have hkl : (cs ++ cellsAt x y k).length = cs.length + k := by rw [List.length_append, cellsAt_length]
            have p4 : wr.cell? ⟨pb, 4, none⟩ = some v := by rw [Lib.cell_of_heap hbk]; rfl
            have OW : Hid (∀ o, (wr.alloc o).drew.ownsRow B 56 2 v (cs.length + k) (cellsL (cs ++ cellsAt x y k))) := fun o => by
              have h1 := hkp.owns
              rw [hkl] at h1
              exact h1.alloc o
            have HBK : Hid (wr.heap[pb]? = some (.cells #[.int .i64 W, .int .i64 H, .int .i64 (x + k), .int .i64 y, v] 61 (0, 0))) := hbk
            have hck : cs.length + k < 5000 := by have := HM.out; omega
            have hBr : B ≤ wr.heap.size := by omega
            have hxk : IntKind.i64.wrap (x + (k : Int) + 1) = x + k + 1 := by rw [IntKind.wrap_i64]; have := HM.out; omega
            have hbk0 := HBK
            have hB0 := hBr
            clear hbk hkl
            obtain ⟨i0, hi, hz0, hz1, hz2⟩ := info_parts Tryd.info56
            go_wp2_with fail
            go_cut [36] from 36 to 63 (fun s36 wc => s36 = .int .i64 k ∧ PgAt B pb W H (x + k) y (cs ++ cellsAt x y (k + 1)) wc ∧ LeftP B pb w wc)
            case first =>
              go_region_law (refine step_append_own _ (by rfl) _ _ 22 (by rfl) B 56 i0 (.agg #[.int .i64 0, .int .i64 0]) 2 16 Tryd.underlying22 hi hz0 hz1 hz2 rfl (by decide) v (cs.length + k) (cellsL (cs ++ cellsAt x y k)) (by rfl) (OW.out _) ⟨wr.heap.size, 0, none⟩ 1 1 [.int .i64 (x + k), .int .i64 y] (by rfl) rfl (cell_two_new _ _ _ _) (by intro u hu; simp at hu; rcases hu with rfl | rfl <;> rfl) (by unfold maxLen; omega) (by omega) (by simp; omega) ?_; intro v5 w5 hown5 hgrow5 hnil5; obtain ⟨g5, cap5, rfl⟩ := slice_shape hown5; have hb5 := grown_block hgrow5 hplt HBK.out hne; have q4 : w5.cell? ⟨pb, 4, none⟩ = some v := (by rw [Lib.cell_of_heap hb5]; rfl); have q5 : w5.frozen? ⟨pb, 4, none⟩ = false := Lib.frozen_of_heap hb5 4)
              all_goals
                go_wp2
                go_meet
                case rel => exact ⟨rfl, page_put hpg hlf hbk0 hkp hB0 hown5 hgrow5⟩
            case rest =>
            obtain ⟨rfl, hpg2, hlf2⟩ := hcut
            obtain ⟨_, _, r2, _, g2, _, _⟩ := hpg2.cells
            clear p2 p3 p4 f2 f3 f4 OW hkp hpg hlf
            go_wp2
            go_roundg (gk - 1)
            case measure => have := HK.out; omega
            case rel =>
              have h5 := HK.out
              refine ⟨k + 1, by omega, by go_num, ?_, hlf2.setCell hBp 2 _⟩
              have := hpg2.setX (x + k + 1)
              rw [show x + ((k + 1 : Nat) : Int) = x + k + 1 by omega]
              exact this
          · have hi1 : ¬ (k : Int) < n := by have := HM.out; omega
            go_wp2
            go_ret
            have hkm2 : k = m := by omega
            have hnk : n = (k : Int) := by have := HM.out; omega
            have htk : n.toNat = k := by have := HT.out; omega
            rw [HX.out, htk, hnk]
            exact ⟨rfl, hpg, hlf⟩
end Go.Proofs.YtpldnhlancjlnaaDoor
