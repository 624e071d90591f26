/- A writer's body: the walk. -/
import Derived.Test.YtnklpjoeopcbbaaDoorBody
import Derived.Deep.CutRange
namespace Go.Proofs.YtnklpjoeopcbbaaDoor
open Go.Shelf Go.RowKit

/-- cells of a list from a place on -/
theorem HoldsR.drop {w : World} {b off : Nat} {zs : List (Int × Int)} (h : HoldsR w b off zs) (k : Nat) : HoldsR w b (off + k * 2) (zs.drop k) := by
  intro j hj
  rw [List.length_drop] at hj
  have := h (k + j) (by omega)
  have e : (zs.drop k)[j]! = zs[k + j]! := by
    rw [getElem!_pos (zs.drop k) j (by rw [List.length_drop]; omega), getElem!_pos zs (k + j) (by omega)]
    simp
  rw [e]
  rw [show off + k * 2 + j * 2 = off + (k + j) * 2 by omega]
  exact this
theorem HoldsR.below {w w' : World} {b off : Nat} {B : Nat} {zs : List (Int × Int)} (h : HoldsR w b off zs) (hb : Below B w w') (hB : b < B) : HoldsR w' b off zs := by
  intro j hj
  rw [hb.cell (p := ⟨b, off + j * 2, none⟩) hB, hb.cell (p := ⟨b, off + j * 2 + 1, none⟩) hB]
  exact h j hj

theorem bcell {W w1 : World} (hb : Below W.heap.size W w1) : (∀ b o, b < W.heap.size → w1.cell? ⟨b, o, none⟩ = W.cell? ⟨b, o, none⟩) ∧ (∀ b o, b < W.heap.size → w1.frozen? ⟨b, o, none⟩ = W.frozen? ⟨b, o, none⟩) :=
  ⟨fun b o h => hb.cell (p := ⟨b, o, none⟩) h, fun b o h => hb.frozen (p := ⟨b, o, none⟩) h⟩
theorem keepB {wr W : World} {lb o : Nat} {u v : Value} (hW : Below wr.heap.size wr W) (hlb : lb < wr.heap.size) (a0 : wr.cell? ⟨lb, o, none⟩ = some u) (b0 : wr.cell? ⟨lb, o + 1, none⟩ = some v) : W.cell? ⟨lb, o, none⟩ = some u ∧ W.cell? ⟨lb, o + 1, none⟩ = some v :=
  ⟨(hW.cell (p := ⟨lb, o, none⟩) hlb).trans a0, (hW.cell (p := ⟨lb, o + 1, none⟩) hlb).trans b0⟩
theorem slice_len {a : Option Addr} {n n' c c' : Nat} (h : n = n') (h' : c = c') : Value.slice a n c = .slice a n' c' := by rw [h, h']
/-- where the body stands: what is told, what is left -/
structure At (x0 y0 : Int) (zs : List (Int × Int)) (k : Nat) (x y : Int) (ps : List (Int × UInt8)) : Prop where
  le : k ≤ zs.length
  rest : ∃ f, (zs.drop k).length ≤ f ∧ pieces x0 zs.length x0 y0 zs = ps ++ pieces x0 f x y (zs.drop k)
  small : Small ps
  few : ps.length ≤ 3 * k
  top : x ≤ 2199023255552
  told : Told x0 y0 4398046511104 4398046511104 x y (zs.drop k)
/-- what holds midway in a round -/
def MidW (B b : Nat) (W0 : World) (cb : Nat) (px py : Int) (l0 : List UInt8) (ps : List (Int × UInt8)) (wc : World) : Prop :=
  IsW B b (soFar l0 ps) (lineOf ps) wc ∧ Left B b W0 wc ∧ wc.heap[cb]? = some (.cells #[.int .i64 px, .int .i64 py] 59 (0, 0))
theorem MidW.cells {B b : Nat} {W0 : World} {cb : Nat} {px py : Int} {l0 : List UInt8} {ps : List (Int × UInt8)} {wc : World} (h : MidW B b W0 cb px py l0 ps wc) : wc.cell? ⟨cb, 0, none⟩ = some (.int .i64 px) ∧ wc.cell? ⟨cb, 1, none⟩ = some (.int .i64 py) :=
  ⟨by rw [Lib.cell_of_heap h.2.2]; rfl, by rw [Lib.cell_of_heap h.2.2]; rfl⟩
theorem MidW.drew {B b : Nat} {W0 : World} {cb : Nat} {px py : Int} {l0 : List UInt8} {ps : List (Int × UInt8)} {wc : World} (h : MidW B b W0 cb px py l0 ps wc) : MidW B b W0 cb px py l0 ps wc.drew := ⟨h.1.drew, h.2.1.drew, h.2.2⟩
theorem MidW.next {B b : Nat} {W0 : World} {cb : Nat} {px py : Int} {l0 : List UInt8} {ps ps' : List (Int × UInt8)} {wc w2 : World} (h : MidW B b W0 cb px py l0 ps wc) (g : IsW B b (soFar l0 ps') (lineOf ps') w2) (l : Left B b wc w2) (h1 : W0.heap.size ≤ cb) (h2 : b < W0.heap.size) : MidW B b W0 cb px py l0 ps' w2 :=
  ⟨g, h.2.1.trans l, l.2 _ _ h.2.2 (by intro e; have := Option.some.inj e; omega) (by intro c fz e; cases e)⟩
theorem MidW.box {B b : Nat} {W0 : World} {cb : Nat} {px py : Int} {l0 : List UInt8} {ps : List (Int × UInt8)} {wc : World} (h : MidW B b W0 cb px py l0 ps wc) {bx : Nat} {x0 y0 x1 y1 : Int} (hb : W0.heap[bx]? = some (.cells #[.int .i64 x0, .int .i64 y0, .int .i64 x1, .int .i64 y1] 25 (0, 0))) (hne : bx ≠ b) : wc.cell? ⟨bx, 0, none⟩ = some (.int .i64 x0) := by
  have := h.2.1.2 _ _ hb (by intro e; exact hne (Option.some.inj e)) (by intro c fz e; cases e)
  rw [Lib.cell_of_heap this]; rfl
/-- the pieces ahead of a run -/
def aheadY (y py : Int) : List (Int × UInt8) := if y < py then [(py - y, 36)] else []
def aheadX (x px : Int) : List (Int × UInt8) := if x < px then [(px - x, 98)] else []
def xFrom (x0 x y py : Int) : Int := if y < py then x0 else x
theorem At.step {x0 y0 : Int} {zs : List (Int × Int)} {k : Nat} {x y : Int} {ps : List (Int × UInt8)} (h : At x0 y0 zs k x y ps) {px py : Int} {r : List (Int × Int)} (hz : zs.drop k = (px, py) :: r) {m : Nat} (hm : m = 1 + runN (px + 1) py r) (hzl : zs.length ≤ 4096) (hpx : px < 1099511627776) :
    At x0 y0 zs (k + m) (px + m) py (ps ++ aheadY y py ++ aheadX (xFrom x0 x y py) px ++ [((m : Int), 111)]) ∧ y ≤ py ∧ Small (ps ++ aheadY y py) ∧ Small (ps ++ aheadY y py ++ aheadX (xFrom x0 x y py) px) ∧ (py - y ≤ 10000000000000) ∧ (px - xFrom x0 x y py ≤ 10000000000000) ∧ (ps ++ aheadY y py).length ≤ 20000 ∧ (ps ++ aheadY y py ++ aheadX (xFrom x0 x y py) px).length ≤ 20000 ∧ m ≤ zs.length - k ∧ x0 ≤ xFrom x0 x y py := by
  obtain ⟨hle, ⟨f, hf, hp⟩, hs, hfew, htop, ht⟩ := h
  have hlen : (zs.drop k).length = r.length + 1 := by rw [hz]; rfl
  rw [List.length_drop] at hlen
  have hrl := runN_le (px + 1) py r
  rw [hz] at ht hp hf
  have hn := ht.next (px, py) (by simp)
  have hl := ht.left (px, py) (by simp)
  have hat := ht.at0
  have htail := ht.tail
  simp only at hn hl htail
  rw [← hm] at htail
  have hdrop : zs.drop (k + m) = r.drop (m - 1) := by
    rw [← List.drop_drop, hz]
    exact drop_pred _ _ _ (by omega)
  have hfx : x0 ≤ xFrom x0 x y py := by unfold xFrom; split <;> omega
  have hyl : (aheadY y py).length ≤ 1 := by unfold aheadY; split <;> simp
  have hxl : (aheadX (xFrom x0 x y py) px).length ≤ 1 := by unfold aheadX; split <;> simp
  have s1 : Small (ps ++ aheadY y py) := by
    intro q hq
    rcases List.mem_append.1 hq with hq | hq
    · exact hs q hq
    · unfold aheadY at hq
      split at hq
      · simp at hq; subst hq; simp only; omega
      · simp at hq
  have s2 : Small (ps ++ aheadY y py ++ aheadX (xFrom x0 x y py) px) := by
    intro q hq
    rcases List.mem_append.1 hq with hq | hq
    · exact s1 q hq
    · unfold aheadX at hq
      split at hq
      · simp at hq; subst hq; simp only; omega
      · simp at hq
  refine ⟨⟨by omega, ?_, ?_, ?_, by omega, by rw [hdrop]; exact htail⟩, by omega, s1, s2, by omega, by omega, by rw [List.length_append]; omega, by rw [List.length_append, List.length_append]; omega, by omega, hfx⟩
  · cases f with
    | zero => simp at hf
    | succ f =>
      refine ⟨f, by rw [hdrop, List.length_drop]; simp at hf; omega, ?_⟩
      rw [hp, pieces, hdrop, ← hm]
      unfold aheadY aheadX xFrom
      simp only [List.append_assoc, List.cons_append, List.nil_append]
  · intro q hq
    rcases List.mem_append.1 hq with hq | hq
    · exact s2 q hq
    · simp at hq; subst hq; simp only; omega
  · rw [List.length_append, List.length_append, List.length_append, List.length_singleton]; omega

set_option maxRecDepth 20000 in
set_option maxHeartbeats 2000000 in
theorem body_some (B b lb off n c : Nat) (x0 y0 x1 y1 : Int) (l0 : List UInt8) (zs : List (Int × Int)) (w : World) (h : IsW B b l0 0 w) (hv : Vars w) (hB : B ≤ w.heap.size) (hB8 : 6 ≤ B) (hl0 : l0.length ≤ 2000) (hlb : lb < B)
    (HL : Hid (zs.length = n)) (hn4 : n ≤ 4096) (hnc : n ≤ c) (hcm : c ≤ maxLen) (HH : Hid (HoldsR w lb off zs)) (HN : Hid (zs.any farP = false)) (HO : Hid (Told x0 y0 4398046511104 4398046511104 x0 y0 zs)) (hx0 : -1099511627776 < x0 ∧ x0 < 1099511627776) :
    Calls Tryd.prog 44 #[.pointer (some ⟨b, 0, none⟩), .slice (some ⟨lb, off, none⟩) n c, .agg #[.int .i64 x0, .int .i64 y0, .int .i64 x1, .int .i64 y1]] w fun e w' => e = .returned (.tuple #[]) ∧ IsW B b (l0 ++ bodyT x0 y0 zs) (layK 0 ((pieces x0 zs.length x0 y0 zs).map pieceT ++ [[33]])) w' ∧ Left B b w w' := by
  have hge := h.ge
  have hblt := h.lt
  have hbx0 : (w.alloc (.cells #[.int .i64 x0, .int .i64 y0, .int .i64 x1, .int .i64 y1] 25)).heap[w.heap.size]? = some (.cells #[.int .i64 x0, .int .i64 y0, .int .i64 x1, .int .i64 y1] 25 (0, 0)) := heap_alloc_new w _
  have hb0 : Below w.heap.size w (w.alloc (.cells #[.int .i64 x0, .int .i64 y0, .int .i64 x1, .int .i64 y1] 25)) := (Below.refl _ _).alloc (Nat.le_refl _) _
  unfold maxLen at hcm
  go_enter Tryd.func44, Tryd.ntmps44
  go_wp2_with fail
  go_region
  go_wp2_with fail
  have hv0 : Vars (w.alloc (.cells #[.int .i64 x0, .int .i64 y0, .int .i64 x1, .int .i64 y1] 25)).drew := (hv.go hb0 hv.room).drew
  have hf0 : Left B b w (w.alloc (.cells #[.int .i64 x0, .int .i64 y0, .int .i64 x1, .int .i64 y1] 25)).drew := (Left.of hb0 hB).drew
  have g0 : IsW B b (soFar l0 []) (lineOf []) (w.alloc (.cells #[.int .i64 x0, .int .i64 y0, .int .i64 x1, .int .i64 y1] 25)).drew := by
    have := (h.go hb0).drew
    simpa [soFar, lineOf, lay, layK] using this
  have hz1 : (w.alloc (.cells #[.int .i64 x0, .int .i64 y0, .int .i64 x1, .int .i64 y1] 25)).drew.heap.size = w.heap.size + 1 := by simp
  have hz0 : w.heap.size < (w.alloc (.cells #[.int .i64 x0, .int .i64 y0, .int .i64 x1, .int .i64 y1] 25)).drew.heap.size := by omega
  clear hz1
  have hst : At x0 y0 zs 0 x0 y0 [] := ⟨Nat.zero_le _, ⟨zs.length, by simp, by simp⟩, by intro p hp; simp at hp, by simp, by omega, by simpa using HO.out⟩
  generalize hW0 : (w.alloc (.cells #[.int .i64 x0, .int .i64 y0, .int .i64 x1, .int .i64 y1] 25)).drew = W0 at *
  have hbx : W0.heap[w.heap.size]? = some (.cells #[.int .i64 x0, .int .i64 y0, .int .i64 x1, .int .i64 y1] 25 (0, 0)) := by rw [← hW0]; exact hbx0
  have HBX0 : Hid (W0.heap[w.heap.size]? = some (.cells #[.int .i64 x0, .int .i64 y0, .int .i64 x1, .int .i64 y1] 25 (0, 0))) := hbx
  clear hbx0 hb0 hW0 h hbx
  go_loopg [1, 6, 7] n (fun gk s1 s6 s7 wr => ∃ (k : Nat) (x y : Int) (ps : List (Int × UInt8)) (a : Option Addr), (k < n → a = some ⟨lb, off + k * 2, none⟩) ∧ k + gk = n ∧ s1 = .slice a (n - k) (c - k) ∧ s6 = .int .i64 x ∧ s7 = .int .i64 y ∧ At x0 y0 zs k x y ps ∧ IsW B b (soFar l0 ps) (lineOf ps) wr ∧ Left B b W0 wr)
  case atStart => exact ⟨0, x0, y0, [], some ⟨lb, off, none⟩, fun _ => by simp, by omega, by simp, rfl, rfl, hst, g0, Left.refl _ _ _⟩
  case round =>
    obtain ⟨k, x, y, ps, a, ha, hk, rfl, rfl, rfl, hat, hw, hlf⟩ := hrel
    have HK : Hid (k + gk = n) := hk
    have HA : Hid (At x0 y0 zs k x y ps) := hat
    have hkn : k ≤ n := by omega
    have hsz := hlf.1.size
    have hbxr : wr.heap[w.heap.size]? = some (.cells #[.int .i64 x0, .int .i64 y0, .int .i64 x1, .int .i64 y1] 25 (0, 0)) := hlf.2 _ _ HBX0.out (by intro e; have := Option.some.inj e; omega) (by intro c fz e; cases e)
    have hvr : Vars wr := hv0.go hlf.1 hB8
    clear hk hat
    by_cases hlt : k < n
    · have ha2 := ha hlt
      subst ha2
      clear ha
      have hlen : (zs.drop k).length = n - k := by rw [List.length_drop, HL.out]
      have hhr := (HH.out.drop k).below (hf0.1.trans hlf.1) hlb
      cases hz : zs.drop k with
      | nil => rw [hz] at hlen; simp at hlen; omega
      | cons p r =>
        rw [hz] at hlen hhr
        have hmem : p ∈ zs := List.mem_of_mem_drop (i := k) (by rw [hz]; simp)
        have hnear := bounds_of HN.out hmem
        have hrun : ∀ W, Below wr.heap.size wr W → Calls Tryd.prog 65 #[.slice (some ⟨lb, off + k * 2, none⟩) (n - k) (c - k)] W fun e w' => e = .returned (.int .i64 ((1 + runN (p.1 + 1) p.2 r : Nat) : Int)) ∧ Below W.heap.size W w' := fun W hW => by
          have := run_some lb (off + k * 2) (c - k) p r W ⟨hnear.1, hnear.2.1⟩ (by rw [hlen]; omega) (hhr.below hW (by omega))
          rw [hlen] at this
          exact this.mono fun e w' ⟨he, q, hq⟩ => ⟨he, by rw [hq]; exact ⟨rfl, rfl, rfl, Nat.le_refl _, fun _ _ => rfl⟩⟩
        have hrl := runN_le (p.1 + 1) p.2 r
        have h00 := hhr 0 (by simp)
        have a0 : wr.cell? ⟨lb, off + k * 2, none⟩ = some (.int .i64 p.1) := by simpa using h00.1
        have b0 : wr.cell? ⟨lb, off + k * 2 + 1, none⟩ = some (.int .i64 p.2) := by simpa using h00.2
        have hi1 : (0 : Int) < ((n - k : Nat) : Int) := by omega
        have hlb2 : lb < wr.heap.size := by omega
        have hlb3 : lb < wr.heap.size + 1 := by omega
        have HZ : Hid (zs.drop k = p :: r) := hz
        have HBX : Hid (wr.heap[w.heap.size]? = some (.cells #[.int .i64 x0, .int .i64 y0, .int .i64 x1, .int .i64 y1] 25 (0, 0))) := hbxr
        have HLN : Hid ((p :: r).length = n - k) := hlen
        clear hhr h00 hmem hz hbxr hlen hlt
        obtain ⟨px, py⟩ := p
        simp only at a0 b0 hrun hrl hnear
        generalize hm : 1 + runN (px + 1) py r = m at *
        have HM : Hid (m = 1 + runN (px + 1) py r) := hm.symm
        have HPN : Hid (-1099511627776 < px ∧ px < 1099511627776 ∧ -1099511627776 < py ∧ py < 1099511627776) := hnear
        clear hm hnear
        go_wp2_with fail
        go_cut [8, 9] from 14 to 55 (fun s8 s9 wc => ∃ cb, s8 = .pointer (some ⟨cb, 0, none⟩) ∧ s9 = .int .i64 m ∧ Below wr.heap.size wr wc ∧ wr.heap.size ≤ cb ∧ wc.heap[cb]? = some (.cells #[.int .i64 px, .int .i64 py] 59 (0, 0)))
        case first =>
          go_region_held3 (fun w' => w'.cell? ⟨lb, off + k * 2, none⟩ = some (.int .i64 px) ∧ w'.cell? ⟨lb, off + k * 2 + 1, none⟩ = some (.int .i64 py)) (first | go_keep | (exact keepB (by first | exact (Below.refl _ _).drew | exact ((Below.refl _ _).alloc (Nat.le_refl _) _).drew | exact (Below.refl _ _).drew.trans hq | exact ((Below.refl _ _).drew.trans hq).alloc hq.size _ | exact ((((Below.refl _ _).alloc (Nat.le_refl _) _).drew).trans (hq.mono (by simp))) | exact (((((Below.refl _ _).alloc (Nat.le_refl _) _).drew).trans (hq.mono (by simp))).setCell (Nat.le_refl _) _).setCell (Nat.le_refl _) _) hlb2 a0 b0))
            (first | (go_at_call 65; refine (hrun _ (by first | exact (Below.refl _ _).drew | exact ((Below.refl _ _).alloc (Nat.le_refl _) _).drew)).mono ?_; rintro e w1 ⟨rfl, hq⟩; obtain ⟨hqc, hqf⟩ := bcell hq))
          · go_wp2
            go_meet
            case rel => exact ⟨w1.heap.size, rfl, rfl, ((Below.refl _ _).drew.trans hq).alloc hq.size _, hq.size, heap_alloc_new w1 _⟩
          · go_wp2
            go_meet
            case rel =>
              refine ⟨wr.heap.size, rfl, rfl, (((((Below.refl _ _).alloc (Nat.le_refl _) _).drew).trans (hq.mono (by simp))).setCell (Nat.le_refl _) _).setCell (Nat.le_refl _) _, Nat.le_refl _, ?_⟩
              have h0 : w1.heap[wr.heap.size]? = some (.cells #[.int .i64 0, .int .i64 0] 59 (0, 0)) := (hq.block wr.heap.size (by simp)).trans (heap_alloc_new wr _)
              exact Go.Joins.block_setCell (Go.Joins.block_setCell h0 _) _
        case rest =>
        obtain ⟨cb, rfl, rfl, hcb1, hcb2, hcb3⟩ := hcut
        obtain ⟨hnx, hyp, s1, s2, n1, n2, f1, f2, hmn, hxf⟩ := HA.out.step HZ.out HM.out (by rw [HL.out]; exact hn4) HPN.out.2.1
        have HNX : Hid (At x0 y0 zs (k + m) (px + m) py (ps ++ aheadY y py ++ aheadX (xFrom x0 x y py) px ++ [((m : Int), 111)])) := hnx
        clear hnx hrun
        have M0 : MidW B b W0 cb px py l0 ps wc := ⟨hw.go hcb1, hlf.trans (Left.of hcb1 (by omega)), hcb3⟩
        have hcb4 : W0.heap.size ≤ cb := by omega
        have hps := HA.out.small
        have hpl : ps.length ≤ 20000 := by have := HA.out.few; omega
        obtain ⟨d0, d1⟩ := M0.cells
        have hxx := HA.out.told.at0
        have hxt := HA.out.top
        have hpn := HPN.out
        clear hcb1 hcb3 a0 b0 hlb2 hlb3
        go_upto_if 25 with fail
        go_cut [6, 7, 8, 9] from 14 to 55 (fun s6 s7 s8 s9 wc => s6 = .int .i64 (xFrom x0 x y py) ∧ s7 = .int .i64 py ∧ s8 = .pointer (some ⟨cb, 0, none⟩) ∧ s9 = .int .i64 m ∧ MidW B b W0 cb px py l0 (ps ++ aheadY y py) wc)
        case first =>
          by_cases h1 : y < py
          · have hgo := piece_more B b l0 ps (py - y) 36 wc M0.1 (hv0.go M0.2.1.1 hB8) (by have := M0.2.1.1.size; omega) (by omega) hps hpl n1
            have HAY : Hid (ps ++ aheadY y py = ps ++ [(py - y, 36)]) := by show _ = _; unfold aheadY; rw [if_pos h1]
            have HXF : Hid (xFrom x0 x y py = x0) := by show _ = _; unfold xFrom; rw [if_pos h1]
            go_wp2_with fail
            refine hgo.mono ?_
            rintro e w2 ⟨rfl, g2, l2⟩
            have M2 := M0.next g2 l2 (by omega) (by omega)
            obtain ⟨d0', d1'⟩ := M2.cells
            have e0' := M2.box HBX0.out (by omega)
            go_wp2_with fail
            go_region
            go_wp2
            go_meet
            case rel => exact ⟨by rw [HXF.out], rfl, rfl, rfl, by rw [HAY.out]; exact M2.drew⟩
          · have HAY : Hid (ps ++ aheadY y py = ps) := by show _ = _; unfold aheadY; rw [if_neg h1, List.append_nil]
            have HXF : Hid (xFrom x0 x y py = x) := by show _ = _; unfold xFrom; rw [if_neg h1]
            have HYY : Hid (y = py) := by show _ = _; omega
            go_wp2
            go_meet
            case rel => exact ⟨by rw [HXF.out], by rw [HYY.out], rfl, rfl, by rw [HAY.out]; exact M0⟩
        case rest =>
        obtain ⟨rfl, rfl, rfl, rfl, M2⟩ := hcut
        clear M0 d0 d1 hps hpl n1
        obtain ⟨d0, d1⟩ := M2.cells
        have hxl : xFrom x0 x y py ≤ 8796093022208 := by unfold xFrom; split <;> omega
        generalize xFrom x0 x y py = xf at *
        generalize ps ++ aheadY y py = ps1 at *
        go_upto_if 39 with fail
        go_cut [6, 7, 8, 9] from 14 to 55 (fun s6 s7 s8 s9 wc => s6 = .int .i64 xf ∧ s7 = .int .i64 py ∧ s8 = .pointer (some ⟨cb, 0, none⟩) ∧ s9 = .int .i64 m ∧ MidW B b W0 cb px py l0 (ps1 ++ aheadX xf px) wc)
        case first =>
          by_cases h1 : xf < px
          · have hgo := piece_more B b l0 ps1 (px - xf) 98 wc M2.1 (hv0.go M2.2.1.1 hB8) (by have := M2.2.1.1.size; omega) (by omega) s1 f1 n2
            have HAX : Hid (ps1 ++ aheadX xf px = ps1 ++ [(px - xf, 98)]) := by show _ = _; unfold aheadX; rw [if_pos h1]
            go_wp2_with fail
            refine hgo.mono ?_
            rintro e w2 ⟨rfl, g2, l2⟩
            have M3 := M2.next g2 l2 (by omega) (by omega)
            go_wp2_with fail
            go_meet
            case rel => exact ⟨rfl, rfl, rfl, rfl, by rw [HAX.out]; exact M3⟩
          · have HAX : Hid (ps1 ++ aheadX xf px = ps1) := by show _ = _; unfold aheadX; rw [if_neg h1, List.append_nil]
            go_wp2
            go_meet
            case rel => exact ⟨rfl, rfl, rfl, rfl, by rw [HAX.out]; exact M2⟩
        case rest =>
        obtain ⟨rfl, rfl, rfl, rfl, M3⟩ := hcut
        clear M2 d0 d1 s1 f1 n2
        generalize ps1 ++ aheadX xf px = ps2 at *
        have hm4 : (m : Int) ≤ 4096 := by have := HL.out; omega
        have hgo := piece_more B b l0 ps2 m 111 wc M3.1 (hv0.go M3.2.1.1 hB8) (by have := M3.2.1.1.size; omega) (by omega) s2 f2 (by omega)
        go_wp2_with fail
        refine hgo.mono ?_
        rintro e w4 ⟨rfl, g4, l4⟩
        have M4 := M3.next g4 l4 (by omega) (by omega)
        obtain ⟨d0, d1⟩ := M4.cells
        have hmn1 : (m : Int) ≤ ((n - k : Nat) : Int) := by have := HL.out; omega
        have hmn2 : m ≤ n - k := by have := HL.out; omega
        have hmc : n - k ≤ c - k := by omega
        have hwx : IntKind.i64.wrap (px + m) = px + m := by rw [IntKind.wrap_i64]; omega
        go_wp2_with fail
        go_region
        go_wp2
        all_goals
          go_roundg (gk - m)
          case measure => have h1 := HK.out; have h2 := HM.out; have h3 := HL.out; omega
          case rel =>
            have h1 := HK.out
            have h2 := HM.out
            have h3 := HL.out
            refine ⟨k + m, px + m, py, ps2 ++ [((m : Int), 111)], _, ?_, by omega, slice_len (by omega) (by omega), rfl, rfl, HNX.out, M4.1.drew, M4.2.1.drew⟩
            intro h4
            first | omega | (rw [show off + (k + m) * 2 = off + k * 2 + m * 2 by omega])
    · have hkn2 : k = n := by omega
      subst hkn2
      obtain ⟨f, hf, hp⟩ := HA.out.rest
      have hps := HA.out.small
      have hpl : ps.length ≤ 20000 := by have := HA.out.few; omega
      have HP : Hid (pieces x0 zs.length x0 y0 zs = ps) := by
        show _ = _
        rw [hp, List.drop_of_length_le (by rw [HL.out]; omega)]
        cases f <;> simp [pieces]
      have hgo := piece_more B b l0 ps 1 33 wr hw hvr (by omega) (by omega) hps hpl (by omega)
      have hln := (hps.len l0).1
      have hsn := soFar_snoc l0 ps (1, 33)
      have hpt : pieceT (1, 33) = [33] := by simp [pieceT]
      clear hlt ha hf hp
      simp only [Nat.sub_self]
      go_wp2_with fail
      refine hgo.mono ?_
      rintro e w2 ⟨rfl, g2, l2⟩
      have hwb := wByte_any B b (soFar l0 (ps ++ [(1, 33)])) (lineOf (ps ++ [(1, 33)])) 10 w2 g2 (by
        rw [← hsn.1, hpt]
        have h5 := (lay_one (lineOf ps) [33]).1
        rw [List.length_append, h5]
        split <;> simp <;> omega) (by have := l2.1.size; omega)
      go_wp2_with fail
      refine hwb.mono ?_
      rintro e w3 ⟨rfl, g3, l3⟩
      go_wp2_with fail
      go_end0
      refine ⟨rfl, ?_, ((hf0.trans hlf).trans l2).trans l3⟩
      have e1 : l0 ++ bodyT x0 y0 zs = soFar l0 (ps ++ [(1, 33)]) ++ [10] := by
        unfold bodyT soFar
        rw [HP.out, List.map_append, List.map_singleton, hpt]
        simp
      have e2 : layK 0 ((pieces x0 zs.length x0 y0 zs).map pieceT ++ [[33]]) = lineOf (ps ++ [(1, 33)]) := by
        unfold lineOf
        rw [HP.out, List.map_append, List.map_singleton, hpt]
      rw [e1, e2]
      exact g3
end Go.Proofs.YtnklpjoeopcbbaaDoor
