/- What some, right, same and Shift answer; how much steps make of cells near a place. -/
import Derived.Test.YtofbcngcblleaaaGreatLpStillLaw
import Derived.Deep.RegionHeld3
import Derived.ProofKit
import Derived.SizedLaws
import Derived.Deep.SlicePairs
import Derived.Shelf.SlSortCmp.NoneTotal
import Derived.Laws.CopyOwn
namespace Go.Proofs.YtofbcngcblleaaaGreat
open Go.ChangeShapes Go.WideShapes Go.ChangeAt Go.RowKit Go.Deep

theorem Tryz.bytes52 : Tryz.prog.bytesOf 52 = 16 := by kernel_rfl
theorem Tryz.cells52 : Tryz.prog.cellsOf 52 = 2 := by kernel_rfl

theorem fits_of_wf {x : Int} (h : (Lit.int .i64 x).wf = true) : Fits x := by
  have h1 : IntKind.i64.min = -9223372036854775808 := rfl
  have h2 : IntKind.i64.max = 9223372036854775807 := rfl
  simp only [Lit.wf, Bool.and_eq_true, decide_eq_true_eq] at h
  unfold Fits
  omega

theorem open_row {H : Type} {enc : TypeId × Value → H} {W : World} {v : Value} {d : DataW H} {ps : List MemPlace} {ts : List TypeId} {ds : List (DataW H)} (j : Nat)
    (hs : (DataW.weightsEach Tryz.prog ts ds).all (· ≤ reachBytes) = true) (hj : ts[j]? = some 24) (hd : ds[j]? = some d)
    (h : DataW.Trod enc Tryz.prog W 0 (fun _ => true) true 24 v d ps) (hlt : ∀ x ∈ ps, x.block < W.heap.size) (hv : ∃ a len cap, v = .slice a len cap) :
    ∃ (n : Nat) (X Y : Nat → Int), IsRow W v n X Y ∧ n * 16 ≤ 140737488351232 ∧ ∀ i, i < n → Fits (X i) ∧ Fits (Y i) := by
  obtain ⟨a0, len, cap, rfl⟩ := hv
  obtain ⟨fuel, hf⟩ := h
  rcases open_slice_pairs Tryz.underlying24 Tryz.underlying52 Tryz.cells52 rfl rfl Tryz.cells3 Tryz.cells3 hf with ⟨hcs, hx⟩ | ⟨a, len', cap', m, nf, V0, V1, D0, D1, P0, P1, hcs, _, hl, hmx, hm, hx, hcell⟩
  · simp [Value.cells] at hcs
    obtain ⟨rfl, rfl, rfl⟩ := hcs
    exact ⟨0, fun _ => 0, fun _ => 0, IsRow.nil _ _ _, by omega, fun i hi => by omega⟩
  · simp [Value.cells] at hcs
    obtain ⟨rfl, rfl, rfl⟩ := hcs
    simp only [if_true] at hm
    subst hm
    simp only [Prod.mk.injEq] at hx
    obtain ⟨hx1, hx2⟩ := hx
    have hsz : len * 16 ≤ 140737488351232 := by
      rw [hx1] at hd
      have := sized_slice hs (j := j) (t := 24) (e := 52) hj hd Tryz.underlying24
      rw [Tryz.bytes52] at this
      simp only [List.length_map, List.length_range, reachBytes] at this
      omega
    have each : ∀ i, i < m → V0 i = .int .i64 (intOf (V0 i)) ∧ V1 i = .int .i64 (intOf (V1 i)) ∧ Fits (intOf (V0 i)) ∧ Fits (intOf (V1 i)) := by
      intro i hi
      obtain ⟨_, _, t0, t1⟩ := hcell i hi
      obtain ⟨x, e0, _, w0⟩ := DataW.trod_int Tryz.underlying3 t0
      obtain ⟨y, e1, _, w1⟩ := DataW.trod_int Tryz.underlying3 t1
      simp only [List.cons.injEq, and_true] at e0 e1
      rw [e0, e1]
      exact ⟨rfl, rfl, fits_of_wf w0, fits_of_wf w1⟩
    refine ⟨len, fun i => intOf (V0 i), fun i => intOf (V1 i), ⟨some a, m, rfl, hl, hmx, (fun e => by cases e), ?_⟩, hsz, fun i hi => (each i (by omega)).2.2⟩
    by_cases h0 : len = 0
    · exact Or.inl h0
    · right
      obtain ⟨b, off, spot⟩ := a
      have hspot : spot = none := by simpa [Addr.add] using World.cell?_spot (hcell 0 (by omega)).1
      subst hspot
      refine ⟨b, off, rfl, hlt (.cell b off) (by rw [hx2]; exact List.mem_append_left _ (MemPlace.mem_row.2 ⟨0, by omega, by simp⟩)), fun i hi => ?_⟩
      have hc := hcell i (by omega)
      rw [addP, addP, (each i (by omega)).1, (each i (by omega)).2.1] at hc
      exact ⟨hc.1, hc.2.1⟩
end Go.Proofs.YtofbcngcblleaaaGreat

namespace Go.Proofs.YtofbcngcblleaaaGreat
open Go.RowKit Go.Lib Go.Sort

theorem zip2_length (n : Nat) (X Y : Nat → Int) : (zip2 n X Y).length = n := by simp [zip2]
theorem zip2_get (n : Nat) (X Y : Nat → Int) (j : Nat) (h : j < n) : (zip2 n X Y)[j]! = (X j, Y j) := by
  rw [getElem!_pos _ _ (by rw [zip2_length]; exact h)]; simp [zip2]

end Go.Proofs.YtofbcngcblleaaaGreat

namespace Go.Proofs.YtofbcngcblleaaaGreat
open Go.RowKit Go.Lib Go.Sort

theorem cellsL_cons (p : Int × Int) (zs : List (Int × Int)) : cellsL (p :: zs) = .int .i64 p.1 :: .int .i64 p.2 :: cellsL zs := rfl
theorem cellsL_append (a b : List (Int × Int)) : cellsL (a ++ b) = cellsL a ++ cellsL b := List.flatMap_append
theorem cellsL_get : ∀ (zs : List (Int × Int)) (j : Nat), j < zs.length → (cellsL zs)[j * 2]? = some (.int .i64 (zs[j]!).1) ∧ (cellsL zs)[j * 2 + 1]? = some (.int .i64 (zs[j]!).2)
  | [], j, h => by simp at h
  | p :: zs, 0, _ => ⟨rfl, rfl⟩
  | p :: zs, j + 1, h => by
    have := cellsL_get zs j (by simpa using h)
    rw [cellsL_cons, show (j + 1) * 2 = j * 2 + 1 + 1 by omega, show j * 2 + 1 + 1 + 1 = (j * 2 + 1) + 1 + 1 by omega]
    simp only [List.getElem?_cons_succ]
    have e : (p :: zs)[j + 1]! = zs[j]! := by simp
    rw [e]
    exact this
theorem holdsR_of_owns {w : World} {base g n cap : Nat} {zs : List (Int × Int)} (h : w.ownsRow base 52 2 (.slice (some ⟨g, 0, none⟩) n cap) n (cellsL zs)) : HoldsR w g 0 zs := by
  intro j hj
  obtain ⟨e0, e1⟩ := cellsL_get zs j hj
  have h0 := h.cells rfl _ _ e0
  have h1 := h.cells rfl _ _ e1
  rw [addP] at h0 h1
  exact ⟨h0, by rw [← h1]; congr 2⟩

end Go.Proofs.YtofbcngcblleaaaGreat

namespace Go.Proofs.YtofbcngcblleaaaGreat.A
open Go.RowKit Go.Lib Go.Sort

/-- a move that is too far -/
def far2 (n : Int) : Bool := decide (n ≤ -2199023255552) || decide (2199023255552 ≤ n)
def mv (dx dy : Int) (p : Int × Int) : Int × Int := (p.1 + dx, p.2 + dy)
/-- the error's number and the list that Shift answers of a list in order -/
def shiftF (ys : List (Int × Int)) (tc dx dy : Int) : Int × List (Int × Int) :=
  if tc ≠ 0 then (tc, []) else if (far2 dx || far2 dy) = true then (3, []) else if (ys.map (mv dx dy)).any farP = true then (3, []) else (0, ys.map (mv dx dy))

set_option maxHeartbeats 400000 in
theorem nearer2_any (n : Int) (w : World) : Calls Tryz.prog 51 #[.int .i64 n, .int .i64 2199023255552] w fun e w' => e = .returned (.bool (!far2 n)) ∧ w' = w := by
  by_cases h1 : -2199023255552 < n
  · have hd : decide (-2199023255552 < n) = true := by simpa using h1
    go_enter Tryz.func51, Tryz.ntmps51
    go_wp2
    go_ret
    refine ⟨?_, rfl⟩
    congr 2
    simp only [far2]
    by_cases h2 : n < 2199023255552
    · simp [h2]; omega
    · simp [h2]; omega
  · have hd : decide (-2199023255552 < n) = false := by simpa using h1
    go_enter Tryz.func51, Tryz.ntmps51
    go_wp2
    go_ret
    refine ⟨?_, rfl⟩
    congr 2
    simp only [far2]
    simp; omega

/-- a row, its first k cells moved -/
def half (ys : List (Int × Int)) (dx dy : Int) (k : Nat) : List (Int × Int) := (ys.take k).map (mv dx dy) ++ ys.drop k
theorem half_length (ys : List (Int × Int)) (dx dy : Int) (k : Nat) : (half ys dx dy k).length = ys.length := by simp [half]; omega
theorem half_zero (ys : List (Int × Int)) (dx dy : Int) : half ys dx dy 0 = ys := by simp [half]
theorem half_all (ys : List (Int × Int)) (dx dy : Int) : half ys dx dy ys.length = ys.map (mv dx dy) := by simp [half]
theorem half_get (ys : List (Int × Int)) (dx dy : Int) (k : Nat) (h : k < ys.length) : (half ys dx dy k)[k]! = ys[k]! := by
  rw [getElem!_pos (half ys dx dy k) k (by rw [half_length]; exact h), getElem!_pos ys k h]
  unfold half
  rw [List.getElem_append_right (by simp; omega)]
  simp [Nat.min_eq_left (Nat.le_of_lt h)]
theorem half_succ (ys : List (Int × Int)) (dx dy : Int) (k : Nat) (h : k < ys.length) : (half ys dx dy k).toArray.setIfInBounds k (mv dx dy ys[k]!) = (half ys dx dy (k + 1)).toArray := by
  have h1 : ys.take (k + 1) = ys.take k ++ [ys[k]!] := by rw [List.take_succ_eq_append_getElem h, getElem!_pos ys k h]
  have h2 : ys.drop k = ys[k]! :: ys.drop (k + 1) := by rw [getElem!_pos ys k h]; exact List.drop_eq_getElem_cons h
  have hlen : ((ys.take k).map (mv dx dy)).length = k := by simp; omega
  rw [List.setIfInBounds_toArray]
  congr 1
  unfold half
  rw [List.set_append_right _ _ (by omega), hlen, Nat.sub_self, h2, h1, List.map_append, List.append_assoc]
  rfl

theorem bounds_of {ys : List (Int × Int)} (h : ys.any farP = false) {p : Int × Int} (hp : p ∈ ys) : -1099511627776 < p.1 ∧ p.1 < 1099511627776 ∧ -1099511627776 < p.2 ∧ p.2 < 1099511627776 := by
  have := List.any_eq_false.1 h p hp
  simp [farP, farI] at this
  omega
theorem far2_of {n : Int} (h : far2 n = false) : -2199023255552 < n ∧ n < 2199023255552 := by
  simp [far2] at h
  omega
theorem tidied_near {zs ys : List (Int × Int)} (h : Tidied zs ys) : ys.any farP = false := by
  rw [List.any_eq_false]
  intro p hp
  obtain ⟨h1, h2⟩ := (h.2 p).1 hp
  unfold tcode at h2
  by_cases c1 : 4096 < zs.length
  · rw [if_pos c1] at h2; omega
  · rw [if_neg c1] at h2
    by_cases c2 : zs.any farP = true
    · rw [if_pos c2] at h2; omega
    · have := List.any_eq_false.1 (by simpa using c2) p h1
      exact this
theorem len_le : ∀ {ys zs : List (Int × Int)}, ys.Nodup → (∀ p, p ∈ ys → p ∈ zs) → ys.length ≤ zs.length
  | [], _, _, _ => Nat.zero_le _
  | p :: r, zs, hn, hs => by
    have h1 := List.nodup_cons.1 hn
    have hp : p ∈ zs := hs p (by simp)
    have h2 : r.length ≤ (zs.erase p).length := len_le h1.2 fun q hq => by
      have hne : q ≠ p := fun e => h1.1 (by rw [← e]; exact hq)
      exact (List.mem_erase_of_ne hne).2 (hs q (by simp [hq]))
    have h3 := List.length_erase_of_mem hp
    have h4 : 0 < zs.length := List.length_pos_of_mem hp
    rw [List.length_cons]
    omega
theorem tidied_short {zs ys : List (Int × Int)} (h : Tidied zs ys) (hz : tcode zs = 0) : ys.length ≤ 4096 := by
  have h1 : ys.Nodup := by
    refine h.1.imp ?_
    intro a b hab e
    subst e
    exact ahead_irrefl a hab
  have h2 : ys.length ≤ zs.length := len_le h1 (fun p hp => ((h.2 p).1 hp).1)
  have h3 : zs.length ≤ 4096 := by
    unfold tcode at hz
    by_cases c1 : 4096 < zs.length
    · rw [if_pos c1] at hz; omega
    · omega
  omega

theorem holdsA_alloc {w : World} {b off : Nat} {d : Array (Int × Int)} (h : HoldsA w b off d) (o : Obj) (hb : b < w.heap.size) : HoldsA (w.alloc o) b off d := fun j hj => by
  have hbl : Below w.heap.size w (w.alloc o) := (Below.refl _ _).alloc (Nat.le_refl _) o
  rw [hbl.cell (p := ⟨b, off + j * 2, none⟩) hb, hbl.cell (p := ⟨b, off + j * 2 + 1, none⟩) hb, hbl.frozen (p := ⟨b, off + j * 2, none⟩) hb, hbl.frozen (p := ⟨b, off + j * 2 + 1, none⟩) hb]
  exact h j hj

/-- what Shift answers -/
def ShiftOut (zs : List (Int × Int)) (dx dy : Int) (w : World) (e : Ending) (w' : World) : Prop :=
  ∃ u ys, Tidied zs ys ∧ e = .returned (.tuple #[u, .int .i64 (shiftF ys (tcode zs) dx dy).1]) ∧ Below w.heap.size w w' ∧ ORow w' w.heap.size u (shiftF ys (tcode zs) dx dy).2

theorem shiftF_err {ys : List (Int × Int)} {tc dx dy : Int} (h : tc ≠ 0) : shiftF ys tc dx dy = (tc, []) := by rw [shiftF, if_pos h]
theorem shiftF_far {ys : List (Int × Int)} {dx dy : Int} (h : (far2 dx || far2 dy) = true) : shiftF ys 0 dx dy = (3, []) := by rw [shiftF, if_neg (by simp), if_pos h]
theorem shiftF_out {ys : List (Int × Int)} {dx dy : Int} (h : (far2 dx || far2 dy) = false) (k : (ys.map (mv dx dy)).any farP = true) : shiftF ys 0 dx dy = (3, []) := by rw [shiftF, if_neg (by simp), if_neg (by rw [h]; simp), if_pos k]
theorem shiftF_ok {ys : List (Int × Int)} {dx dy : Int} (h : (far2 dx || far2 dy) = false) (k : (ys.map (mv dx dy)).any farP = false) : shiftF ys 0 dx dy = (0, ys.map (mv dx dy)) := by rw [shiftF, if_neg (by simp), if_neg (by rw [h]; simp), if_neg (by rw [k]; simp)]

set_option maxHeartbeats 2000000 in
theorem shift_any (v : Value) (zs : List (Int × Int)) (dx dy : Int) (w : World) (h : Row w v zs) :
    Calls Tryz.prog 23 #[v, .int .i64 dx, .int .i64 dy] w fun e w' => ShiftOut zs dx dy w e w' := by
  have hdx := nearer2_any dx
  have hdy := nearer2_any dy
  have hT := tidy_told v zs w h
  clear h
  by_cases htc : tcode zs = 0
  · rw [htc] at hT
    cases hfx : far2 dx
    · rw [hfx] at hdx
      cases hfy : far2 dy
      · rw [hfy] at hdy
        have HF : Hid (far2 dx = false ∧ far2 dy = false) := ⟨hfx, hfy⟩
        have HC : Hid (tcode zs = 0) := htc
        clear hfx hfy htc
        go_enter Tryz.func23, Tryz.ntmps23
        go_wp2_with fail
        refine hT.mono ?_
        rintro e w1 ⟨u, ys, rfl, hb1, ht1, hr1⟩
        have HT1 : Hid (Tidied zs ys) := ht1
        have HF' : Hid ((far2 dx || far2 dy) = false) := by show _ = _; simp [HF.out.1, HF.out.2]
        rcases hr1 with ⟨rfl, rfl⟩ | ⟨hz, g, off, cap, rfl, hbg, hg, hlc, hcm, hH⟩
        · clear ht1
          go_wp2_with (first | (go_at_call_of 51 dx; refine (hdx _).mono ?_; rintro e w' ⟨rfl, rfl⟩) | (go_at_call_of 51 dy; refine (hdy _).mono ?_; rintro e w' ⟨rfl, rfl⟩))
          refine wp_loop_rounds 1 ?_
          rw [rounds_succ]
          go_wp2_with fail
          refine (contains_nil _ _).mono ?_
          rintro e w2 ⟨rfl, rfl⟩
          go_wp2_with fail
          go_ret2
          exact ⟨_, [], HT1.out, by rw [HC.out, shiftF_ok HF'.out rfl]; rfl, hb1, by rw [HC.out, shiftF_ok HF'.out rfl]; exact Or.inl ⟨rfl, rfl⟩⟩
        · have hnear := tidied_near ht1
          have hshort := tidied_short ht1 HC.out
          have bd := far2_of HF.out.1
          have bd' := far2_of HF.out.2
          obtain ⟨bx0, bx1⟩ := bd
          obtain ⟨by0, by1⟩ := bd'
          have HH : Hid (HoldsA w1 g off ys.toArray) := hH
          have HN : Hid (ys.any farP = false ∧ ys ≠ []) := ⟨hnear, hz⟩
          clear ht1 hH hnear hz
          unfold maxLen at hcm
          generalize hl : ys.length = n at *
          have HL : Hid (ys.length = n) := hl
          clear hl
          go_wp2_with (first | (go_at_call_of 51 dx; refine (hdx _).mono ?_; rintro e w' ⟨rfl, hw⟩; have hw2 := hw.symm; subst hw2; clear hw) | (go_at_call_of 51 dy; refine (hdy _).mono ?_; rintro e w' ⟨rfl, hw⟩; have hw2 := hw.symm; subst hw2; clear hw))
          go_loopg [30] n (fun gk s wr => ∃ k : Nat, k + gk = n ∧ s = .int .i64 k ∧ Below w.heap.size w wr ∧ w1.heap.size ≤ wr.heap.size ∧ HoldsA wr g off (half ys dx dy k).toArray)
          case atStart => exact ⟨0, by omega, rfl, hb1, Nat.le_refl _, by rw [half_zero]; exact HH.out⟩
          case round =>
            obtain ⟨k, hk, rfl, hbr, hszr, hHr⟩ := hrel
            have HK : Hid (k + gk = n) := hk
            have hkn : k ≤ n := by omega
            have HR : Hid (HoldsA wr g off (half ys dx dy k).toArray) := hHr
            clear hk
            by_cases hlt : k < n
            · obtain ⟨c0, c1, f0, f1⟩ := hHr k (by simp [half_length, HL.out]; exact hlt)
              rw [toArray_get, half_get ys dx dy k (by rw [HL.out]; exact hlt)] at c0 c1
              have hin : ys[k]! ∈ ys := by rw [getElem!_pos ys k (by rw [HL.out]; exact hlt)]; exact List.getElem_mem _
              obtain ⟨p0, p1, p2, p3⟩ := bounds_of HN.out.1 hin
              generalize hz : ys[k]! = z at *
              have HZ : Hid (ys[k]! = z) := hz
              clear hz hin hHr
              obtain ⟨x, y⟩ := z
              simp only at p0 p1 p2 p3 c0 c1
              have hgr : g < wr.heap.size := by omega
              go_wp2
              go_roundg (gk - 1)
              case measure => have := HK.out; omega
              case rel =>
                have h1 := HK.out
                refine ⟨k + 1, by omega, by go_num, ((hbr.setCell hbg _).setCell hbg _).alloc (by simp; have := hbr.size; omega) _, by simp; omega, ?_⟩
                have h2 := HR.out.set k (by simp [half_length, HL.out]; exact hlt) (mv dx dy ys[k]!)
                rw [half_succ ys dx dy k (by rw [HL.out]; exact hlt), HZ.out] at h2
                exact holdsA_alloc h2 _ (by simpa [World.setCell] using hgr)
            · have hke : k = n := by omega
              subst hke
              clear hHr
              have hall := HR.out
              rw [← HL.out, half_all] at hall
              have hor : ORow wr w.heap.size (.slice (some ⟨g, off, none⟩) k cap) (ys.map (mv dx dy)) := by
                refine Or.inr ⟨by simpa using HN.out.2, g, off, cap, by rw [List.length_map, HL.out], hbg, by omega, by rw [List.length_map, HL.out]; exact hlc, by unfold maxLen; omega, hall⟩
              have hcon := contains_any _ _ wr hor.read
              have HO : Hid (ORow wr w.heap.size (.slice (some ⟨g, off, none⟩) k cap) (ys.map (mv dx dy))) := hor
              clear hall hor
              cases hany : (ys.map (mv dx dy)).any farP
              · rw [hany] at hcon
                have HA : Hid ((ys.map (mv dx dy)).any farP = false) := hany
                clear hany
                go_wp2_with fail
                refine hcon.mono ?_
                rintro e w2 ⟨rfl, hb2⟩
                go_wp2_with fail
                go_ret2
                exact ⟨_, ys, HT1.out, by rw [HC.out, shiftF_ok HF'.out HA.out]; rfl, hbr.trans (hb2.mono hbr.size), by rw [HC.out, shiftF_ok HF'.out HA.out]; exact HO.out.below hb2⟩
              · rw [hany] at hcon
                have HA : Hid ((ys.map (mv dx dy)).any farP = true) := hany
                clear hany
                go_wp2_with fail
                refine hcon.mono ?_
                rintro e w2 ⟨rfl, hb2⟩
                go_wp2_with fail
                go_ret2
                exact ⟨_, ys, HT1.out, by rw [HC.out, shiftF_out HF'.out HA.out]; rfl, hbr.trans (hb2.mono hbr.size), by rw [HC.out, shiftF_out HF'.out HA.out]; exact Or.inl ⟨rfl, rfl⟩⟩
      · rw [hfy] at hdy
        have HF : Hid ((far2 dx || far2 dy) = true) := by show _ = _; simp [hfy]
        have HC : Hid (tcode zs = 0) := htc
        clear hfx hfy htc
        go_enter Tryz.func23, Tryz.ntmps23
        go_wp2_with fail
        refine hT.mono ?_
        rintro e w1 ⟨u, ys, rfl, hb1, ht1, hr1⟩
        go_wp2_with (first | (go_at_call_of 51 dx; refine (hdx _).mono ?_; rintro e w' ⟨rfl, rfl⟩) | (go_at_call_of 51 dy; refine (hdy _).mono ?_; rintro e w' ⟨rfl, rfl⟩))
        go_ret2
        exact ⟨_, ys, ht1, by rw [HC.out, shiftF_far HF.out]; rfl, hb1, by rw [HC.out, shiftF_far HF.out]; exact Or.inl ⟨rfl, rfl⟩⟩
    · rw [hfx] at hdx
      have HF : Hid ((far2 dx || far2 dy) = true) := by show _ = _; simp [hfx]
      have HC : Hid (tcode zs = 0) := htc
      clear hfx htc
      go_enter Tryz.func23, Tryz.ntmps23
      go_wp2_with fail
      refine hT.mono ?_
      rintro e w1 ⟨u, ys, rfl, hb1, ht1, hr1⟩
      go_wp2_with (first | (go_at_call_of 51 dx; refine (hdx _).mono ?_; rintro e w' ⟨rfl, rfl⟩))
      go_ret2
      exact ⟨_, ys, ht1, by rw [HC.out, shiftF_far HF.out]; rfl, hb1, by rw [HC.out, shiftF_far HF.out]; exact Or.inl ⟨rfl, rfl⟩⟩
  · have HC : Hid (tcode zs ≠ 0) := htc
    have hne : (tcode zs != 0) = true := by simpa using htc
    generalize hc : tcode zs = code at *
    have HE : Hid (tcode zs = code) := hc
    clear hc htc
    go_enter Tryz.func23, Tryz.ntmps23
    go_wp2_with fail
    refine hT.mono ?_
    rintro e w1 ⟨u, ys, rfl, hb1, ht1, hr1⟩
    go_wp2_with fail
    go_ret2
    exact ⟨_, ys, ht1, by rw [HE.out, shiftF_err HC.out]; rfl, hb1, by rw [HE.out, shiftF_err HC.out]; exact Or.inl ⟨rfl, rfl⟩⟩
end Go.Proofs.YtofbcngcblleaaaGreat.A

namespace Go.Proofs.YtofbcngcblleaaaGreat.A
open Go.RowKit Go.Lib Go.Sort
attribute [local go_sem ↓] Go.wp_at_zero Go.wp_at_succ

def spotI (v n : Int) : Int := if v.tmod n < 0 then v.tmod n + n else v.tmod n
theorem spotI_bound (v n : Int) (hn : 0 < n) : 0 ≤ spotI v n ∧ spotI v n < n := by
  have h1 := Int.lt_tmod_of_pos v hn
  have h2 := Int.tmod_lt_of_pos v hn
  unfold spotI
  split <;> omega
set_option maxHeartbeats 1000000 in
theorem spot_any (v n : Int) (w : World) (hn : 0 < n) (hn2 : n ≤ 4611686018427387904) : Calls Tryz.prog 20 #[.int .i64 v, .int .i64 n] w fun e w' => e = .returned (.int .i64 (spotI v n)) ∧ w' = w := by
  have h1 := Int.lt_tmod_of_pos v hn
  have h2 := Int.tmod_lt_of_pos v hn
  have hz : (n == 0) = false := by simp; omega
  by_cases h0 : v.tmod n < 0
  · have e : spotI v n = v.tmod n + n := by rw [spotI, if_pos h0]
    rw [e]
    go_enter Tryz.func20, Tryz.ntmps20
    go_wp2
    go_ret
    exact ⟨rfl, rfl⟩
  · have e : spotI v n = v.tmod n := by rw [spotI, if_neg h0]
    rw [e]
    go_enter Tryz.func20, Tryz.ntmps20
    go_wp2
    go_ret
    exact ⟨rfl, rfl⟩

/-- a number made nearer to 0 than K -/
def nearI (K : Nat) (v : Int) : Int := spotI v (2 * K) - K
def nearP (K : Nat) (p : Int × Int) : Int × Int := (nearI K p.1, nearI K p.2)
theorem nearI_bound (K : Nat) (hK : 0 < K) (v : Int) : -(K : Int) ≤ nearI K v ∧ nearI K v < K := by
  have := spotI_bound v (2 * K) (by omega)
  unfold nearI
  omega
/-- the list that some makes -/
def someL (M K : Nat) (zs : List (Int × Int)) : List (Int × Int) := (zs.take M).map (nearP K)
theorem someL_len (M K : Nat) (zs : List (Int × Int)) : (someL M K zs).length ≤ M := by simp [someL]; omega
theorem someL_near {M K : Nat} (hK : 0 < K) {zs : List (Int × Int)} {p : Int × Int} (hp : p ∈ someL M K zs) : -(K : Int) ≤ p.1 ∧ p.1 < K ∧ -(K : Int) ≤ p.2 ∧ p.2 < K := by
  simp only [someL, List.mem_map] at hp
  obtain ⟨q, _, rfl⟩ := hp
  have h1 := nearI_bound K hK q.1
  have h2 := nearI_bound K hK q.2
  simp only [nearP]
  omega
theorem near_far {K : Nat} (hK2 : K ≤ 549755813888) {p : Int × Int} (h : -(K : Int) ≤ p.1 ∧ p.1 < K ∧ -(K : Int) ≤ p.2 ∧ p.2 < K) : farP p = false := by
  have e1 : farI p.1 = false := by unfold farI; rw [decide_eq_false (by omega), decide_eq_false (by omega)]; rfl
  have e2 : farI p.2 = false := by unfold farI; rw [decide_eq_false (by omega), decide_eq_false (by omega)]; rfl
  simp [farP, e1, e2]
theorem someL_code {M K : Nat} (hM : M ≤ 4096) (hK : 0 < K) (hK2 : K ≤ 549755813888) (zs : List (Int × Int)) : tcode (someL M K zs) = 0 := by
  unfold tcode
  have hl := someL_len M K zs
  rw [if_neg (by omega), if_neg]
  simp only [Bool.not_eq_true, List.any_eq_false]
  intro p hp
  simp [near_far hK2 (someL_near hK hp)]

theorem step_append_own {P : Program} (w : World) {ops : Array Oper} {o : Oper} {a : Act} {K : Act → World → Prop} {Q : Exit → Act → World → Prop} {E : Prop} (hgd : o.guard = none) (s x : Operand) (t : TypeId)
    (ho : o.op = .call { callee := .builtin .append, args := #[s, x], argTypes := #[t, t] })
    (base : Nat) (e : TypeId) (i : TypeInfo) (z : Value) (size bytes : Nat) (ht : P.underlying t = some (.slice e)) (hi : P.info? e = some i) (hz : i.zero = some z)
    (hsize : i.size = size) (hby : i.bytes = bytes) (hzs : z.cells.size = size) (hsz : 0 < size)
    (v : Value) (n : Nat) (xs : List Value) (hs : a.eval s = v) (hown : w.ownsRow base e size v n xs)
    (ad : Addr) (m c : Nat) (news : List Value) (hx : a.eval x = .slice (some ad) m c) (hl : news.length = m * size) (hnews : ∀ j u, news[j]? = some u → w.cell? (ad.add j) = some u) (h1 : ∀ u, u ∈ news → u.oneCell' = true)
    (h63 : n + m ≤ maxLen) (hbytes : (n + m) * bytes ≤ 140737488355328) (hbase : base ≤ w.heap.size)
    (h : ∀ v' w', w'.ownsRow base e size v' (n + m) (xs ++ news) → w.grownBy w' v.ownBlock → (v' = .slice none 0 0 ↔ v = .slice none 0 0 ∧ m = 0) → K (a.put o.dst v') w') :
    if Region.wanted o (yielded ops a.tmps) = true then Oper.wp P o a w K Q else E := by
  have hw : Region.wanted o (yielded ops a.tmps) = true := by simp [Region.wanted, hgd]
  rw [if_pos hw]
  exact wp_append_own w s x t ho base e i z size bytes ht hi hz hsize hby hzs hsz v n xs hs hown ad m c news hx hl hnews h1 h63 hbytes hbase h
theorem Kept.owns {w : World} {base : Nat} {v : Value} {ys : List (Int × Int)} (h : Kept w base v ys) : w.ownsRow base 52 2 v ys.length (cellsL ys) := by
  rcases h with ⟨rfl, rfl⟩ | ⟨_, h⟩
  · exact World.ownsRow_nil _ _ _ _
  · exact h
theorem grown_cell {w0 w w' : World} {base k : Nat} {v : Value} {xs : List Value} {o : Obj} {a : Addr} {u : Value} (hg : (w.alloc o).drew.grownBy w' v.ownBlock) (hown : w.ownsRow base 52 2 v k xs) (hc : w.cell? a = some u) (ha : a.block < w.heap.size) (hb : a.block < w0.heap.size) (hbase : base = w0.heap.size) : w'.cell? a = some u := by
  refine hg.cell (a := a) ?_ ?_
  · show (w.alloc o).cell? a = some u
    rw [World.cell?_alloc_lt _ _ _ ha]
    exact hc
  · intro e
    have := (hown.lt a.block e.symm).1
    omega

set_option maxHeartbeats 2000000 in
theorem some_none (a : Option Addr) (c : Nat) (M K : Int) (w : World) : Calls Tryz.prog 19 #[.slice a 0 c, .int .i64 M, .int .i64 K] w fun e w' => e = .returned (.slice none 0 0) ∧ w' = w := by
  go_enter Tryz.func19, Tryz.ntmps19
  go_wp2
  refine wp_loop_rounds 1 ?_
  rw [rounds_succ]
  go_wp2
  go_ret
  exact ⟨rfl, rfl⟩

set_option maxRecDepth 100000 in
set_option maxHeartbeats 2000000 in
theorem some_some (b off n c M K : Nat) (zs : List (Int × Int)) (w : World) (hM : M ≤ 4096) (hK0 : 0 < K) (hK2 : K ≤ 549755813888) (hb : b < w.heap.size) (HL : Hid (zs.length = n)) (HH : Hid (HoldsR w b off zs)) :
    Calls Tryz.prog 19 #[.slice (some ⟨b, off, none⟩) n c, .int .i64 M, .int .i64 K] w fun e w' => ∃ u, e = .returned u ∧ Below w.heap.size w w' ∧ Kept w' w.heap.size u (someL M K zs) := by
  obtain ⟨i0, hi, hz0, hz1, hz2⟩ := info_parts Tryz.info52
  have hw2 : IntKind.i64.wrap (2 * (K : Int)) = 2 * (K : Int) := by rw [IntKind.wrap_i64]; omega
  go_enter Tryz.func19, Tryz.ntmps19
  go_wp2
  go_loopg [7, 8] M (fun gk s7 s8 wr => ∃ k : Nat, k + gk = M ∧ k ≤ n ∧ s8 = .int .i64 k ∧ Below w.heap.size w wr ∧ Kept wr w.heap.size s7 ((zs.take k).map (nearP K)))
  case atStart => exact ⟨0, by omega, by omega, rfl, Below.refl _ _, Or.inl ⟨by simp, rfl⟩⟩
  case round =>
    obtain ⟨k, hk, hkn, rfl, hbr, hkept⟩ := hrel
    have HK : Hid (k + gk = M) := hk
    have KP : Hid (Kept wr w.heap.size u7 ((zs.take k).map (nearP K))) := hkept
    have hk300 : k ≤ M := by omega
    have hsz := hbr.size
    clear hk hkept
    by_cases hlt : k < n
    · by_cases hlt2 : k < M
      · obtain ⟨c0, c1⟩ := HH.out k (by rw [HL.out]; exact hlt)
        rw [← hbr.cell (p := ⟨b, off + k * 2, none⟩) hb] at c0
        rw [← hbr.cell (p := ⟨b, off + k * 2 + 1, none⟩) hb] at c1
        generalize hz : zs[k]! = z at c0 c1
        have HZ : Hid (zs[k]! = z) := hz
        clear hz
        obtain ⟨x, y⟩ := z
        simp only at c0 c1
        have hsx := fun W => spot_any x (2 * (K : Int)) W (by omega) (by omega)
        have hsy := fun W => spot_any y (2 * (K : Int)) W (by omega) (by omega)
        obtain ⟨x0, x1⟩ := spotI_bound x (2 * (K : Int)) (by omega)
        obtain ⟨y0, y1⟩ := spotI_bound y (2 * (K : Int)) (by omega)
        generalize hgx : spotI x (2 * (K : Int)) = sx at *
        generalize hgy : spotI y (2 * (K : Int)) = sy at *
        have HG : Hid (spotI x (2 * (K : Int)) = sx ∧ spotI y (2 * (K : Int)) = sy) := ⟨hgx, hgy⟩
        clear hgx hgy
        have hi1 : (0 : Int) ≤ (k : Int) := by omega
        have hi2 : (k : Int) < (n : Int) := by omega
        have hi3 : (k : Int) < (M : Int) := by omega
        have hbw : b < wr.heap.size := Nat.lt_of_lt_of_le hb hsz
        have hww : w.heap.size ≤ wr.heap.size := hsz
        have hwx : IntKind.i64.wrap (sx - (K : Int)) = sx - (K : Int) := by rw [IntKind.wrap_i64]; omega
        have hwy : IntKind.i64.wrap (sy - (K : Int)) = sy - (K : Int) := by rw [IntKind.wrap_i64]; omega
        have OW : Hid (∀ o, (wr.alloc o).drew.ownsRow w.heap.size 52 2 u7 k (cellsL ((zs.take k).map (nearP K)))) := fun o => by
          have h1 := Kept.owns KP.out
          rw [List.length_map, List.length_take, HL.out, Nat.min_eq_left hkn] at h1
          exact h1.alloc o
        go_wp2_with fail
        go_region_held3 (fun w' => w'.cell? ⟨b, off + k * 2, none⟩ = some (.int .i64 x) ∧ w'.cell? ⟨b, off + k * 2 + 1, none⟩ = some (.int .i64 y)) (first | go_keep | (exact ⟨grown_cell hgrow5 (Kept.owns KP.out) c0 hbw hb rfl, grown_cell hgrow5 (Kept.owns KP.out) c1 hbw hb rfl⟩))
          (first | (go_at_call_of 20 x; refine (hsx _).mono ?_; rintro e w' ⟨rfl, hw⟩; subst hw) | (go_at_call_of 20 y; refine (hsy _).mono ?_; rintro e w' ⟨rfl, hw⟩; subst hw) | (refine step_append_own _ (by rfl) _ _ 24 (by rfl) w.heap.size 52 i0 (.agg #[.int .i64 0, .int .i64 0]) 2 16 Tryz.underlying24 hi hz0 hz1 hz2 rfl (by decide) u7 k (cellsL ((zs.take k).map (nearP K))) (by rfl) (OW.out _) ⟨wr.heap.size, 0, none⟩ 1 1 [.int .i64 (sx - (K : Int)), .int .i64 (sy - (K : Int))] (by rfl) rfl (cell_two_new _ _ _ _) (by intro u hu; simp at hu; rcases hu with rfl | rfl <;> rfl) (by unfold maxLen; omega) (by omega) (by simp; omega) ?_; intro v5 w5 hown5 hgrow5 hnil5))
        go_wp2_with fail
        go_roundg (gk - 1)
        case measure => have := HK.out; omega
        case rel =>
          have h1 := HK.out
          have hts : (zs.take (k + 1)).map (nearP K) = (zs.take k).map (nearP K) ++ [(sx - (K : Int), sy - (K : Int))] := by
            rw [List.take_succ_eq_append_getElem (by rw [HL.out]; exact hlt), List.map_append, ← getElem!_pos zs k, HZ.out]
            simp [nearP, nearI, HG.out.1, HG.out.2]
          refine ⟨k + 1, by omega, by omega, by go_num, (hbr.alloc hsz _).drew.grown hgrow5 (by simp; omega) (fun g hg => ((OW.out (.cells #[] 0)).lt g hg).1), Or.inr ⟨by rw [hts]; simp, ?_⟩⟩
          rw [hts, cellsL_append, List.length_append, List.length_map, List.length_take, HL.out, Nat.min_eq_left hkn]
          exact hown5
      · have hq : (k : Int) < (n : Int) := by omega
        have hq2 : ¬ (k : Int) < (M : Int) := by omega
        have HKE : Hid (k = M) := by show k = M; omega
        clear hlt2 hk300 hlt
        go_wp2
        go_ret
        have hke := HKE.out
        refine ⟨_, rfl, hbr, ?_⟩
        rw [someL, ← hke]
        exact KP.out
    · go_wp2
      go_ret
      refine ⟨_, rfl, hbr, ?_⟩
      have h1 := KP.out
      rw [List.take_of_length_le (by rw [HL.out]; omega)] at h1
      rw [someL, List.take_of_length_le (by rw [HL.out]; omega)]
      exact h1
theorem some_any (v : Value) (zs : List (Int × Int)) (M K : Nat) (w : World) (h : RRow w v zs) (hM : M ≤ 4096) (hK0 : 0 < K) (hK2 : K ≤ 549755813888) :
    Calls Tryz.prog 19 #[v, .int .i64 M, .int .i64 K] w fun e w' => ∃ u, e = .returned u ∧ Below w.heap.size w w' ∧ Kept w' w.heap.size u (someL M K zs) := by
  obtain ⟨a, c, rfl, hc, hm, ha, h⟩ := h
  rcases h with h0 | ⟨b, off, rfl, hlt, hp⟩
  · have hz : zs = [] := List.length_eq_zero_iff.1 h0
    subst hz
    exact (some_none a c M K w).mono fun e w' ⟨h1, h2⟩ => ⟨_, h1, by rw [h2]; exact Below.refl _ _, Or.inl ⟨by simp [someL], rfl⟩⟩
  · exact some_some b off zs.length c M K zs w hM hK0 hK2 hlt rfl hp
theorem pair_go {w w1 w2 : World} {g : Nat} {x y : Value} (hs : w1.cell? ⟨g, 0, none⟩ = some x ∧ w1.cell? ⟨g, 1, none⟩ = some y ∧ g < w1.heap.size ∧ Below g w w1) (h : Below w1.heap.size w1 w2) :
    w2.cell? ⟨g, 0, none⟩ = some x ∧ w2.cell? ⟨g, 1, none⟩ = some y ∧ g < w2.heap.size ∧ Below g w w2 :=
  ⟨(h.cell (p := ⟨g, 0, none⟩) hs.2.2.1).trans hs.1, (h.cell (p := ⟨g, 1, none⟩) hs.2.2.1).trans hs.2.1, Nat.lt_of_lt_of_le hs.2.2.1 h.size, hs.2.2.2.trans (h.mono (Nat.le_of_lt hs.2.2.1))⟩
theorem pair_born (w : World) (x y : Value) (t : TypeId) : (w.alloc (.cells #[x, y] t)).cell? ⟨w.heap.size, 0, none⟩ = some x ∧ (w.alloc (.cells #[x, y] t)).cell? ⟨w.heap.size, 1, none⟩ = some y ∧ w.heap.size < (w.alloc (.cells #[x, y] t)).heap.size ∧ Below w.heap.size w (w.alloc (.cells #[x, y] t)) :=
  ⟨by rw [World.cell?_alloc_new]; rfl, by rw [World.cell?_alloc_new]; rfl, by simp, (Below.refl _ _).alloc (Nat.le_refl _) _⟩
theorem pair_drew {w w1 : World} {g : Nat} {x y : Value} (hs : w1.cell? ⟨g, 0, none⟩ = some x ∧ w1.cell? ⟨g, 1, none⟩ = some y ∧ g < w1.heap.size ∧ Below g w w1) :
    w1.drew.cell? ⟨g, 0, none⟩ = some x ∧ w1.drew.cell? ⟨g, 1, none⟩ = some y ∧ g < w1.drew.heap.size ∧ Below g w w1.drew := ⟨hs.1, hs.2.1, hs.2.2.1, hs.2.2.2.drew⟩
/-- the rule that right makes -/
def rightB (b : Int) : Int := bits .andNot .i64 (spotI b 512) 1
set_option maxHeartbeats 1000000 in
theorem right_any (b l : Int) (w : World) : Calls Tryz.prog 18 #[.agg #[.int .i64 b, .int .i64 l]] w fun e w' => e = .returned (.agg #[.int .i64 (rightB b), .int .i64 (spotI l 512)]) ∧ Below w.heap.size w w' := by
  have h0 := fun o => pair_drew (pair_go (pair_born w (.int .i64 b) (.int .i64 l) 23) ((Below.refl _ _).alloc (Nat.le_refl _) o))
  have hb1 := fun W => spot_any b 512 W (by omega) (by omega)
  have hl1 := fun W => spot_any l 512 W (by omega) (by omega)
  have hr : rightB b = bits .andNot .i64 (spotI b 512) 1 := rfl
  rw [hr]
  generalize spotI b 512 = sb at *
  generalize spotI l 512 = sl at *
  go_enter Tryz.func18, Tryz.ntmps18
  go_wp2_with fail
  go_region_held3 (fun w' => w'.cell? ⟨w.heap.size, 0, none⟩ = some (.int .i64 b) ∧ w'.cell? ⟨w.heap.size, 1, none⟩ = some (.int .i64 l) ∧ w.heap.size < w'.heap.size ∧ Below w.heap.size w w') (first | exact h0 _ | assumption)
    (first | (go_at_call_of 20 b; refine (hb1 _).mono ?_; rintro e w' ⟨rfl, hw⟩; subst hw) | (go_at_call_of 20 l; refine (hl1 _).mono ?_; rintro e w' ⟨rfl, hw⟩; subst hw))
  rename_i hH
  go_wp2_with fail
  refine bodyPost_ret (v := .agg #[.int .i64 (bits .andNot .i64 sb 1), .int .i64 sl]) ?_ rfl ⟨rfl, hH.2.2.2⟩
  simp [results, Tryz.results18, go_sem]
theorem right_table : ∀ n : Fin 512, (withinB (bits .andNot .i64 (n.val : Int) 1) && !hasB (bits .andNot .i64 (n.val : Int) 1) 0) = true := by decide +kernel
theorem right_good (b l : Int) : goodB (rightB b) (spotI l 512) = true := by
  obtain ⟨h0, h1⟩ := spotI_bound b 512 (by omega)
  obtain ⟨k0, k1⟩ := spotI_bound l 512 (by omega)
  obtain ⟨m, hm⟩ := Int.eq_ofNat_of_zero_le h0
  have ht := right_table ⟨m, by omega⟩
  simp only at ht
  unfold goodB rightB
  rw [hm]
  have hw : withinB (spotI l 512) = true := by simp [withinB]; omega
  rw [hw, Bool.and_true]
  exact ht
end Go.Proofs.YtofbcngcblleaaaGreat.A

namespace Go.Proofs.YtofbcngcblleaaaGreat.A
open Go.RowKit Go.Lib Go.Sort

set_option maxHeartbeats 1000000 in
theorem same_nil (w : World) : Calls Tryz.prog 24 #[.slice none 0 0, .slice none 0 0] w fun e w' => e = .returned (.bool true) ∧ w' = w := by
  go_enter Tryz.func24, Tryz.ntmps24
  go_wp2
  refine wp_loop_rounds 1 ?_
  rw [rounds_succ]
  go_wp2
  go_ret
  exact ⟨rfl, rfl⟩

set_option maxHeartbeats 1000000 in
theorem same_some (b off c b' off' c' : Nat) (zs : List (Int × Int)) (w : World) (hn : zs.length ≤ 9223372036854775807) (h : HoldsR w b off zs) (h' : HoldsR w b' off' zs) :
    Calls Tryz.prog 24 #[.slice (some ⟨b, off, none⟩) zs.length c, .slice (some ⟨b', off', none⟩) zs.length c'] w fun e w' => e = .returned (.bool true) ∧ ∃ q, w' = w.drewN q := by
  have HA : Hid (HoldsR w b off zs) := h
  have HB : Hid (HoldsR w b' off' zs) := h'
  clear h h'
  generalize hl : zs.length = n at *
  have HL : Hid (zs.length = n) := hl
  clear hl
  go_enter Tryz.func24, Tryz.ntmps24
  go_wp2
  go_loopg [5] n (fun g s wr => ∃ k q : Nat, k + g = n ∧ s = .int .i64 k ∧ wr = w.drewN q)
  case atStart => exact ⟨0, 0, by omega, rfl, rfl⟩
  case round =>
    obtain ⟨k, q, hk, rfl, rfl⟩ := hrel
    have HK : Hid (k + gk = n) := hk
    have hkn : k ≤ n := by omega
    clear hk
    by_cases hlt : k < n
    · obtain ⟨c0, c1⟩ := HA.out k (by rw [HL.out]; exact hlt)
      obtain ⟨d0, d1⟩ := HB.out k (by rw [HL.out]; exact hlt)
      generalize zs[k]! = x at c0 c1 d0 d1
      have hi1 : (0 : Int) ≤ (k : Int) := by omega
      have hi2 : (k : Int) < (n : Int) := by omega
      have hne : ∀ w, (binOp .neq 52 (.agg #[.int .i64 x.1, .int .i64 x.2]) (.agg #[.int .i64 x.1, .int .i64 x.2])).run Tryz.prog w = .ok (.bool false) w := fun w => by rw [neP_run]; simp
      go_wp2
      go_region
      go_wp2
      go_roundg (gk - 1)
      case measure => have := HK.out; omega
      case rel => have := HK.out; exact ⟨k + 1, q + 1, by omega, by go_num, rfl⟩
    · go_wp2
      go_ret
      exact ⟨rfl, q, rfl⟩

theorem below_drewN (w : World) (q : Nat) : Below w.heap.size w (w.drewN q) := ⟨rfl, rfl, rfl, Nat.le_refl _, fun _ _ => rfl⟩

theorem same_any (v u : Value) (zs : List (Int × Int)) (w : World) (h : Row w v zs) (h' : Row w u zs) : Calls Tryz.prog 24 #[v, u] w fun e w' => e = .returned (.bool true) ∧ Below w.heap.size w w' := by
  rcases h with ⟨rfl, rfl⟩ | ⟨hz, b, off, c, rfl, _, hl, hm, hh⟩
  · rcases h' with ⟨_, rfl⟩ | ⟨hz, _⟩
    · exact (same_nil w).mono fun e w' ⟨he, hw⟩ => ⟨he, by rw [hw]; exact Below.refl _ _⟩
    · exact absurd rfl hz
  · rcases h' with ⟨e, _⟩ | ⟨_, b', off', c', rfl, _, _, _, hh'⟩
    · exact absurd e hz
    · unfold maxLen at hm
      exact (same_some b off c b' off' c' zs w (by omega) hh hh').mono fun e w' ⟨he, q, hw⟩ => ⟨he, by rw [hw]; exact below_drewN w q⟩
end Go.Proofs.YtofbcngcblleaaaGreat.A

namespace Go.Proofs.YtofbcngcblleaaaGreat.A
open Go.RowKit Go.Maps Go.Proofs.YtofbcngcblleaaaGreat.L

variable {R : Bool → Nat → Bool} {rn : Int} {S : Item → Prop} {g : Gr} {c d : Int} {K : Nat}
/-- how many places of a level's squares can have something in them -/
def pB (K T k : Nat) : Nat := (K + T) / 2 ^ k + 3
def posB (K T k : Nat) (c base : Int) : List Int := (List.range (pB K T k)).map fun (i : Nat) => (c - (K + T : Nat) - 2 ^ (k + 2)) + (base - (c - (K + T : Nat) - 2 ^ (k + 2))) % 2 ^ (k + 1) + (i : Int) * 2 ^ (k + 1)
theorem posB_in {T k : Nat} {a base : Int} (ha : ∃ x : Int, a = base + x * 2 ^ (k + 1)) (h1 : c - (K + T : Nat) - 2 ^ (k + 2) < a) (h2 : a < c + (K + T : Nat)) : a ∈ posB K T k c base := by
  obtain ⟨x, rfl⟩ := ha
  have hm : (0 : Int) < 2 ^ (k + 1) := by have := powI (k + 1); have : 0 < 2 ^ (k + 1) := Nat.pow_pos (by omega); omega
  have h4 : (2 : Int) ^ (k + 2) = 2 * 2 ^ (k + 1) := by rw [two_powI (k + 1)]; omega
  have hk : (2 : Int) ^ (k + 1) = 2 * 2 ^ k := by rw [two_powI k]; omega
  unfold posB pB
  generalize hL : c - (K + T : Nat) - 2 ^ (k + 2) = L at *
  have e1 := Int.mul_ediv_add_emod (base - L) (2 ^ (k + 1))
  have e2 := Int.emod_nonneg (base - L) (show (2 : Int) ^ (k + 1) ≠ 0 by omega)
  have e3 := Int.emod_lt_of_pos (base - L) hm
  generalize (base - L) % 2 ^ (k + 1) = r at *
  generalize (base - L) / 2 ^ (k + 1) = q at *
  have hq : base + x * 2 ^ (k + 1) = L + r + (q + x) * 2 ^ (k + 1) := by rw [Int.add_mul, Int.mul_comm q]; omega
  have b1 : -1 < q + x := Int.lt_of_mul_lt_mul_right (a := 2 ^ (k + 1)) (by omega) (by omega)
  have hqn : ((q + x).toNat : Int) = q + x := by omega
  refine List.mem_map.2 ⟨(q + x).toNat, List.mem_range.2 ?_, by rw [hqn, hq]⟩
  rcases Nat.lt_or_ge (q + x).toNat 3 with h | h
  · exact Nat.lt_of_lt_of_le h (Nat.le_add_left _ _)
  · obtain ⟨z, hz⟩ : ∃ z, (q + x).toNat = z + 2 := ⟨(q + x).toNat - 2, by omega⟩
    have h5 : z ≤ (K + T) / 2 ^ k := by
      rw [Nat.le_div_iff_mul_le (Nat.pow_pos (by omega))]
      have hzI : ((z * 2 ^ k : Nat) : Int) = (z : Int) * 2 ^ k := by rw [Int.natCast_mul, powI]
      have hz2 : (q + x) * 2 ^ (k + 1) = 2 * ((z : Int) * 2 ^ k) + 2 * 2 ^ (k + 1) := by
        rw [show q + x = (z : Int) + 2 by omega, Int.add_mul, hk, Int.mul_left_comm]
      omega
    omega
theorem posB_len {T k : Nat} {base : Int} : (posB K T k c base).length = pB K T k := by simp [posB]
/-- pictures by their bits -/
def bitP (n b : Nat) : Gr := fun x y => if 0 ≤ x ∧ x < 2 ^ n ∧ 0 ≤ y ∧ y < 2 ^ n then b.testBit (2 ^ n * y.toNat + x.toNat) else false
theorem bits_all (f : Nat → Bool) : ∀ m : Nat, ∃ b, b < 2 ^ m ∧ ∀ i, i < m → b.testBit i = f i
  | 0 => ⟨0, by simp, fun i hi => by omega⟩
  | m + 1 => by
    obtain ⟨b, h1, h2⟩ := bits_all f m
    have hp := two_pow m
    by_cases hf : f m = true
    · refine ⟨2 ^ m + b, by omega, fun i hi => ?_⟩
      by_cases him : i = m
      · subst him
        rw [Nat.testBit_two_pow_add_eq, Nat.testBit_lt_two_pow h1, hf]
        rfl
      · rw [Nat.testBit_two_pow_add_gt (by omega)]
        exact h2 i (by omega)
    · refine ⟨b, by omega, fun i hi => ?_⟩
      by_cases him : i = m
      · subst him
        rw [Nat.testBit_lt_two_pow h1]
        simp at hf
        exact hf.symm
      · exact h2 i (by omega)
theorem bitP_all (n : Nat) (h : Gr) (a b : Int) : ∃ z, z < 2 ^ (2 ^ n * 2 ^ n) ∧ pic h a b n = bitP n z := by
  obtain ⟨z, h1, h2⟩ := bits_all (fun i => h (a + (i % 2 ^ n : Nat)) (b + (i / 2 ^ n : Nat))) (2 ^ n * 2 ^ n)
  refine ⟨z, h1, ?_⟩
  funext x y
  have hp := powI n
  unfold pic bitP
  by_cases hh : 0 ≤ x ∧ x < 2 ^ n ∧ 0 ≤ y ∧ y < 2 ^ n
  · rw [if_pos hh, if_pos hh]
    have hx : x.toNat < 2 ^ n := by omega
    have hy : y.toNat < 2 ^ n := by omega
    have hlt : 2 ^ n * y.toNat + x.toNat < 2 ^ n * 2 ^ n := by
      have : 2 ^ n * (y.toNat + 1) ≤ 2 ^ n * 2 ^ n := Nat.mul_le_mul_left _ hy
      rw [Nat.mul_add] at this
      omega
    rw [h2 _ hlt, Nat.mul_add_mod, Nat.mod_eq_of_lt hx, Nat.mul_add_div (Nat.pow_pos (by omega)), Nat.div_eq_of_lt hx, Nat.add_zero]
    rw [show ((x.toNat : Nat) : Int) = x by omega, show ((y.toNat : Nat) : Int) = y by omega]
  · rw [if_neg hh, if_neg hh]
/-- the empty squares and their notes; all of the least levels -/
def emptyL (rn : Int) : List Item := (List.range 45).flatMap fun k => .sq k noP :: (List.range 31).map fun (j : Nat) => .nt rn k noP (j : Int)
def leastL (rn : Int) : List Item := ((List.range 65536).flatMap fun b => [.sq 2 (bitP 2 b), .nt rn 2 (bitP 2 b) 0]) ++ (List.range 16).map fun b => .sq 1 (bitP 1 b)
theorem flat_len2 {α β : Type} (f : α → List β) (c : Nat) : ∀ l : List α, (∀ x ∈ l, (f x).length = c) → (l.flatMap f).length = l.length * c
  | [], _ => by simp
  | x :: l, h => by
    rw [List.flatMap_cons, List.length_append, h x (by simp), flat_len2 f c l fun y hy => h y (by simp [hy]), List.length_cons, Nat.add_mul, Nat.one_mul]
    omega
theorem emptyL_len : (emptyL rn).length = 1440 := by
  unfold emptyL
  rw [flat_len2 _ 32 _ fun k _ => by simp]
  simp
theorem leastL_len : (leastL rn).length = 131088 := by
  unfold leastL
  rw [List.length_append, flat_len2 _ 2 _ fun k _ => rfl]
  simp
theorem in_empty_sq {k : Nat} (hk : k ≤ 44) : Item.sq k noP ∈ emptyL rn := List.mem_flatMap.2 ⟨k, List.mem_range.2 (by omega), List.mem_cons_self⟩
theorem in_empty_nt {k j : Nat} (hk : k ≤ 44) (hj : j ≤ 30) : Item.nt rn k noP (j : Int) ∈ emptyL rn := List.mem_flatMap.2 ⟨k, List.mem_range.2 (by omega), List.mem_cons_of_mem _ (List.mem_map.2 ⟨j, List.mem_range.2 (by omega), rfl⟩)⟩
theorem in_two_sq (h : Gr) (a b : Int) : Item.sq 2 (pic h a b 2) ∈ leastL rn := by
  obtain ⟨z, h1, h2⟩ := bitP_all 2 h a b
  rw [h2]
  exact List.mem_append_left _ (List.mem_flatMap.2 ⟨z, List.mem_range.2 h1, by simp⟩)
theorem in_two_nt (h : Gr) (a b : Int) : Item.nt rn 2 (pic h a b 2) 0 ∈ leastL rn := by
  obtain ⟨z, h1, h2⟩ := bitP_all 2 h a b
  rw [h2]
  exact List.mem_append_left _ (List.mem_flatMap.2 ⟨z, List.mem_range.2 h1, by simp⟩)
theorem in_one_sq (h : Gr) (a b : Int) : Item.sq 1 (pic h a b 1) ∈ leastL rn := by
  obtain ⟨z, h1, h2⟩ := bitP_all 1 h a b
  rw [h2]
  exact List.mem_append_right _ (List.mem_map.2 ⟨z, List.mem_range.2 h1, rfl⟩)
/-- what is made of one square that a leap looks at -/
def nodeL (R : Bool → Nat → Bool) (g : Gr) (rn : Int) (j k T : Nat) (a b : Int) : List Item :=
  .nt rn (k + 2) (pic (iter R T g) a b (k + 2)) ((min j k : Nat) : Int) :: .sq (k + 2) (pic (iter R T g) a b (k + 2)) :: ((if k = 1 then [] else [.sq (k + 1) (pic (iter R (T + 2 ^ (min j k)) g) (a + 2 ^ k) (b + 2 ^ k) (k + 1))]) ++ if j < k ∧ 3 ≤ k then (List.range 4).map fun (r : Nat) => .sq k (pic (iter R (T + 2 ^ j) g) (a + 2 ^ k + (r % 2 : Nat) * 2 ^ k) (b + 2 ^ k + (r / 2 : Nat) * 2 ^ k) k) else [])
def cB (j k : Nat) : Nat := 2 + ((if k = 1 then 0 else 1) + if j < k ∧ 3 ≤ k then 4 else 0)
theorem nodeL_len {j k T : Nat} {a b : Int} : (nodeL R g rn j k T a b).length = cB j k := by
  unfold nodeL cB
  simp only [List.length_cons, List.length_append]
  split <;> split <;> simp
/-- what a leap makes of cells near a place, from a time on -/
def leapL (R : Bool → Nat → Bool) (g : Gr) (rn : Int) (K LM : Nat) (c d : Int) (j T0 : Nat) : List Item :=
  (List.range LM).flatMap fun k => (List.range (2 ^ (j - min j (k + 1)))).flatMap fun u => (posB K (T0 + u * 2 ^ (min j (k + 1))) (k + 1) c ((u * 2 ^ (min j (k + 1)) : Nat) : Int)).flatMap fun a => (posB K (T0 + u * 2 ^ (min j (k + 1))) (k + 1) d ((u * 2 ^ (min j (k + 1)) : Nat) : Int)).flatMap fun b => nodeL R g rn j (k + 1) (T0 + u * 2 ^ (min j (k + 1))) a b
def leapN (K LM j T0 : Nat) : Nat := ((List.range LM).map fun k => ((List.range (2 ^ (j - min j (k + 1)))).map fun u => pB K (T0 + u * 2 ^ (min j (k + 1))) (k + 1) * (pB K (T0 + u * 2 ^ (min j (k + 1))) (k + 1) * cB j (k + 1))).sum).sum
theorem leapL_len {LM j T0 : Nat} : (leapL R g rn K LM c d j T0).length = leapN K LM j T0 := by
  unfold leapL leapN
  rw [List.length_flatMap]
  congr 1
  refine List.map_congr_left fun k _ => ?_
  rw [List.length_flatMap]
  congr 1
  refine List.map_congr_left fun u _ => ?_
  rw [flat_len2 _ _ _ fun a _ => flat_len2 _ _ _ fun b _ => nodeL_len, posB_len, posB_len]
/-- roots and their quarters -/
def rootL (G : Gr) (LM : Nat) : List Item := (List.range (LM + 3)).flatMap fun N => .sq (N + 1) (pic G (-(2 ^ N)) (-(2 ^ N)) (N + 1)) :: (List.range 4).map fun r => .sq (N + 1) (QP N G r)
theorem rootL_len {G : Gr} {LM : Nat} : (rootL G LM).length = 5 * (LM + 3) := by
  unfold rootL
  rw [flat_len2 _ 5 _ fun N _ => by simp]
  simp
  omega
def boxL (R : Bool → Nat → Bool) (g : Gr) (rn : Int) (K LM : Nat) (c d : Int) (n : Nat) : List Item :=
  emptyL rn ++ leastL rn ++ ((List.range 31).flatMap fun j => if n / 2 ^ j % 2 = 1 then leapL R g rn K LM c d j (n % 2 ^ j) ++ rootL (iter R (n % 2 ^ j) g) LM else []) ++ rootL (iter R n g) LM
def boxN (K LM n : Nat) : Nat := ((List.range 31).map fun j => if n / 2 ^ j % 2 = 1 then leapN K LM j (n % 2 ^ j) + 5 * (LM + 3) else 0).sum
theorem boxL_len {LM n : Nat} : (boxL R g rn K LM c d n).length = 132528 + boxN K LM n + 5 * (LM + 3) := by
  unfold boxL boxN
  simp only [List.length_append, emptyL_len, leastL_len, rootL_len]
  rw [List.length_flatMap]
  congr 3
  refine List.map_congr_left fun j _ => ?_
  split
  · rw [List.length_append, leapL_len, rootL_len]
  · rfl
theorem boxN_quota : ∀ n, n < 60 → boxN 10 9 n ≤ 45000 := by decide +kernel
theorem boxN_steps : ∀ n, n < 40 → boxN 20 9 n ≤ 30000 := by decide +kernel
end Go.Proofs.YtofbcngcblleaaaGreat.A

namespace Go.Proofs.YtofbcngcblleaaaGreat.A
open Go.RowKit Go.Maps Go.Proofs.YtofbcngcblleaaaGreat.L

variable {R : Bool → Nat → Bool} {rn : Int} {S : Item → Prop} {g : Gr} {c d : Int} {K : Nat}
theorem iter_noP (hR : R false 0 = false) : ∀ s, iter R s noP = noP
  | 0 => rfl
  | s + 1 => by
    have : L.stepG R noP = noP := by
      funext x y
      exact hR
    rw [iter, this]
    exact iter_noP hR s
theorem pic_noP (a b : Int) (n : Nat) : pic noP a b n = noP := pic_no fun _ _ _ _ => rfl
/-- where cells can live later -/
theorem box_live (hR : R false 0 = false) (hg : ∀ X Y, g X Y = true → c - K ≤ X ∧ X < c + K ∧ d - K ≤ Y ∧ Y < d + K) (T : Nat) (X Y : Int) (h : iter R T g X Y = true) : c - (K + T : Nat) ≤ X ∧ X < c + (K + T : Nat) ∧ d - (K + T : Nat) ≤ Y ∧ Y < d + (K + T : Nat) := by
  have h1 := spread (g := fun x y => g (c + x) (d + y)) (K := (K : Int)) hR (fun X Y hXY => by have := hg _ _ hXY; omega) T (X - c) (Y - d) (by rw [iter_mv]; show iter R T g (c + (X - c)) (d + (Y - d)) = true; rw [show c + (X - c) = X by omega, show d + (Y - d) = Y by omega]; exact h)
  omega
theorem box_miss (hl : ∀ T X Y, iter R T g X Y = true → c - (K + T : Nat) ≤ X ∧ X < c + (K + T : Nat) ∧ d - (K + T : Nat) ≤ Y ∧ Y < d + (K + T : Nat)) {T k : Nat} {a b : Int} (h : ¬ (c - (K + T : Nat) - 2 ^ (k + 2) < a ∧ a < c + (K + T : Nat) ∧ d - (K + T : Nat) - 2 ^ (k + 2) < b ∧ b < d + (K + T : Nat))) : pic (iter R T g) a b (k + 2) = noP := by
  have hp := powI (k + 2)
  refine pic_no fun x y hx hy => ?_
  cases hv : iter R T g (a + x) (b + y) with
  | false => rfl
  | true => have := hl T _ _ hv; omega
/-- all that a leap makes -/
theorem box_dem (hR : R false 0 = false) (hl : ∀ T X Y, iter R T g X Y = true → c - (K + T : Nat) ≤ X ∧ X < c + (K + T : Nat) ∧ d - (K + T : Nat) ≤ Y ∧ Y < d + (K + T : Nat)) {LM n j T0 : Nat} (hn : n ≤ LM) (hn42 : n ≤ 42) (hj : j ≤ n) (hj30 : j ≤ 30) {i : Item} (h : Dem R rn S n (pic (iter R T0 g) (-(2 ^ (n + 1))) (-(2 ^ (n + 1))) (n + 2)) j i) : i ∈ emptyL rn ∨ i ∈ leastL rn ∨ i ∈ leapL R g rn K LM c d j T0 := by
  obtain ⟨k, s', a', b', ⟨n1, _, n3, ⟨u, n4⟩, ⟨x, n5⟩, y, n6⟩, hi⟩ := dem_node (R := R) (G := iter R T0 g) (s := 0) n hj h
  rw [Nat.zero_add] at n3 n4
  unfold NodeI at hi
  simp only [iter_add] at hi
  have hu : u < 2 ^ (j - min j k) := by
    have e : 2 ^ j = 2 ^ (j - min j k) * 2 ^ (min j k) := by rw [← Nat.pow_add]; congr 1; omega
    have hpos : 0 < 2 ^ (min j k) := Nat.pow_pos (by omega)
    rw [n4, e] at n3
    exact Nat.lt_of_mul_lt_mul_right (a := 2 ^ (min j k)) (by omega)
  have hbase : ∀ z : Int, -(2 ^ (n + 1)) + ((s' : Int) - (0 : Nat)) + z * 2 ^ (k + 1) = (s' : Int) + (-(2 ^ (n - k)) + z) * 2 ^ (k + 1) := fun z => by
    rw [Int.add_mul, Int.neg_mul, ← Int.pow_add, show n - k + (k + 1) = n + 1 by omega]
    simp only [Int.natCast_zero, Int.sub_zero]
    omega
  rcases Nat.eq_zero_or_pos k with hk0 | hk0
  · subst hk0
    rcases hi with rfl | rfl | rfl | ⟨hjk, _⟩
    · rw [Nat.min_zero]
      exact .inr (.inl (in_two_nt _ _ _))
    · exact .inr (.inl (in_two_sq _ _ _))
    · exact .inr (.inl (in_one_sq _ _ _))
    · omega
  obtain ⟨k', rfl⟩ : ∃ k', k = k' + 1 := ⟨k - 1, by omega⟩
  have p0 : (0 : Int) < 2 ^ k' := by have := powI k'; have : 0 < 2 ^ k' := Nat.pow_pos (by omega); omega
  have p1 := two_powI k'
  have p2 : (2 : Int) ^ (k' + 1 + 1) = 2 ^ (k' + 1) + 2 ^ (k' + 1) := two_powI (k' + 1)
  have p3 : (2 : Int) ^ (k' + 1 + 2) = 2 ^ (k' + 1 + 1) + 2 ^ (k' + 1 + 1) := two_powI (k' + 1 + 1)
  by_cases hit : c - (K + (T0 + s') : Nat) - 2 ^ (k' + 1 + 2) < a' ∧ a' < c + (K + (T0 + s') : Nat) ∧ d - (K + (T0 + s') : Nat) - 2 ^ (k' + 1 + 2) < b' ∧ b' < d + (K + (T0 + s') : Nat)
  · have hnode : ∀ it, it ∈ nodeL R g rn j (k' + 1) (T0 + s') a' b' → it ∈ leapL R g rn K LM c d j T0 := fun it hit' => by
      unfold leapL
      refine List.mem_flatMap.2 ⟨k', List.mem_range.2 (by omega), List.mem_flatMap.2 ⟨u, List.mem_range.2 hu, ?_⟩⟩
      rw [← n4]
      exact List.mem_flatMap.2 ⟨a', posB_in ⟨_, n5.trans (hbase x)⟩ hit.1 hit.2.1, List.mem_flatMap.2 ⟨b', posB_in ⟨_, n6.trans (hbase y)⟩ hit.2.2.1 hit.2.2.2, hit'⟩⟩
    rcases hi with rfl | rfl | rfl | ⟨hjk, r, hr, rfl⟩
    · exact .inr (.inr (hnode _ List.mem_cons_self))
    · exact .inr (.inr (hnode _ (List.mem_cons_of_mem _ List.mem_cons_self)))
    · by_cases h1 : k' + 1 = 1
      · obtain rfl : k' = 0 := by omega
        exact .inr (.inl (in_two_sq _ _ _))
      · refine .inr (.inr (hnode _ (List.mem_cons_of_mem _ (List.mem_cons_of_mem _ (List.mem_append_left _ ?_)))))
        rw [if_neg h1, ← Nat.add_assoc]
        exact List.mem_singleton_self _
    · by_cases h3 : 3 ≤ k' + 1
      · refine .inr (.inr (hnode _ (List.mem_cons_of_mem _ (List.mem_cons_of_mem _ (List.mem_append_right _ ?_)))))
        rw [if_pos ⟨hjk, h3⟩]
        exact List.mem_map.2 ⟨r, List.mem_range.2 hr, by rw [← Nat.add_assoc]⟩
      · have h12 : k' = 0 ∨ k' = 1 := by omega
        rcases h12 with rfl | rfl
        · exact .inr (.inl (in_one_sq _ _ _))
        · exact .inr (.inl (in_two_sq _ _ _))
  · have hno := box_miss hl (T := T0 + s') (k := k' + 1) hit
    rcases hi with rfl | rfl | rfl | ⟨hjk, r, hr, rfl⟩
    · rw [hno]
      exact .inl (in_empty_nt (by omega) (by omega))
    · rw [hno]
      exact .inl (in_empty_sq (by omega))
    · have hle : ((2 ^ (min j (k' + 1)) : Nat) : Int) ≤ 2 ^ (k' + 1) := by
        have : 2 ^ (min j (k' + 1)) ≤ 2 ^ (k' + 1) := Nat.pow_le_pow_right (by omega) (by omega)
        have := powI (k' + 1)
        omega
      have e := pic_iter (R := R) (H := iter R (T0 + s') g) (a := a') (b := b') (x := 2 ^ (k' + 1)) (y := 2 ^ (k' + 1)) (N := k' + 1 + 2) (M := k' + 1 + 1) (t := 2 ^ (min j (k' + 1))) hle (by omega) hle (by omega)
      rw [hno, iter_noP hR, pic_noP, iter_add, Nat.add_assoc] at e
      rw [← e]
      exact .inl (in_empty_sq (by omega))
    · have hle : ((2 ^ j : Nat) : Int) ≤ 2 ^ k' := by
        have : 2 ^ j ≤ 2 ^ k' := Nat.pow_le_pow_right (by omega) (by omega)
        have := powI k'
        omega
      have hb2 : ∀ z : Nat, z ≤ 1 → (0 : Int) ≤ (z : Int) * 2 ^ (k' + 1) ∧ (z : Int) * 2 ^ (k' + 1) ≤ 2 ^ (k' + 1) := fun z hz => by
        have : z = 0 ∨ z = 1 := by omega
        rcases this with rfl | rfl <;> simp <;> omega
      obtain ⟨a1, a2⟩ := hb2 (r % 2) (by omega)
      obtain ⟨a3, a4⟩ := hb2 (r / 2) (by omega)
      have e := pic_iter (R := R) (H := iter R (T0 + s') g) (a := a') (b := b') (x := 2 ^ (k' + 1) + ((r % 2 : Nat) : Int) * 2 ^ (k' + 1)) (y := 2 ^ (k' + 1) + ((r / 2 : Nat) : Int) * 2 ^ (k' + 1)) (N := k' + 1 + 2) (M := k' + 1) (t := 2 ^ j) (by omega) (by omega) (by omega) (by omega)
      rw [hno, iter_noP hR, pic_noP, iter_add, Nat.add_assoc, ← Int.add_assoc, ← Int.add_assoc] at e
      rw [← e]
      exact .inl (in_empty_sq (by omega))
theorem root_pic {G : Gr} {LM N : Nat} (h : N < LM + 3) : Item.sq (N + 1) (pic G (-(2 ^ N)) (-(2 ^ N)) (N + 1)) ∈ rootL G LM := List.mem_flatMap.2 ⟨N, List.mem_range.2 h, List.mem_cons_self⟩
theorem root_qp {G : Gr} {LM N r : Nat} (h : N < LM + 3) (hr : r < 4) : Item.sq (N + 1) (QP N G r) ∈ rootL G LM := List.mem_flatMap.2 ⟨N, List.mem_range.2 h, List.mem_cons_of_mem _ (List.mem_map.2 ⟨r, List.mem_range.2 hr, rfl⟩)⟩
/-- all that steps make of cells near a place -/
theorem box_steps (hR : R false 0 = false) (hg : ∀ X Y, g X Y = true → c - K ≤ X ∧ X < c + K ∧ d - K ≤ Y ∧ Y < d + K) {LM n : Nat} (hLM : LM ≤ 40) (hn : n < 2 ^ LM) (hlv : ∀ T N, T ≤ n → LeastG (N + 1) (iter R T g) → N + 1 ≤ LM) {i : Item} (h : StepsD R rn S g n i) : i ∈ boxL R g rn K LM c d n := by
  have hl := box_live hR hg
  have peel : ∀ T it, T ≤ n → PeelP (iter R T g) it → it ∈ rootL (iter R T g) LM := fun T it hT ⟨N, h1, h2⟩ => by
    have := hlv T N hT h1
    rw [h2]
    exact root_pic (by omega)
  unfold boxL
  rcases h with ⟨j, hj, hb, h⟩ | h
  · have hjm : n % 2 ^ j ≤ n := Nat.mod_le _ _
    have hjl : j < LM := by
      rcases Nat.lt_or_ge j LM with h1 | h1
      · exact h1
      · have h2 : 2 ^ LM ≤ 2 ^ j := Nat.pow_le_pow_right (by omega) h1
        rw [Nat.div_eq_of_lt (by omega)] at hb
        omega
    have hin : ∀ it, it ∈ leapL R g rn K LM c d j (n % 2 ^ j) ∨ it ∈ rootL (iter R (n % 2 ^ j) g) LM → it ∈ emptyL rn ++ leastL rn ++ ((List.range 31).flatMap fun j => if n / 2 ^ j % 2 = 1 then leapL R g rn K LM c d j (n % 2 ^ j) ++ rootL (iter R (n % 2 ^ j) g) LM else []) ++ rootL (iter R n g) LM := fun it h => by
      refine List.mem_append_left _ (List.mem_append_right _ (List.mem_flatMap.2 ⟨j, List.mem_range.2 hj, ?_⟩))
      rw [if_pos hb]
      exact List.mem_append.2 h
    rcases h with h | ⟨N, h1, ⟨k, h2, h3, (⟨_, z, z1, z2, rfl⟩ | ⟨r, hr, rfl⟩) | rfl⟩ | h⟩
    · exact hin _ (.inr (peel _ i hjm h))
    · have := hlv _ N hjm h1
      unfold wideOf at h3
      exact List.mem_append_left _ (List.mem_append_left _ (List.mem_append_left _ (in_empty_sq (by omega))))
    · have := hlv _ N hjm h1
      unfold wideOf at h3
      exact hin _ (.inr (root_qp (by omega) hr))
    · have := hlv _ N hjm h1
      unfold wideOf at h3
      exact hin _ (.inr (root_pic (N := k + 1) (by omega)))
    · have := hlv _ N hjm h1
      have hw : wideOf N j = max (N + 3) (j + 3) := rfl
      generalize wideOf N j = W at *
      obtain ⟨n', rfl⟩ : ∃ n', W = n' + 2 := ⟨W - 2, by omega⟩
      rcases box_dem hR hl (LM := LM) (n := n') (by omega) (by omega) (by omega) (by omega) h with h | h | h
      · exact List.mem_append_left _ (List.mem_append_left _ (List.mem_append_left _ h))
      · exact List.mem_append_left _ (List.mem_append_left _ (List.mem_append_right _ h))
      · exact hin _ (.inl h)
  · exact List.mem_append_right _ (peel n i (Nat.le_refl _) h)
/-- no root is greater than its cells want -/
theorem box_level (hR : R false 0 = false) (hg : ∀ X Y, g X Y = true → c - K ≤ X ∧ X < c + K ∧ d - K ≤ Y ∧ Y < d + K) {M T N : Nat} (hM : 1 ≤ M) (h : ∀ z : Int, z = c ∨ z = d → -(2 ^ M) ≤ z - (K + T : Nat) ∧ z + (K + T : Nat) ≤ 2 ^ M) (hL : LeastG (N + 1) (iter R T g)) : N ≤ M := by
  have := least_le hL hM fun X Y hXY => by
    have h1 := box_live hR hg T X Y hXY
    have h2 := h c (.inl rfl)
    have h3 := h d (.inr rfl)
    omega
  omega
end Go.Proofs.YtofbcngcblleaaaGreat.A

namespace Go.Proofs.YtofbcngcblleaaaGreat.A
open Go.RowKit Go.Maps Go.Proofs.YtofbcngcblleaaaGreat.L

variable {R : Bool → Nat → Bool} {rn : Int} {S : Item → Prop} {g : Gr} {c d : Int} {K : Nat}
/-- what a run makes beside the empty and the least squares -/
def tailL (R : Bool → Nat → Bool) (g : Gr) (rn : Int) (K LM : Nat) (c d : Int) (n : Nat) : List Item :=
  ((List.range 31).flatMap fun j => if n / 2 ^ j % 2 = 1 then leapL R g rn K LM c d j (n % 2 ^ j) ++ rootL (iter R (n % 2 ^ j) g) LM else []) ++ rootL (iter R n g) LM
theorem boxL_tail {LM n : Nat} : boxL R g rn K LM c d n = (emptyL rn ++ leastL rn) ++ tailL R g rn K LM c d n := by
  unfold boxL tailL
  rw [List.append_assoc]
theorem tailL_len {LM n : Nat} : (tailL R g rn K LM c d n).length = boxN K LM n + 5 * (LM + 3) := by
  have h := boxL_len (R := R) (g := g) (rn := rn) (K := K) (LM := LM) (c := c) (d := d) (n := n)
  rw [boxL_tail] at h
  simp only [List.length_append, emptyL_len, leastL_len] at h
  omega
theorem boxN_near : ∀ n, n < 30 → boxN 10 9 n ≤ 20000 := by decide +kernel
theorem boxN_moved : ∀ n, n < 30 → boxN 10 22 n ≤ 20000 := by decide +kernel
/-- two runs one behind the other have room -/
theorem two_fine {PR : (Bool → Nat → Bool) → Int → Prop} {A2 A3 A' : Ar} {e' dx dy : Int} {S1 S2 : Item → Prop} {g1 g2 : Gr} {n : Nat} (h3 : NxSt PR 1 (fun _ => 199999) A3) (h4 : NxSt PR 1 (fun _ => 199999) A') (k1 : Gx 1 A2 A3 0 0 (StepsD R rn S1 g1 n)) (k2 : Gx 1 A3 A' 0 e' (StepsD R rn S2 g2 n)) (hR : R false 0 = false) (hn : n < 30)
    (hg1 : ∀ X Y, g1 X Y = true → (0 : Int) - (10 : Nat) ≤ X ∧ X < 0 + (10 : Nat) ∧ (0 : Int) - (10 : Nat) ≤ Y ∧ Y < 0 + (10 : Nat)) (hg2 : ∀ X Y, g2 X Y = true → dx - (10 : Nat) ≤ X ∧ X < dx + (10 : Nat) ∧ dy - (10 : Nat) ≤ Y ∧ Y < dy + (10 : Nat)) (hd : 0 ≤ dx ∧ dx < 1048576 ∧ 0 ≤ dy ∧ dy < 1048576)
    (hc : A2.cnt 1 ≤ 3000) (hl : A2.lim 1 = 200000) : ¬ Er e' := by
  have k := Gx.seq (D := fun i => StepsD R rn S1 g1 n i ∨ StepsD R rn S2 g2 n i) h3 (by omega) (.inl rfl) k1 k2 (fun i h => .inl h) (fun _ _ i h => .inr h) (fun _ _ _ i h => h)
  have hcnt := gx_count k h4 (by omega) ((emptyL rn ++ leastL rn) ++ (tailL R g1 rn 10 9 0 0 n ++ tailL R g2 rn 10 22 dx dy n)) fun i hi => by
    rcases hi with hi | hi
    · have h1 := box_steps hR hg1 (LM := 9) (by omega) (by omega) (fun T N hT hL => by
        have := box_level (M := 6) hR hg1 (by omega) (fun z hz => by omega) hL
        omega) hi
      rw [boxL_tail] at h1
      rcases List.mem_append.1 h1 with h | h
      · exact List.mem_append_left _ h
      · exact List.mem_append_right _ (List.mem_append_left _ h)
    · have h1 := box_steps hR hg2 (LM := 22) (by omega) (by omega) (fun T N hT hL => by
        have := box_level (M := 21) hR hg2 (by omega) (fun z hz => by omega) hL
        omega) hi
      rw [boxL_tail] at h1
      rcases List.mem_append.1 h1 with h | h
      · exact List.mem_append_left _ h
      · exact List.mem_append_right _ (List.mem_append_right _ h)
  have b1 := boxN_near n hn
  have b2 := boxN_moved n hn
  simp only [List.length_append, emptyL_len, leastL_len, tailL_len] at hcnt
  have hl' : A'.lim 1 = 200000 := k.lim.trans hl
  exact gx_fine k h4 (by show A'.cnt 1 < 199999; omega) (by omega)
/-- one run has room -/
theorem one_fine {PR : (Bool → Nat → Bool) → Int → Prop} {A2 A' : Ar} {e' : Int} {S1 : Item → Prop} {g1 : Gr} {n : Nat} (h4 : NxSt PR 1 (fun _ => 199999) A') (k : Gx 1 A2 A' 0 e' (StepsD R rn S1 g1 n)) (hR : R false 0 = false) (hn : n < 30)
    (hg1 : ∀ X Y, g1 X Y = true → (0 : Int) - (10 : Nat) ≤ X ∧ X < 0 + (10 : Nat) ∧ (0 : Int) - (10 : Nat) ≤ Y ∧ Y < 0 + (10 : Nat))
    (hc : A2.cnt 1 ≤ 3000) (hl : A2.lim 1 = 200000) : ¬ Er e' := by
  have hcnt := gx_count k h4 (by omega) (boxL R g1 rn 10 9 0 0 n) fun i hi => box_steps hR hg1 (LM := 9) (by omega) (by omega) (fun T N hT hL => by
    have := box_level (M := 6) hR hg1 (by omega) (fun z hz => by omega) hL
    omega) hi
  have b1 := boxN_near n hn
  rw [boxL_len] at hcnt
  have hl' : A'.lim 1 = 200000 := k.lim.trans hl
  exact gx_fine k h4 (by show A'.cnt 1 < 199999; omega) (by omega)
/-- a moved plane -/
theorem iter_moved (s : Nat) (g : Gr) (dx dy : Int) (X Y : Int) : iter R s (fun x y => g (x - dx) (y - dy)) X Y = iter R s g (X - dx) (Y - dy) := by
  have h2 := congrFun (congrFun (iter_mv (R := R) (-dx) (-dy) s g) X) Y
  have e : (fun x y => g (-dx + x) (-dy + y)) = fun x y => g (x - dx) (y - dy) := by
    funext x y
    rw [show -dx + x = x - dx by omega, show -dy + y = y - dy by omega]
  rw [e] at h2
  rw [h2]
  show iter R s g (-dx + X) (-dy + Y) = _
  rw [show -dx + X = X - dx by omega, show -dy + Y = Y - dy by omega]
end Go.Proofs.YtofbcngcblleaaaGreat.A
