/- What plane.Shift answers. -/
import Derived.Test.YtofbcngcblleaabGreatQuCount
namespace Go.Proofs.YtofbcngcblleaabGreat.A
open Go.RowKit Go.Lib Go.Sort
def far2 (n : Int) : Bool := decide (n ≤ -2199023255552) || decide (2199023255552 ≤ n)
def mv (dx dy : Int) (p : Int × Int) : Int × Int := (p.1 + dx, p.2 + dy)
def shiftF (ys : List (Int × Int)) (tc dx dy : Int) : Int × List (Int × Int) :=
  if tc ≠ 0 then (tc, []) else if (far2 dx || far2 dy) = true then (3, []) else if (ys.map (mv dx dy)).any farP = true then (3, []) else (0, ys.map (mv dx dy))
set_option maxHeartbeats 400000 in
theorem nearer2_any (n : Int) (w : World) : Calls Tryz.prog 23 #[.int .i64 n, .int .i64 2199023255552] w fun e w' => e = .returned (.bool (!far2 n)) ∧ w' = w := by
  by_cases h1 : -2199023255552 < n
  · have hd : decide (-2199023255552 < n) = true := by simpa using h1
    go_enter Tryz.func23, Tryz.ntmps23
    go_wp2
    go_ret
    refine ⟨?_, rfl⟩
    congr 2
    simp only [far2]
    by_cases h2 : n < 2199023255552
    · simp [h2]; omega
    · simp [h2]; omega
  · have hd : decide (-2199023255552 < n) = false := by simpa using h1
    go_enter Tryz.func23, Tryz.ntmps23
    go_wp2
    go_ret
    refine ⟨?_, rfl⟩
    congr 2
    simp only [far2]
    simp; omega
def half (ys : List (Int × Int)) (dx dy : Int) (k : Nat) : List (Int × Int) := (ys.take k).map (mv dx dy) ++ ys.drop k
theorem half_length (ys : List (Int × Int)) (dx dy : Int) (k : Nat) : (half ys dx dy k).length = ys.length := by simp [half]; omega
theorem half_zero (ys : List (Int × Int)) (dx dy : Int) : half ys dx dy 0 = ys := by simp [half]
theorem half_all (ys : List (Int × Int)) (dx dy : Int) : half ys dx dy ys.length = ys.map (mv dx dy) := by simp [half]
theorem half_get (ys : List (Int × Int)) (dx dy : Int) (k : Nat) (h : k < ys.length) : (half ys dx dy k)[k]! = ys[k]! := by
  rw [getElem!_pos (half ys dx dy k) k (by rw [half_length]; exact h), getElem!_pos ys k h]
  unfold half
  rw [List.getElem_append_right (by simp; omega)]
  simp [Nat.min_eq_left (Nat.le_of_lt h)]
theorem half_succ (ys : List (Int × Int)) (dx dy : Int) (k : Nat) (h : k < ys.length) : (half ys dx dy k).toArray.setIfInBounds k (mv dx dy ys[k]!) = (half ys dx dy (k + 1)).toArray := by
  have h1 : ys.take (k + 1) = ys.take k ++ [ys[k]!] := by rw [List.take_succ_eq_append_getElem h, getElem!_pos ys k h]
  have h2 : ys.drop k = ys[k]! :: ys.drop (k + 1) := by rw [getElem!_pos ys k h]; exact List.drop_eq_getElem_cons h
  have hlen : ((ys.take k).map (mv dx dy)).length = k := by simp; omega
  rw [List.setIfInBounds_toArray]
  congr 1
  unfold half
  rw [List.set_append_right _ _ (by omega), hlen, Nat.sub_self, h2, h1, List.map_append, List.append_assoc]
  rfl
theorem bounds_of {ys : List (Int × Int)} (h : ys.any farP = false) {p : Int × Int} (hp : p ∈ ys) : -1099511627776 < p.1 ∧ p.1 < 1099511627776 ∧ -1099511627776 < p.2 ∧ p.2 < 1099511627776 := by
  have := List.any_eq_false.1 h p hp
  simp [farP, farI] at this
  omega
theorem far2_of {n : Int} (h : far2 n = false) : -2199023255552 < n ∧ n < 2199023255552 := by
  simp [far2] at h
  omega
theorem tidied_near {zs ys : List (Int × Int)} (h : Tidied zs ys) : ys.any farP = false := by
  rw [List.any_eq_false]
  intro p hp
  obtain ⟨h1, h2⟩ := (h.2 p).1 hp
  unfold tcode at h2
  by_cases c1 : 4096 < zs.length
  · rw [if_pos c1] at h2; omega
  · rw [if_neg c1] at h2
    by_cases c2 : zs.any farP = true
    · rw [if_pos c2] at h2; omega
    · have := List.any_eq_false.1 (by simpa using c2) p h1
      exact this
theorem len_le : ∀ {ys zs : List (Int × Int)}, ys.Nodup → (∀ p, p ∈ ys → p ∈ zs) → ys.length ≤ zs.length
  | [], _, _, _ => Nat.zero_le _
  | p :: r, zs, hn, hs => by
    have h1 := List.nodup_cons.1 hn
    have hp : p ∈ zs := hs p (by simp)
    have h2 : r.length ≤ (zs.erase p).length := len_le h1.2 fun q hq => by
      have hne : q ≠ p := fun e => h1.1 (by rw [← e]; exact hq)
      exact (List.mem_erase_of_ne hne).2 (hs q (by simp [hq]))
    have h3 := List.length_erase_of_mem hp
    have h4 : 0 < zs.length := List.length_pos_of_mem hp
    rw [List.length_cons]
    omega
theorem tidied_short {zs ys : List (Int × Int)} (h : Tidied zs ys) (hz : tcode zs = 0) : ys.length ≤ 4096 := by
  have h1 : ys.Nodup := by
    refine h.1.imp ?_
    intro a b hab e
    subst e
    exact ahead_irrefl a hab
  have h2 : ys.length ≤ zs.length := len_le h1 (fun p hp => ((h.2 p).1 hp).1)
  have h3 : zs.length ≤ 4096 := by
    unfold tcode at hz
    by_cases c1 : 4096 < zs.length
    · rw [if_pos c1] at hz; omega
    · omega
  omega
theorem holdsA_alloc {w : World} {b off : Nat} {d : Array (Int × Int)} (h : HoldsA w b off d) (o : Obj) (hb : b < w.heap.size) : HoldsA (w.alloc o) b off d := fun j hj => by
  have hbl : Below w.heap.size w (w.alloc o) := (Below.refl _ _).alloc (Nat.le_refl _) o
  rw [hbl.cell (p := ⟨b, off + j * 2, none⟩) hb, hbl.cell (p := ⟨b, off + j * 2 + 1, none⟩) hb, hbl.frozen (p := ⟨b, off + j * 2, none⟩) hb, hbl.frozen (p := ⟨b, off + j * 2 + 1, none⟩) hb]
  exact h j hj
def ShiftOut (zs : List (Int × Int)) (dx dy : Int) (w : World) (e : Ending) (w' : World) : Prop :=
  ∃ u ys, Tidied zs ys ∧ e = .returned (.tuple #[u, .int .i64 (shiftF ys (tcode zs) dx dy).1]) ∧ Below w.heap.size w w' ∧ ORow w' w.heap.size u (shiftF ys (tcode zs) dx dy).2
theorem shiftF_err {ys : List (Int × Int)} {tc dx dy : Int} (h : tc ≠ 0) : shiftF ys tc dx dy = (tc, []) := by rw [shiftF, if_pos h]
theorem shiftF_far {ys : List (Int × Int)} {dx dy : Int} (h : (far2 dx || far2 dy) = true) : shiftF ys 0 dx dy = (3, []) := by rw [shiftF, if_neg (by simp), if_pos h]
theorem shiftF_out {ys : List (Int × Int)} {dx dy : Int} (h : (far2 dx || far2 dy) = false) (k : (ys.map (mv dx dy)).any farP = true) : shiftF ys 0 dx dy = (3, []) := by rw [shiftF, if_neg (by simp), if_neg (by rw [h]; simp), if_pos k]
theorem shiftF_ok {ys : List (Int × Int)} {dx dy : Int} (h : (far2 dx || far2 dy) = false) (k : (ys.map (mv dx dy)).any farP = false) : shiftF ys 0 dx dy = (0, ys.map (mv dx dy)) := by rw [shiftF, if_neg (by simp), if_neg (by rw [h]; simp), if_neg (by rw [k]; simp)]
set_option maxHeartbeats 2000000 in
theorem shift_any (v : Value) (zs : List (Int × Int)) (dx dy : Int) (w : World) (h : Row w v zs) :
    Calls Tryz.prog 8 #[v, .int .i64 dx, .int .i64 dy] w fun e w' => ShiftOut zs dx dy w e w' := by
  have hdx := nearer2_any dx
  have hdy := nearer2_any dy
  have hT := tidy_told v zs w h
  clear h
  by_cases htc : tcode zs = 0
  · rw [htc] at hT
    cases hfx : far2 dx
    · rw [hfx] at hdx
      cases hfy : far2 dy
      · rw [hfy] at hdy
        have HF : Hid (far2 dx = false ∧ far2 dy = false) := ⟨hfx, hfy⟩
        have HC : Hid (tcode zs = 0) := htc
        clear hfx hfy htc
        go_enter Tryz.func8, Tryz.ntmps8
        go_wp2_with fail
        refine hT.mono ?_
        rintro e w1 ⟨u, ys, rfl, hb1, ht1, hr1⟩
        have HT1 : Hid (Tidied zs ys) := ht1
        have HF' : Hid ((far2 dx || far2 dy) = false) := by show _ = _; simp [HF.out.1, HF.out.2]
        rcases hr1 with ⟨rfl, rfl⟩ | ⟨hz, g, off, cap, rfl, hbg, hg, hlc, hcm, hH⟩
        · clear ht1
          go_wp2_with (first | (go_at_call_of 23 dx; refine (hdx _).mono ?_; rintro e w' ⟨rfl, rfl⟩) | (go_at_call_of 23 dy; refine (hdy _).mono ?_; rintro e w' ⟨rfl, rfl⟩))
          refine wp_loop_rounds 1 ?_
          rw [rounds_succ]
          go_wp2_with fail
          refine (contains_nil _ _).mono ?_
          rintro e w2 ⟨rfl, rfl⟩
          go_wp2_with fail
          go_ret2
          exact ⟨_, [], HT1.out, by rw [HC.out, shiftF_ok HF'.out rfl]; rfl, hb1, by rw [HC.out, shiftF_ok HF'.out rfl]; exact Or.inl ⟨rfl, rfl⟩⟩
        · have hnear := tidied_near ht1
          have hshort := tidied_short ht1 HC.out
          have bd := far2_of HF.out.1
          have bd' := far2_of HF.out.2
          obtain ⟨bx0, bx1⟩ := bd
          obtain ⟨by0, by1⟩ := bd'
          have HH : Hid (HoldsA w1 g off ys.toArray) := hH
          have HN : Hid (ys.any farP = false ∧ ys ≠ []) := ⟨hnear, hz⟩
          clear ht1 hH hnear hz
          unfold maxLen at hcm
          generalize hl : ys.length = n at *
          have HL : Hid (ys.length = n) := hl
          clear hl
          go_wp2_with (first | (go_at_call_of 23 dx; refine (hdx _).mono ?_; rintro e w' ⟨rfl, hw⟩; have hw2 := hw.symm; subst hw2; clear hw) | (go_at_call_of 23 dy; refine (hdy _).mono ?_; rintro e w' ⟨rfl, hw⟩; have hw2 := hw.symm; subst hw2; clear hw))
          go_loopg [30] n (fun gk s wr => ∃ k : Nat, k + gk = n ∧ s = .int .i64 k ∧ Below w.heap.size w wr ∧ w1.heap.size ≤ wr.heap.size ∧ HoldsA wr g off (half ys dx dy k).toArray)
          case atStart => exact ⟨0, by omega, rfl, hb1, Nat.le_refl _, by rw [half_zero]; exact HH.out⟩
          case round =>
            obtain ⟨k, hk, rfl, hbr, hszr, hHr⟩ := hrel
            have HK : Hid (k + gk = n) := hk
            have hkn : k ≤ n := by omega
            have HR : Hid (HoldsA wr g off (half ys dx dy k).toArray) := hHr
            clear hk
            by_cases hlt : k < n
            · obtain ⟨c0, c1, f0, f1⟩ := hHr k (by simp [half_length, HL.out]; exact hlt)
              rw [toArray_get, half_get ys dx dy k (by rw [HL.out]; exact hlt)] at c0 c1
              have hin : ys[k]! ∈ ys := by rw [getElem!_pos ys k (by rw [HL.out]; exact hlt)]; exact List.getElem_mem _
              obtain ⟨p0, p1, p2, p3⟩ := bounds_of HN.out.1 hin
              generalize hz : ys[k]! = z at *
              have HZ : Hid (ys[k]! = z) := hz
              clear hz hin hHr
              obtain ⟨x, y⟩ := z
              simp only at p0 p1 p2 p3 c0 c1
              have hgr : g < wr.heap.size := by omega
              go_wp2
              go_roundg (gk - 1)
              case measure => have := HK.out; omega
              case rel =>
                have h1 := HK.out
                refine ⟨k + 1, by omega, by go_num, ((hbr.setCell hbg _).setCell hbg _).alloc (by simp; have := hbr.size; omega) _, by simp; omega, ?_⟩
                have h2 := HR.out.set k (by simp [half_length, HL.out]; exact hlt) (mv dx dy ys[k]!)
                rw [half_succ ys dx dy k (by rw [HL.out]; exact hlt), HZ.out] at h2
                exact holdsA_alloc h2 _ (by simpa [World.setCell] using hgr)
            · have hke : k = n := by omega
              subst hke
              clear hHr
              have hall := HR.out
              rw [← HL.out, half_all] at hall
              have hor : ORow wr w.heap.size (.slice (some ⟨g, off, none⟩) k cap) (ys.map (mv dx dy)) := by
                refine Or.inr ⟨by simpa using HN.out.2, g, off, cap, by rw [List.length_map, HL.out], hbg, by omega, by rw [List.length_map, HL.out]; exact hlc, by unfold maxLen; omega, hall⟩
              have hcon := contains_any _ _ wr hor.read
              have HO : Hid (ORow wr w.heap.size (.slice (some ⟨g, off, none⟩) k cap) (ys.map (mv dx dy))) := hor
              clear hall hor
              cases hany : (ys.map (mv dx dy)).any farP
              · rw [hany] at hcon
                have HA : Hid ((ys.map (mv dx dy)).any farP = false) := hany
                clear hany
                go_wp2_with fail
                refine hcon.mono ?_
                rintro e w2 ⟨rfl, hb2⟩
                go_wp2_with fail
                go_ret2
                exact ⟨_, ys, HT1.out, by rw [HC.out, shiftF_ok HF'.out HA.out]; rfl, hbr.trans (hb2.mono hbr.size), by rw [HC.out, shiftF_ok HF'.out HA.out]; exact HO.out.below hb2⟩
              · rw [hany] at hcon
                have HA : Hid ((ys.map (mv dx dy)).any farP = true) := hany
                clear hany
                go_wp2_with fail
                refine hcon.mono ?_
                rintro e w2 ⟨rfl, hb2⟩
                go_wp2_with fail
                go_ret2
                exact ⟨_, ys, HT1.out, by rw [HC.out, shiftF_out HF'.out HA.out]; rfl, hbr.trans (hb2.mono hbr.size), by rw [HC.out, shiftF_out HF'.out HA.out]; exact Or.inl ⟨rfl, rfl⟩⟩
      · rw [hfy] at hdy
        have HF : Hid ((far2 dx || far2 dy) = true) := by show _ = _; simp [hfy]
        have HC : Hid (tcode zs = 0) := htc
        clear hfx hfy htc
        go_enter Tryz.func8, Tryz.ntmps8
        go_wp2_with fail
        refine hT.mono ?_
        rintro e w1 ⟨u, ys, rfl, hb1, ht1, hr1⟩
        go_wp2_with (first | (go_at_call_of 23 dx; refine (hdx _).mono ?_; rintro e w' ⟨rfl, rfl⟩) | (go_at_call_of 23 dy; refine (hdy _).mono ?_; rintro e w' ⟨rfl, rfl⟩))
        go_ret2
        exact ⟨_, ys, ht1, by rw [HC.out, shiftF_far HF.out]; rfl, hb1, by rw [HC.out, shiftF_far HF.out]; exact Or.inl ⟨rfl, rfl⟩⟩
    · rw [hfx] at hdx
      have HF : Hid ((far2 dx || far2 dy) = true) := by show _ = _; simp [hfx]
      have HC : Hid (tcode zs = 0) := htc
      clear hfx htc
      go_enter Tryz.func8, Tryz.ntmps8
      go_wp2_with fail
      refine hT.mono ?_
      rintro e w1 ⟨u, ys, rfl, hb1, ht1, hr1⟩
      go_wp2_with (first | (go_at_call_of 23 dx; refine (hdx _).mono ?_; rintro e w' ⟨rfl, rfl⟩))
      go_ret2
      exact ⟨_, ys, ht1, by rw [HC.out, shiftF_far HF.out]; rfl, hb1, by rw [HC.out, shiftF_far HF.out]; exact Or.inl ⟨rfl, rfl⟩⟩
  · have HC : Hid (tcode zs ≠ 0) := htc
    have hne : (tcode zs != 0) = true := by simpa using htc
    generalize hc : tcode zs = code at *
    have HE : Hid (tcode zs = code) := hc
    clear hc htc
    go_enter Tryz.func8, Tryz.ntmps8
    go_wp2_with fail
    refine hT.mono ?_
    rintro e w1 ⟨u, ys, rfl, hb1, ht1, hr1⟩
    go_wp2_with fail
    go_ret2
    exact ⟨_, ys, ht1, by rw [HE.out, shiftF_err HC.out]; rfl, hb1, by rw [HE.out, shiftF_err HC.out]; exact Or.inl ⟨rfl, rfl⟩⟩
end Go.Proofs.YtofbcngcblleaabGreat.A
