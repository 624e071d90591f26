/- What lifelodgeref.Shift answers. -/
import Derived.Test.YtoppncaidhlenaaShift
namespace Go.Proofs.Ytoppncaidhlenaa
open Go.RowKit Go.Lib Go.Sort

/-- what the document's Shift answers -/
def ShiftOutR (zs : List (Int × Int)) (dx dy : Int) (w : World) (e : Ending) (w' : World) : Prop :=
  ∃ u ys, Tidied zs ys ∧ e = .returned (.tuple #[u, .int .i64 (shiftF ys (tcode zs) dx dy).1]) ∧ Below w.heap.size w w' ∧ Row w' u (shiftF ys (tcode zs) dx dy).2

theorem far2_lo {n : Int} (h : far2 n = false) : decide (n ≤ -2199023255552) = false ∧ decide (2199023255552 ≤ n) = false := by
  simp only [far2, Bool.or_eq_false_iff] at h
  exact h
theorem far2_hi {n : Int} (h : far2 n = true) : decide (n ≤ -2199023255552) = true ∨ (decide (n ≤ -2199023255552) = false ∧ decide (2199023255552 ≤ n) = true) := by
  unfold far2 at h
  cases h1 : decide (n ≤ -2199023255552)
  · rw [h1, Bool.false_or] at h
    exact Or.inr ⟨rfl, h⟩
  · exact Or.inl rfl

theorem Kept.owns {w : World} {base : Nat} {v : Value} {ys : List (Int × Int)} (h : Kept w base v ys) : w.ownsRow base 28 2 v ys.length (cellsL ys) := by
  rcases h with ⟨rfl, rfl⟩ | ⟨_, h⟩
  · exact World.ownsRow_nil _ _ _ _
  · exact h
theorem two_second (w : World) (o : Obj) (a b : Value) (t : TypeId) : ∀ j u, [a, b][j]? = some u → ((w.alloc o).alloc (.cells #[a, b] t)).cell? ((⟨w.heap.size + 1, 0, none⟩ : Addr).add j) = some u := by
  intro j u hj
  rw [addP, World.cell?_alloc2_new, Nat.zero_add]
  simpa using hj
theorem any_map_of {ys : List (Int × Int)} {dx dy : Int} {k : Nat} (hk : k < ys.length) (h : farP (mv dx dy ys[k]!) = true) : (ys.map (mv dx dy)).any farP = true := by
  rw [List.any_eq_true]
  exact ⟨mv dx dy ys[k]!, List.mem_map.2 ⟨ys[k]!, by rw [getElem!_pos ys k hk]; exact List.getElem_mem hk, rfl⟩, h⟩

set_option maxHeartbeats 2000000 in
theorem refShift_any (v : Value) (zs : List (Int × Int)) (dx dy : Int) (w : World) (h : RRow w v zs) :
    Calls Try.prog 20 #[v, .int .i64 dx, .int .i64 dy] w fun e w' => ShiftOutR zs dx dy w e w' := by
  have hT := refTidy_told v zs w h
  clear h
  by_cases htc : tcode zs = 0
  · rw [htc] at hT
    have HC : Hid (tcode zs = 0) := htc
    clear htc
    cases hfx : far2 dx
    · cases hfy : far2 dy
      · obtain ⟨q1, q2⟩ := far2_lo hfx
        obtain ⟨q3, q4⟩ := far2_lo hfy
        have HF : Hid (far2 dx = false ∧ far2 dy = false) := ⟨hfx, hfy⟩
        clear hfx hfy
        go_enter Try.func20, Try.ntmps20
        go_wp2_with fail
        refine hT.mono ?_
        rintro e w1 ⟨u, ys, rfl, hb1, ht1, hr1⟩
        have HT1 : Hid (Tidied zs ys) := ht1
        have HF' : Hid ((far2 dx || far2 dy) = false) := by show _ = _; simp [HF.out.1, HF.out.2]
        rcases hr1 with ⟨rfl, rfl⟩ | ⟨hz, b, off, cap, rfl, hb, hlc, hcm, hH⟩
        · clear ht1
          go_wp2_with fail
          refine wp_loop_rounds 3 ?_
          rw [rounds_succ]
          go_wp2_with fail
          rw [rounds_succ]
          go_wp2_with fail
          rw [rounds_succ]
          go_wp2_with fail
          refine wp_loop_rounds 1 ?_
          rw [rounds_succ]
          go_wp2_with fail
          go_ret2
          exact ⟨_, [], HT1.out, by rw [HC.out, shiftF_ok HF'.out rfl]; rfl, hb1.alloc hb1.size _, by rw [HC.out, shiftF_ok HF'.out rfl]; exact Or.inl ⟨rfl, rfl⟩⟩
        · have hnear := tidied_near ht1
          have hshort := tidied_short ht1 HC.out
          obtain ⟨bx0, bx1⟩ := far2_of HF.out.1
          obtain ⟨by0, by1⟩ := far2_of HF.out.2
          have HH : Hid (HoldsR w1 b off ys) := hH
          have HN : Hid (ys.any farP = false ∧ ys ≠ []) := ⟨hnear, hz⟩
          clear ht1 hH hnear hz
          unfold maxLen at hcm
          generalize hl : ys.length = n at *
          have HL : Hid (ys.length = n) := hl
          clear hl
          obtain ⟨i0, hi, hz0, hz1, hz2⟩ := info_parts Try.info28
          go_wp2_with fail
          refine wp_loop_rounds 3 ?_
          rw [rounds_succ]
          go_wp2_with fail
          rw [rounds_succ]
          go_wp2_with fail
          rw [rounds_succ]
          go_wp2_with fail
          go_loopg [12, 40] n (fun gk s12 s40 wr => ∃ k : Nat, k + gk = n ∧ s40 = .int .i64 k ∧ Below w1.heap.size w1 wr ∧ Kept wr w1.heap.size s12 ((ys.take k).map (mv dx dy)) ∧ ∀ j, j < k → farP (mv dx dy ys[j]!) = false)
          case atStart => exact ⟨0, by omega, rfl, (Below.refl _ _).alloc (Nat.le_refl _) _, Or.inl ⟨by simp, rfl⟩, fun j hj => by omega⟩
          case round =>
            obtain ⟨k, hk, rfl, hbr, hkept, hfar⟩ := hrel
            have HK : Hid (k + gk = n) := hk
            have hkn : k ≤ n := by omega
            have HP : Hid (Kept wr w1.heap.size u12 ((ys.take k).map (mv dx dy)) ∧ ∀ j, j < k → farP (mv dx dy ys[j]!) = false) := ⟨hkept, hfar⟩
            have hsz := hbr.size
            clear hk hkept hfar
            by_cases hlt : k < n
            · obtain ⟨c0, c1⟩ := HH.out k (by rw [HL.out]; exact hlt)
              rw [← hbr.cell (p := ⟨b, off + k * 2, none⟩) hb] at c0
              rw [← hbr.cell (p := ⟨b, off + k * 2 + 1, none⟩) hb] at c1
              have hin : ys[k]! ∈ ys := by rw [getElem!_pos ys k (by rw [HL.out]; exact hlt)]; exact List.getElem_mem _
              obtain ⟨p0, p1, p2, p3⟩ := bounds_of HN.out.1 hin
              generalize hz : ys[k]! = z at *
              have HZ : Hid (ys[k]! = z) := hz
              clear hz hin
              obtain ⟨x, y⟩ := z
              simp only at p0 p1 p2 p3 c0 c1
              have hcx := far_any (x + dx)
              have hcy := far_any (y + dy)
              cases hx : farI (x + dx)
              · rw [hx] at hcx
                cases hy : farI (y + dy)
                · rw [hy] at hcy
                  have HXY : Hid (farI (x + dx) = false ∧ farI (y + dy) = false) := ⟨hx, hy⟩
                  clear hx hy
                  go_wp2_with fail
                  refine (hcx _).mono ?_
                  rintro e w' ⟨rfl, hw⟩
                  subst hw
                  go_wp2_with fail
                  refine (hcy _).mono ?_
                  rintro e w' ⟨rfl, hw⟩
                  subst hw
                  have OW : Hid (∀ o o', ((wr.alloc o).alloc o').ownsRow w1.heap.size 28 2 u12 k (cellsL ((ys.take k).map (mv dx dy)))) := fun o o' => by
                    have := HP.out.1.owns
                    rw [List.length_map, List.length_take, HL.out, Nat.min_eq_left hkn] at this
                    exact (this.alloc o).alloc o'
                  go_wp2_with (at_builtin; refine wpList_append_own _ rfl _ _ 22 rfl w1.heap.size 28 i0 (.agg #[.int .i64 0, .int .i64 0]) 2 16 Try.underlying22 hi hz0 hz1 hz2 rfl (by decide) u12 k (cellsL ((ys.take k).map (mv dx dy))) rfl (by exact OW.out _ _) ⟨wr.heap.size + 1, 0, none⟩ 1 1 [.int .i64 (x + dx), .int .i64 (y + dy)] rfl rfl (by exact two_second _ _ _ _ _) (by intro u hu; simp at hu; rcases hu with rfl | rfl <;> rfl) (by unfold maxLen; omega) (by omega) (by simp; omega) ?_; intro v' w2 hown2 hgrow hnil2)
                  go_roundg (gk - 1)
                  case measure => have := HK.out; omega
                  case rel =>
                    have h1 := HK.out
                    have hts : (ys.take (k + 1)).map (mv dx dy) = (ys.take k).map (mv dx dy) ++ [(x + dx, y + dy)] := by
                      rw [List.take_succ_eq_append_getElem (by rw [HL.out]; exact hlt), List.map_append, ← getElem!_pos ys k, HZ.out]
                      rfl
                    refine ⟨k + 1, by omega, by go_num, ((hbr.alloc hsz _).alloc (by simp; omega) _).grown hgrow (by simp; omega) (fun g hg => ((OW.out (.cells #[] 0) (.cells #[] 0)).lt g hg).1), Or.inr ⟨by rw [hts]; simp, ?_⟩, fun j hj => ?_⟩
                    · rw [hts, cellsL_append, List.length_append, List.length_map, List.length_take, HL.out, Nat.min_eq_left hkn]
                      exact hown2
                    · by_cases e : j = k
                      · rw [e, HZ.out]; simp [farP, mv, HXY.out.1, HXY.out.2]
                      · exact HP.out.2 j (by omega)
                · rw [hy] at hcy
                  have HXY : Hid (farI (y + dy) = true) := hy
                  clear hx hy
                  go_wp2_with fail
                  refine (hcx _).mono ?_
                  rintro e w' ⟨rfl, hw⟩
                  subst hw
                  go_wp2_with fail
                  refine (hcy _).mono ?_
                  rintro e w' ⟨rfl, hw⟩
                  subst hw
                  go_wp2_with fail
                  go_ret2
                  have hany : (ys.map (mv dx dy)).any farP = true := any_map_of (k := k) (by rw [HL.out]; exact hlt) (by rw [HZ.out]; simp [farP, mv, HXY.out])
                  exact ⟨_, ys, HT1.out, by rw [HC.out, shiftF_out HF'.out hany]; rfl, hb1.trans ((hbr.alloc hsz _).mono hb1.size), by rw [HC.out, shiftF_out HF'.out hany]; exact Or.inl ⟨rfl, rfl⟩⟩
              · rw [hx] at hcx
                have HXY : Hid (farI (x + dx) = true) := hx
                clear hx
                go_wp2_with fail
                refine (hcx _).mono ?_
                rintro e w' ⟨rfl, hw⟩
                subst hw
                go_wp2_with fail
                go_ret2
                have hany : (ys.map (mv dx dy)).any farP = true := any_map_of (k := k) (by rw [HL.out]; exact hlt) (by rw [HZ.out]; simp [farP, mv, HXY.out])
                exact ⟨_, ys, HT1.out, by rw [HC.out, shiftF_out HF'.out hany]; rfl, hb1.trans ((hbr.alloc hsz _).mono hb1.size), by rw [HC.out, shiftF_out HF'.out hany]; exact Or.inl ⟨rfl, rfl⟩⟩
            · have hke : k = n := by omega
              subst hke
              go_wp2_with fail
              go_ret2
              have hall : (ys.map (mv dx dy)).any farP = false := by
                rw [List.any_eq_false]
                intro p hp
                obtain ⟨r, hr, rfl⟩ := List.mem_map.1 hp
                obtain ⟨j, hj, e⟩ := List.getElem_of_mem hr
                have := HP.out.2 j (by rw [← HL.out]; exact hj)
                rw [getElem!_pos ys j hj, e] at this
                simp [this]
              have hkp := HP.out.1
              rw [← HL.out, List.take_length] at hkp
              exact ⟨_, ys, HT1.out, by rw [HC.out, shiftF_ok HF'.out hall]; rfl, hb1.trans (hbr.mono hb1.size), by rw [HC.out, shiftF_ok HF'.out hall]; exact hkp.row⟩
      · have HF : Hid ((far2 dx || far2 dy) = true) := by show _ = _; simp [hfy]
        obtain ⟨q1, q2⟩ := far2_lo hfx
        rcases far2_hi hfy with q3 | ⟨q3, q4⟩
        all_goals
          clear hfx hfy
          go_enter Try.func20, Try.ntmps20
          go_wp2_with fail
          refine hT.mono ?_
          rintro e w1 ⟨u, ys, rfl, hb1, ht1, hr1⟩
          go_wp2_with fail
          refine wp_loop_rounds 2 ?_
          rw [rounds_succ]
          go_wp2_with fail
          rw [rounds_succ]
          go_wp2_with fail
          go_ret2
          exact ⟨_, ys, ht1, by rw [HC.out, shiftF_far HF.out]; rfl, hb1.alloc hb1.size _, by rw [HC.out, shiftF_far HF.out]; exact Or.inl ⟨rfl, rfl⟩⟩
    · have HF : Hid ((far2 dx || far2 dy) = true) := by show _ = _; simp [hfx]
      rcases far2_hi hfx with q3 | ⟨q3, q4⟩
      all_goals
        clear hfx
        go_enter Try.func20, Try.ntmps20
        go_wp2_with fail
        refine hT.mono ?_
        rintro e w1 ⟨u, ys, rfl, hb1, ht1, hr1⟩
        go_wp2_with fail
        refine wp_loop_rounds 1 ?_
        rw [rounds_succ]
        go_wp2_with fail
        go_ret2
        exact ⟨_, ys, ht1, by rw [HC.out, shiftF_far HF.out]; rfl, hb1.alloc hb1.size _, by rw [HC.out, shiftF_far HF.out]; exact Or.inl ⟨rfl, rfl⟩⟩
  · have HC : Hid (tcode zs ≠ 0) := htc
    have hne : (tcode zs != 0) = true := by simpa using htc
    generalize hc : tcode zs = code at *
    have HE : Hid (tcode zs = code) := hc
    clear hc htc
    go_enter Try.func20, Try.ntmps20
    go_wp2_with fail
    refine hT.mono ?_
    rintro e w1 ⟨u, ys, rfl, hb1, ht1, hr1⟩
    go_wp2_with fail
    go_ret2
    exact ⟨_, ys, ht1, by rw [HE.out, shiftF_err HC.out]; rfl, hb1, by rw [HE.out, shiftF_err HC.out]; exact Or.inl ⟨rfl, rfl⟩⟩
end Go.Proofs.Ytoppncaidhlenaa
