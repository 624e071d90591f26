/- The plain store: give. -/
import Derived.Test.YtfogedmghhacdaaRsGiveB
namespace Go.Proofs.Ytfogedmghhacdaa.A
open Go.RowKit

def GiveOut (w : World) (b : Nat) (G : Nat → Prop) (R : St × Int × Int) (e : Ending) (w' : World) : Prop := e = .returned (.tuple #[.int .i64 R.2.1, .int .i64 R.2.2]) ∧ LedS w b G R.1 w'
set_option maxRecDepth 20000 in
set_option maxHeartbeats 40000000 in
theorem giveS_any (b t m : Nat) (G : Nat → Prop) (S : St) (x : Rt) (w : World) (h : StAt w b G S) (hT : Tame S) (ht : t < 64) (hx0 : x.id = 0 ∧ x.mask = 0) (hO : OneKey S.ths) (hsl : (S.since t).length < 900000)
    (hm1 : ∀ j, j < m → ∃ y, S.made.ths[j]? = some y ∧ y.id = 2 + j) (hm2 : ∀ (j : Nat) y, m ≤ j → S.made.ths[j]? = some y → (2 + m : Int) < y.id) :
    Calls Try.prog 52 #[.pointer (some ⟨b, 0, none⟩), .int .i64 t, x.val] w fun e w' => GiveOut w b G (giveR S t x m) e w' := by
  obtain ⟨r, h⟩ := h
  have hb0 : Below w.heap.size w (w.alloc (.cells #[.int .i64 x.id, .int .i64 x.k, .int .i64 x.lv, .int .i64 x.va, .int .i64 x.p0, .int .i64 x.p1, .int .i64 x.p2, .int .i64 x.p3, .int .u64 x.mask] 84)) := (Below.refl _ _).alloc (Nat.le_refl _) _
  have hA : (w.alloc (.cells #[.int .i64 x.id, .int .i64 x.k, .int .i64 x.lv, .int .i64 x.va, .int .i64 x.p0, .int .i64 x.p1, .int .i64 x.p2, .int .i64 x.p3, .int .u64 x.mask] 84)).heap[w.heap.size]? = some (.cells #[.int .i64 x.id, .int .i64 x.k, .int .i64 x.lv, .int .i64 x.va, .int .i64 x.p0, .int .i64 x.p1, .int .i64 x.p2, .int .i64 x.p3, .int .u64 x.mask] 84 (0, 0)) := heap_alloc_new w _
  have c1 := h.raw.at 1 (by omega)
  rw [Sr.c1] at c1
  obtain ⟨a, c, hv⟩ := h.ths.shape
  rw [hv] at c1
  have HH : Hid (StRaw w b G S r) := h
  have HV : Hid (r.vth = .slice a S.ths.length c) := hv
  have HT : Hid (Tame S) := hT
  have HO : Hid (OneKey S.ths) := hO
  have HX0 : Hid (x.id = 0 ∧ x.mask = 0) := hx0
  have HM : Hid ((∀ j, j < m → ∃ y, S.made.ths[j]? = some y ∧ y.id = 2 + j) ∧ (∀ (j : Nat) y, m ≤ j → S.made.ths[j]? = some y → (2 + m : Int) < y.id)) := ⟨hm1, hm2⟩
  obtain ⟨n, hn⟩ : ∃ n, n = S.ths.length := ⟨_, rfl⟩
  rw [← hn] at c1
  have HN : Hid (n = S.ths.length) := hn
  have hnb : n < 900000 := by rw [hn]; exact hT.len
  have HSL : Hid ((S.since t).length < 900000) := hsl
  have HBL : Hid (b < w.heap.size) := h.raw.lt
  have hblt := h.raw.lt
  clear hn h hv hT hO hm1 hm2 hx0 hsl
  unfold Rt.val
  go_enter Try.func52, Try.ntmps52
  go_wp2_with fail
  generalize w.alloc (.cells #[.int .i64 x.id, .int .i64 x.k, .int .i64 x.lv, .int .i64 x.va, .int .i64 x.p0, .int .i64 x.p1, .int .i64 x.p2, .int .i64 x.p3, .int .u64 x.mask] 84) = W0 at *
  have HA : Hid (W0.heap[w.heap.size]? = some (.cells #[.int .i64 x.id, .int .i64 x.k, .int .i64 x.lv, .int .i64 x.va, .int .i64 x.p0, .int .i64 x.p1, .int .i64 x.p2, .int .i64 x.p3, .int .u64 x.mask] 84 (0, 0))) := hA
  have HB0 : Hid (Below w.heap.size w W0 ∧ w.heap.size < W0.heap.size) := ⟨hb0, (Array.getElem?_eq_some_iff.1 hA).1⟩
  have c1' := (hb0.cell (p := ⟨b, 1, none⟩) HBL.out).trans c1
  clear hA hb0 c1 hblt
  go_loopg [16, 8] n (fun gh s16 s8 wr => ∃ i : Nat, i + gh = n ∧ s16 = .int .i64 i ∧ s8 = ptrOf r.vth (haveTo S.ths x i) ∧ Below W0.heap.size W0 wr)
  case atStart => exact ⟨0, by omega, rfl, by rw [haveTo_zero]; rfl, Below.refl _ _⟩
  case round =>
    obtain ⟨i, hig, rfl, rfl, hbr⟩ := hrel
    have HIG : Hid (i + gk = n) := hig
    have HBR : Hid (Below W0.heap.size W0 wr) := hbr
    clear hig
    by_cases hlt : i < n
    · as_aux_lemma =>
        obtain ⟨y, hy⟩ : ∃ y, S.ths[i]? = some y := ⟨_, List.getElem?_eq_getElem (by rw [← HN.out]; exact hlt)⟩
        obtain ⟨g, c', hg, hgl, hcs⟩ := HH.out.elem hy
        have hgv := HV.out
        rw [hg] at hgv
        simp only [Value.slice.injEq] at hgv
        obtain ⟨rfl, _, _⟩ := hgv
        obtain ⟨_, d1, _, _, d4, d5, d6, d7, _⟩ := hcs
        have kc := fun j => (hbr.cell (p := ⟨g, j, none⟩) (Nat.lt_of_lt_of_le hgl HB0.out.1.size)).trans (HB0.out.1.cell (p := ⟨g, j, none⟩) hgl)
        have d1 := (kc _).trans d1
        have d4 := (kc _).trans d4
        have d5 := (kc _).trans d5
        have d6 := (kc _).trans d6
        have d7 := (kc _).trans d7
        have cb := (hbr.cell (p := ⟨b, 1, none⟩) (Nat.lt_of_lt_of_le HBL.out HB0.out.1.size)).trans c1'
        have hA2 := (hbr.block w.heap.size HB0.out.2).trans HA.out
        have e1 : wr.cell? ⟨w.heap.size, 1, none⟩ = some (.int .i64 x.k) := Lib.cell_of_heap hA2 1
        have e4 : wr.cell? ⟨w.heap.size, 4, none⟩ = some (.int .i64 x.p0) := Lib.cell_of_heap hA2 4
        have e5 : wr.cell? ⟨w.heap.size, 5, none⟩ = some (.int .i64 x.p1) := Lib.cell_of_heap hA2 5
        have e6 : wr.cell? ⟨w.heap.size, 6, none⟩ = some (.int .i64 x.p2) := Lib.cell_of_heap hA2 6
        have e7 : wr.cell? ⟨w.heap.size, 7, none⟩ = some (.int .i64 x.p3) := Lib.cell_of_heap hA2 7
        have k0 : (0 : Int) ≤ (i : Int) := by omega
        have k1 : (i : Int) < (n : Int) := by omega
        have hq := fun W => four_eq y.p0 y.p1 y.p2 y.p3 x.p0 x.p1 x.p2 x.p3 W
        have HY : Hid (S.ths[i]? = some y) := hy
        have HG : Hid (r.vth = .slice (some ⟨g, 0, none⟩) S.ths.length c') := hg
        clear kc hy hg hbr hA2
        by_cases hk : y.k = x.k
        · by_cases hp : y.p0 = x.p0 ∧ y.p1 = x.p1 ∧ y.p2 = x.p2 ∧ y.p3 = x.p3
          · have HS : Hid (y.same x) := ⟨hk, hp⟩
            rw [decide_eq_true hp] at hq
            clear hp
            have HK : Hid (y.k = x.k) := hk
            clear hk
            go_wp2_with fail
            have hk' : (y.k == x.k) = true := by simpa using HK.out
            go_quiet (fail)
            go_wp2_with fail
            go_roundg (gk - 1)
            case measure => have := HIG.out; omega
            case rel => exact ⟨i + 1, by have := HIG.out; omega, by go_num, by rw [haveTo_yes HO.out HY.out HS.out, HG.out]; rfl, bel_drewN HBR.out _⟩
          · have HS : Hid (¬ y.same x) := fun e => hp e.2
            rw [decide_eq_false hp] at hq
            clear hp
            have HK : Hid (y.k = x.k) := hk
            clear hk
            go_wp2_with fail
            have hk' : (y.k == x.k) = true := by simpa using HK.out
            go_quiet (fail)
            go_wp2_with fail
            go_roundg (gk - 1)
            case measure => have := HIG.out; omega
            case rel => exact ⟨i + 1, by have := HIG.out; omega, by go_num, by rw [haveTo_no HY.out HS.out], bel_drewN HBR.out _⟩
        · have HS : Hid (¬ y.same x) := fun e => hk e.1
          have HK : Hid (¬ y.k = x.k) := hk
          clear hk hq
          go_wp2_with fail
          have hk' : (y.k == x.k) = false := by simpa using HK.out
          go_quiet (fail)
          go_wp2_with fail
          go_roundg (gk - 1)
          case measure => have := HIG.out; omega
          case rel => exact ⟨i + 1, by have := HIG.out; omega, by go_num, by rw [haveTo_no HY.out HS.out], bel_drewN HBR.out _⟩
    · have k1 : ¬ (i : Int) < (n : Int) := by omega
      have hall : haveTo S.ths x i = haveF S.ths x := haveTo_all (by rw [← HN.out]; omega)
      rw [hall]
      have hbw : Below w.heap.size w wr := HB0.out.1.trans (hbr.mono HB0.out.1.size)
      have HG0 : Hid (GvSt w b G S r G wr) := (GvSt.start HH.out).below hbw
      have HA2 : Hid (wr.heap[w.heap.size]? = some (.cells #[.int .i64 x.id, .int .i64 x.k, .int .i64 x.lv, .int .i64 x.va, .int .i64 x.p0, .int .i64 x.p1, .int .i64 x.p2, .int .i64 x.p3, .int .u64 x.mask] 84 (0, 0))) := (hbr.block w.heap.size HB0.out.2).trans HA.out
      have cq := HG0.out.raw.raw.at (2 + t) (by omega)
      rw [Sr.cq _ ht, HG0.out.raw.quota t ht] at cq
      have hcnt := countS_any b t G S wr.drew ⟨r, HG0.out.raw.below (Below.refl _ _).drew⟩ HT.out ht
      have t0 : (0 : Int) ≤ (t : Int) := by omega
      have t1 : (t : Int) < 64 := by omega
      have HKC : Hid (∀ W', Below wr.drew.heap.size wr.drew W' → W'.cell? ⟨b, 2 + t, none⟩ = some (.int .i64 (S.quota t))) := fun W' hb' => by
        have hb2 : Below wr.heap.size wr W' := (Below.refl _ _).drew.trans hb'
        exact (hb2.cell (p := ⟨b, 2 + t, none⟩) HG0.out.raw.raw.lt).trans cq
      generalize hcn : (ownS S.ths t : Int) = cn at hcnt
      have HCN : Hid ((ownS S.ths t : Int) = cn) := hcn
      clear hcn hall hbw hbr c1'
      cases hF : haveF S.ths x with
      | some i0 =>
        obtain ⟨y, hy, hys⟩ := haveF_at hF
        have HR0 : Hid (giveR S t x m = if y.mask.testBit t = true then (S, y.id, 0) else if S.quota t ≤ (ownS S.ths t : Int) then (S, 0, 9) else (S.put (S.ths.set i0 { y with mask := y.mask ||| 2 ^ t }) t y.id, y.id, 0)) := show _ = _ by
          unfold giveR
          rw [hF]
          simp only
          rw [hy]
        obtain ⟨g, c', hg, hgl, hcs⟩ := HG0.out.raw.elem hy
        obtain ⟨d0, _, _, _, _, _, _, _, d8⟩ := hcs
        have hfz : wr.frozen? ⟨g, i0 * 9 + 8, none⟩ = false := by
          have h2 := HG0.out.raw.ths
          rw [hg] at h2
          exact h2.frozenAt (i0 * 9 + 8)
        have hmx : y.mask < 18446744073709551616 := HT.out.mask y (List.mem_of_getElem? hy)
        have HY : Hid (S.ths[i0]? = some y) := hy
        have HG : Hid (r.vth = .slice (some ⟨g, 0, none⟩) S.ths.length c') := hg
        have hp : ptrOf r.vth (some i0) = .pointer (some ⟨g, i0 * 9, none⟩) := by rw [hg]; rfl
        rw [hp]
        have hbo := bit_one y.mask t
        clear hp hy hys hF hg HV
        cases hb : y.mask.testBit t with
        | true =>
          rw [hb] at hbo HR0
          clear hb hcnt
          have HR : Hid (giveR S t x m = (S, y.id, 0)) := HR0.out.trans (if_pos rfl)
          go_wp2_with fail
          go_ret2
          unfold GiveOut
          rw [HR.out]
          exact ⟨rfl, HG0.out.out⟩
        | false =>
          rw [hb] at hbo HR0
          have HR1 : Hid (giveR S t x m = if S.quota t ≤ cn then (S, 0, 9) else (S.put (S.ths.set i0 { y with mask := y.mask ||| 2 ^ t }) t y.id, y.id, 0)) := HR0.out.trans (by rw [if_neg (by decide), HCN.out])
          clear hb HR0
          go_wp2_with fail
          go_region_held3 (fun w' => w'.cell? ⟨b, 2 + t, none⟩ = some (.int .i64 (S.quota t))) (first | exact cq | exact HKC.out _ hbl) ((go_at_call 38; refine hcnt.mono ?_; rintro e w6 ⟨rfl, hbl⟩))
          all_goals
            have hb6 : Below wr.heap.size wr w6 := (Below.refl _ _).drew.trans hbl
            have HG6 : Hid (GvSt w b G S r G w6) := HG0.out.below hb6
            by_cases hq : S.quota t ≤ cn
            · have HR : Hid (giveR S t x m = (S, 0, 9)) := HR1.out.trans (if_pos hq)
              clear hbl hb6 hcnt
              go_wp2_with fail
              go_ret2
              unfold GiveOut
              rw [HR.out]
              exact ⟨rfl, HG6.out.out⟩
            · have HR : Hid (giveR S t x m = (S.put (S.ths.set i0 { y with mask := y.mask ||| 2 ^ t }) t y.id, y.id, 0)) := HR1.out.trans (if_neg hq)
              have hq' : ¬ S.quota t ≤ cn := hq
              have g0 := (hb6.cell (p := ⟨g, i0 * 9, none⟩) hgl).trans d0
              have g8 := (hb6.cell (p := ⟨g, i0 * 9 + 8, none⟩) hgl).trans d8
              have gz := (World.frozen?_of_block (w := wr) (a := ⟨g, i0 * 9 + 8, none⟩) (hb6.block g hgl)).trans hfz
              have HOR : Hid (bits .or .u64 (y.mask : Int) (IntKind.u64.wrap ((2 : Int) ^ t)) = ((y.mask ||| 2 ^ t : Nat) : Int)) := or_bit y.mask t ht hmx
              have HG7 : Hid (GvSt w b G { S with ths := S.ths.set i0 { y with mask := y.mask ||| 2 ^ t } } r G (w6.setCell ⟨g, i0 * 9 + 8, none⟩ (.int .u64 ((y.mask ||| 2 ^ t : Nat) : Int)))) := HG6.out.mask HG.out HY.out _
              have HID7 : Hid ((w6.setCell ⟨g, i0 * 9 + 8, none⟩ (.int .u64 ((y.mask ||| 2 ^ t : Nat) : Int))).cell? ⟨g, i0 * 9, none⟩ = some (.int .i64 y.id)) := by
                have hy7 : (S.ths.set i0 { y with mask := y.mask ||| 2 ^ t })[i0]? = some { y with mask := y.mask ||| 2 ^ t } := by
                  rw [List.getElem?_set_self (List.getElem?_eq_some_iff.1 HY.out).1]
                obtain ⟨g', c'', hg', _, hcs⟩ := HG7.out.raw.elem hy7
                have : g' = g := by
                  rw [HG.out] at hg'
                  simp only [Value.slice.injEq, Option.some.injEq, Addr.mk.injEq] at hg'
                  exact hg'.1.1.symm
                subst this
                exact hcs.1
              have HGB : Hid (g ≠ b) := fun e => HH.out.vb (by rw [HG.out, e]; rfl)
              clear hbl hb6 hcnt hq d0 d8 hfz
              go_wp2_with fail
              rw [HOR.out]
              generalize w6.setCell ⟨g, i0 * 9 + 8, none⟩ (.int .u64 ((y.mask ||| 2 ^ t : Nat) : Int)) = W7 at *
              have cs := HG7.out.raw.raw.at (66 + t) (by omega)
              rw [Sr.cs] at cs
              have fs := HG7.out.raw.raw.frozen (66 + t)
              have hid7 := HID7.out
              have hrow := HG7.out.raw.since t ht
              simp only at hrow
              have hblt7 := HG7.out.raw.raw.lt
              have hglt7 := cell_in hid7
              have hbs := HG7.out.raw.tb ht
              have hgs : (r.since t).ownBlock ≠ some g := HG7.out.raw.vt ht (by rw [HG.out]; rfl)
              have hgb := HGB.out
              have hbg : b ≠ g := fun e => hgb e.symm
              obtain ⟨v, hv⟩ : ∃ v, v = r.since t := ⟨_, rfl⟩
              rw [← hv] at cs hrow hbs hgs
              have HVS : Hid (v = r.since t) := hv
              obtain ⟨ln, hln⟩ : ∃ ln, ln = (S.since t).length := ⟨_, rfl⟩
              have HLN : Hid (ln = (S.since t).length) := hln
              have hlb : ln < 900000 := by rw [hln]; exact HSL.out
              have hrow2 : W7.ownsRow 0 3 1 v ln ((S.since t).map (Value.int .i64)) := by rw [hln]; exact hrow
              obtain ⟨i9, hi, hz0, hz1, hz2⟩ := info_parts Try.info3
              have OW : Hid (∀ o, (W7.alloc o).drew.ownsRow 0 3 1 v ln ((S.since t).map (Value.int .i64))) := fun o => World.ownsRow.alloc hrow2 o
              have HPU : Hid (∀ (g7 cap7 : Nat) (w7 : World) (o : Obj), w7.ownsRow 0 3 1 (.slice (some ⟨g7, 0, none⟩) (ln + 1) cap7) (ln + 1) ((S.since t).map (Value.int .i64) ++ [.int .i64 y.id]) → (W7.alloc o).drew.grownBy w7 v.ownBlock → (v.ownBlock = some g7 ∨ g7 = (W7.alloc o).drew.heap.size) → g7 < w7.heap.size →
                  LedS w b G (giveR S t x m).1 (w7.setCell ⟨b, 66 + t, none⟩ (.slice (some ⟨g7, 0, none⟩) (ln + 1) cap7))) := fun g7 cap7 w7 o h1 h2 h3 h4 => by
                have e1 := HLN.out
                have e2 := HVS.out
                subst e1 e2
                rw [HR.out]
                exact HG7.out.since (t := t) ht rfl h2 h3 h1 h4
              clear hv hln hrow hrow2 HG7 HH HT HO HX0 HM HN HSL HBL HG0 HG6 HA2 HKC HY HG hmx hbo cq HOR HID7 HGB HVS HLN HCN HR1 g0 g8 gz HA HB0 HIG HBR hq' hnb k1
              go_region_law (refine step_append_lies _ (by rfl) _ _ 31 (by rfl) 0 3 i9 (.int .i64 0) 1 8 Try.underlying31 hi hz0 hz1 hz2 rfl (by decide) v ln ((S.since t).map (Value.int .i64)) (by rfl) (OW.out _) ⟨W7.heap.size, 0, none⟩ 1 1 [.int .i64 y.id] (by rfl) rfl (cell_one_new _ _ _) (by intro u hu; simp at hu; subst hu; rfl) (by omega) (by unfold maxLen; omega) (by omega) (by omega) _ rfl ?_; intro g7 cap7 w7 hown7 hgrow7 hat7 hlt7; have bb := grown_blk hgrow7 hblt7 hbs; have bg := grown_blk hgrow7 hglt7 hgs; have q4 := (World.cell?_of_block (w := W7) (a := ⟨b, 66 + t, none⟩) bb).trans cs; have q5 := (World.frozen?_of_block (w := W7) (a := ⟨b, 66 + t, none⟩) bb).trans fs; have q6 := (World.cell?_of_block (w := W7) (a := ⟨g, i0 * 9, none⟩) bg).trans hid7)
              all_goals
                have HR9 : Hid _ := HPU.out _ _ _ _ hown7 hgrow7 hat7 hlt7
                clear hown7 hgrow7 hat7 bb bg q4 q5
                go_wp2_with fail
                go_ret2
                unfold GiveOut
                refine ⟨?_, HR9.out⟩
                rw [HR.out]
                rfl
      | none =>
        have HR0 : Hid (giveR S t x m = if S.quota t ≤ cn then (S, 0, 9) else if S.made.room ≤ (S.made.ths.length : Int) then (S.made, 0, 5) else (S.made.put (insL S.made.ths m (x.set0 m t)) t (2 + (m : Int)), 2 + (m : Int), 0)) := show _ = _ by
          unfold giveR
          rw [hF, HCN.out]
        have HNG : Hid (¬ G w.heap.size) := fun hg => by have := HH.out.flt _ hg; omega
        simp only [ptrOf]
        clear hF HV
        go_wp2_with fail
        go_region_held3 (fun w' => w'.cell? ⟨b, 2 + t, none⟩ = some (.int .i64 (S.quota t))) (first | exact cq | exact HKC.out _ hbl) ((go_at_call 38; refine hcnt.mono ?_; rintro e w6 ⟨rfl, hbl⟩))
        all_goals
          have hb6 : Below wr.heap.size wr w6 := (Below.refl _ _).drew.trans hbl
          have HB6 : Hid (Bx w b G S r G x x.id w6) := (show Bx w b G S r G x x.id wr from ⟨HG0.out, HNG.out, HA2.out⟩).below hb6
          by_cases hq : S.quota t ≤ cn
          · have HR : Hid (giveR S t x m = (S, 0, 9)) := HR0.out.trans (if_pos hq)
            clear hbl hb6 hcnt
            go_wp2_with fail
            go_ret2
            unfold GiveOut
            rw [HR.out]
            exact ⟨rfl, HB6.out.gv.out⟩
          · have HR1 : Hid (giveR S t x m = if S.made.room ≤ (S.made.ths.length : Int) then (S.made, 0, 5) else (S.made.put (insL S.made.ths m (x.set0 m t)) t (2 + (m : Int)), 2 + (m : Int), 0)) := HR0.out.trans (if_neg hq)
            have hq' : ¬ S.quota t ≤ cn := hq
            clear hbl hb6 hcnt hq HR0 cq HKC
            have c0 := HB6.out.gv.raw.raw.at 0 (by omega)
            rw [Sr.c0, HB6.out.gv.raw.room] at c0
            have c1 := HB6.out.gv.raw.raw.at 1 (by omega)
            rw [Sr.c1] at c1
            obtain ⟨a6, c6, hv6⟩ := HB6.out.gv.raw.ths.shape
            rw [hv6, ← HN.out] at c1
            have hswp := sweepS_any b G S w6.drew ⟨r, HB6.out.gv.raw.below (Below.refl _ _).drew⟩ HT.out
            clear hv6
            by_cases hf : S.room ≤ (n : Int)
            focus
              have HMD : Hid (S.made = S.swept) := if_pos (by rw [← HN.out]; exact hf)
              go_wp2_with fail
              go_region
              go_wp2_with fail
              refine hswp.mono ?_
              rintro e wc ⟨rfl, hl8⟩
              obtain ⟨G2, r2, hbx⟩ : ∃ G2 r2, Bx w b G S.made r2 G2 x x.id wc := by rw [HMD.out]; exact (HB6.out.below (Below.refl _ _).drew).led hl8
              clear hl8 hswp hf c0 c1
              go_wp2_with fail
            rotate_left
            focus
              have HMD : Hid (S.made = S) := if_neg (by rw [← HN.out]; exact hf)
              clear hswp
              go_wp2_with fail
              go_region
              go_wp2_with fail
              obtain ⟨wc, hwc⟩ : ∃ wc, wc = w6.drew := ⟨_, rfl⟩
              obtain ⟨G2, r2, hbx⟩ : ∃ G2 r2, Bx w b G S.made r2 G2 x x.id wc := ⟨G, r, by rw [HMD.out, hwc]; exact HB6.out.below (Below.refl _ _).drew⟩
              rw [← hwc]
              clear hwc hf c0 c1
            all_goals
              have HBX : Hid (Bx w b G S.made r2 G2 x x.id wc) := hbx
              have c0 := hbx.gv.raw.raw.at 0 (by omega)
              rw [Sr.c0, hbx.gv.raw.room] at c0
              have c1 := hbx.gv.raw.raw.at 1 (by omega)
              rw [Sr.c1] at c1
              obtain ⟨a2, c2, hv2⟩ := hbx.gv.raw.ths.shape
              obtain ⟨n2, hn2⟩ : ∃ n2, n2 = S.made.ths.length := ⟨_, rfl⟩
              rw [hv2, ← hn2] at c1
              have HN2 : Hid (n2 = S.made.ths.length) := hn2
              have HV2 : Hid (r2.vth = .slice a2 n2 c2) := show _ = _ by rw [hn2]; exact hv2
              have hn2b : n2 < 900000 := by rw [hn2]; exact (made_tame HT.out).len
              have hm2 : m ≤ n2 := by rw [hn2]; exact le_of_ids HM.out.1
              rw [← hn2] at HR1
              clear hv2 hn2
              by_cases hf : S.made.room ≤ (n2 : Int)
              · have HR : Hid (giveR S t x m = (S.made, 0, 5)) := HR1.out.trans (if_pos hf)
                clear hbx
                go_region
                go_wp2_with fail
                go_ret2
                unfold GiveOut
                rw [HR.out]
                exact ⟨rfl, (HBX.out.gv.below (Below.refl _ _).drew).out⟩
              · have HR : Hid (giveR S t x m = (S.made.put (insL S.made.ths m (x.set0 m t)) t (2 + (m : Int)), 2 + (m : Int), 0)) := HR1.out.trans (if_neg hf)
                have hf' : ¬ S.made.room ≤ (n2 : Int) := hf
                have bx0 := (hbx.below (Below.refl _ _).drew).cells
                obtain ⟨x0, z0⟩ := bx0
                have HB2 : Hid (Bx w b G S.made r2 G2 x (2 + ((0 : Nat) : Int)) (wc.setCell ⟨w.heap.size, 0, none⟩ (.int .i64 2)).drew) := (hbx.setId 2 HNG.out).below (Below.refl _ _).drew
                have HTM : Hid (Tame S.made) := made_tame HT.out
                clear hbx hf
                go_region
                go_wp2_with fail
                go_loopg [] m (fun gh wr => ∃ j : Nat, j + gh = m ∧ Bx w b G S.made r2 G2 x (2 + (j : Int)) wr)
                case atStart => exact ⟨0, by omega, HB2.out⟩
                case round =>
                  obtain ⟨j, hjg, hbj⟩ := hrel
                  have HJG : Hid (j + gk = m) := hjg
                  have HBJ : Hid (Bx w b G S.made r2 G2 x (2 + (j : Int)) wr) := hbj
                  have hat := at_any b (2 + (j : Int)) r2 S.made.ths wr hbj.gv.raw.raw hbj.gv.raw.ths (by have := HTM.out.len; omega)
                  obtain ⟨x1, z1⟩ := hbj.cells
                  have hjb : j ≤ 900000 := by omega
                  by_cases hj : j < m
                  · obtain ⟨y, hy, _⟩ := HM.out.1 j hj
                    obtain ⟨g, c', hg, hgl, _⟩ := hbj.gv.raw.elem hy
                    rw [atF_at HM.out.1 hj, hg] at hat
                    simp only [ptrOf] at hat
                    have HBK : Hid (Bx w b G S.made r2 G2 x (2 + ((j + 1 : Nat) : Int)) (wr.setCell ⟨w.heap.size, 0, none⟩ (.int .i64 (2 + (j : Int) + 1)))) := show Bx _ _ _ _ _ _ _ _ _ by
                      rw [show (2 + ((j + 1 : Nat) : Int)) = 2 + (j : Int) + 1 by omega]
                      exact hbj.setId _ HNG.out
                    clear hbj hjg hy hg
                    go_wp2_with fail
                    refine hat.mono ?_
                    rintro e wq ⟨rfl, rfl⟩
                    go_wp2_with fail
                    go_roundg (gk - 1)
                    case measure => have := HJG.out; omega
                    case rel => exact ⟨j + 1, by have := HJG.out; omega, HBK.out⟩
                  · obtain rfl : j = m := by omega
                    rw [atF_free HM.out.1 HM.out.2] at hat
                    simp only [ptrOf] at hat
                    clear hbj hjg hj
                    go_wp2_with fail
                    refine hat.mono ?_
                    rintro e wq ⟨rfl, rfl⟩
                    clear hat x1 z1 x0 z0 HB2
                    go_wp2_with fail
                    go_loopg [10] j (fun gh s10 wz => ∃ i : Nat, i + gh = j ∧ s10 = .int .i64 i ∧ Bx w b G S.made r2 G2 x (2 + (j : Int)) wz)
                    case atStart => exact ⟨0, by omega, rfl, HBJ.out⟩
                    case round =>
                      obtain ⟨i1, hig, rfl, hbj⟩ := hrel
                      have HIG1 : Hid (i1 + gk = j) := hig
                      have HB1 : Hid (Bx w b G S.made r2 G2 x (2 + (j : Int)) wr) := hbj
                      obtain ⟨x1, _⟩ := hbj.cells
                      have e1 := hbj.gv.raw.raw.at 1 (by omega)
                      rw [Sr.c1, HV2.out] at e1
                      have k0 : (0 : Int) ≤ (i1 : Int) := by omega
                      have hij : i1 ≤ j := by omega
                      clear hig
                      go_wp2_with fail
                      go_cut [130] from 111 to 132 (fun s130 wd => s130 = .bool (decide (i1 < j)) ∧ Bx w b G S.made r2 G2 x (2 + (j : Int)) wd)
                      case first =>
                        by_cases hjn : i1 < n2
                        · obtain ⟨y, hy, HYI⟩ : ∃ y, S.made.ths[i1]? = some y ∧ Hid ((y.id < 2 + (j : Int)) ↔ i1 < j) := by
                            obtain ⟨y, hy⟩ : ∃ y, S.made.ths[i1]? = some y := ⟨_, List.getElem?_eq_getElem (by rw [← HN2.out]; exact hjn)⟩
                            refine ⟨y, hy, show _ ↔ _ from ?_⟩
                            by_cases hl : i1 < j
                            · obtain ⟨y', hy', hyi⟩ := HM.out.1 i1 hl
                              rw [hy] at hy'
                              cases hy'
                              omega
                            · have := HM.out.2 i1 y (by omega) hy
                              omega
                          obtain ⟨g, c', hg, hgl, hcs⟩ := hbj.gv.raw.elem hy
                          have hgv := HV2.out
                          rw [hg] at hgv
                          simp only [Value.slice.injEq] at hgv
                          obtain ⟨rfl, _, _⟩ := hgv
                          have d0 := hcs.1
                          have k3 : (i1 : Int) < (n2 : Int) := by omega
                          have HJN : Hid (i1 < n2) := hjn
                          clear hbj hy hg hcs hjn hij
                          by_cases hl : i1 < j
                          · have HL : Hid (i1 < j) := hl
                            clear hl
                            have q1 : decide (i1 < n2) = true := decide_eq_true HJN.out
                            have q2 : decide (y.id < 2 + (j : Int)) = true := decide_eq_true (HYI.out.2 HL.out)
                            go_quiet (fail)
                            go_wp2_with fail
                            go_meet
                            case rel => exact ⟨by rw [decide_eq_true HL.out], HB1.out.below (bel_drewN (Below.refl _ _) _)⟩
                          · have HL : Hid (¬ i1 < j) := hl
                            clear hl
                            have q1 : decide (i1 < n2) = true := decide_eq_true HJN.out
                            have q2 : decide (y.id < 2 + (j : Int)) = false := decide_eq_false fun e => absurd (HYI.out.1 e) (by have := HL.out; omega)
                            go_quiet (fail)
                            go_wp2_with fail
                            go_meet
                            case rel => exact ⟨by rw [decide_eq_false (show ¬ i1 < j by have := HL.out; omega)], HB1.out.below (bel_drewN (Below.refl _ _) _)⟩
                        · have HL : Hid (¬ i1 < j) := show ¬ _ by omega
                          have HJN : Hid (¬ i1 < n2) := hjn
                          clear hbj hjn hij
                          have q1 : decide (i1 < n2) = false := decide_eq_false (by have := HJN.out; omega)
                          go_quiet (fail)
                          go_wp2_with fail
                          go_meet
                          case rel => exact ⟨by rw [decide_eq_false (show ¬ i1 < j by have := HL.out; omega)], HB1.out.below (bel_drewN (Below.refl _ _) _)⟩
                      case rest =>
                      obtain ⟨rfl, hbd⟩ := hcut
                      have HBD : Hid (Bx w b G S.made r2 G2 x (2 + (j : Int)) wc) := hbd
                      clear hbj hbd e1 x1 HB1
                      by_cases hi1 : i1 < j
                      · have hd1 : decide (i1 < j) = true := decide_eq_true hi1
                        rw [hd1]
                        have HI1 : Hid (i1 < j) := hi1
                        clear hd1 hi1
                        go_wp2_with fail
                        go_roundg (gk - 1)
                        case measure => have := HIG1.out; have := HI1.out; omega
                        case rel => exact ⟨i1 + 1, by have := HIG1.out; have := HI1.out; omega, by go_num, HBD.out⟩
                      · obtain rfl : i1 = j := by omega
                        have hd1 : decide (i1 < i1) = false := decide_eq_false (Nat.lt_irrefl _)
                        rw [hd1]
                        obtain ⟨i9, hi, hz0, hz1, hz2⟩ := info_parts Try.info84
                        clear hi1 hd1 hij
                        obtain ⟨W8, hW8⟩ : ∃ z, z = wc := ⟨_, rfl⟩
                        rw [← hW8] at HBD ⊢
                        have HB8 : Hid (Bx w b G S.made r2 G2 x (2 + (i1 : Int)) W8) := HBD
                        clear hW8 HBD HBJ
                        have e1 := HB8.out.gv.raw.raw.at 1 (by omega)
                        rw [Sr.c1, HV2.out] at e1
                        have f1 := HB8.out.gv.raw.raw.frozen 1
                        have hblt := HB8.out.gv.raw.raw.lt
                        have HOW : Hid (∀ o, (W8.alloc o).ownsRow 0 84 9 (.slice a2 n2 c2) n2 (rtL S.made.ths)) := fun o => by
                          have h1 := HB8.out.gv.raw.ths
                          rw [HV2.out] at h1
                          unfold RtRow at h1
                          rw [← HN2.out] at h1
                          exact World.ownsRow.alloc h1 o
                        have HVB : Hid (r2.vth.ownBlock ≠ some b) := HB8.out.gv.raw.vb
                        go_wp2_with (at_builtin; refine wpList_append_lies _ rfl _ _ 39 rfl 0 84 i9 noRt.val 9 72 Try.underlying39 hi hz0 hz1 hz2 rfl (by omega) _ n2 (rtL S.made.ths) rfl (HOW.out _) ⟨W8.heap.size, 0, none⟩ 1 1 noRt.cells rfl rfl (rt_news W8 noRt) (rt_one_cells noRt) (by omega) (by unfold maxLen; omega) (by omega) (by omega) (W8.heap.size + 1) (by simp) ?_)
                        intro g7 cap7 w9 hown7 hgrow7 hat7 hlt7
                        have bb : w9.heap[b]? = W8.heap[b]? := (hgrow7.block b (by simp; omega) fun e => HVB.out (by rw [HV2.out]; exact e.symm)).trans (by show (W8.heap.push _)[b]? = _; rw [Array.getElem?_push, if_neg (by omega)])
                        have q4 := (World.cell?_of_block (w := W8) (a := ⟨b, 1, none⟩) bb).trans e1
                        have q5 := (World.frozen?_of_block (w := W8) (a := ⟨b, 1, none⟩) bb).trans f1
                        have HB10 : Hid (Bx w b G { S.made with ths := S.made.ths ++ [noRt] } { r2 with vth := .slice (some ⟨g7, 0, none⟩) (n2 + 1) cap7 } (fun k => G2 k ∨ k = g7) x (2 + (i1 : Int)) (w9.setCell ⟨b, 1, none⟩ (.slice (some ⟨g7, 0, none⟩) (n2 + 1) cap7))) := HB8.out.grow HN2.out.symm hown7 (by rw [HV2.out]; exact hgrow7) (by rw [HV2.out]; exact hat7) hlt7
                        clear hown7 hgrow7 hat7 hlt7 bb e1 f1 HOW HVB HB8
                        go_wp2_with fail
                        clear q4 q5
                        generalize w9.setCell ⟨b, 1, none⟩ (.slice (some ⟨g7, 0, none⟩) (n2 + 1) cap7) = W10 at *
                        have e1 := HB10.out.gv.raw.raw.at 1 (by omega)
                        rw [Sr.c1] at e1
                        simp only at e1
                        obtain ⟨cur, hcur, hcapn, hcapm, hcs, htk⟩ : ∃ cur, W10.heap[g7]? = some (.cells cur 84 (0, 0)) ∧ n2 + 1 ≤ cap7 ∧ cap7 ≤ maxLen ∧ cur.size = cap7 * 9 ∧ cur.toList.take ((n2 + 1) * 9) = rtL (S.made.ths ++ [noRt]) := by
                          have h1 := HB10.out.gv.raw.ths
                          unfold RtRow at h1
                          simp only [List.length_append, List.length_singleton, ← HN2.out] at h1
                          rcases h1.2 with ⟨h2, _⟩ | ⟨g', cap', cur, h2, _, h3, h4, h5, h6, h7⟩
                          · simp at h2
                          · simp only [Value.slice.injEq, Option.some.injEq, Addr.mk.injEq, and_true, true_and] at h2
                            obtain ⟨rfl, rfl⟩ := h2
                            exact ⟨cur, h3, h4, h5, h6, h7⟩
                        have HCUR : Hid (W10.heap[g7]? = some (.cells cur 84 (0, 0)) ∧ cap7 ≤ maxLen ∧ cur.size = cap7 * 9 ∧ cur.toList.take ((n2 + 1) * 9) = rtL (S.made.ths ++ [noRt])) := ⟨hcur, hcapm, hcs, htk⟩
                        have hcb : cap7 ≤ 9223372036854775807 := Nat.le_trans hcapm (by unfold maxLen; omega)
                        clear hcur hcapm hcs htk
                        obtain ⟨N, hNN⟩ : ∃ N, N = n2 + 1 := ⟨_, rfl⟩
                        rw [← hNN] at e1 hcapn
                        have HNN : Hid (N = n2 + 1) := hNN
                        have hiN : i1 + 1 ≤ N := by omega
                        have s0 : (0 : Int) ≤ (i1 : Int) := by omega
                        have s1 : (0 : Int) ≤ (i1 : Int) + 1 := by omega
                        have s2 : (i1 : Int) ≤ (N : Int) := by omega
                        have s3 : (i1 : Int) + 1 ≤ (N : Int) := by omega
                        have s4 : ((i1 : Int) + 1).toNat = i1 + 1 := by omega
                        have s5 : ¬ cap7 = i1 := by omega
                        have sw : IntKind.i64.wrap ((i1 : Int) + 1) = (i1 : Int) + 1 := by rw [IntKind.wrap_i64]; omega
                        have HSZ : Hid ((Try.prog.info? 84).map (·.size) = some 9) := by rw [hi]; exact congrArg some hz1
                        clear hNN
                        go_cut [] from 143 to 156 (fun we => Bx w b G { S.made with ths := gapL S.made.ths i1 } { r2 with vth := .slice (some ⟨g7, 0, none⟩) N cap7 } (fun k => G2 k ∨ k = g7) x (2 + (i1 : Int)) we)
                        case first =>
                          by_cases hc7 : cap7 = i1 + 1
                          · obtain rfl : N = i1 + 1 := by omega
                            have s6 : (i1 : Int) ≤ (i1 : Int) + 1 := by omega
                            have hr := run_copy_zero Try.prog W10.drew 39 39 3 84 (some ⟨g7, 0, none⟩) (some ⟨g7, i1 * 9, none⟩) 0 0 1 1 9 Try.underlying39 HSZ.out (by rfl)
                            have HB11 : Hid (Bx w b G { S.made with ths := gapL S.made.ths i1 } { r2 with vth := .slice (some ⟨g7, 0, none⟩) (i1 + 1) cap7 } (fun k => G2 k ∨ k = g7) x (2 + (i1 : Int)) W10.drew) := show Bx _ _ _ _ _ _ _ _ _ by
                              have e : i1 = S.made.ths.length := by have := HN2.out; have := HNN.out; omega
                              have hg := gap_end S.made.ths
                              rw [← e] at hg
                              rw [hg, HNN.out]
                              exact HB10.out.below (Below.refl _ _).drew
                            obtain rfl := hc7
                            go_region_law (refine step_copy_by (by rfl) _ _ 39 39 (by rfl) (.slice (some ⟨g7, 0, none⟩) 0 0) (.slice (some ⟨g7, i1 * 9, none⟩) 1 1) (by rfl) (by rfl) hr ?_)
                            all_goals
                              clear hr e1
                              go_wp2_with fail
                              go_meet
                              case rel => exact HB11.out
                          · have hml : (rtL (S.made.ths.drop i1)).length = (N - (i1 + 1)) * 9 := by rw [rtL_length, List.length_drop]; have := HN2.out; have := HNN.out; omega
                            have hsrc : ∀ (k : Nat) (u : Value), (rtL (S.made.ths.drop i1))[k]? = some u → W10.drew.cell? ((⟨g7, i1 * 9, none⟩ : Addr).add k) = some u := fun k u hk => by
                              rw [adr_add, show W10.drew.cell? ⟨g7, i1 * 9 + k, none⟩ = W10.cell? ⟨g7, i1 * 9 + k, none⟩ from rfl, Lib.cell_of_heap HCUR.out.1]
                              exact cur_at HCUR.out.2.2.2 HN2.out (by omega) hk
                            have hr := run_copy_wide Try.prog W10.drew 39 39 3 84 g7 ((i1 + 1) * 9) (N - (i1 + 1)) (cap7 - (i1 + 1)) ⟨g7, i1 * 9, none⟩ (N - i1) (cap7 - i1) 9 cur 84 (rtL (S.made.ths.drop i1)) Try.underlying39 HSZ.out HCUR.out.1 (by rw [hml, show Nat.min (N - i1) (N - (i1 + 1)) = N - (i1 + 1) from Nat.min_eq_right (by omega)]) hsrc (by rw [hml, HCUR.out.2.2.1]; omega) (rtL_ones _)
                            have HB11 : Hid (Bx w b G { S.made with ths := gapL S.made.ths i1 } { r2 with vth := .slice (some ⟨g7, 0, none⟩) N cap7 } (fun k => G2 k ∨ k = g7) x (2 + (i1 : Int)) (W10.drew.setRow g7 (cur.toList.take ((i1 + 1) * 9) ++ rtL (S.made.ths.drop i1) ++ cur.toList.drop ((i1 + 1) * 9 + (rtL (S.made.ths.drop i1)).length)).toArray)) := show Bx _ _ _ _ _ _ _ _ _ by
                              have hb := HB10.out.below (Below.refl _ _).drew
                              rw [← HNN.out] at hb
                              exact hb.copied (l := S.made.ths) (n := n2) (m := i1) HN2.out.symm (by have := HNN.out; omega) (by rw [HNN.out]) HCUR.out.1 HCUR.out.2.2.2 HCUR.out.2.2.1 (by have := HNN.out; omega) HCUR.out.2.1
                            go_region_law (refine step_copy_by (by rfl) _ _ 39 39 (by rfl) (.slice (some ⟨g7, (i1 + 1) * 9, none⟩) (N - (i1 + 1)) (cap7 - (i1 + 1))) (.slice (some ⟨g7, i1 * 9, none⟩) (N - i1) (cap7 - i1)) (by rfl) (by rfl) hr ?_)
                            all_goals have HML : Hid ((rtL (S.made.ths.drop i1)).length = (N - (i1 + 1)) * 9) := hml
                            all_goals
                              clear hr e1 hsrc hml
                              go_wp2_with fail
                              go_meet
                              case rel => rw [← List.append_assoc, ← HML.out]; exact HB11.out
                        case rest =>
                        clear s0 s1 s2 s3 s4 s5 sw HCUR hcapn hcb e1 HB10 HSZ
                        have HB11 : Hid (Bx w b G { S.made with ths := gapL S.made.ths i1 } { r2 with vth := .slice (some ⟨g7, 0, none⟩) N cap7 } (fun k => G2 k ∨ k = g7) x (2 + (i1 : Int)) wc) := hcut
                        clear hcut
                        have hml : i1 ≤ S.made.ths.length := by rw [← HN2.out]; exact hm2
                        have HV3 : Hid ((gapL S.made.ths i1).length = N) := show _ = _ by rw [gap_len hml, ← HN2.out, HNN.out]
                        have e1 := HB11.out.gv.raw.raw.at 1 (by omega)
                        rw [Sr.c1] at e1
                        simp only at e1
                        obtain ⟨y0, hy0⟩ := gap_at hml
                        obtain ⟨g', c', hg', hgl', hcs'⟩ := HB11.out.gv.raw.elem hy0
                        simp only [Value.slice.injEq, Option.some.injEq, Addr.mk.injEq] at hg'
                        obtain ⟨⟨rfl, _⟩, _, _⟩ := hg'
                        obtain ⟨d0, d1, d2, d3, d4, d5, d6, d7, d8⟩ := hcs'
                        have hfz : ∀ jj, wc.frozen? ⟨g7, jj, none⟩ = false := fun jj => by
                          have h2 := HB11.out.gv.raw.ths
                          unfold RtRow at h2
                          simp only [HV3.out] at h2
                          exact h2.frozenAt jj
                        have z0 := hfz (i1 * 9)
                        have z1 := hfz (i1 * 9 + 1)
                        have z2 := hfz (i1 * 9 + 2)
                        have z3 := hfz (i1 * 9 + 3)
                        have z4 := hfz (i1 * 9 + 4)
                        have z5 := hfz (i1 * 9 + 5)
                        have z6 := hfz (i1 * 9 + 6)
                        have z7 := hfz (i1 * 9 + 7)
                        have z8 := hfz (i1 * 9 + 8)
                        have hbx9 := HB11.out.box
                        unfold boxOf at hbx9
                        obtain ⟨b0, b1, b2, b3, b4, b5, b6, b7, b8⟩ := cells9 hbx9
                        have s1 : (i1 : Int) < (N : Int) := by omega
                        have HB12 := HB11.out.put (z := { x with id := 2 + (i1 : Int) }) (by rw [HV3.out]) hy0
                        simp only [gap_set _ hml] at HB12
                        have HB12' : Hid _ := HB12
                        clear HB12 hfz hbx9 hgl' hy0
                        go_wp2_with fail
                        go_cut [] from 157 to 163 (fun wf => Bx w b G { S.made with ths := insL S.made.ths i1 { x with id := 2 + (i1 : Int) } } { r2 with vth := .slice (some ⟨g7, 0, none⟩) N cap7 } (fun k => G2 k ∨ k = g7) x (2 + (i1 : Int)) wf)
                        case first =>
                          go_region
                          all_goals
                            go_wp2_with fail
                            go_meet
                            case rel => exact HB12'.out.below (Below.refl _ _).drew
                        case rest =>
                        have HB13 : Hid (Bx w b G { S.made with ths := insL S.made.ths i1 { x with id := 2 + (i1 : Int) } } { r2 with vth := .slice (some ⟨g7, 0, none⟩) N cap7 } (fun k => G2 k ∨ k = g7) x (2 + (i1 : Int)) wc) := hcut
                        clear hcut HB11 HB12' e1 d0 d1 d2 d3 d4 d5 d6 d7 d8 z0 z1 z2 z3 z4 z5 z6 z7 z8 b0 b1 b2 b3 b4 b5 b6 b7 b8
                        have hy1 := insL_at (l := S.made.ths) { x with id := 2 + (i1 : Int) } hml
                        have hvl : (.slice (some ⟨g7, 0, none⟩) N cap7 : Value) = .slice (some ⟨g7, 0, none⟩) (insL S.made.ths i1 { x with id := 2 + (i1 : Int) }).length cap7 := by rw [insL_len _ hml, ← HN2.out, ← HNN.out]
                        obtain ⟨g', c', hg', hgl, hcs'⟩ := HB13.out.gv.raw.elem hy1
                        simp only [Value.slice.injEq, Option.some.injEq, Addr.mk.injEq] at hg'
                        obtain ⟨⟨rfl, _⟩, _, _⟩ := hg'
                        have g8 := hcs'.2.2.2.2.2.2.2.2
                        simp only at g8
                        have gz : wc.frozen? ⟨g7, i1 * 9 + 8, none⟩ = false := by
                          have h2 := HB13.out.gv.raw.ths
                          rw [show ({ r2 with vth := .slice (some ⟨g7, 0, none⟩) N cap7 } : Sr).vth = _ from hvl] at h2
                          exact h2.frozenAt (i1 * 9 + 8)
                        have e1 := HB13.out.gv.raw.raw.at 1 (by omega)
                        rw [Sr.c1] at e1
                        simp only at e1
                        have hxm : x.mask < 18446744073709551616 := by rw [HX0.out.2]; omega
                        have HOR : Hid (bits .or .u64 (x.mask : Int) (IntKind.u64.wrap ((2 : Int) ^ t)) = ((x.mask ||| 2 ^ t : Nat) : Int)) := or_bit x.mask t ht hxm
                        have hg7 := HB13.out.gv.mask (m := x.mask ||| 2 ^ t) hvl hy1
                        simp only at hg7
                        have HID7 : Hid ((wc.setCell ⟨g7, i1 * 9 + 8, none⟩ (.int .u64 ((x.mask ||| 2 ^ t : Nat) : Int))).cell? ⟨g7, i1 * 9, none⟩ = some (.int .i64 (2 + (i1 : Int)))) := by
                          have hy7 : ((insL S.made.ths i1 { x with id := 2 + (i1 : Int) }).set i1 { x with id := 2 + (i1 : Int), mask := x.mask ||| 2 ^ t })[i1]? = some { x with id := 2 + (i1 : Int), mask := x.mask ||| 2 ^ t } := by
                            rw [List.getElem?_set_self (List.getElem?_eq_some_iff.1 hy1).1]
                          obtain ⟨g', c'', hg', _, hcs⟩ := hg7.raw.elem hy7
                          simp only [Value.slice.injEq, Option.some.injEq, Addr.mk.injEq] at hg'
                          obtain ⟨⟨rfl, _⟩, _, _⟩ := hg'
                          exact hcs.1
                        have HG7 : Hid (GvSt w b G { S.made with ths := (insL S.made.ths i1 { x with id := 2 + (i1 : Int) }).set i1 { x with id := 2 + (i1 : Int), mask := x.mask ||| 2 ^ t } } { r2 with vth := .slice (some ⟨g7, 0, none⟩) N cap7 } (fun k => G2 k ∨ k = g7) (wc.setCell ⟨g7, i1 * 9 + 8, none⟩ (.int .u64 ((x.mask ||| 2 ^ t : Nat) : Int)))) := hg7
                        have HGB : Hid (g7 ≠ b) := fun e => HB13.out.gv.raw.vb (by rw [← e]; rfl)
                        have HES : Hid (∀ l, ({ ({ S.made with ths := (insL S.made.ths i1 { x with id := 2 + (i1 : Int) }).set i1 { x with id := 2 + (i1 : Int), mask := x.mask ||| 2 ^ t } } : St) with since := l } : St) = { S.made with ths := insL S.made.ths i1 (x.set0 i1 t), since := l }) := fun l => by
                          rw [insL_set _ _ hml, HX0.out.2, Nat.zero_or]
                          rfl
                        clear hg7 hcs' hy1 hvl hxm hml
                        go_wp2_with fail
                        rw [HOR.out]
                        generalize wc.setCell ⟨g7, i1 * 9 + 8, none⟩ (.int .u64 ((x.mask ||| 2 ^ t : Nat) : Int)) = W7 at *
                        have cs := HG7.out.raw.raw.at (66 + t) (by omega)
                        rw [Sr.cs] at cs
                        have fs := HG7.out.raw.raw.frozen (66 + t)
                        have hid7 := HID7.out
                        have hrow := HG7.out.raw.since t ht
                        simp only at cs hrow
                        rw [made_since] at hrow
                        have hblt7 := HG7.out.raw.raw.lt
                        have hglt7 := cell_in hid7
                        have hbs := HG7.out.raw.tb ht
                        have hgs := HG7.out.raw.vt (k := g7) ht (by rfl)
                        simp only at hbs hgs
                        have hgb := HGB.out
                        have hbg : b ≠ g7 := fun e => hgb e.symm
                        obtain ⟨v, hv⟩ : ∃ v, v = r2.since t := ⟨_, rfl⟩
                        rw [← hv] at cs hrow hbs hgs
                        have HVS : Hid (v = r2.since t) := hv
                        obtain ⟨ln, hln⟩ : ∃ ln, ln = (S.since t).length := ⟨_, rfl⟩
                        have HLN : Hid (ln = (S.since t).length) := hln
                        have hlb : ln < 900000 := by rw [hln]; exact HSL.out
                        have hrow2 : W7.ownsRow 0 3 1 v ln ((S.since t).map (Value.int .i64)) := by rw [hln]; exact hrow
                        obtain ⟨i8, hi', hz0', hz1', hz2'⟩ := info_parts Try.info3
                        have OW : Hid (∀ o, (W7.alloc o).drew.ownsRow 0 3 1 v ln ((S.since t).map (Value.int .i64))) := fun o => World.ownsRow.alloc hrow2 o
                        have HPU : Hid (∀ (g7 cap7 : Nat) (w7 : World) (o : Obj), w7.ownsRow 0 3 1 (.slice (some ⟨g7, 0, none⟩) (ln + 1) cap7) (ln + 1) ((S.since t).map (Value.int .i64) ++ [.int .i64 (2 + (i1 : Int))]) → (W7.alloc o).drew.grownBy w7 v.ownBlock → (v.ownBlock = some g7 ∨ g7 = (W7.alloc o).drew.heap.size) → g7 < w7.heap.size →
                            LedS w b G (giveR S t x i1).1 (w7.setCell ⟨b, 66 + t, none⟩ (.slice (some ⟨g7, 0, none⟩) (ln + 1) cap7))) := fun g7 cap7 w7 o h1 h2 h3 h4 => by
                          have e1 := HLN.out
                          have e2 := HVS.out
                          subst e1 e2
                          rw [HR.out]
                          have hh := HG7.out.since (t := t) (l := S.since t) ht (by show S.made.since t = S.since t; rw [made_since]) h2 h3 h1 h4
                          rw [HES.out] at hh
                          exact hh
                        clear hv hln hrow hrow2 HG7 HH HT HO HX0 HM HN HSL HBL HG0 HA2 HOR HID7 HGB HVS HLN HCN HR1 g8 gz HA HB0 HIG HBR hnb k1 HB13 e1 HV2 HN2 HTM HNN HES HB6 HNG hm2 hn2b hf' hq' hi hz0 hz1 hz2
                        go_region_law (refine step_append_lies _ (by rfl) _ _ 31 (by rfl) 0 3 i8 (.int .i64 0) 1 8 Try.underlying31 hi' hz0' hz1' hz2' rfl (by decide) v ln ((S.since t).map (Value.int .i64)) (by rfl) (OW.out _) ⟨W7.heap.size, 0, none⟩ 1 1 [.int .i64 (2 + (i1 : Int))] (by rfl) rfl (cell_one_new _ _ _) (by intro u hu; simp at hu; subst hu; rfl) (by omega) (by unfold maxLen; omega) (by omega) (by omega) _ rfl ?_; intro g9 cap9 w7 hown7 hgrow7 hat7 hlt7; have bb := grown_blk hgrow7 hblt7 hbs; have bg := grown_blk hgrow7 hglt7 hgs; have q4 := (World.cell?_of_block (w := W7) (a := ⟨b, 66 + t, none⟩) bb).trans cs; have q5 := (World.frozen?_of_block (w := W7) (a := ⟨b, 66 + t, none⟩) bb).trans fs; have q6 := (World.cell?_of_block (w := W7) (a := ⟨g7, i1 * 9, none⟩) bg).trans hid7)
                        all_goals
                          have HR9 : Hid _ := HPU.out _ _ _ _ hown7 hgrow7 hat7 hlt7
                          clear hown7 hgrow7 hat7 bb bg q4 q5
                          go_wp2_with fail
                          go_ret2
                          unfold GiveOut
                          refine ⟨?_, HR9.out⟩
                          rw [HR.out]
                          rfl
end Go.Proofs.Ytfogedmghhacdaa.A
