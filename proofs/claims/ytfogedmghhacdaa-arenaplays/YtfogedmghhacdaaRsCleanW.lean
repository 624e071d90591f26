/- The plain store: Clean's walk. -/
import Derived.Test.YtfogedmghhacdaaRsClean
import Derived.BigQuiet
namespace Go.Proofs.Ytfogedmghhacdaa.A
open Go.RowKit Go.Maps

theorem roots_succ {l : List Th} {t : Nat} {rs : List Int} {i : Nat} {z : Int} (h : rs[i]? = some z) : rootsOf l t (rs.take (i + 1)) = rootsOf l t (rs.take i) ++ (if (levelF l t z).isSome = true then [z] else []) := by
  unfold rootsOf
  rw [List.take_add_one, h, Option.toList_some, List.filter_append]
  congr 1
  cases hl : (levelF l t z).isSome <;> simp [hl]
/-- the roots that were looked at -/
structure RtIn (l : List Th) (t : Nat) (rs : List Int) (i : Nat) (K : List Int) : Prop where
  all : ∀ z ∈ rootsOf l t (rs.take i), z ∈ K
  own : ∀ z ∈ K, z ∈ rootsOf l t rs
  few : K.length ≤ i
theorem RtIn.no {l : List Th} {t : Nat} {rs : List Int} {i : Nat} {K : List Int} {z : Int} (h : RtIn l t rs i K) (hz : rs[i]? = some z) (hn : (levelF l t z).isSome = false) : RtIn l t rs (i + 1) K :=
  ⟨fun y hy => h.all y (by rw [roots_succ hz, if_neg (by rw [hn]; decide), List.append_nil] at hy; exact hy), h.own, by have := h.few; omega⟩
theorem RtIn.yes {l : List Th} {t : Nat} {rs : List Int} {i : Nat} {K : List Int} {z : Int} (h : RtIn l t rs i K) (hz : rs[i]? = some z) (hn : (levelF l t z).isSome = true) : RtIn l t rs (i + 1) (z :: K) := by
  refine ⟨fun y hy => ?_, fun y hy => ?_, by have := h.few; rw [List.length_cons]; omega⟩
  · rw [roots_succ hz, if_pos hn, List.mem_append] at hy
    rcases hy with e | e
    · exact List.mem_cons_of_mem _ (h.all y e)
    · simp at e; subst e; exact List.mem_cons_self
  · rcases List.mem_cons.1 hy with e | e
    · subst e; exact List.mem_filter.2 ⟨List.mem_of_getElem? hz, hn⟩
    · exact h.own y e
theorem RtIn.mid {l : List Th} {t : Nat} {rs : List Int} {i : Nat} {K : List Int} (h : RtIn l t rs i K) (hi : rs.length ≤ i) (h2 : i ≤ 2) : Mid (refL 0 l) (rootsOf l t rs) K :=
  ⟨fun z hz => h.all z (by rw [List.take_of_length_le hi]; exact hz), fun z hz => .root (h.own z hz), by have := h.few; have := notIn_le (refL 0 l) K; omega⟩

set_option maxRecDepth 20000 in
set_option maxHeartbeats 8000000 in
theorem cleanS_any (b t : Nat) (rs : List Int) (rv : Value) (G : Nat → Prop) (A : Ar) (w : World) (h : StAt w b G (St.of A)) (hS : Sound A) (ht : t < 64) (hrow : NRow w rv rs) (hrl : rs.length ≤ 2) (hfit : ∀ id ∈ rs, Fits id) (hc : ∀ (z : Int) (x : Th), ownSq A.ths t z = some x → ∀ r ∈ partsT x, (levelF A.ths t r).isSome = true) :
    Calls Try.prog 36 #[.pointer (some ⟨b, 0, none⟩), .int .i64 t, rv] w fun e w' => e = .returned (.int .i64 ((idsF A.ths t (keepAll A.ths t rs) A.ths.length).length : Int)) ∧ LedS w b G (St.of (A.cleanP t rs)) w' := by
  have hi := fun W => person_yes t ht W
  have hov := fun W (hW : StAt W b G (St.of A)) id => ownedS_any b t id G (St.of A) W hW (of_tame hS) ht
  have HLV : Hid (∀ z, (ownedF (St.of A).ths t z 0).isSome = (levelF A.ths t z).isSome) := fun z => (level_ref hS.zero t z).2
  have HA : Hid (StAt w b G (St.of A)) := h
  have HSD : Hid (Sound A) := hS
  have HCL : Hid (∀ (z : Int) (x : Th), ownSq A.ths t z = some x → ∀ r ∈ partsT x, (levelF A.ths t r).isSome = true) := hc
  have HFT : Hid (∀ x ∈ refL 0 A.ths, Fits x.id ∧ ∀ z ∈ x.parts, Fits z) := fun x hx => by
    obtain ⟨j, y, h1, _, h3⟩ := (mem_ref _ _ _).1 hx
    have hf := hS.fit y (List.mem_of_getElem? h1)
    have hl := (List.getElem?_eq_some_iff.1 h1).1
    have h4 := hS.len
    have h5 := hS.room1
    rw [h3]
    refine ⟨⟨by show _ ≤ ((0 + j : Nat) : Int) + 2; omega, by show ((0 + j : Nat) : Int) + 2 ≤ _; omega⟩, fun z hz => ?_⟩
    simp only [Rt.parts, toRt, List.mem_cons, List.not_mem_nil, or_false] at hz
    rcases hz with rfl | rfl | rfl | rfl
    · exact hf.p0
    · exact hf.p1
    · exact hf.p2
    · exact hf.p3
  clear hc
  obtain ⟨ra, rc, rfl, hrow⟩ := hrow
  have HROW : Hid (rs = [] ∨ _) := hrow
  have HFIT : Hid (∀ id ∈ rs, Fits id) := hfit
  have HRL : Hid (rs.length ≤ 2) := hrl
  have S0 := ClSt.born w
  have hmm := @run_makeMap Try.prog
  obtain ⟨n1, hn1⟩ : ∃ n, n = rs.length := ⟨_, rfl⟩
  have HN1 : Hid (n1 = rs.length) := hn1
  have hn2 : n1 ≤ 2 := by omega
  rw [← hn1]
  clear hrow hfit hrl hn1
  go_enter Try.func36, Try.ntmps36
  go_wp2_with fail
  refine (hi _).mono ?_
  rintro e w0 ⟨rfl, hw0⟩
  have hw0' := hw0.symm
  subst hw0'
  clear hw0 hi
  go_wp2_with fail
  have HS0 : Hid (ClSt w [] _) := S0
  clear S0 hmm
  go_loopg [23] n1 (fun gh s23 wr => ∃ (i : Nat) (K : List Int), i + gh = n1 ∧ s23 = .int .i64 i ∧ ClSt w K wr ∧ RtIn A.ths t rs i K)
  case atStart => exact ⟨0, [], by omega, rfl, HS0.out, ⟨(fun z hz => by rw [List.take_zero] at hz; cases hz), (fun z hz => by cases hz), Nat.le_refl _⟩⟩
  case round =>
    obtain ⟨i, K, hig, rfl, S, hin⟩ := hrel
    have HIG : Hid (i + gk = n1) := hig
    have HS : Hid (ClSt w K wr) := S
    have HIN : Hid (RtIn A.ths t rs i K) := hin
    clear hig hin
    by_cases hlt : i < n1
    · obtain ⟨z, hz⟩ : ∃ z, rs[i]? = some z := ⟨_, List.getElem?_eq_getElem (by rw [← HN1.out]; exact hlt)⟩
      obtain ⟨g, o, rfl, hg, hcs⟩ := (show ∃ g o, ra = some ⟨g, o, none⟩ ∧ g < w.heap.size ∧ _ from by
        rcases HROW.out with e | e
        · rw [e] at hz; simp at hz
        · exact e)
      have hcz : wr.cell? ⟨g, o + i, none⟩ = some (.int .i64 z) := (S.bel.cell (p := ⟨g, o + i, none⟩) hg).trans (hcs i z hz)
      have HZ : Hid (rs[i]? = some z) := hz
      have hoz := hov wr (HA.out.below S.bel) z
      obtain ⟨oz, hoe⟩ : ∃ o, o = ownedF (St.of A).ths t z 0 := ⟨_, rfl⟩
      rw [← hoe] at hoz
      have HOZ : Hid (oz.isSome = (levelF A.ths t z).isSome) := show _ = _ by rw [hoe]; exact HLV.out z
      have k0 : (0 : Int) ≤ (i : Int) := by omega
      have k1 : (i : Int) < (n1 : Int) := by omega
      clear hz hcs hoe S
      go_wp2_with fail
      refine hoz.mono ?_
      rintro e w2 ⟨rfl, hb2⟩
      have HS2 : Hid (∀ o, ClSt w K (w2.alloc o)) := fun o => (HS.out.go hb2).go ((Below.refl _ _).alloc (Nat.le_refl _) _)
      clear hoz hb2
      cases oz with
      | none =>
        have HNO : Hid ((levelF A.ths t z).isSome = false) := HOZ.out.symm
        simp only [Option.getD_none, Option.isSome_none, noRt, Rt.val]
        go_wp2_with fail
        go_roundg (gk - 1)
        case measure => have := HIG.out; omega
        case rel => exact ⟨i + 1, K, by have := HIG.out; omega, by go_num, HS2.out _, HIN.out.no HZ.out HNO.out⟩
      | some y =>
        have HYE : Hid ((levelF A.ths t z).isSome = true) := HOZ.out.symm
        simp only [Option.getD_some, Option.isSome_some, Rt.val]
        have S2 := HS2.out (.cells #[.int .i64 y.id, .int .i64 y.k, .int .i64 y.lv, .int .i64 y.va, .int .i64 y.p0, .int .i64 y.p1, .int .i64 y.p2, .int .i64 y.p3, .int .u64 y.mask] 84)
        obtain ⟨W', hrun, hk', htu⟩ := S2.map.put (by have := HIN.out.few; omega) (HFIT.out z (List.mem_of_getElem? HZ.out))
        have HS3 : Hid (ClSt w (z :: K) W') := S2.turned htu hk'
        have hcc := S2.cell
        clear S2 hk' htu HS2
        go_wp2_with fail
        go_roundg (gk - 1)
        case measure => have := HIG.out; omega
        case rel => exact ⟨i + 1, z :: K, by have := HIG.out; omega, by go_num, HS3.out, HIN.out.yes HZ.out HYE.out⟩
    · have k1 : ¬ (i : Int) < (n1 : Int) := by omega
      have HM1 : Hid (Mid (refL 0 A.ths) (rootsOf A.ths t rs) K) := HIN.out.mid (by rw [← HN1.out]; omega) (by have := HIG.out; omega)
      obtain ⟨r, hr⟩ := HA.out
      have HR : Hid (StRaw w b G (St.of A) r) := hr
      have c1 := hr.raw.at 1 (by omega)
      have hblt := hr.raw.lt
      rw [Sr.c1] at c1
      obtain ⟨a, c, hv⟩ := hr.ths.shape
      rw [hv] at c1
      have HV : Hid (r.vth = .slice a (St.of A).ths.length c) := hv
      obtain ⟨n, hn⟩ : ∃ n, n = (St.of A).ths.length := ⟨_, rfl⟩
      rw [← hn] at c1
      have HN : Hid (n = (St.of A).ths.length) := hn
      have hnb : n < 900000 := by rw [hn]; exact (of_tame HSD.out).len
      obtain ⟨gA, hgA⟩ : ∃ x, x = gk := ⟨_, rfl⟩
      subst hgA
      obtain ⟨wA, hwA⟩ : ∃ x, x = wr := ⟨_, rfl⟩
      subst hwA
      clear hn hr hv S hov
      go_wp2_with fail
      go_loopg [12] (notIn (refL 0 A.ths) K + 1) (fun gh s12 wy => ∃ (K2 : List Int) (ag : Bool), s12 = .bool ag ∧ ClSt w K2 wy ∧ Mid (refL 0 A.ths) (rootsOf A.ths t rs) K2 ∧ (ag = false → ShutK (refL 0 A.ths) K2) ∧ notIn (refL 0 A.ths) K2 + (if ag = true then 1 else 0) ≤ gh)
      case atStart => exact ⟨K, true, rfl, HS.out, HM1.out, (fun e => by cases e), by simp⟩
      case round =>
        obtain ⟨K2, ag, rfl, S2, M2, hsh, hme⟩ := hrel
        have HS2 : Hid (ClSt w K2 wr) := S2
        have HM2 : Hid (Mid (refL 0 A.ths) (rootsOf A.ths t rs) K2) := M2
        have HME : Hid (notIn (refL 0 A.ths) K2 + (if ag = true then 1 else 0) ≤ gk) := hme
        clear M2 hme
        cases ag with
        | false =>
          have HALL : Hid (∀ z, z ∈ K2 ↔ RchS (refL 0 A.ths) (rootsOf A.ths t rs) z) := fun z => HM2.out.all (hsh rfl) z
          have hlo := loseC_any b t (w.heap.size + 1) (cleanQ K2) G (St.of A) r wr (HR.out.below S2.bel) (of_tame HSD.out) ht fun W x hx hsz hblk => by
            have hvlt : ∀ k, r.vth.ownBlock = some k → k < w.heap.size := fun k hk => (HR.out.ths.lt k hk).2
            have e1 := hblk (w.heap.size + 1) S2.lt fun e => by have := hvlt _ e; omega
            have e2 := hblk w.heap.size S2.map.lt fun e => by have := hvlt _ e; omega
            exact cleanIn_any (w.heap.size + 1) w.heap.size K2 x W (Lib.cell_of_heap (e1.trans S2.cel) 0) (S2.map.other e2) (HFT.out x hx).1
          have HCR := clean_ref HSD.out ht HCL.out rs K2 HALL.out
          rw [HCR.1, HCR.2] at hlo
          clear HCR hsh S2
          go_wp2_with fail
          refine hlo.mono ?_
          rintro e w9 ⟨rfl, hl9⟩
          have HL9 : Hid (LedS w b G (St.of (A.cleanP t rs)) w9) := hl9.late HS2.out.bel
          clear hl9 hlo
          go_wp2_with fail
          go_ret
          exact ⟨rfl, HL9.out⟩
        | true =>
          have c1' := (S2.bel.cell (p := ⟨b, 1, none⟩) hblt).trans c1
          clear hsh S2
          obtain ⟨gB, hgB⟩ : ∃ x, x = gk := ⟨_, rfl⟩
          subst hgB
          obtain ⟨wB, hwB⟩ : ∃ x, x = wr := ⟨_, rfl⟩
          subst hwB
          go_wp2_with fail
          go_loopg [44, 12] n (fun gh s44 s12 wz => ∃ (i3 : Nat) (K3 : List Int) (ag : Bool), i3 + gh = n ∧ s44 = .int .i64 i3 ∧ s12 = .bool ag ∧ ClSt w K3 wz ∧ RoundK (refL 0 A.ths) (rootsOf A.ths t rs) K2 ((refL 0 A.ths).take i3) ag K3)
          case atStart => exact ⟨0, K2, false, by omega, rfl, rfl, HS2.out, by rw [List.take_zero]; exact RoundK.start HM2.out⟩
          case round =>
            obtain ⟨i3, K3, ag, hig, rfl, rfl, S3, R3⟩ := hrel
            have HIG3 : Hid (i3 + gk = n) := hig
            have HS3 : Hid (ClSt w K3 wr) := S3
            have HR3 : Hid (RoundK (refL 0 A.ths) (rootsOf A.ths t rs) K2 ((refL 0 A.ths).take i3) ag K3) := R3
            clear hig R3
            by_cases hlt3 : i3 < n
            · obtain ⟨x, hx⟩ : ∃ x, (St.of A).ths[i3]? = some x := ⟨_, List.getElem?_eq_getElem (by rw [← HN.out]; exact hlt3)⟩
              obtain ⟨g, c', hg, hgl, hcs⟩ := HR.out.elem hx
              have hgv := HV.out
              rw [hg] at hgv
              simp only [Value.slice.injEq] at hgv
              obtain ⟨rfl, _, _⟩ := hgv
              obtain ⟨d0, d1, d2, d3, d4, d5, d6, d7, d8⟩ := hcs
              have kc := fun j => S3.bel.cell (p := ⟨g, j, none⟩) hgl
              have d0 := (kc _).trans d0
              have d1 := (kc _).trans d1
              have d2 := (kc _).trans d2
              have d3 := (kc _).trans d3
              have d4 := (kc _).trans d4
              have d5 := (kc _).trans d5
              have d6 := (kc _).trans d6
              have d7 := (kc _).trans d7
              have d8 := (kc _).trans d8
              have HXM : Hid (x ∈ refL 0 A.ths) := List.mem_of_getElem? hx
              have HTK : Hid ((refL 0 A.ths).take (i3 + 1) = (refL 0 A.ths).take i3 ++ [x]) := show _ = _ by
                rw [List.take_add_one, show (refL 0 A.ths)[i3]? = some x from hx]; rfl
              have k4 : (0 : Int) ≤ (i3 : Int) := by omega
              have k5 : (i3 : Int) < (n : Int) := by omega
              have HS4 : Hid (ClSt w K3 (wr.alloc (.cells #[.int .i64 x.id, .int .i64 x.k, .int .i64 x.lv, .int .i64 x.va, .int .i64 x.p0, .int .i64 x.p1, .int .i64 x.p2, .int .i64 x.p3, .int .u64 x.mask] 84))) := S3.go ((Below.refl _ _).alloc (Nat.le_refl _) _)
              have HBX : Hid ((wr.alloc (.cells #[.int .i64 x.id, .int .i64 x.k, .int .i64 x.lv, .int .i64 x.va, .int .i64 x.p0, .int .i64 x.p1, .int .i64 x.p2, .int .i64 x.p3, .int .u64 x.mask] 84)).heap[wr.heap.size]? = some (.cells #[.int .i64 x.id, .int .i64 x.k, .int .i64 x.lv, .int .i64 x.va, .int .i64 x.p0, .int .i64 x.p1, .int .i64 x.p2, .int .i64 x.p3, .int .u64 x.mask] 84 (0, 0))) := heap_alloc_new wr _
              have HWL : Hid (w.heap.size < wr.heap.size) := Nat.lt_of_succ_lt S3.lt
              clear kc hx hg S3
              obtain ⟨gC, hgC⟩ : ∃ x, x = gk := ⟨_, rfl⟩
              subst hgC
              obtain ⟨wC, hwC⟩ : ∃ x, x = wr := ⟨_, rfl⟩
              subst hwC
              go_wp2_with fail
              clear d0 d1 d2 d3 d4 d5 d6 d7 d8
              generalize wC.alloc (.cells #[.int .i64 x.id, .int .i64 x.k, .int .i64 x.lv, .int .i64 x.va, .int .i64 x.p0, .int .i64 x.p1, .int .i64 x.p2, .int .i64 x.p3, .int .u64 x.mask] 84) = W4 at *
              go_loopg [50, 12] 4 (fun gh s50 s12 wy => ∃ (j : Nat) (K4 : List Int) (ag4 : Bool), j + gh = 4 ∧ s50 = .int .i64 j ∧ s12 = .bool ag4 ∧ ClSt w K4 wy ∧ RoundK (refL 0 A.ths) (rootsOf A.ths t rs) K2 ((refL 0 A.ths).take i3) ag4 K4 ∧ (ag4 = false → x.k = 0 → x.id ∈ K2 → ∀ z ∈ x.parts.take j, z ∈ K2) ∧ wy.heap[wC.heap.size]? = some (.cells #[.int .i64 x.id, .int .i64 x.k, .int .i64 x.lv, .int .i64 x.va, .int .i64 x.p0, .int .i64 x.p1, .int .i64 x.p2, .int .i64 x.p3, .int .u64 x.mask] 84 (0, 0)))
              case atStart => exact ⟨0, K3, ag, by omega, rfl, rfl, HS4.out, HR3.out, (fun _ _ _ z hz => by rw [List.take_zero] at hz; cases hz), HBX.out⟩
              case round =>
                obtain ⟨j, K4, ag4, hjg, rfl, rfl, S5, R5, hpt, hbx⟩ := hrel
                have HJG : Hid (j + gk = 4) := hjg
                have HS5 : Hid (ClSt w K4 wr) := S5
                have HR5 : Hid (RoundK (refL 0 A.ths) (rootsOf A.ths t rs) K2 ((refL 0 A.ths).take i3) ag4 K4) := R5
                have HPT : Hid (ag4 = false → x.k = 0 → x.id ∈ K2 → ∀ z ∈ x.parts.take j, z ∈ K2) := hpt
                have HB5 : Hid (wr.heap[wC.heap.size]? = some (.cells #[.int .i64 x.id, .int .i64 x.k, .int .i64 x.lv, .int .i64 x.va, .int .i64 x.p0, .int .i64 x.p1, .int .i64 x.p2, .int .i64 x.p3, .int .u64 x.mask] 84 (0, 0))) := hbx
                have cc := S5.cell
                have b0 : wr.cell? ⟨wC.heap.size, 0, none⟩ = some (.int .i64 x.id) := Lib.cell_of_heap hbx 0
                have b1 : wr.cell? ⟨wC.heap.size, 1, none⟩ = some (.int .i64 x.k) := Lib.cell_of_heap hbx 1
                clear hjg R5 hpt hbx
                by_cases hj : j < 4
                · obtain ⟨z, hz, hidx⟩ : ∃ z, x.parts[j]? = some z ∧ ∀ W, (Instr.index 35 (.agg #[.int .i64 x.p0, .int .i64 x.p1, .int .i64 x.p2, .int .i64 x.p3]) (.int .i64 j)).run Try.prog W = .ok (.int .i64 z) W := by
                    match j, hj with
                    | 0, _ => exact ⟨x.p0, rfl, fun W => Try.at0 _ _ _ _ W⟩
                    | 1, _ => exact ⟨x.p1, rfl, fun W => Try.at1 _ _ _ _ W⟩
                    | 2, _ => exact ⟨x.p2, rfl, fun W => Try.at2 _ _ _ _ W⟩
                    | 3, _ => exact ⟨x.p3, rfl, fun W => Try.at3 _ _ _ _ W⟩
                  have HZM : Hid (z ∈ x.parts) := List.mem_of_getElem? hz
                  have HTZ : Hid (x.parts.take (j + 1) = x.parts.take j ++ [z]) := show _ = _ by rw [List.take_add_one, hz]; rfl
                  have hl1 := S5.map.look (HFT.out x HXM.out).1
                  have hl2 := S5.map.look ((HFT.out x HXM.out).2 z HZM.out)
                  have k6 : (j : Int) < 4 := by omega
                  have HSKIP : Hid ((¬ x.k = 0 ∨ x.id ∉ K4 ∨ z ∈ K4) → (ag4 = false → x.k = 0 → x.id ∈ K2 → ∀ y ∈ x.parts.take (j + 1), y ∈ K2)) := fun ho he hk hi y hy => by
                    have e := (HR5.out.same he).1
                    rw [HTZ.out, List.mem_append] at hy
                    rcases hy with hy | hy
                    · exact HPT.out he hk hi y hy
                    · simp at hy
                      subst hy
                      rcases ho with h | h | h
                      · exact absurd hk h
                      · rw [e] at h; exact absurd hi h
                      · rw [e] at h; exact h
                  by_cases hk : x.k = 0
                  · have hk' : (x.k == 0) = true := by simpa using hk
                    have HK : Hid (x.k = 0) := hk
                    clear hk
                    by_cases hi : x.id ∈ K4
                    · rw [decide_eq_true hi] at hl1
                      have HI : Hid (x.id ∈ K4) := hi
                      clear hi
                      by_cases hzk : z ∈ K4
                      · rw [decide_eq_true hzk] at hl2
                        have HK4 : Hid (z ∈ K4) := hzk
                        clear hzk hz S5
                        go_wp2_with fail
                        go_roundg (gk - 1)
                        case measure => have := HJG.out; omega
                        case rel => exact ⟨j + 1, K4, ag4, by have := HJG.out; omega, by go_num, rfl, HS5.out, HR5.out, HSKIP.out (.inr (.inr HK4.out)), HB5.out⟩
                      · rw [decide_eq_false hzk] at hl2
                        have HK4 : Hid (z ∉ K4) := hzk
                        obtain ⟨W', hrun, hkp, htu⟩ := S5.map.put (by have := HR5.out.mid.few; have := HN.out; have e : (St.of A).ths.length = (refL 0 A.ths).length := rfl; omega) ((HFT.out x HXM.out).2 z HZM.out)
                        have HS6 : Hid (ClSt w (z :: K4) W') := S5.turned htu hkp
                        have HB6 : Hid (W'.heap[wC.heap.size]? = some (.cells #[.int .i64 x.id, .int .i64 x.k, .int .i64 x.lv, .int .i64 x.va, .int .i64 x.p0, .int .i64 x.p1, .int .i64 x.p2, .int .i64 x.p3, .int .u64 x.mask] 84 (0, 0))) := ((grown_of_turned htu).block _ (Array.getElem?_eq_some_iff.1 HB5.out).1 fun e => by have := HWL.out; simp at e; omega).trans HB5.out
                        clear hzk hz S5 hkp htu
                        go_wp2_with fail
                        go_roundg (gk - 1)
                        case measure => have := HJG.out; omega
                        case rel => exact ⟨j + 1, z :: K4, true, by have := HJG.out; omega, by go_num, rfl, HS6.out, HR5.out.add HXM.out HK.out HI.out HZM.out HK4.out, (fun e => by cases e), HB6.out⟩
                    · rw [decide_eq_false hi] at hl1
                      have HI : Hid (x.id ∉ K4) := hi
                      clear hi hz S5
                      go_wp2_with fail
                      go_roundg (gk - 1)
                      case measure => have := HJG.out; omega
                      case rel => exact ⟨j + 1, K4, ag4, by have := HJG.out; omega, by go_num, rfl, HS5.out, HR5.out, HSKIP.out (.inr (.inl HI.out)), HB5.out⟩
                  · have hk' : (x.k == 0) = false := by simpa using hk
                    have HK : Hid (¬ x.k = 0) := hk
                    clear hk hz S5
                    go_wp2_with fail
                    go_roundg (gk - 1)
                    case measure => have := HJG.out; omega
                    case rel => exact ⟨j + 1, K4, ag4, by have := HJG.out; omega, by go_num, rfl, HS5.out, HR5.out, HSKIP.out (.inl HK.out), HB5.out⟩
                · have k6 : ¬ (j : Int) < 4 := by omega
                  have HE5 : Hid (RoundK (refL 0 A.ths) (rootsOf A.ths t rs) K2 ((refL 0 A.ths).take (i3 + 1)) ag4 K4) := by
                    refine ⟨HR5.out.mid, HR5.out.less, fun e => ⟨(HR5.out.same e).1, ?_⟩⟩
                    rw [HTK.out]
                    intro y hy hk hi z hz
                    rcases List.mem_append.1 hy with hy | hy
                    · exact (HR5.out.same e).2 y hy hk hi z hz
                    · simp at hy
                      subst hy
                      exact HPT.out e hk hi z (by rw [List.take_of_length_le (by show 4 ≤ j; omega)]; exact hz)
                  clear S5
                  go_wp2_with fail
                  go_roundg (gC - 1)
                  case measure => have := HIG3.out; omega
                  case rel => exact ⟨i3 + 1, K4, ag4, by have := HIG3.out; omega, by go_num, rfl, HS5.out, HE5.out⟩
            · have k3 : ¬ (i3 : Int) < (n : Int) := by omega
              have HE3 : Hid (RoundK (refL 0 A.ths) (rootsOf A.ths t rs) K2 (refL 0 A.ths) ag K3) := by
                have hh := HR3.out
                rw [List.take_of_length_le (by have := HN.out; show (refL 0 A.ths).length ≤ i3; have e : (St.of A).ths.length = (refL 0 A.ths).length := rfl; omega)] at hh
                exact hh
              have hme2 : notIn (refL 0 A.ths) K2 + 1 ≤ gB := by have := HME.out; simpa using this
              have HME2 : Hid (notIn (refL 0 A.ths) K2 + 1 ≤ gB) := hme2
              clear hme2
              clear S3
              go_wp2_with fail
              go_roundg (notIn (refL 0 A.ths) K3 + (if ag = true then 1 else 0))
              case measure =>
                have h1 := HME2.out
                cases ag with
                | true => have := HE3.out.less rfl; simp; omega
                | false => rw [(HE3.out.same rfl).1]; simp; omega
              case rel => exact ⟨K3, ag, rfl, HS3.out, HE3.out.mid, (fun e => by rw [(HE3.out.same e).1]; exact (HE3.out.same e).2), Nat.le_refl _⟩
end Go.Proofs.Ytfogedmghhacdaa.A
