/- Clean. -/
import Derived.Test.YthobobgiendcfaaArKeep
import Derived.Laws.OwnMore
namespace Go.Proofs.Ythobobgiendcfaa.A
open Go.RowKit Go.Maps

theorem Try.info4 : (Try.prog.info? 4).map (fun i => (i.zero, i.size, i.bytes)) = some (some (.bool false), 1, 1) := by kernel_rfl
theorem made_marks (n : Nat) : madeCells (Value.bool false).cells (n * 1) = ((List.replicate n false).map Value.bool).toArray := by
  refine Array.ext (by rw [size_madeCells]; simp) fun i h1 h2 => ?_
  have e : i % 1 = 0 := Nat.mod_one i
  simp [madeCells, Value.cells, e]
theorem make_marks (w : World) (n : Nat) (hn : n < 1000000) : ∃ w', (Instr.makeSlice 124 (.int .i64 n) (.int .i64 n)).run Try.prog w = .ok (.slice (some ⟨w.heap.size, 0, none⟩) n n) w' ∧ Marks w' w.heap.size (List.replicate n false) ∧ Below w.heap.size w w' ∧ w'.heap.size = w.heap.size + 1 := by
  obtain ⟨i0, hi, hz0, hz1, hz2⟩ := info_parts Try.info4
  have hr := run_make (P := Try.prog) w 124 4 i0 (.bool false) Try.underlying124 hi hz0 .i64 .i64 n n (by omega) (Int.le_refl _) (by rw [hz2]; omega) (by omega)
  rw [hz1, Int.toNat_natCast, made_marks] at hr
  exact ⟨_, hr, heap_alloc_new w _, (Below.refl _ _).alloc (Nat.le_refl _) _, by simp⟩

/-- what is taken: own, and not kept -/
def idsF (l : List Th) (t : Nat) (K : List Bool) (i : Nat) : List Int := ((List.range i).filter (fun j => (l[j]!).mask.testBit t && !K[j]!)).map (fun j : Nat => (j : Int) + 2)
theorem ids_yes {l : List Th} {t : Nat} {K : List Bool} {i : Nat} (h : ((l[i]!).mask.testBit t && !K[i]!) = true) : idsF l t K (i + 1) = idsF l t K i ++ [(i : Int) + 2] := by
  unfold idsF
  have e2 : [i].filter (fun j => (l[j]!).mask.testBit t && !K[j]!) = [i] := by rw [List.filter_cons_of_pos (by exact h)]; rfl
  rw [List.range_succ, List.filter_append, List.map_append, e2]
  rfl
theorem ids_no {l : List Th} {t : Nat} {K : List Bool} {i : Nat} (h : ((l[i]!).mask.testBit t && !K[i]!) = false) : idsF l t K (i + 1) = idsF l t K i := by
  unfold idsF
  have e2 : [i].filter (fun j => (l[j]!).mask.testBit t && !K[j]!) = [] := by rw [List.filter_cons_of_neg (by rw [h]; decide)]; rfl
  rw [List.range_succ, List.filter_append, List.map_append, e2]
  exact List.append_nil _
theorem ids_len (l : List Th) (t : Nat) (K : List Bool) (i : Nat) : (idsF l t K i).length ≤ i := by
  unfold idsF
  rw [List.length_map]
  refine Nat.le_trans (List.length_filter_le _ _) ?_
  simp
theorem ids_mem {l : List Th} {t : Nat} {K : List Bool} {i : Nat} {x : Int} : x ∈ idsF l t K i ↔ ∃ j : Nat, j < i ∧ (l[j]!).mask.testBit t = true ∧ K[j]! = false ∧ x = (j : Int) + 2 := by
  unfold idsF
  simp only [List.mem_map, List.mem_filter, List.mem_range, Bool.and_eq_true, Bool.not_eq_true']
  constructor
  · rintro ⟨j, ⟨h1, h2, h3⟩, rfl⟩
    exact ⟨j, h1, h2, h3, rfl⟩
  · rintro ⟨j, h1, h2, h3, rfl⟩
    exact ⟨j, ⟨h1, h2, h3⟩, rfl⟩
/-- an arena cleaned for a tenant -/
def Ar.clean (A : Ar) (t : Nat) (K : List Bool) : Ar := { A.takes t (idsF A.ths t K A.ths.length) with fresh := upd A.fresh t [] }

set_option maxRecDepth 20000 in
set_option maxHeartbeats 2000000 in
theorem clean_any (b n t lv rb : Nat) (p : Int) (F : Nat → Prop) (A : Ar) (r : Raw) (D : DataW Unit) (w : World) (h : ArRaw w b F n A r D) (hI : Inv A) (ht : t < 64) (hm : ∀ x ∈ A.ths, x.mask < 18446744073709551616) (hf : A.ths.length < 1000000) (hpos : 0 < A.ths.length) (hl : levelF A.ths t p = some (lv : Int))
    (hcnt : 0 ≤ A.cnt t ∧ A.cnt t < 4611686018427387904) (hroot : w.cell? ⟨rb, 0, none⟩ = some (.int .i64 p)) :
    Calls Try.prog 33 #[.pointer (some ⟨b, 0, none⟩), .int .i64 t, .slice (some ⟨rb, 0, none⟩) 1 1] w fun e w' => ∃ K : List Bool, K.length = A.ths.length ∧ (∀ i : Nat, Mk K i ↔ Sub A.ths p ((i : Int) + 2)) ∧ e = .returned (.int .i64 ((idsF A.ths t K A.ths.length).length : Int)) ∧ ArAt w' b F n (A.clean t K) ∧ Apart F w w' := by
  obtain ⟨g, c, hv⟩ := h.ths.shape' hpos
  have c1 := h.raw.at 1 (by omega)
  rw [Raw.c1, hv] at c1
  have hi := fun W => tenant_yes t ht W
  have h0 : (0 : Int) ≤ t := by omega
  have h1 : (t : Int) < 64 := by omega
  obtain ⟨ln, hln⟩ : ∃ n, n = A.ths.length := ⟨_, rfl⟩
  obtain ⟨w2, hmk, hM2, hb2, hs2⟩ := make_marks w ln (by omega)
  have H2 := h.below hb2
  have hkb : ¬ F w.heap.size := fun e => by have := h.flt _ e; omega
  have hk := keepSq_any b n t w.heap.size ln F A r D hI ht hm hf hkb hln lv p (List.replicate ln false) w2 hl H2 hM2 (by simp) (fun j i m hj => by
    unfold Mk at hj
    rw [List.getElem?_replicate] at hj
    split at hj
    · cases hj
    · cases hj)
  have hroot2 := cell_later hb2 hroot
  rw [← hln] at hf hpos hv c1 ⊢
  have HL : Hid (ln = A.ths.length) := hln
  have HV : Hid (r.vth = .slice (some ⟨g, 0, none⟩) ln c) := hv
  have HM : Hid (∀ x ∈ A.ths, x.mask < 18446744073709551616) := hm
  have HH : Hid (ArRaw w b F n A r D) := h
  have HB2 : Hid (Below w.heap.size w w2 ∧ w2.heap.size = w.heap.size + 1) := ⟨hb2, hs2⟩
  clear hln hv hm h H2 hM2 hb2 hs2 hroot
  go_enter Try.func33, Try.ntmps33
  go_wp2_with fail
  refine (hi _).mono ?_
  rintro e w1 ⟨rfl, hw⟩
  have hw' := hw.symm
  subst hw'
  clear hi hw
  go_wp2_with fail
  go_loopg [28] 1 (fun g s28 wr => ∃ i : Nat, i + g = 1 ∧ s28 = .int .i64 i ∧ (i = 0 → wr = w2) ∧ (i = 1 → KeepOut w2 A.ths w.heap.size (List.replicate ln false) p wr))
  case atStart => exact ⟨0, by omega, rfl, fun _ => rfl, fun e => by omega⟩
  case round =>
    obtain ⟨i, hig, rfl, hst0, hst1⟩ := hrel
    rcases (show i = 0 ∨ i = 1 by omega) with rfl | rfl
    · obtain rfl := hst0 rfl
      have HG : Hid (gk = 1) := by show gk = 1; omega
      clear hig hst0 hst1
      go_wp2_with fail
      refine hk.mono ?_
      rintro e w3 ⟨rfl, hk3⟩
      have HK3 : Hid _ := hk3
      clear hk3
      go_wp2_with fail
      go_roundg 0
      case measure => have := HG.out; omega
      case rel => exact ⟨1, by omega, by go_num, fun e => by omega, fun _ => HK3.out⟩
    · obtain ⟨K, hM3, hK3l, hK3, P3⟩ := hst1 rfl
      have HKP : Hid (K.length = ln ∧ ∀ i : Nat, Mk K i ↔ Sub A.ths p ((i : Int) + 2)) := by
        refine ⟨by rw [hK3l]; simp, fun i => ?_⟩
        rw [hK3 i]
        constructor
        · rintro (h1 | h1)
          · unfold Mk at h1
            rw [List.getElem?_replicate] at h1
            split at h1
            · cases h1
            · cases h1
          · exact h1
        · exact Or.inr
      have P3w : Apart F w wr := by
        refine (Apart.of (F := F) HB2.out.1).trans P3 fun k hk => ?_
        subst hk
        exact Or.inr ⟨Nat.le_refl _, by have := HB2.out.2; omega⟩
      have H3 : ArRaw wr b F n A r D := (HH.out.below HB2.out.1).other P3.size fun k hk => P3.block k (Nat.lt_of_lt_of_le (HH.out.flt k hk) HB2.out.1.size) (fun e => hkb (by rw [← e]; exact hk))
      have c3 := H3.raw.at 1 (by omega)
      rw [Raw.c1, HV.out] at c3
      have HM3 : Hid (Marks wr w.heap.size K) := hM3
      have HH3 : Hid (ArRaw wr b F n A r D ∧ Apart F w wr) := ⟨H3, P3w⟩
      obtain ⟨wL, hwL⟩ : ∃ x, x = wr := ⟨_, rfl⟩
      obtain ⟨kb, hkbe⟩ : ∃ x, x = w.heap.size := ⟨_, rfl⟩
      rw [← hkbe] at HM3 hkb ⊢
      have HKB : Hid (kb = w.heap.size) := hkbe
      clear hig hst0 hst1 hM3 hK3l hK3 P3 P3w H3 hk hmk hroot2 c1 hkbe
      subst hwL
      go_wp2_with fail
      go_loopg [10, 43] ln (fun g' s10 s43 wr => ∃ (i : Nat) (r' : Raw), i + g' = ln ∧ s10 = .int .i64 ((idsF A.ths t K i).length : Int) ∧ s43 = .int .i64 i ∧ ArRaw wr b F n (A.takes t (idsF A.ths t K i)) r' D ∧ r'.vth = .slice (some ⟨g, 0, none⟩) ln c ∧ Marks wr kb K ∧ Apart F w wr)
      case atStart => exact ⟨0, r, by omega, rfl, rfl, HH3.out.1, HV.out, HM3.out, HH3.out.2⟩
      case round =>
        obtain ⟨i, r', hi', rfl, rfl, hr, hvr, hMr, Pr⟩ := hrel
        have HI : Hid (i + gk = ln) := hi'
        have hin : i ≤ ln := by omega
        clear hi' c3
        have hil := ids_len A.ths t K i
        by_cases hlt : i < ln
        · have k0 : (0 : Int) ≤ (i : Int) := by omega
          have k1 : (i : Int) < (ln : Int) := by omega
          have hiA : i < A.ths.length := by rw [← HL.out]; exact hlt
          obtain ⟨y, hy, ye1, ye2, ye3, hym, hyb⟩ := takes_get t ht (idsF A.ths t K i) A (fun id hid => by
            obtain ⟨j, h1, _, _, rfl⟩ := ids_mem.1 hid
            exact ⟨by omega, by omega⟩) HM.out i _ (List.getElem?_eq_getElem hiA)
          have hown : y.mask.testBit t = (A.ths[i]!).mask.testBit t := by
            rw [Bool.eq_iff_iff, hyb t, getElem!_pos A.ths i hiA]
            constructor
            · exact fun h => h.1
            · refine fun h => ⟨h, fun h2 => ?_⟩
              obtain ⟨j, h1, _, _, h3⟩ := ids_mem.1 h2.2
              omega
          have hlS : (A.takes t (idsF A.ths t K i)).ths.length = ln := by rw [takes_len]; exact HL.out.symm
          have hth := hr.ths
          rw [hvr] at hth
          rw [← hlS] at hth
          obtain ⟨d0, d1, d2, d3, d4, d5, d6, d7⟩ := hth.cells hy
          have hio := fun W => isOwn_any y t W hym ht
          rw [hown] at hio
          unfold Th.val at hio
          have hKl : i < K.length := by rw [HKP.out.1]; exact hlt
          have HB : Hid (Below wr.heap.size wr (wr.alloc (.cells #[.int .i64 y.k, .int .i64 y.p0, .int .i64 y.p1, .int .i64 y.p2, .int .i64 y.p3, .int .i64 y.lv, .int .i64 y.va, .int .u64 y.mask] 115))) := (Below.refl _ _).alloc (Nat.le_refl _) _
          have HR : Hid (ArRaw wr b F n (A.takes t (idsF A.ths t K i)) r' D ∧ Marks wr kb K ∧ Apart F w wr) := ⟨hr, hMr, Pr⟩
          have HY : Hid ((A.takes t (idsF A.ths t K i)).ths[i]? = some y ∧ y.mask < 18446744073709551616) := ⟨hy, hym⟩
          obtain ⟨fl, hfl⟩ : ∃ x, x = (idsF A.ths t K i).length := ⟨_, rfl⟩
          rw [← hfl] at hil ⊢
          have HFL : Hid (fl = (idsF A.ths t K i).length) := hfl
          clear hth hlS hy hym hyb hr Pr hfl ye1 ye2 ye3
          cases hb : (A.ths[i]!).mask.testBit t with
          | false =>
            rw [hb] at hio
            have HN : Hid (idsF A.ths t K (i + 1) = idsF A.ths t K i) := ids_no (by rw [hb]; rfl)
            clear hMr hown
            go_wp2_with fail
            refine (hio _).mono ?_
            rintro e w4 ⟨rfl, hb4⟩
            have HB4 : Hid (Below wr.heap.size wr w4) := HB.out.trans (hb4.mono HB.out.size)
            clear hio hb4
            go_wp2_with fail
            go_roundg (gk - 1)
            case measure => have := HI.out; omega
            case rel => exact ⟨i + 1, r', by have := HI.out; omega, by rw [HN.out, HFL.out], by go_num, by rw [HN.out]; exact HR.out.1.below HB4.out, hvr, HR.out.2.1.below HB4.out, HR.out.2.2.trans (Apart.of (F := F) HB4.out) fun k hk => Or.inl hk⟩
          | true =>
            rw [hb] at hio
            have hck := hMr.get hKl
            have hkbw := hMr.lt
            cases hkk : K[i]! with
            | true =>
              rw [hkk] at hck
              have HN : Hid (idsF A.ths t K (i + 1) = idsF A.ths t K i) := ids_no (by rw [hb, hkk]; rfl)
              clear hMr hown
              go_wp2_with fail
              refine (hio _).mono ?_
              rintro e w4 ⟨rfl, hb4⟩
              have hB4 : Below wr.heap.size wr w4 := HB.out.trans (hb4.mono HB.out.size)
              have hck4 := cell_later hB4 hck
              have HB4 : Hid (Below wr.heap.size wr w4) := hB4
              clear hio hb4 hB4 hck
              go_wp2_with fail
              go_roundg (gk - 1)
              case measure => have := HI.out; omega
              case rel => exact ⟨i + 1, r', by have := HI.out; omega, by rw [HN.out, HFL.out], by go_num, by rw [HN.out]; exact HR.out.1.below HB4.out, hvr, HR.out.2.1.below HB4.out, HR.out.2.2.trans (Apart.of (F := F) HB4.out) fun k hk => Or.inl hk⟩
            | false =>
              rw [hkk] at hck
              have HN : Hid (idsF A.ths t K (i + 1) = idsF A.ths t K i ++ [(i : Int) + 2]) := ids_yes (by rw [hb, hkk]; rfl)
              clear hMr hown
              go_wp2_with fail
              refine (hio _).mono ?_
              rintro e w4 ⟨rfl, hb4⟩
              have hB4 : Below wr.heap.size wr w4 := HB.out.trans (hb4.mono HB.out.size)
              have hck4 := cell_later hB4 hck
              have hc9 : (A.takes t (idsF A.ths t K i)).cnt t = A.cnt t - (fl : Int) := by rw [takes_cnt, upd_same, HFL.out]
              have c9 := take_any b t i n F ((i : Int) + 2) _ r' D y w4 (HR.out.1.below hB4) HY.out.1 rfl ht HY.out.2 (by rw [takes_len, ← HL.out]; omega) (by rw [hc9]; omega)
              have hA : (A.takes t (idsF A.ths t K i)).take t i y = A.takes t (idsF A.ths t K (i + 1)) := by
                rw [HN.out, takes_snoc, show ((i : Int) + 2 - 2).toNat = i by omega]
                congr 1
                unfold thAt
                rw [show ((i : Int) + 2 - 2).toNat = i by omega, HY.out.1]
                rfl
              rw [hA] at c9
              have HB4 : Hid (Below wr.heap.size wr w4) := hB4
              clear hio hb4 hB4 hck hA hc9
              go_wp2_with fail
              refine c9.mono ?_
              rintro e w5 ⟨rfl, H5, P5⟩
              have HM5 : Hid (Marks w5 kb K) := (P5.block kb (HR.out.2.1.below HB4.out).lt hkb).trans (HR.out.2.1.below HB4.out)
              clear c9 hck4
              go_wp2_with fail
              go_roundg (gk - 1)
              case measure => have := HI.out; omega
              case rel => exact ⟨i + 1, _, by have := HI.out; omega, by rw [HN.out, List.length_append, ← HFL.out]; go_num, by go_num, H5, hvr, HM5.out, (HR.out.2.2.trans (Apart.of (F := F) HB4.out) fun k hk => Or.inl hk).trans P5 fun k hk => Or.inl hk⟩
        · have k1 : ¬ (i : Int) < (ln : Int) := by omega
          obtain rfl : i = ln := by omega
          have cf2 := hr.raw.at (4 + t * 3 + 2) (by omega)
          rw [Raw.cf] at cf2
          have z2 := hr.raw.frozen (4 + t * 3 + 2)
          have H9 := hr.setFresh (F' := F) (l := []) ht (IntRow.nil wr) (fun _ _ _ => rfl) (Nat.le_refl _) (fun k hk => by simp [Value.ownBlock] at hk) (fun _ h => h) (fun k hk => by simp [Value.ownBlock] at hk) hr.flt
          have HEQ : ({ A.takes t (idsF A.ths t K i) with fresh := upd (A.takes t (idsF A.ths t K i)).fresh t [] } : Ar) = A.clean t K := by
            unfold Ar.clean
            rw [← HL.out, (takes_rest A t (idsF A.ths t K i)).1]
          rw [HEQ] at H9
          have HFIN : Hid (Apart F w (wr.setCell ⟨b, 4 + t * 3 + 2, none⟩ (.slice none 0 0))) := Pr.trans (Apart.set wr _ hr.fb) fun k hk => Or.inl hk
          clear hMr HEQ hr Pr
          go_wp2_with fail
          go_ret
          exact ⟨K, by rw [HKP.out.1], HKP.out.2, rfl, ⟨_, _, H9⟩, HFIN.out⟩
end Go.Proofs.Ythobobgiendcfaa.A
