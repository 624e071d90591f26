/- Clean, whatever there is. -/
import Derived.Test.YtfogedmghhacdaaArLoseP
import Derived.Laws.OwnMore
namespace Go.Proofs.Ytfogedmghhacdaa.A
open Go.RowKit Go.Maps

theorem Try.info4 : (Try.prog.info? 4).map (fun i => (i.zero, i.size, i.bytes)) = some (some (.bool false), 1, 1) := by kernel_rfl
theorem made_marks (n : Nat) : madeCells (Value.bool false).cells (n * 1) = ((List.replicate n false).map Value.bool).toArray := by
  refine Array.ext (by rw [size_madeCells]; simp) fun i h1 h2 => ?_
  have e : i % 1 = 0 := Nat.mod_one i
  simp [madeCells, Value.cells, e]
theorem make_marks (w : World) (n : Nat) (hn : n < 1000000) : ∃ w', (Instr.makeSlice 92 (.int .i64 n) (.int .i64 n)).run Try.prog w = .ok (.slice (some ⟨w.heap.size, 0, none⟩) n n) w' ∧ Marks w' w.heap.size (List.replicate n false) ∧ Below w.heap.size w w' ∧ w'.heap.size = w.heap.size + 1 := by
  obtain ⟨i0, hi, hz0, hz1, hz2⟩ := info_parts Try.info4
  have hr := run_make (P := Try.prog) w 92 4 i0 (.bool false) Try.underlying92 hi hz0 .i64 .i64 n n (by omega) (Int.le_refl _) (by rw [hz2]; omega) (by omega)
  rw [hz1, Int.toNat_natCast, made_marks] at hr
  exact ⟨_, hr, heap_alloc_new w _, (Below.refl _ _).alloc (Nat.le_refl _) _, by simp⟩

/-- what is taken: own, and not kept -/
def idsF (l : List Th) (t : Nat) (K : List Bool) (i : Nat) : List Int := ((List.range i).filter (fun j => (l[j]!).mask.testBit t && !K[j]!)).map (fun j : Nat => (j : Int) + 2)
theorem ids_yes {l : List Th} {t : Nat} {K : List Bool} {i : Nat} (h : ((l[i]!).mask.testBit t && !K[i]!) = true) : idsF l t K (i + 1) = idsF l t K i ++ [(i : Int) + 2] := by
  unfold idsF
  have e2 : [i].filter (fun j => (l[j]!).mask.testBit t && !K[j]!) = [i] := by rw [List.filter_cons_of_pos (by exact h)]; rfl
  rw [List.range_succ, List.filter_append, List.map_append, e2]
  rfl
theorem ids_no {l : List Th} {t : Nat} {K : List Bool} {i : Nat} (h : ((l[i]!).mask.testBit t && !K[i]!) = false) : idsF l t K (i + 1) = idsF l t K i := by
  unfold idsF
  have e2 : [i].filter (fun j => (l[j]!).mask.testBit t && !K[j]!) = [] := by rw [List.filter_cons_of_neg (by rw [h]; decide)]; rfl
  rw [List.range_succ, List.filter_append, List.map_append, e2]
  exact List.append_nil _
theorem ids_len (l : List Th) (t : Nat) (K : List Bool) (i : Nat) : (idsF l t K i).length ≤ i := by
  unfold idsF
  rw [List.length_map]
  refine Nat.le_trans (List.length_filter_le _ _) ?_
  simp
theorem ids_mem {l : List Th} {t : Nat} {K : List Bool} {i : Nat} {x : Int} : x ∈ idsF l t K i ↔ ∃ j : Nat, j < i ∧ (l[j]!).mask.testBit t = true ∧ K[j]! = false ∧ x = (j : Int) + 2 := by
  unfold idsF
  simp only [List.mem_map, List.mem_filter, List.mem_range, Bool.and_eq_true, Bool.not_eq_true']
  constructor
  · rintro ⟨j, ⟨h1, h2, h3⟩, rfl⟩
    exact ⟨j, h1, h2, h3, rfl⟩
  · rintro ⟨j, h1, h2, h3, rfl⟩
    exact ⟨j, ⟨h1, h2, h3⟩, rfl⟩
/-- an arena cleaned for a tenant -/
def Ar.clean (A : Ar) (t : Nat) (K : List Bool) : Ar := { A.takes t (idsF A.ths t K A.ths.length) with fresh := upd A.fresh t [] }

/-- numbers that can be read -/
def NRow (w : World) (v : Value) (rs : List Int) : Prop := ∃ a c, v = .slice a rs.length c ∧ (rs = [] ∨ ∃ g o, a = some ⟨g, o, none⟩ ∧ g < w.heap.size ∧ ∀ (k : Nat) x, rs[k]? = some x → w.cell? ⟨g, o + k, none⟩ = some (.int .i64 x))
/-- what is kept: the tenant's own squares below some numbers -/
def keepAll (l : List Th) (t : Nat) (rs : List Int) : List Bool := rs.foldl (fun K id => keepF l t l.length id K) (List.replicate l.length false)
theorem keepAll_snoc (l : List Th) (t : Nat) (rs : List Int) (id : Int) : keepAll l t (rs ++ [id]) = keepF l t l.length id (keepAll l t rs) := by unfold keepAll; rw [List.foldl_append]; rfl
theorem keepAll_len (l : List Th) (t : Nat) (rs : List Int) : (keepAll l t rs).length = l.length := by
  unfold keepAll
  generalize hK : List.replicate l.length false = K
  have : K.length = l.length := by rw [← hK]; simp
  clear hK
  induction rs generalizing K with
  | nil => exact this
  | cons id rs ih => rw [List.foldl_cons]; exact ih _ (by rw [keepF_len]; exact this)
theorem un_all (K : List Bool) : unN K ≤ K.length := List.countP_le_length
theorem nodup_two {l : List Nat} (h : l.Nodup) : (l.map fun j : Nat => (j : Int) + 2).Nodup := by
  unfold List.Nodup at *
  rw [List.pairwise_map]
  exact h.imp fun e he => e (by omega)
theorem cell_later {w w' : World} {p : Addr} {v : Value} (hb : Below w.heap.size w w') (h : w.cell? p = some v) : w'.cell? p = some v := by
  obtain ⟨b, o, sp⟩ := p
  by_cases hl : b < w.heap.size
  · exact (hb.cell (p := ⟨b, o, sp⟩) hl).trans h
  · exfalso
    unfold World.cell? at h
    rw [show w.heap[b]? = none from Array.getElem?_eq_none (by omega)] at h
    simp at h
theorem ids_own {l : List Th} {t : Nat} {K : List Bool} {i : Nat} (hi : i ≤ l.length) : OwnIds l t (idsF l t K i) := by
  refine ⟨?_, fun id hid => ?_⟩
  · unfold idsF
    exact nodup_two ((List.nodup_range).filter _)
  · obtain ⟨j, h1, h2, _, rfl⟩ := ids_mem.1 hid
    refine ⟨by omega, l[j]!, ?_, h2⟩
    rw [show (((j : Int) + 2 - 2).toNat) = j by omega, getElem!_pos l j (by omega)]
    exact List.getElem?_eq_getElem _
theorem cell_keep {kb : Nat} {w w' : World} (ho : OnlyB kb w w') {g o : Nat} (hg : g < w.heap.size) (hne : g ≠ kb) : w'.cell? ⟨g, o, none⟩ = w.cell? ⟨g, o, none⟩ := World.cell?_of_block (w := w) (ho.block g hg hne)

set_option maxRecDepth 20000 in
set_option maxHeartbeats 4000000 in
theorem cleanq_any (b n t : Nat) (F : Nat → Prop) (A : Ar) (r : Raw) (D : DataW Unit) (rs : List Int) (ra : Option Addr) (rc : Nat) (w : World) (h : ArRaw w b F n A r D) (ht : t < 64) (hm : ∀ x ∈ A.ths, x.mask < 18446744073709551616) (hf : A.ths.length < 400000)
    (hcnt : 0 ≤ A.cnt t ∧ A.cnt t < 4611686018427387904) (hrow : rs = [] ∨ ∃ g o, ra = some ⟨g, o, none⟩ ∧ g < w.heap.size ∧ ∀ (k : Nat) x, rs[k]? = some x → w.cell? ⟨g, o + k, none⟩ = some (.int .i64 x)) (hrl : rs.length < 1000000)
    (hkeep : ∀ (id : Int) (K : List Bool) (W : World), id ∈ rs → ArRaw W b F n A r D → Marks W w.heap.size K → K.length = A.ths.length → Calls Try.prog 46 #[.pointer (some ⟨b, 0, none⟩), .int .i64 t, .int .i64 id, .slice (some ⟨w.heap.size, 0, none⟩) A.ths.length A.ths.length] W (KeepP W A.ths t A.ths.length w.heap.size id K)) :
    Calls Try.prog 21 #[.pointer (some ⟨b, 0, none⟩), .int .i64 t, .slice ra rs.length rc] w fun e w' => e = .returned (.int .i64 ((idsF A.ths t (keepAll A.ths t rs) A.ths.length).length : Int)) ∧ ArAt w' b F n (A.clean t (keepAll A.ths t rs)) ∧ Apart F w w' := by
  obtain ⟨va, vc, hv⟩ := h.ths.shape
  have c1 := h.raw.at 1 (by omega)
  rw [Raw.c1, hv] at c1
  have hi := fun W => tenant_yes t ht W
  have h0 : (0 : Int) ≤ t := by omega
  have h1 : (t : Int) < 64 := by omega
  obtain ⟨ln, hln⟩ : ∃ n, n = A.ths.length := ⟨_, rfl⟩
  obtain ⟨rl, hrln⟩ : ∃ n, n = rs.length := ⟨_, rfl⟩
  obtain ⟨w2, hmk, hM2, hb2, hs2⟩ := make_marks w ln (by omega)
  have hkb : ¬ F w.heap.size := fun e => by have := h.flt _ e; omega
  rw [← hln] at hf hv c1 hkeep ⊢
  rw [← hrln] at hrl ⊢
  have HL : Hid (ln = A.ths.length) := hln
  have HRL : Hid (rl = rs.length) := hrln
  have HV : Hid (r.vth = .slice va ln vc) := hv
  have HM : Hid (∀ x ∈ A.ths, x.mask < 18446744073709551616) := hm
  have HH : Hid (ArRaw w b F n A r D) := h
  have HB2 : Hid (Below w.heap.size w w2 ∧ w2.heap.size = w.heap.size + 1) := ⟨hb2, hs2⟩
  have HROW : Hid (rs = [] ∨ ∃ g o, ra = some ⟨g, o, none⟩ ∧ g < w.heap.size ∧ ∀ (k : Nat) x, rs[k]? = some x → w.cell? ⟨g, o + k, none⟩ = some (.int .i64 x)) := hrow
  have HKEEP : Hid _ := hkeep
  have HM2 : Hid (Marks w2 w.heap.size (keepAll A.ths t (rs.take 0))) := by
    show Marks w2 w.heap.size (List.replicate A.ths.length false)
    rw [← hln]; exact hM2
  clear hln hv hm h hM2 hb2 hs2 hrow hrln hkeep
  go_enter Try.func21, Try.ntmps21
  go_wp2_with fail
  refine (hi _).mono ?_
  rintro e w1 ⟨rfl, hw⟩
  have hw' := hw.symm
  subst hw'
  clear hi hw
  go_wp2_with fail
  go_loopg [28] rl (fun g s28 wr => ∃ i : Nat, i + g = rl ∧ s28 = .int .i64 i ∧ Marks wr w.heap.size (keepAll A.ths t (rs.take i)) ∧ OnlyB w.heap.size w2 wr)
  case atStart => exact ⟨0, by omega, rfl, HM2.out, OnlyB.refl _ _⟩
  case round =>
    obtain ⟨i, hig, rfl, hMi, hOi⟩ := hrel
    have H3 : ArRaw wr b F n A r D := (HH.out.below HB2.out.1).other hOi.size fun k hk => hOi.block k (Nat.lt_of_lt_of_le (HH.out.flt k hk) HB2.out.1.size) (fun e => hkb (by rw [← e]; exact hk))
    have HIG : Hid (i + gk = rl) := hig
    have hil : i ≤ rl := by omega
    by_cases hlt : i < rl
    · have k0 : (0 : Int) ≤ (i : Int) := by omega
      have k1 : (i : Int) < (rl : Int) := by omega
      have hx : rs[i]? = some (rs[i]'(by rw [← HRL.out]; exact hlt)) := List.getElem?_eq_getElem _
      generalize rs[i]'(by rw [← HRL.out]; exact hlt) = id at hx
      obtain ⟨g, o, rfl, hg, hc⟩ : ∃ g o, ra = some ⟨g, o, none⟩ ∧ g < w.heap.size ∧ ∀ (k : Nat) x, rs[k]? = some x → w.cell? ⟨g, o + k, none⟩ = some (.int .i64 x) := by
        rcases HROW.out with e | e
        · rw [e] at hx; simp at hx
        · exact e
      have hcx : wr.cell? ⟨g, o + i, none⟩ = some (.int .i64 id) := by
        rw [cell_keep hOi (Nat.lt_of_lt_of_le hg HB2.out.1.size) (by omega)]
        exact (HB2.out.1.cell (p := ⟨g, o + i, none⟩) hg).trans (hc i id hx)
      have hk := HKEEP.out id _ wr (List.mem_of_getElem? hx) H3 hMi (by rw [keepAll_len]; exact HL.out.symm)
      have HSN : Hid (keepAll A.ths t (rs.take (i + 1)) = keepF A.ths t A.ths.length id (keepAll A.ths t (rs.take i))) := by
        show _ = _
        rw [List.take_add_one, hx]
        exact keepAll_snoc _ _ _ _
      have HO : Hid (OnlyB w.heap.size w2 wr) := hOi
      clear hig hx hc hMi hOi H3 c1 hmk
      go_wp2_with fail
      refine hk.mono ?_
      rintro e w3 ⟨rfl, hm3, ho3⟩
      have HM3 : Hid (Marks w3 w.heap.size (keepAll A.ths t (rs.take (i + 1))) ∧ OnlyB w.heap.size w2 w3) := ⟨by rw [HSN.out, ← HL.out]; exact hm3, HO.out.trans ho3⟩
      clear hm3 ho3 hk hcx
      go_wp2_with fail
      go_roundg (gk - 1)
      case measure => have := HIG.out; omega
      case rel => exact ⟨i + 1, by have := HIG.out; omega, by go_num, HM3.out.1, HM3.out.2⟩
    · have k1 : ¬ (i : Int) < (rl : Int) := by omega
      have hte : rs.take i = rs := List.take_of_length_le (by rw [← HRL.out]; omega)
      rw [hte] at hMi
      obtain ⟨K, hK⟩ : ∃ K, K = keepAll A.ths t rs := ⟨_, rfl⟩
      rw [← hK] at hMi
      have HKP : Hid (K.length = ln ∧ K = keepAll A.ths t rs) := ⟨by rw [hK, keepAll_len, HL.out], hK⟩
      have P3w : Apart F w wr := (Apart.of (F := F) HB2.out.1).trans (F' := fun k => k = w.heap.size) ⟨hOi.os, hOi.tape, hOi.output, hOi.size, fun k hk hn => hOi.block k hk hn⟩ fun k hk => by
        subst hk
        exact Or.inr ⟨Nat.le_refl _, by have := HB2.out.2; omega⟩
      have c3 := H3.raw.at 1 (by omega)
      rw [Raw.c1, HV.out] at c3
      have HM3 : Hid (Marks wr w.heap.size K) := hMi
      have HH3 : Hid (ArRaw wr b F n A r D ∧ Apart F w wr) := ⟨H3, P3w⟩
      obtain ⟨wL, hwL⟩ : ∃ x, x = wr := ⟨_, rfl⟩
      obtain ⟨kb, hkbe⟩ : ∃ x, x = w.heap.size := ⟨_, rfl⟩
      rw [← hkbe] at HM3 hkb ⊢
      have HKB : Hid (kb = w.heap.size) := hkbe
      clear hig hMi hOi P3w H3 hmk c1 hkbe hte
      clear hK
      subst hwL
      go_wp2_with fail
      go_loopg [10, 43] ln (fun g' s10 s43 wr => ∃ (i : Nat) (r' : Raw), i + g' = ln ∧ s10 = .int .i64 ((idsF A.ths t K i).length : Int) ∧ s43 = .int .i64 i ∧ ArRaw wr b F n (A.takes t (idsF A.ths t K i)) r' D ∧ r'.vth = .slice va ln vc ∧ Marks wr kb K ∧ Apart F w wr)
      case atStart => exact ⟨0, r, by omega, rfl, rfl, HH3.out.1, HV.out, HM3.out, HH3.out.2⟩
      case round =>
        obtain ⟨i, r', hi', rfl, rfl, hr, hvr, hMr, Pr⟩ := hrel
        have HI : Hid (i + gk = ln) := hi'
        have hin : i ≤ ln := by omega
        clear hi' c3
        have hil := ids_len A.ths t K i
        by_cases hlt : i < ln
        · have k0 : (0 : Int) ≤ (i : Int) := by omega
          have k1 : (i : Int) < (ln : Int) := by omega
          have hiA : i < A.ths.length := by rw [← HL.out]; exact hlt
          obtain ⟨y, hy, ye1, ye2, ye3, hym, hyb⟩ := takes_get t ht (idsF A.ths t K i) A (fun id hid => by
            obtain ⟨j, h1, _, _, rfl⟩ := ids_mem.1 hid
            exact ⟨by omega, by omega⟩) HM.out i _ (List.getElem?_eq_getElem hiA)
          have hown : y.mask.testBit t = (A.ths[i]!).mask.testBit t := by
            rw [Bool.eq_iff_iff, hyb t, getElem!_pos A.ths i hiA]
            constructor
            · exact fun h => h.1
            · refine fun h => ⟨h, fun h2 => ?_⟩
              obtain ⟨j, h1, _, _, h3⟩ := ids_mem.1 h2.2
              omega
          have hlS : (A.takes t (idsF A.ths t K i)).ths.length = ln := by rw [takes_len]; exact HL.out.symm
          obtain ⟨g, c, hg⟩ := hr.ths.shape' (by rw [hlS]; omega)
          rw [hlS] at hg
          have hvr0 := hvr
          rw [hg] at hvr0
          obtain ⟨rfl, rfl⟩ : va = some ⟨g, 0, none⟩ ∧ vc = c := by simp only [Value.slice.injEq] at hvr0; exact ⟨hvr0.1.symm, hvr0.2.2.symm⟩
          have hth := hr.ths
          rw [hvr] at hth
          rw [← hlS] at hth
          obtain ⟨d0, d1, d2, d3, d4, d5, d6, d7⟩ := hth.cells hy
          have hio := fun W => isOwn_any y t W hym ht
          rw [hown] at hio
          unfold Th.val at hio
          have hKl : i < K.length := by rw [HKP.out.1]; exact hlt
          have HB : Hid (Below wr.heap.size wr (wr.alloc (.cells #[.int .i64 y.k, .int .i64 y.p0, .int .i64 y.p1, .int .i64 y.p2, .int .i64 y.p3, .int .i64 y.lv, .int .i64 y.va, .int .u64 y.mask] 82))) := (Below.refl _ _).alloc (Nat.le_refl _) _
          have HR : Hid (ArRaw wr b F n (A.takes t (idsF A.ths t K i)) r' D ∧ Marks wr kb K ∧ Apart F w wr) := ⟨hr, hMr, Pr⟩
          have HY : Hid ((A.takes t (idsF A.ths t K i)).ths[i]? = some y ∧ y.mask < 18446744073709551616) := ⟨hy, hym⟩
          obtain ⟨fl, hfl⟩ : ∃ x, x = (idsF A.ths t K i).length := ⟨_, rfl⟩
          rw [← hfl] at hil ⊢
          have HFL : Hid (fl = (idsF A.ths t K i).length) := hfl
          clear hth hlS hy hym hyb hr Pr hfl ye1 ye2 ye3 hg hvr0
          cases hb : (A.ths[i]!).mask.testBit t with
          | false =>
            rw [hb] at hio
            have HN : Hid (idsF A.ths t K (i + 1) = idsF A.ths t K i) := ids_no (by rw [hb]; rfl)
            clear hMr hown
            go_wp2_with fail
            refine (hio _).mono ?_
            rintro e w4 ⟨rfl, hb4⟩
            have HB4 : Hid (Below wr.heap.size wr w4) := HB.out.trans (hb4.mono HB.out.size)
            clear hio hb4
            go_wp2_with fail
            go_roundg (gk - 1)
            case measure => have := HI.out; omega
            case rel => exact ⟨i + 1, r', by have := HI.out; omega, by rw [HN.out, HFL.out], by go_num, by rw [HN.out]; exact HR.out.1.below HB4.out, hvr, HR.out.2.1.below HB4.out, HR.out.2.2.trans (Apart.of (F := F) HB4.out) fun k hk => Or.inl hk⟩
          | true =>
            rw [hb] at hio
            have hck := hMr.get hKl
            have hkbw := hMr.lt
            cases hkk : K[i]! with
            | true =>
              rw [hkk] at hck
              have HN : Hid (idsF A.ths t K (i + 1) = idsF A.ths t K i) := ids_no (by rw [hb, hkk]; rfl)
              clear hMr hown
              go_wp2_with fail
              refine (hio _).mono ?_
              rintro e w4 ⟨rfl, hb4⟩
              have hB4 : Below wr.heap.size wr w4 := HB.out.trans (hb4.mono HB.out.size)
              have hck4 := cell_later hB4 hck
              have HB4 : Hid (Below wr.heap.size wr w4) := hB4
              clear hio hb4 hB4 hck
              go_wp2_with fail
              go_roundg (gk - 1)
              case measure => have := HI.out; omega
              case rel => exact ⟨i + 1, r', by have := HI.out; omega, by rw [HN.out, HFL.out], by go_num, by rw [HN.out]; exact HR.out.1.below HB4.out, hvr, HR.out.2.1.below HB4.out, HR.out.2.2.trans (Apart.of (F := F) HB4.out) fun k hk => Or.inl hk⟩
            | false =>
              rw [hkk] at hck
              have HN : Hid (idsF A.ths t K (i + 1) = idsF A.ths t K i ++ [(i : Int) + 2]) := ids_yes (by rw [hb, hkk]; rfl)
              clear hMr hown
              go_wp2_with fail
              refine (hio _).mono ?_
              rintro e w4 ⟨rfl, hb4⟩
              have hB4 : Below wr.heap.size wr w4 := HB.out.trans (hb4.mono HB.out.size)
              have hck4 := cell_later hB4 hck
              have hc9 : (A.takes t (idsF A.ths t K i)).cnt t = A.cnt t - (fl : Int) := by rw [takes_cnt, upd_same, HFL.out]
              have c9 := take_any b t i n F ((i : Int) + 2) _ r' D y w4 (HR.out.1.below hB4) HY.out.1 rfl ht HY.out.2 (by rw [takes_len, ← HL.out]; omega) (by rw [hc9]; omega)
              have hA : (A.takes t (idsF A.ths t K i)).take t i y = A.takes t (idsF A.ths t K (i + 1)) := by
                rw [HN.out, takes_snoc, show ((i : Int) + 2 - 2).toNat = i by omega]
                congr 1
                unfold thAt
                rw [show ((i : Int) + 2 - 2).toNat = i by omega, HY.out.1]
                rfl
              rw [hA] at c9
              have HB4 : Hid (Below wr.heap.size wr w4) := hB4
              clear hio hb4 hB4 hck hA hc9
              go_wp2_with fail
              refine c9.mono ?_
              rintro e w5 ⟨rfl, H5, P5⟩
              have HM5 : Hid (Marks w5 kb K) := (P5.block kb (HR.out.2.1.below HB4.out).lt hkb).trans (HR.out.2.1.below HB4.out)
              clear c9 hck4
              go_wp2_with fail
              go_roundg (gk - 1)
              case measure => have := HI.out; omega
              case rel => exact ⟨i + 1, _, by have := HI.out; omega, by rw [HN.out, List.length_append, ← HFL.out]; go_num, by go_num, H5, hvr, HM5.out, (HR.out.2.2.trans (Apart.of (F := F) HB4.out) fun k hk => Or.inl hk).trans P5 fun k hk => Or.inl hk⟩
        · have k1 : ¬ (i : Int) < (ln : Int) := by omega
          obtain rfl : i = ln := by omega
          have cf2 := hr.raw.at (4 + t * 3 + 2) (by omega)
          rw [Raw.cf] at cf2
          have z2 := hr.raw.frozen (4 + t * 3 + 2)
          have H9 := hr.setFresh (F' := F) (l := []) ht (IntRow.nil wr) (fun _ _ _ => rfl) (Nat.le_refl _) (fun k hk => by simp [Value.ownBlock] at hk) (fun _ h => h) (fun k hk => by simp [Value.ownBlock] at hk) hr.flt
          have HEQ : ({ A.takes t (idsF A.ths t K i) with fresh := upd (A.takes t (idsF A.ths t K i)).fresh t [] } : Ar) = A.clean t K := by
            unfold Ar.clean
            rw [← HL.out, (takes_rest A t (idsF A.ths t K i)).1]
          rw [HEQ] at H9
          have HFIN : Hid (Apart F w (wr.setCell ⟨b, 4 + t * 3 + 2, none⟩ (.slice none 0 0))) := Pr.trans (Apart.set wr _ hr.fb) fun k hk => Or.inl hk
          clear hMr HEQ hr Pr
          go_wp2_with fail
          go_ret
          have hKe := HKP.out.2
          subst hKe
          exact ⟨rfl, ⟨_, _, H9⟩, HFIN.out⟩

end Go.Proofs.Ytfogedmghhacdaa.A
