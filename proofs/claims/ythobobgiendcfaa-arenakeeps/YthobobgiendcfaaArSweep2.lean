/- Sweep's walk. -/
import Derived.Test.YthobobgiendcfaaArSweep
namespace Go.Proofs.Ythobobgiendcfaa.A
open Go.RowKit Go.Maps Go.ChangeMaps Go.WideElems

/-- swept as far as a thing -/
def Ar.swp (A : Ar) (i : Nat) : Ar := { A with ths := sw A.ths i, free := A.free ++ fr A.ths i }
theorem sw_uniq {l : List Th} (h : Uniq l) (i : Nat) : Uniq (sw l i) := fun a b x y hx hy hk he => by
  rw [sw_get] at hx hy
  cases ha : l[a]? with
  | none => rw [ha] at hx; cases hx
  | some x0 =>
    cases hb : l[b]? with
    | none => rw [hb] at hy; cases hy
    | some y0 =>
      rw [ha, Option.map_some] at hx
      rw [hb, Option.map_some] at hy
      have hx := Option.some.inj hx
      have hy := Option.some.inj hy
      split at hx
      · rw [← hx] at hk; exact absurd rfl hk
      · split at hy
        · rw [← hy] at he
          exact absurd (key_k he) hk
        · subst hx; subst hy
          exact h a b _ _ ha hb hk he

set_option maxRecDepth 20000 in
set_option maxHeartbeats 4000000 in
theorem sweep_any (b n : Nat) (F : Nat → Prop) (A : Ar) (r : Raw) (D : DataW Unit) (w : World) (h : ArRaw w b F n A r D) (hlen : A.ths.length < 1000000) (hpos : 0 < A.ths.length) (hU : Uniq A.ths) (hfit : ∀ x ∈ A.ths, x.k ≠ 0 → x.key.Fit)
    (hmax : ∀ y ∈ A.free, ∀ (j : Nat) (x : Th), A.ths[j]? = some x → gone x = true → y < (j : Int) + 2) (hfl : A.free.length + A.ths.length < 1000000) :
    Calls Try.prog 34 #[.pointer (some ⟨b, 0, none⟩)] w fun e w' => e = .returned (.int .i64 ((fr A.ths A.ths.length).length : Int)) ∧ (∃ F', (∀ k, F' k → F k ∨ w.heap.size ≤ k) ∧ ArAt w' b F' n (A.swp A.ths.length)) ∧ Apart F w w' := by
  obtain ⟨g, c, hv⟩ := h.ths.shape' hpos
  have c1 := h.raw.at 1 (by omega)
  rw [Raw.c1, hv] at c1
  obtain ⟨len, hl⟩ : ∃ n, n = A.ths.length := ⟨_, rfl⟩
  rw [← hl] at hlen hpos hv c1 hfl ⊢
  have HL : Hid (len = A.ths.length) := hl
  have HH : Hid (ArRaw w b F n (A.swp 0) r D) := by
    show ArRaw w b F n (A.swp 0) r D
    unfold Ar.swp
    rw [sw_zero, show fr A.ths 0 = [] from rfl, List.append_nil]
    exact h
  have HV : Hid (r.vth = .slice (some ⟨g, 0, none⟩) len c) := hv
  have HU : Hid (Uniq A.ths) := hU
  have HFIT : Hid (∀ x ∈ A.ths, x.k ≠ 0 → x.key.Fit) := hfit
  have HMAX : Hid (∀ y ∈ A.free, ∀ (j : Nat) (x : Th), A.ths[j]? = some x → gone x = true → y < (j : Int) + 2) := hmax
  clear hv hl hU hfit hmax h
  go_enter Try.func34, Try.ntmps34
  go_wp2_with fail
  go_loopg [3, 13] len (fun gh s3 s13 wr => ∃ (i : Nat) (r' : Raw) (D' : DataW Unit) (F' : Nat → Prop), i + gh = len ∧ s3 = .int .i64 ((fr A.ths i).length : Int) ∧ s13 = .int .i64 i ∧ ArRaw wr b F' n (A.swp i) r' D' ∧ r'.vth = .slice (some ⟨g, 0, none⟩) len c ∧ (∀ k, F' k → F k ∨ w.heap.size ≤ k) ∧ Apart F w wr)
  case atStart => exact ⟨0, r, D, F, by omega, rfl, rfl, HH.out, HV.out, fun k hk => Or.inl hk, Apart.refl _ _⟩
  case round =>
    obtain ⟨i, r', D', F', hi', rfl, rfl, hr, hfr, hF', P⟩ := hrel
    have HI : Hid (i + gk = len) := hi'
    have hin : i ≤ len := by omega
    clear hi' c1
    by_cases hlt : i < len
    · have k0 : (0 : Int) ≤ (i : Int) := by omega
      have k1 : (i : Int) < (len : Int) := by omega
      have hlS : (A.swp i).ths.length = len := by rw [HL.out]; exact sw_len _ _
      have hx : A.ths[i]? = some A.ths[i]! := by rw [getElem!_pos A.ths i (by rw [← HL.out]; exact hlt)]; exact List.getElem?_eq_getElem _
      have hxS : (A.swp i).ths[i]? = some A.ths[i]! := sw_now hx
      have hth := hr.ths
      rw [hfr] at hth
      rw [← hlS] at hth
      obtain ⟨d0, d1, d2, d3, d4, d5, d6, d7⟩ := hth.cells hxS
      have hfl2 := fr_len A.ths i
      have HX : Hid (A.ths[i]? = some A.ths[i]!) := hx
      have HXS : Hid ((A.swp i).ths[i]? = some A.ths[i]!) := hxS
      have HLS : Hid ((A.swp i).ths.length = len) := hlS
      generalize A.ths[i]! = x at *
      obtain ⟨fl, hfl3⟩ : ∃ n, n = (fr A.ths i).length := ⟨_, rfl⟩
      rw [← hfl3] at hfl2 ⊢
      have HFL : Hid (fl = (fr A.ths i).length) := hfl3
      clear hx hxS hth hlS hfl3
      have hbx : Below wr.heap.size wr (wr.alloc (.cells #[.int .i64 x.k, .int .i64 x.p0, .int .i64 x.p1, .int .i64 x.p2, .int .i64 x.p3, .int .i64 x.lv, .int .i64 x.va, .int .u64 x.mask] 115)) := (Below.refl _ _).alloc (Nat.le_refl _) _
      have HB : Hid _ := hbx
      clear hbx
      cases hg : gone x with
      | false =>
        have hA : A.swp (i + 1) = A.swp i := by
          unfold Ar.swp
          rw [sw_keep HX.out hg, fr_keep HX.out hg]
        have HA : Hid (A.swp (i + 1) = A.swp i) := hA
        have HF2 : Hid (fr A.ths (i + 1) = fr A.ths i) := fr_keep HX.out hg
        have hc : (x.k != 0) = false ∨ ((x.k != 0) = true ∧ ((x.mask : Int) == 0) = false) := by
          unfold gone at hg
          cases h1 : (x.k != 0) with
          | false => exact Or.inl rfl
          | true =>
            rw [h1, Bool.true_and] at hg
            refine Or.inr ⟨rfl, ?_⟩
            simp only [beq_eq_false_iff_ne] at hg ⊢
            omega
        have HREL : Hid (∃ (i' : Nat) (r0 : Raw) (D0 : DataW Unit) (F0 : Nat → Prop), i' + (gk - 1) = len ∧ Value.int .i64 (fl : Int) = .int .i64 ((fr A.ths i').length : Int) ∧ Value.int .i64 ((i : Int) + 1) = .int .i64 (i' : Int) ∧ ArRaw (wr.alloc (.cells #[.int .i64 x.k, .int .i64 x.p0, .int .i64 x.p1, .int .i64 x.p2, .int .i64 x.p3, .int .i64 x.lv, .int .i64 x.va, .int .u64 x.mask] 115)) b F0 n (A.swp i') r0 D0 ∧ r0.vth = .slice (some ⟨g, 0, none⟩) len c ∧ (∀ k, F0 k → F k ∨ w.heap.size ≤ k) ∧ Apart F w (wr.alloc (.cells #[.int .i64 x.k, .int .i64 x.p0, .int .i64 x.p1, .int .i64 x.p2, .int .i64 x.p3, .int .i64 x.lv, .int .i64 x.va, .int .u64 x.mask] 115))) :=
          ⟨i + 1, r', D', F', by have := HI.out; omega, by rw [HF2.out, HFL.out], by go_num, by rw [HA.out]; exact hr.below HB.out, hfr, hF', P.trans (Apart.of (F := F) HB.out) fun k hk => Or.inl hk⟩
        clear hg hA
        rcases hc with hk | ⟨hk, hm⟩
        · go_wp2_with fail
          go_roundg (gk - 1)
          case measure => have := HI.out; omega
          case rel => exact HREL.out
        · go_wp2_with fail
          go_roundg (gk - 1)
          case measure => have := HI.out; omega
          case rel => exact HREL.out
      | true =>
        have HG : Hid (gone x = true) := hg
        have hk : ¬ x.k = 0 ∧ x.mask = 0 := by
          unfold gone at hg
          simpa using hg
        have hb1 : (x.k != 0) = true := by simpa using hk.1
        have HK : Hid (x.k ≠ 0 ∧ x.mask = 0 ∧ x.key.Fit) := ⟨hk.1, hk.2, HFIT.out x (List.mem_of_getElem? HX.out) hk.1⟩
        have hb2 : ((x.mask : Int) == 0) = true := by rw [hk.2]; rfl
        clear hg hk
        go_wp2_with fail
        have hX : (wr.alloc (.cells #[.int .i64 x.k, .int .i64 x.p0, .int .i64 x.p1, .int .i64 x.p2, .int .i64 x.p3, .int .i64 x.lv, .int .i64 x.va, .int .u64 x.mask] 115)).heap[wr.heap.size]? = some (.cells #[.int .i64 x.k, .int .i64 x.p0, .int .i64 x.p1, .int .i64 x.p2, .int .i64 x.p3, .int .i64 x.lv, .int .i64 x.va, .int .u64 x.mask] 115 (0, 0)) := heap_alloc_new wr _
        have H1 := hr.below HB.out
        have P1 := P.trans (Apart.of (F := F) HB.out) fun k hk => Or.inl hk
        have hszW : (wr.alloc (.cells #[.int .i64 x.k, .int .i64 x.p0, .int .i64 x.p1, .int .i64 x.p2, .int .i64 x.p3, .int .i64 x.lv, .int .i64 x.va, .int .u64 x.mask] 115)).heap.size = wr.heap.size + 1 := by simp
        clear HB d0 d1 d2 d3 d4 d5 d6 d7
        generalize wr.alloc (.cells #[.int .i64 x.k, .int .i64 x.p0, .int .i64 x.p1, .int .i64 x.p2, .int .i64 x.p3, .int .i64 x.lv, .int .i64 x.va, .int .u64 x.mask] 115) = W1 at *
        obtain ⟨d0, d1, d2, d3, d4, d5, d6, d7⟩ := cells8 hX
        have c2 := H1.raw.at 2 (by omega)
        rw [Raw.c2] at c2
        obtain ⟨w6, hrun, hown6, hturn⟩ := World.ownsMap.drop (w := W1.drew) H1.map thLaw Try.underlying101 (key_ky HK.out.2.2) 0
        unfold Ky.val Th.key at hrun
        simp only at hrun
        have HM : Hid (w6.ownsMap Try.prog 113 (plainElem Try.prog 3) r'.mp n (D'.del (kl x.key)) ∧ W1.drew.mapTurned w6 r'.mp) := ⟨hown6, hturn⟩
        clear hX hown6 hturn
        go_cut [] from 27 to 32 (fun wc => wc = w6)
        case first =>
          go_region
          all_goals
            go_wp2_with fail
            go_meet
            case rel => exact rfl
        case rest =>
        subst hcut
        clear hrun c2 d0 d1 d2 d3 d4 d5 d6 d7
        have hgr := grown_of_turned HM.out.2
        have hsz := size_of_turned HM.out.2
        have hlk : ∀ k, F' k → k ≠ r'.mp → wc.heap[k]? = W1.heap[k]? := fun k hk hne => hgr.block k (H1.flt k hk) (fun e => hne (Option.some.inj e))
        have hR := H1.raw.go (hlk b H1.fb H1.mb.symm)
        have c1 := hR.at 1 (by omega)
        rw [Raw.c1, hfr] at c1
        have hv' : r'.vth = .slice (some ⟨g, 0, none⟩) (A.swp i).ths.length c := by rw [HLS.out]; exact hfr
        have hth : ThRow wc 0 r'.vth (A.swp i).ths := row_other H1.ths fun k hk => hlk k (H1.fv k hk) (fun e => H1.vm (by rw [← e]; exact hk))
        rw [hv'] at hth
        obtain ⟨d0, d1, d2, d3, d4, d5, d6, d7⟩ := hth.cells HXS.out
        have z0 := hth.frozenAt (i * 8)
        have z1 := hth.frozenAt (i * 8 + 1)
        have z2 := hth.frozenAt (i * 8 + 2)
        have z3 := hth.frozenAt (i * 8 + 3)
        have z4 := hth.frozenAt (i * 8 + 4)
        have z5 := hth.frozenAt (i * 8 + 5)
        have z6 := hth.frozenAt (i * 8 + 6)
        have z7 := hth.frozenAt (i * 8 + 7)
        obtain ⟨HU1, PU1⟩ := H1.drew.unlay (sw_uniq HU.out i) hv' HXS.out HK.out.1 HK.out.2.2 HM.out.1 HM.out.2
        have hA : ({ ({ A.swp i with ths := (A.swp i).ths.set i noTh } : Ar) with free := (A.swp i).free ++ [(i : Int) + 2] } : Ar) = A.swp (i + 1) := by
          unfold Ar.swp
          rw [sw_gone HX.out HG.out, fr_gone HX.out HG.out]
          simp only [List.append_assoc]
        have c9 := push_any b n F' ((i : Int) + 2) _ r' _ _ HU1 (by
          show (A.free ++ fr A.ths i).length < 1000000
          rw [List.length_append, ← HFL.out]
          omega) (by
          intro y hy
          rcases List.mem_append.1 (show y ∈ A.free ++ fr A.ths i from hy) with h1 | h1
          · exact HMAX.out y h1 i x HX.out HG.out
          · exact fr_lt _ _ y h1)
        rw [hA] at c9
        have HP : Hid (Apart F w (set8At wc g (i * 8) noTh)) := (P1.drew).trans PU1 fun k hk => by
          rcases hF' k hk with h1 | h1
          · exact Or.inl h1
          · exact Or.inr ⟨h1, H1.flt k hk⟩
        have HFLT : Hid (∀ k, F' k → k < (set8At wc g (i * 8) noTh).heap.size) := HU1.flt
        clear HU1 PU1 hth hR hlk hgr H1 hr P1
        go_wp2_with fail
        refine c9.mono ?_
        rintro e w9 ⟨rfl, ⟨r9, H9, hv9⟩, P9⟩
        go_wp2_with fail
        go_roundg (gk - 1)
        case measure => have := HI.out; omega
        case rel =>
          have h1 := HP.out.size
          have h2 := P9.size
          refine ⟨i + 1, r9, _, _, by have := HI.out; omega, ?_, by go_num, H9, by rw [hv9]; exact hfr, fun k hk => ?_, HP.out.trans P9 fun k hk => ?_⟩
          · rw [fr_gone HX.out HG.out, List.length_append, ← HFL.out]
            go_num
          · rcases hk with h | h
            · exact hF' k h
            · exact Or.inr (by omega)
          · rcases hF' k hk with h | h
            · exact Or.inl h
            · exact Or.inr ⟨h, HFLT.out k hk⟩
    · have k1 : ¬ (i : Int) < (len : Int) := by omega
      obtain rfl : i = len := by omega
      go_wp2_with fail
      go_ret
      exact ⟨rfl, ⟨F', hF', r', D', hr⟩, P⟩
end Go.Proofs.Ythobobgiendcfaa.A
