/- TurnsFair: the law. -/
import Derived.Test.YtcgmnpofpnpfcaaTuFTxt
import Derived.Deep.DeepCutAuto
namespace Go.Proofs.Ytcgmnpofpnpfcaa
open Go.RowKit

/-- deeds that can be read -/
def HF (w : World) (v : Value) (ps : List (Bool × Int)) : Prop :=
  ∃ p cap, v = .slice p ps.length cap ∧ ps.length ≤ cap ∧ cap ≤ 9223372036854775807 ∧ (ps.length = 0 ∨ ∃ b off, p = some ⟨b, off, none⟩ ∧ b < w.heap.size ∧ ∀ (k : Nat) x, ps[k]? = some x → w.cell? ⟨b, off + k * 2, none⟩ = some (.bool x.1) ∧ w.cell? ⟨b, off + k * 2 + 1, none⟩ = some (.int .i64 x.2))
set_option maxRecDepth 20000 in
set_option maxHeartbeats 8000000 in
theorem fair_law (n0 : Int) (v : Value) (ps : List (Bool × Int)) (w : World) (h : HF w v ps) :
    Calls Try.prog 5 #[.int .i64 n0, v] w fun e w' => e = .returned (.bool true) ∧ Below w.heap.size w w' := by
  obtain ⟨p, cap, rfl, hcap, hcm, hrow⟩ := h
  obtain ⟨m, hm⟩ : ∃ m, m = ps.length := ⟨_, rfl⟩
  rw [← hm] at hcap hrow ⊢
  have HM : Hid (m = ps.length) := hm
  have HROW : Hid (m = 0 ∨ ∃ b off, p = some ⟨b, off, none⟩ ∧ b < w.heap.size ∧ ∀ (k : Nat) x, ps[k]? = some x → w.cell? ⟨b, off + k * 2, none⟩ = some (.bool x.1) ∧ w.cell? ⟨b, off + k * 2 + 1, none⟩ = some (.int .i64 x.2)) := hrow
  have a0 := spot_any n0 6 w (by omega) (by omega)
  clear hm hrow
  go_enter Try.func5, Try.ntmps5
  go_wp2_with fail
  refine a0.mono ?_
  rintro e w1 ⟨⟨N0, hN0, rfl⟩, rfl⟩
  obtain ⟨N, hN⟩ : ∃ N, N = 1 + N0 := ⟨_, rfl⟩
  have hwN : IntKind.i64.wrap (1 + (N0 : Int)) = (N : Int) := by rw [IntKind.wrap_i64]; omega
  have a1 := New_any N w1 (by omega) (by omega)
  have hm1 := make_ints N (by omega)
  have hm2 := make_intss N (by omega)
  have hNe : (1 + (N0 : Int)) = (N : Int) := by omega
  have hN1 : 1 ≤ N := by omega
  have hN6 : N ≤ 6 := by omega
  have hN0' : (N0 : Int) < 6 := by omega
  clear a0 hN hwN hN0
  go_wp2_with fail
  (try rw [hNe])
  clear hNe hN0'
  refine a1.mono ?_
  rintro e w2 ⟨rfl, t2, hb2⟩
  have HT2 : Hid (TuAt w2 w1.heap.size (w1.heap.size + 1) w1.heap.size (List.replicate N (.slice none 0 0)) ⟨N, 0, List.replicate N []⟩ ∧ Below w1.heap.size w1 w2) := ⟨t2, hb2⟩
  clear a1 t2 hb2
  have h2r := two_rows w2 w1.heap.size N (by omega) HT2.out.2.size
  have H2R : Hid (IRow ((w2.alloc (.cells (madeCells #[.int .i64 0] N) 3)).alloc (.cells (madeCells #[.int .i64 0] N) 3)) w1.heap.size w2.heap.size N (List.replicate N 0) ∧ IRow ((w2.alloc (.cells (madeCells #[.int .i64 0] N) 3)).alloc (.cells (madeCells #[.int .i64 0] N) 3)) w1.heap.size (w2.heap.size + 1) N (List.replicate N 0) ∧ Below w2.heap.size w2 ((w2.alloc (.cells (madeCells #[.int .i64 0] N) 3)).alloc (.cells (madeCells #[.int .i64 0] N) 3))) := h2r
  clear h2r
  go_upto_region 5 with fail
  go_cut [7, 8] (fun s7 s8 wc => ∃ S G, s7 = .slice (some ⟨S, 0, none⟩) N N ∧ s8 = .slice (some ⟨G, 0, none⟩) N N ∧ S ≠ G ∧ w2.heap.size ≤ S ∧ w2.heap.size ≤ G ∧ IRow wc w1.heap.size S N (List.replicate N 0) ∧ IRow wc w1.heap.size G N (List.replicate N 0) ∧ Below w2.heap.size w2 wc)
  case first =>
    go_region
    · go_wp2_with fail
      go_meet
      case rel => exact ⟨w2.heap.size, w2.heap.size + 1, rfl, rfl, by omega, Nat.le_refl _, by omega, H2R.out.1, H2R.out.2.1, ⟨H2R.out.2.2.os, H2R.out.2.2.tape, H2R.out.2.2.output, H2R.out.2.2.size, H2R.out.2.2.block⟩⟩
    · go_wp2_with fail
      go_meet
      case rel => exact ⟨w2.heap.size + 1, w2.heap.size, rfl, rfl, by omega, by omega, Nat.le_refl _, H2R.out.2.1, H2R.out.1, ⟨H2R.out.2.2.os, H2R.out.2.2.tape, H2R.out.2.2.output, H2R.out.2.2.size, H2R.out.2.2.block⟩⟩
  case rest =>
    obtain ⟨S, G, rfl, rfl, hcut⟩ := hcut
    have HC : Hid (S ≠ G ∧ w2.heap.size ≤ S ∧ w2.heap.size ≤ G ∧ IRow wc w1.heap.size S N (List.replicate N 0) ∧ IRow wc w1.heap.size G N (List.replicate N 0) ∧ Below w2.heap.size w2 wc) := hcut
    clear hcut H2R
    obtain ⟨fs0, fv0⟩ := fs_start hN1 hN6 HT2.out.1 HT2.out.2 HC.out.1 HC.out.2.1 HC.out.2.2.1 HC.out.2.2.2.1 HC.out.2.2.2.2.1 HC.out.2.2.2.2.2
    have HFS : Hid (FS w1 (wc.alloc (.cells (madeCells #[.slice none 0 0] N) 40)) (w1.heap.size + 1) w1.heap.size wc.heap.size (List.replicate N (.slice none 0 0)) (List.replicate N (.slice none 0 0)) ⟨N, 0, List.replicate N []⟩ (F0 S G N)) := fs0
    have HFV : Hid (Fv ⟨N, 0, List.replicate N []⟩ (F0 S G N) S G (List.replicate N (.slice none 0 0)) (List.replicate N 0) (List.replicate N 0) (fun _ => []) 0) := fv0
    clear fs0 fv0 HC HT2
    generalize w1.heap.size + 1 = b at *
    go_wp2_with fail
    generalize wc.heap.size = C at *
    go_loopg [10] 300 (fun gk s10 wr => ∃ (j : Nat) (vs us : List Value) (T : Tu) (F : Nat → Option (List Nat)) (sent got : List Nat) (ss : Nat → List Nat), j + gk = 300 ∧ j ≤ m ∧ s10 = .int .i64 j ∧ T.n = N ∧ FS w1 wr b w1.heap.size C vs us T F ∧ Fv T F S G us sent got ss j)
    case atStart => exact ⟨0, _, _, _, _, _, _, _, rfl, Nat.zero_le _, rfl, rfl, HFS.out, HFV.out⟩
    case round =>
      obtain ⟨j, vs, us, T, F, sent, got, ss, hj, hjm, rfl, hTn, hfs, hfv⟩ := hrel
      have HJ : Hid (j + gk = 300) := hj
      have HFSr : Hid (FS w1 wr b w1.heap.size C vs us T F) := hfs
      have HFVr : Hid (Fv T F S G us sent got ss j) := hfv
      have hj300 : j ≤ 300 := by omega
      clear hj hfs hfv HFS HFV
      by_cases hlt : j < m
      · by_cases hlt3 : j < 300
        · obtain ⟨B, off, rfl, hBl, hc⟩ : ∃ b off, p = some ⟨b, off, none⟩ ∧ b < w1.heap.size ∧ ∀ (k : Nat) x, ps[k]? = some x → w1.cell? ⟨b, off + k * 2, none⟩ = some (.bool x.1) ∧ w1.cell? ⟨b, off + k * 2 + 1, none⟩ = some (.int .i64 x.2) := by
            rcases HROW.out with h | h
            · omega
            · exact h
          have hjk : j < ps.length := by have := HM.out; omega
          obtain ⟨x, hx⟩ : ∃ x, x = ps[j] := ⟨_, rfl⟩
          have hxg : ps[j]? = some x := by rw [hx]; exact List.getElem?_eq_getElem hjk
          have d0 := (HFSr.out.bel.cell (p := ⟨B, off + j * 2, none⟩) hBl).trans (hc j x hxg).1
          have d1 := (HFSr.out.bel.cell (p := ⟨B, off + j * 2 + 1, none⟩) hBl).trans (hc j x hxg).2
          obtain ⟨pu, tn⟩ := x
          simp only at d0 d1
          clear hc hxg hx hjk
          have hi0 : (0 : Int) ≤ (j : Int) := by omega
          have hi1 : (j : Int) < (m : Int) := by omega
          have hi2 : (j : Int) < (300 : Int) := by omega
          have a5 := spot_any tn N wr hN1 (by omega)
          cases pu with
          | true => as_aux_lemma =>
            go_wp2_with fail
            refine a5.mono ?_
            rintro e w3 ⟨⟨k, hkN, rfl⟩, rfl⟩
            have hkT : k < T.n := by omega
            obtain ⟨c1, c2, r, hr26, htm, hc1, hc2, hcv1, hcv2, htx⟩ := txt_parts k (gd sent k) (by omega)
            have e1 : T.push k ((⟨#[109]⟩ : ByteArray) ++ c1 ++ c2) = if 8 ≤ gd sent k - gd got k then (5, T) else (0, ⟨T.n, T.next, T.rows.set k (txts k (gd got k) (gd sent k) ++ [txt k (gd sent k)])⟩) := by rw [htx]; exact HFVr.out.pushes k hkT
            have hszz : ((⟨#[109]⟩ : ByteArray) ++ c1 ++ c2).size ≤ 281474976710656 := by rw [htx, txt_size]; omega
            have cP := Push_any w1.heap.size b w1.heap.size vs T k ((⟨#[109]⟩ : ByteArray) ++ c1 ++ c2) w3 HFSr.out.tu hszz HFSr.out.bel.size
            rw [e1] at cP
            have cS : w3.cell? ⟨S, k, none⟩ = some (.int .i64 (gd sent k : Nat)) := ((HFSr.out.rows S sent HFVr.out.fS).1.cell k hkT).1
            have KS : Hid (∀ W vs' T' F', FS w1 W b w1.heap.size C vs' us T' F' → T'.n = N → F' S = some sent → F' G = some got → W.cell? ⟨S, k, none⟩ = some (.int .i64 (gd sent k : Nat)) ∧ W.frozen? ⟨S, k, none⟩ = false ∧ W.cell? ⟨G, k, none⟩ = some (.int .i64 (gd got k : Nat)) ∧ W.frozen? ⟨G, k, none⟩ = false) := fun W vs' T' F' hf hn h1 h2 => by
              have x1 := (hf.rows S sent h1).1.cell k (by omega)
              have x2 := (hf.rows G got h2).1.cell k (by omega)
              exact ⟨x1.1, x1.2, x2.1, x2.2⟩
            have hq300 := HFVr.out.bd k hkT
            have hgs := HFVr.out.le k hkT
            have hsm : gd sent k - gd got k ≤ 8 := by
              have := HFSr.out.tu.small _ (List.mem_of_getElem? (HFVr.out.row k hkT))
              rwa [txts_len] at this
            have HPU : Hid (gd got k < gd sent k → Fv ⟨T.n, T.next, T.rows.set k (txts k (gd got k) (gd sent k) ++ [txt k (gd sent k)])⟩ (upd F S (sent.set k (gd sent k + 1))) S G us (sent.set k (gd sent k + 1)) got ss (j + 1)) := fun hw => HFVr.out.push k hkT hw
            have HPF : Hid (∀ W1, gd got k = gd sent k → F W1 = none → Fv ⟨T.n, T.next, T.rows.set k (txts k (gd got k) (gd sent k) ++ [txt k (gd sent k)])⟩ (upd (upd F W1 (List.replicate T.n 0)) S (sent.set k (gd sent k + 1))) S G (us.set k (.slice (some ⟨W1, 0, none⟩) T.n T.n)) (sent.set k (gd sent k + 1)) got (fun i => if i = k then List.replicate T.n 0 else ss i) (j + 1)) := fun W1 hw hN => HFVr.out.first k W1 hkT hw hN HFSr.out.usF
            have HFF : Hid (F S = some sent ∧ F G = some got ∧ S ≠ G) := ⟨HFVr.out.fS, HFVr.out.fG, HFVr.out.sG⟩
            generalize txts k (gd got k) (gd sent k) ++ [txt k (gd sent k)] = NR at *
            generalize gd sent k = q at *
            generalize gd got k = a at *
            have hw1 : IntKind.i32.wrap (48 + (k : Int)) = 48 + (k : Int) := by rw [IntKind.wrap_i32]; omega
            have hw2 : IntKind.i32.wrap (65 + (r : Int)) = 65 + (r : Int) := by rw [IntKind.wrap_i32]; omega
            have hk0 : (0 : Int) ≤ (k : Int) := by omega
            have hkN' : (k : Int) < (N : Int) := by omega
            have hwq : IntKind.i64.wrap ((q : Int) - (a : Int)) = (q : Int) - (a : Int) := by rw [IntKind.wrap_i64]; omega
            have HTN : Hid (T.n = N) := hTn
            clear htx e1 hszz hTn a5
            by_cases h8 : 8 ≤ q - a
            · as_aux_lemma =>
              rw [if_pos h8] at cP
              have hfull : ((q : Int) - (a : Int) == 8) = true := by simp; omega
              clear h8 hsm
              go_wp2_with fail
              refine cP.mono ?_
              rintro e W1 ⟨rfl, vs1, t1, o1, own1⟩
              have fs1 := HFSr.out.afterT t1 rfl o1 own1
              have HF1 : Hid (FS w1 W1 b w1.heap.size C vs1 us T F) := fs1
              obtain ⟨k1, k2, k3, k4⟩ := KS.out W1 vs1 T F fs1 HTN.out HFF.out.1 HFF.out.2.1
              clear cP cS fs1 t1 o1 own1
              go_wp2_with fail
              go_region
              go_wp2_with fail
              go_roundg (gk - 1)
              case measure => have := HJ.out; omega
              case rel => exact ⟨j + 1, vs1, us, T, F, sent, got, ss, by have := HJ.out; omega, by omega, by go_num, HTN.out, HF1.out.below (Below.refl _ _).drew, HFVr.out.more⟩
            · as_aux_lemma =>
              rw [if_neg h8] at cP
              have hfull : ((q : Int) - (a : Int) == 8) = false := by simp; omega
              clear h8 hsm
              go_wp2_with fail
              refine cP.mono ?_
              rintro e W1 ⟨rfl, vs1, t1, o1, own1⟩
              have fs1 := HFSr.out.afterT (T' := ⟨T.n, T.next, T.rows.set k NR⟩) t1 rfl o1 own1
              have HF1 : Hid (FS w1 W1 b w1.heap.size C vs1 us ⟨T.n, T.next, T.rows.set k NR⟩ F) := fs1
              obtain ⟨k1, k2, k3, k4⟩ := KS.out W1 vs1 _ F fs1 HTN.out HFF.out.1 HFF.out.2.1
              clear cP cS fs1 t1 o1 own1
              by_cases hqa : a = q
              · have hqa' : ((q : Int) == (a : Int)) = true := by simp; omega
                have HQA : Hid (a = q) := hqa
                clear hqa
                have hrg : W1.ownsRow w1.heap.size 40 1 (.slice (some ⟨C, 0, none⟩) N N) N us := by have := HF1.out.rg; rw [show (Tu.mk T.n T.next (T.rows.set k NR)).n = N from HTN.out] at this; exact this
                have hul : us.length = N := by rw [HFVr.out.ul]; exact HTN.out
                have cC : W1.cell? ⟨C, k, none⟩ = some us[k] := by rw [hrg.cellAt k (by omega)]; exact List.getElem?_eq_getElem (by omega)
                have fC := hrg.frozenAt k
                have hCS : C ≠ S := fun e => (HF1.out.rows S sent HFF.out.1).2.2 e.symm
                have hSl : S < W1.heap.size := ((HF1.out.rows S sent HFF.out.1).1.lt S rfl).2
                have hCl : C < W1.heap.size := (hrg.lt C rfl).2
                generalize us[k] = uk at cC
                clear hrg hul
                go_wp2_with fail
                go_region
                go_wp2_with fail
                go_region
                go_wp2_with fail
                go_roundg (gk - 1)
                case measure => have := HJ.out; omega
                case rel =>
                  have hN0 := HF1.out.fresh
                  have hSN : S ≠ W1.heap.size := Nat.ne_of_lt hSl
                  have f1 := HF1.out.made k (by show T.n ≤ 64; rw [HTN.out]; omega)
                  have f2 := f1.set S k (q + 1) sent (by rw [upd_other _ _ _ _ hSN]; exact HFF.out.1)
                  have hTT : (Tu.mk T.n T.next (T.rows.set k NR)).n = N := HTN.out
                  have hfv := HPF.out W1.heap.size HQA.out hN0
                  rw [HTN.out] at hfv
                  rw [hTT, show (((q + 1 : Nat)) : Int) = (q : Int) + 1 by omega, World.setCell_alloc_past _ _ _ _ hCl, World.setCell_alloc_past _ _ _ _ (by simpa [World.setCell] using hSl)] at f2
                  have f3 := f2.below ((Below.refl _ _).drew).drew
                  exact ⟨j + 1, vs1, _, ⟨N, T.next, T.rows.set k NR⟩, _, sent.set k (q + 1), got, _, by have := HJ.out; omega, by omega, by go_num, rfl, f3, hfv⟩
              · have hqa' : ((q : Int) == (a : Int)) = false := by simp; omega
                have HQA : Hid (a < q) := by show a < q; omega
                clear hqa
                go_wp2_with fail
                go_region
                go_wp2_with fail
                go_region
                go_wp2_with fail
                go_roundg (gk - 1)
                case measure => have := HJ.out; omega
                case rel =>
                  have f2 := HF1.out.set S k (q + 1) sent HFF.out.1
                  rw [show (((q + 1 : Nat)) : Int) = (q : Int) + 1 by omega] at f2
                  exact ⟨j + 1, vs1, us, ⟨T.n, T.next, T.rows.set k NR⟩, upd F S (sent.set k (q + 1)), sent.set k (q + 1), got, ss, by have := HJ.out; omega, by omega, by go_num, HTN.out, f2.below ((Below.refl _ _).drew).drew, HPU.out HQA.out⟩
          | false => as_aux_lemma =>
            have hpop := Pop_any w1.heap.size b w1.heap.size vs T wr HFSr.out.tu
            obtain ⟨gK, hgK⟩ : ∃ gK, gK = gk := ⟨_, rfl⟩
            have HTN : Hid (T.n = N) := hTn
            clear hTn
            go_wp2_with fail
            refine a5.mono ?_
            rintro e w3 ⟨⟨k, hkN, rfl⟩, rfl⟩
            go_wp2_with fail
            refine hpop.mono ?_
            rintro e W1 hp
            clear a5 hpop
            rcases hp with ⟨hall, rfl, hb1⟩ | ⟨i, z, r, hi, hl, hr, rfl, vs1, t1, o1, own1⟩
            · as_aux_lemma =>
              have HF1 : Hid (FS w1 W1 b w1.heap.size C vs us T F) := HFSr.out.below hb1
              have HNO : Hid (∀ i, i < N → gd got i = gd sent i) := fun i hi => by
                have hi' : i < T.n := by rw [HTN.out]; exact hi
                obtain ⟨k1, k2⟩ := at_dN HFVr.out.nx hi'
                have h1 := hall _ k1
                rw [k2, HFVr.out.row i hi'] at h1
                have h2 := HFVr.out.le i hi'
                have h3 : (txts i (gd got i) (gd sent i)).length = 0 := by rw [Option.some.inj h1]; rfl
                rw [txts_len] at h3
                omega
              have CE : Hid (∀ i, i < N → W1.cell? ⟨S, i, none⟩ = some (.int .i64 (gd sent i : Nat)) ∧ W1.cell? ⟨G, i, none⟩ = some (.int .i64 (gd got i : Nat))) := fun i hi => by
                have hi' : i < T.n := by rw [HTN.out]; exact hi
                exact ⟨((HF1.out.rows S sent HFVr.out.fS).1.cell i hi').1, ((HF1.out.rows G got HFVr.out.fG).1.cell i hi').1⟩
              have HSL : Hid (S < W1.heap.size ∧ G < W1.heap.size) := ⟨((HF1.out.rows S sent HFVr.out.fS).1.lt S rfl).2, ((HF1.out.rows G got HFVr.out.fG).1.lt G rfl).2⟩
              clear hall hb1
              subst hgK
              go_wp2_with fail
              go_loopg [17, 18] N (fun gk s17 s18 wx => ∃ (l : Nat) (wk : Bool), l + gk = N ∧ s18 = .int .i64 l ∧ s17 = .bool wk ∧ Below W1.heap.size W1 wx ∧ (wk = true ↔ ∃ i, i < l ∧ gd got i < gd sent i))
              case atStart => exact ⟨0, false, by omega, rfl, rfl, Below.refl _ _, ⟨(fun h => by cases h), (fun ⟨i, h, _⟩ => by omega)⟩⟩
              case round =>
                obtain ⟨l, wk, hlN, rfl, rfl, hbx, hwk⟩ := hrel
                have HL : Hid (l + gk = N) := hlN
                have HWK : Hid (wk = true ↔ ∃ i, i < l ∧ gd got i < gd sent i) := hwk
                have hlN' : l ≤ N := by omega
                have HBX : Hid (Below W1.heap.size W1 wr) := hbx
                have CEX : Hid (∀ i, i < N → wr.cell? ⟨S, i, none⟩ = some (.int .i64 (gd sent i : Nat)) ∧ wr.cell? ⟨G, i, none⟩ = some (.int .i64 (gd got i : Nat))) := fun i hi => ⟨(hbx.cell (p := ⟨S, i, none⟩) HSL.out.1).trans (CE.out i hi).1, (hbx.cell (p := ⟨G, i, none⟩) HSL.out.2).trans (CE.out i hi).2⟩
                clear hlN hwk hbx
                by_cases hl2 : l < N
                · as_aux_lemma =>
                  obtain ⟨e1, e2⟩ := CEX.out l hl2
                  have hl0 : (0 : Int) ≤ (l : Int) := by omega
                  have hl3 : (l : Int) < (N : Int) := by omega
                  by_cases hgs : gd got l < gd sent l
                  · have hgs' : (gd got l : Int) < (gd sent l : Int) := by omega
                    have HGS : Hid (gd got l < gd sent l) := hgs
                    clear hgs
                    cases wk with
                    | true =>
                      go_wp2_with fail
                      go_quiet (fail)
                      go_wp2_with fail
                      go_roundg (gk - 1)
                      case measure => have := HL.out; omega
                      case rel => exact ⟨l + 1, true, by have := HL.out; omega, by go_num, rfl, ⟨HBX.out.os, HBX.out.tape, HBX.out.output, HBX.out.size, HBX.out.block⟩, ⟨fun _ => ⟨l, Nat.lt_succ_self _, HGS.out⟩, fun _ => rfl⟩⟩
                    | false =>
                      go_wp2_with fail
                      have hd : decide (gd got l < gd sent l) = true := decide_eq_true HGS.out
                      go_quiet (fail)
                      go_wp2_with fail
                      go_roundg (gk - 1)
                      case measure => have := HL.out; omega
                      case rel => exact ⟨l + 1, true, by have := HL.out; omega, by go_num, rfl, ⟨HBX.out.os, HBX.out.tape, HBX.out.output, HBX.out.size, HBX.out.block⟩, ⟨fun _ => ⟨l, Nat.lt_succ_self _, HGS.out⟩, fun _ => rfl⟩⟩
                  · have hgs' : ¬ (gd got l : Int) < (gd sent l : Int) := by omega
                    have HGS : Hid (¬ gd got l < gd sent l) := hgs
                    clear hgs
                    have HST : Hid ((∃ i, i < l ∧ gd got i < gd sent i) ↔ ∃ i, i < l + 1 ∧ gd got i < gd sent i) := ⟨fun ⟨i, h1, h2⟩ => ⟨i, by omega, h2⟩, fun ⟨i, h1, h2⟩ => ⟨i, by
                      rcases Nat.lt_succ_iff_lt_or_eq.1 h1 with h | h
                      · exact h
                      · exact absurd (h ▸ h2) HGS.out, h2⟩⟩
                    cases wk with
                    | true =>
                      go_wp2_with fail
                      go_quiet (fail)
                      go_wp2_with fail
                      go_roundg (gk - 1)
                      case measure => have := HL.out; omega
                      case rel => exact ⟨l + 1, true, by have := HL.out; omega, by go_num, rfl, ⟨HBX.out.os, HBX.out.tape, HBX.out.output, HBX.out.size, HBX.out.block⟩, ⟨fun _ => HST.out.1 (HWK.out.1 (by simp)), fun _ => rfl⟩⟩
                    | false =>
                      go_wp2_with fail
                      have hd : decide (gd got l < gd sent l) = false := decide_eq_false HGS.out
                      go_quiet (fail)
                      go_wp2_with fail
                      go_roundg (gk - 1)
                      case measure => have := HL.out; omega
                      case rel => exact ⟨l + 1, false, by have := HL.out; omega, by go_num, rfl, ⟨HBX.out.os, HBX.out.tape, HBX.out.output, HBX.out.size, HBX.out.block⟩, HWK.out.trans HST.out⟩
                · have hl3 : ¬ (l : Int) < (N : Int) := by omega
                  have HLE : Hid (l = N) := by show l = N; omega
                  have hwf : wk = false := by
                    cases wk with
                    | false => rfl
                    | true =>
                      obtain ⟨i, h1, h2⟩ := HWK.out.1 rfl
                      have := HNO.out i (by have := HLE.out; omega)
                      omega
                  subst hwf
                  go_wp2_with fail
                  go_roundg (gK - 1)
                  case measure => have := HJ.out; omega
                  case rel => exact ⟨j + 1, vs, us, T, F, sent, got, ss, by have := HJ.out; omega, by omega, by go_num, HTN.out, HF1.out.below HBX.out, HFVr.out.more⟩
            · as_aux_lemma =>
              obtain ⟨t0, ht0⟩ : ∃ t0, t0 = (T.next + i) % T.n := ⟨_, rfl⟩
              obtain ⟨hlt0, hz, hfm⟩ := HFVr.out.popped hi hl hr ht0
              rw [← ht0] at t1 ⊢
              have fs1 := HFSr.out.afterT (T' := ⟨T.n, (t0 + 1) % T.n, T.rows.set t0 r⟩) t1 rfl o1 own1
              have HF1 : Hid (FS w1 W1 b w1.heap.size C vs1 us ⟨T.n, (t0 + 1) % T.n, T.rows.set t0 r⟩ F) := fs1
              have HFM : Hid (Fm ⟨T.n, (t0 + 1) % T.n, T.rows.set t0 r⟩ (upd F G (got.set t0 (gd got t0 + 1))) S G us sent (got.set t0 (gd got t0 + 1)) ss t0 0 j) := hfm
              have ht0N : t0 < N := by rw [← HTN.out, ht0]; exact Nat.mod_lt _ (by have := HFVr.out.nx; omega)
              have CE : Hid (∀ i, i < N → W1.cell? ⟨S, i, none⟩ = some (.int .i64 (gd sent i : Nat)) ∧ W1.cell? ⟨G, i, none⟩ = some (.int .i64 (gd got i : Nat))) := fun i hi => by
                have hi' : i < T.n := by rw [HTN.out]; exact hi
                exact ⟨((HF1.out.rows S sent HFVr.out.fS).1.cell i hi').1, ((HF1.out.rows G got HFVr.out.fG).1.cell i hi').1⟩
              have HSL : Hid (S < W1.heap.size ∧ G < W1.heap.size) := ⟨((HF1.out.rows S sent HFVr.out.fS).1.lt S rfl).2, ((HF1.out.rows G got HFVr.out.fG).1.lt G rfl).2⟩
              have HFG : Hid (F G = some got) := HFVr.out.fG
              have HLT0 : Hid (gd got t0 < gd sent t0) := hlt0
              have hb0 : gd sent t0 ≤ 300 := by have := HFVr.out.bd t0 (by rw [HTN.out]; exact ht0N); omega
              obtain ⟨c1, c2, rr, hr26, htm, hc1, hc2, hcv1, hcv2, htx⟩ := txt_parts t0 (gd got t0) (by omega)
              have hzt : (z.toList == ((⟨#[109]⟩ : ByteArray) ++ c1 ++ c2).toList) = true := by rw [htx, ← hz]; simp
              have fG := ((HF1.out.rows G got HFVr.out.fG).1.cell t0 (by show t0 < T.n; rw [HTN.out]; exact ht0N)).2
              clear t1 o1 own1 hi hl hr ht0 fs1 hfm hz htx hlt0
              have hT2n : (Tu.mk T.n ((t0 + 1) % T.n) (T.rows.set t0 r)).n = N := HTN.out
              generalize (Tu.mk T.n ((t0 + 1) % T.n) (T.rows.set t0 r)) = T2 at *
              have HTN2 : Hid (T2.n = N) := hT2n
              subst hgK
              go_wp2_with fail
              go_loopg [17, 18] N (fun gk s17 s18 wx => ∃ (l : Nat) (wk : Bool), l + gk = N ∧ s18 = .int .i64 l ∧ s17 = .bool wk ∧ Below W1.heap.size W1 wx ∧ (wk = true ↔ ∃ i, i < l ∧ gd got i < gd sent i))
              case atStart => exact ⟨0, false, by omega, rfl, rfl, Below.refl _ _, ⟨(fun h => by cases h), (fun ⟨i, h, _⟩ => by omega)⟩⟩
              case round =>
                obtain ⟨l, wk, hlN, rfl, rfl, hbx, hwk⟩ := hrel
                have HL : Hid (l + gk = N) := hlN
                have HWK : Hid (wk = true ↔ ∃ i, i < l ∧ gd got i < gd sent i) := hwk
                have hlN' : l ≤ N := by omega
                have HBX : Hid (Below W1.heap.size W1 wr) := hbx
                have CEX : Hid (∀ i, i < N → wr.cell? ⟨S, i, none⟩ = some (.int .i64 (gd sent i : Nat)) ∧ wr.cell? ⟨G, i, none⟩ = some (.int .i64 (gd got i : Nat))) := fun i hi => ⟨(hbx.cell (p := ⟨S, i, none⟩) HSL.out.1).trans (CE.out i hi).1, (hbx.cell (p := ⟨G, i, none⟩) HSL.out.2).trans (CE.out i hi).2⟩
                clear hlN hwk hbx
                by_cases hl2 : l < N
                · as_aux_lemma =>
                  obtain ⟨e1, e2⟩ := CEX.out l hl2
                  have hl0 : (0 : Int) ≤ (l : Int) := by omega
                  have hl3 : (l : Int) < (N : Int) := by omega
                  by_cases hgs : gd got l < gd sent l
                  · have hgs' : (gd got l : Int) < (gd sent l : Int) := by omega
                    have HGS : Hid (gd got l < gd sent l) := hgs
                    clear hgs
                    cases wk with
                    | true =>
                      go_wp2_with fail
                      go_quiet (fail)
                      go_wp2_with fail
                      go_roundg (gk - 1)
                      case measure => have := HL.out; omega
                      case rel => exact ⟨l + 1, true, by have := HL.out; omega, by go_num, rfl, ⟨HBX.out.os, HBX.out.tape, HBX.out.output, HBX.out.size, HBX.out.block⟩, ⟨fun _ => ⟨l, Nat.lt_succ_self _, HGS.out⟩, fun _ => rfl⟩⟩
                    | false =>
                      go_wp2_with fail
                      have hd : decide (gd got l < gd sent l) = true := decide_eq_true HGS.out
                      go_quiet (fail)
                      go_wp2_with fail
                      go_roundg (gk - 1)
                      case measure => have := HL.out; omega
                      case rel => exact ⟨l + 1, true, by have := HL.out; omega, by go_num, rfl, ⟨HBX.out.os, HBX.out.tape, HBX.out.output, HBX.out.size, HBX.out.block⟩, ⟨fun _ => ⟨l, Nat.lt_succ_self _, HGS.out⟩, fun _ => rfl⟩⟩
                  · have hgs' : ¬ (gd got l : Int) < (gd sent l : Int) := by omega
                    have HGS : Hid (¬ gd got l < gd sent l) := hgs
                    clear hgs
                    have HST : Hid ((∃ i, i < l ∧ gd got i < gd sent i) ↔ ∃ i, i < l + 1 ∧ gd got i < gd sent i) := ⟨fun ⟨i, h1, h2⟩ => ⟨i, by omega, h2⟩, fun ⟨i, h1, h2⟩ => ⟨i, by
                      rcases Nat.lt_succ_iff_lt_or_eq.1 h1 with h | h
                      · exact h
                      · exact absurd (h ▸ h2) HGS.out, h2⟩⟩
                    cases wk with
                    | true =>
                      go_wp2_with fail
                      go_quiet (fail)
                      go_wp2_with fail
                      go_roundg (gk - 1)
                      case measure => have := HL.out; omega
                      case rel => exact ⟨l + 1, true, by have := HL.out; omega, by go_num, rfl, ⟨HBX.out.os, HBX.out.tape, HBX.out.output, HBX.out.size, HBX.out.block⟩, ⟨fun _ => HST.out.1 (HWK.out.1 (by simp)), fun _ => rfl⟩⟩
                    | false =>
                      go_wp2_with fail
                      have hd : decide (gd got l < gd sent l) = false := decide_eq_false HGS.out
                      go_quiet (fail)
                      go_wp2_with fail
                      go_roundg (gk - 1)
                      case measure => have := HL.out; omega
                      case rel => exact ⟨l + 1, false, by have := HL.out; omega, by go_num, rfl, ⟨HBX.out.os, HBX.out.tape, HBX.out.output, HBX.out.size, HBX.out.block⟩, HWK.out.trans HST.out⟩
                · have hl3 : ¬ (l : Int) < (N : Int) := by omega
                  have HLE : Hid (l = N) := by show l = N; omega
                  have hwf : wk = true := HWK.out.2 ⟨t0, by have := HLE.out; omega, HLT0.out⟩
                  subst hwf
                  obtain ⟨e1, e2⟩ := CEX.out t0 ht0N
                  have hlt0 := HLT0.out
                  generalize gd sent t0 = q at *
                  generalize hga : gd got t0 = a at *
                  have hne : ((q : Int) == (a : Int)) = false := by simp; omega
                  have hw1 : IntKind.i32.wrap (48 + (t0 : Int)) = 48 + (t0 : Int) := by rw [IntKind.wrap_i32]; omega
                  have hw2 : IntKind.i32.wrap (65 + (rr : Int)) = 65 + (rr : Int) := by rw [IntKind.wrap_i32]; omega
                  have hk0 : ¬ (t0 : Int) < 0 := by omega
                  have hk1 : (0 : Int) ≤ (t0 : Int) := by omega
                  have hkN' : ¬ (N : Int) ≤ (t0 : Int) := by omega
                  have hkN2 : (t0 : Int) < (N : Int) := by omega
                  clear hga
                  go_wp2_with fail
                  have hd1 : decide ((t0 : Int) < 0) = false := by simp
                  have hd2 : decide ((N : Int) ≤ (t0 : Int)) = false := by simp; omega
                  have hd3 : decide (N ≤ t0) = false := by simp; omega
                  have hs1 : 1 + c1.size ≤ 9223372036854775807 := by omega
                  have hs2 : 1 + c1.size + c2.size ≤ 9223372036854775807 := by omega
                  have hs0 : ((⟨#[109]⟩ : ByteArray) ++ c1).size = 1 + c1.size := by rw [ByteArray.size_append]; rfl
                  have hcat1 := cat_run ⟨#[109]⟩ c1 hs1
                  have hcat2 := cat_run (⟨#[109]⟩ ++ c1) c2 (by rw [hs0]; exact hs2)
                  go_quiet (fail)
                  have HW2 : Hid (FS w1 ((wr.drewN nq).setCell ⟨G, t0, none⟩ (.int .i64 ((a : Int) + 1))) b w1.heap.size C vs1 us T2 (upd F G (got.set t0 (a + 1)))) := by
                    have f0 := (HF1.out.below HBX.out).below (W' := wr.drewN nq) ⟨rfl, rfl, rfl, Nat.le_refl _, fun _ _ => rfl⟩
                    have f1 := f0.set G t0 (a + 1) got HFG.out
                    rw [show (((a + 1 : Nat)) : Int) = (a : Int) + 1 by omega] at f1
                    exact f1
                  have e2' : (wr.drewN nq).cell? ⟨G, t0, none⟩ = some (.int .i64 (a : Int)) := e2
                  have fG' : (wr.drewN nq).frozen? ⟨G, t0, none⟩ = false := (World.frozen?_of_block (a := ⟨G, t0, none⟩) (HBX.out.block G HSL.out.2)).trans fG
                  go_wp2_with fail
                  clear e1 e2 e2' fG fG' hd1 hd2 hd3 hs1 hs2 hs0 hcat1 hcat2 hzt hcv1 hcv2
                  obtain ⟨got2, hgot2⟩ : ∃ g2, g2 = got.set t0 (a + 1) := ⟨_, rfl⟩
                  rw [← hgot2] at HW2 HFM
                  clear hgot2
                  generalize hF2 : upd F G got2 = F2 at *
                  clear hF2
                  go_loopg [19] N (fun gk s19 wx => ∃ (jj : Nat) (F2 : Nat → Option (List Nat)) (ss2 : Nat → List Nat), jj + gk = N ∧ s19 = .int .i64 jj ∧ FS w1 wx b w1.heap.size C vs1 us T2 F2 ∧ Fm T2 F2 S G us sent got2 ss2 t0 jj j)
                  case atStart => exact ⟨0, _, ss, by omega, rfl, HW2.out, HFM.out⟩
                  case round =>
                    obtain ⟨jj, F3, ss2, hjj, rfl, hfs3, hfm3⟩ := hrel
                    have HJJ : Hid (jj + gk = N) := hjj
                    have HF3 : Hid (FS w1 wr b w1.heap.size C vs1 us T2 F3) := hfs3
                    have HM3 : Hid (Fm T2 F3 S G us sent got2 ss2 t0 jj j) := hfm3
                    have hjjN : jj ≤ N := by omega
                    clear hjj hfs3 hfm3
                    by_cases hj2 : jj < N
                    · as_aux_lemma =>
                      have hjT : jj < T2.n := by rw [HTN2.out]; exact hj2
                      have g1 : wr.cell? ⟨S, jj, none⟩ = some (.int .i64 (gd sent jj : Nat)) := ((HF3.out.rows S sent HM3.out.fS).1.cell jj hjT).1
                      have g2 : wr.cell? ⟨G, jj, none⟩ = some (.int .i64 (gd got2 jj : Nat)) := ((HF3.out.rows G got2 HM3.out.fG).1.cell jj hjT).1
                      have hj0 : (0 : Int) ≤ (jj : Int) := by omega
                      have hj3 : (jj : Int) < (N : Int) := by omega
                      by_cases hjt : jj = t0
                      · have hjb : ((jj : Int) == (t0 : Int)) = true := by simp; omega
                        have hjn : ((jj : Int) != (t0 : Int)) = false := by simp; omega
                        have HSK : Hid (Fm T2 F3 S G us sent got2 ss2 t0 (jj + 1) j) := HM3.out.skip (.inl hjt)
                        have hn1 : decide (jj = t0) = true := by simpa using hjt
                        have hn2 : (jj == t0) = true := by simpa using hjt
                        have hn3 : (jj != t0) = false := by simpa using hjt
                        clear hjt
                        go_wp2_with fail
                        have hm1 : decide (jj = t0) = true := by simpa using hn2
                        have hm2 : (jj == t0) = true := hm1
                        have hm3 : (jj != t0) = false := by unfold bne; rw [hm2]; rfl
                        go_quiet (fail)
                        go_wp2_with fail
                        go_roundg (gk - 1)
                        case measure => have := HJJ.out; omega
                        case rel => exact ⟨jj + 1, F3, ss2, by have := HJJ.out; omega, by go_num, HF3.out.below ⟨rfl, rfl, rfl, Nat.le_refl _, fun _ _ => rfl⟩, HSK.out⟩
                      · have hjb : ((jj : Int) == (t0 : Int)) = false := by simp; omega
                        have hjn : ((jj : Int) != (t0 : Int)) = true := by simp; omega
                        by_cases hww : gd got2 jj < gd sent jj
                        · have hwi : (gd got2 jj : Int) < (gd sent jj : Int) := by omega
                          obtain ⟨g, hu, hg⟩ := HM3.out.asc jj hjT hjt hww
                          have hz0 := (HM3.out.old jj hjT hjt hww (Nat.le_refl _)).1
                          have hgr := (HF3.out.rows g _ hg).1
                          have hgc := hgr.cell t0 (by rw [HTN2.out]; exact ht0N)
                          have hgc0 : wr.cell? ⟨g, t0, none⟩ = some (.int .i64 0) := by
                            have h1 := hgc.1
                            rw [show (ss2 jj).getD t0 0 = 0 from hz0] at h1
                            exact h1
                          have hgf := hgc.2
                          have hcc : wr.cell? ⟨C, jj, none⟩ = some (.slice (some ⟨g, 0, none⟩) N N) := by
                            have h1 := HF3.out.rg.cellAt jj (by omega)
                            rw [hu, HTN2.out] at h1
                            exact h1
                          have hgC : g ≠ C := (HF3.out.rows g _ hg).2.2
                          have HTO : Hid (FS w1 (wr.setCell ⟨g, t0, none⟩ (.int .i64 1)) b w1.heap.size C vs1 us T2 (upd F3 g ((ss2 jj).set t0 1)) ∧ Fm T2 (upd F3 g ((ss2 jj).set t0 1)) S G us sent got2 (fun i => if i = jj then (ss2 jj).set t0 1 else ss2 i) t0 (jj + 1) j) := ⟨HF3.out.set g t0 1 _ hg, HM3.out.told hjT hjt hww hu hg hgr.len⟩
                          have hn2 : (jj == t0) = false := by simpa using hjt
                          clear hjt hww hu hg hz0 hgr hgc
                          go_wp2_with fail
                          have hm1 : decide (jj = t0) = false := by simpa using hn2
                          have hm3 : (jj != t0) = true := by unfold bne; rw [hn2]; rfl
                          go_quiet (fail)
                          go_wp2_with fail
                          go_roundg (gk - 1)
                          case measure => have := HJJ.out; omega
                          case rel => exact ⟨jj + 1, _, _, by have := HJJ.out; omega, by go_num, HTO.out.1.below ⟨rfl, rfl, rfl, Nat.le_refl _, fun _ _ => rfl⟩, HTO.out.2⟩
                        · have hwi : ¬ (gd got2 jj : Int) < (gd sent jj : Int) := by omega
                          have HSK : Hid (Fm T2 F3 S G us sent got2 ss2 t0 (jj + 1) j) := HM3.out.skip (.inr hww)
                          have hn2 : (jj == t0) = false := by simpa using hjt
                          have hn4 : decide (gd got2 jj < gd sent jj) = false := by simpa using hww
                          clear hjt hww
                          go_wp2_with fail
                          have hm1 : decide (jj = t0) = false := by simpa using hn2
                          have hm3 : (jj != t0) = true := by unfold bne; rw [hn2]; rfl
                          go_quiet (fail)
                          go_wp2_with fail
                          go_roundg (gk - 1)
                          case measure => have := HJJ.out; omega
                          case rel => exact ⟨jj + 1, F3, ss2, by have := HJJ.out; omega, by go_num, HF3.out.below ⟨rfl, rfl, rfl, Nat.le_refl _, fun _ _ => rfl⟩, HSK.out⟩
                    · as_aux_lemma =>
                      have hj3 : ¬ (jj : Int) < (N : Int) := by omega
                      have HM4 : Hid (Fm T2 F3 S G us sent got2 ss2 t0 T2.n j) := by have h1 := HM3.out; rw [show jj = T2.n by have := HTN2.out; omega] at h1; exact h1
                      have hrg : wr.ownsRow w1.heap.size 40 1 (.slice (some ⟨C, 0, none⟩) N N) N us := by have h1 := HF3.out.rg; rw [HTN2.out] at h1; exact h1
                      have hul : us.length = N := by rw [HM3.out.ul]; exact HTN2.out
                      have cC : wr.cell? ⟨C, t0, none⟩ = some us[t0] := by rw [hrg.cellAt t0 (by omega)]; exact List.getElem?_eq_getElem (by omega)
                      have fC := hrg.frozenAt t0
                      have hCl : C < wr.heap.size := (hrg.lt C rfl).2
                      have HDN : Hid (FS w1 ((wr.setCell ⟨C, t0, none⟩ (.slice (some ⟨wr.heap.size, 0, none⟩) N N)).alloc (.cells (madeCells #[.int .i64 0] N) 3)) b w1.heap.size C vs1 (us.set t0 (.slice (some ⟨wr.heap.size, 0, none⟩) N N)) T2 (upd F3 wr.heap.size (List.replicate N 0)) ∧ Fv T2 (upd F3 wr.heap.size (List.replicate N 0)) S G (us.set t0 (.slice (some ⟨wr.heap.size, 0, none⟩) N N)) sent got2 (fun i => if i = t0 then List.replicate N 0 else ss2 i) j) := by
                        have f1 := HF3.out.made t0 (by rw [HTN2.out]; omega)
                        have f2 := HM4.out.done wr.heap.size HF3.out.fresh HF3.out.usF
                        rw [HTN2.out] at f1 f2
                        rw [World.setCell_alloc_past _ _ _ _ hCl] at f1
                        exact ⟨f1, f2⟩
                      generalize us[t0] = uk at cC
                      clear hrg hul
                      go_wp2_with fail
                      go_roundg (gK - 1)
                      case measure => have := HJ.out; omega
                      case rel => exact ⟨j + 1, vs1, _, T2, _, sent, got2, _, by have := HJ.out; omega, by omega, by go_num, HTN2.out, HDN.out.1, HDN.out.2.more⟩
        · have hq : ¬ (j : Int) < (300 : Int) := by omega
          have hq2 : (j : Int) < (m : Int) := by omega
          go_wp2_with fail
          go_ret
          exact ⟨rfl, HFSr.out.bel⟩
      · have hq : ¬ (j : Int) < (m : Int) := by omega
        go_wp2_with fail
        go_ret
        exact ⟨rfl, HFSr.out.bel⟩
end Go.Proofs.Ytcgmnpofpnpfcaa
