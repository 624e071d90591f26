/- The document's EncodeCells, where it writes: the walk. -/
import Derived.Test.YtnklpjoeopcbbaaDoorRefEnc2
namespace Go.Proofs.YtnklpjoeopcbbaaDoor
open Go.Shelf Go.RowKit

theorem drewN_below (w : World) (q : Nat) : Below w.heap.size w (w.drewN q) := ⟨rfl, rfl, rfl, Nat.le_refl _, fun _ _ => rfl⟩
theorem int_eq {a b : Int} (h : a = b) : Value.int .i64 a = .int .i64 b := by rw [h]

set_option maxRecDepth 20000 in
set_option maxHeartbeats 8000000 in
theorem refEncode_good (v : Value) (zs : List (Int × Int)) (b l : Int) (w : World) (h : RRow w v zs) (htc : tcode zs = 0) (hg : goodB b l = true) :
    Calls Tryd.prog 20 #[v, .agg #[.int .i64 b, .int .i64 l]] w (EncOut zs b l w) := by
  have q0 := RuleIn.born w b l 27
  have hb0 : Below w.heap.size w (w.alloc (.cells #[.int .i64 b, .int .i64 l] 27)) := q0.2.2.2.2.2
  have htd := refTidy_told v zs _ (h.below hb0)
  have htx := fun W => refText_any b l W
  have hvt : textV b l = .tuple #[.string ⟨(textL b l).toArray⟩, .int .i64 0] := by rw [textV, if_pos hg]
  rw [hvt] at htx
  rw [htc] at htd
  have HC : Hid (tcode zs = 0 ∧ goodB b l = true) := ⟨htc, hg⟩
  have hmf : ∀ fn first cap w, (Instr.makeFunc fn first cap).run Tryd.prog w = .ok (.func fn first cap) w := fun _ _ _ _ => rfl
  clear hvt htc hg
  go_enter Tryd.func20, Tryd.ntmps20
  go_wp2_with fail
  refine htd.mono ?_
  rintro e w1 ⟨u, ys, rfl, c1, ht, ho⟩
  have q1 := q0.go c1
  obtain ⟨r0, r1, _⟩ := id q1
  go_wp2_with fail
  refine (htx _).mono ?_
  rintro e w2 ⟨rfl, c2⟩
  have q2 := q1.go c2
  have ho2 := ho.below c2
  clear htd htx r0 r1 q0 q1 hb0
  have HT : Hid (Tidied zs ys) := ht
  have HN : Hid (ys.any farP = false) := tidied_near ht
  have hlen := tidied_short ht HC.out.1
  have HO : Hid (Told (loX ys) (loY ys) 4398046511104 4398046511104 (loX ys) (loY ys) ys) := by
    have hbn := box_near ys HN.out
    exact told_box ys ht.1 _ _ (fun p hp => by have := mem_box ys p hp; omega) (fun p hp => by have := mem_box ys p hp; omega)
  have hbd := ref_any u ys.length (fun j => (ys[j]!).1) (fun j => (ys[j]!).2) _ ho2.isRow
  go_wp2_with fail
  refine hbd.mono ?_
  rintro e w4 ⟨rfl, c4⟩
  have hbn := box_near ys HN.out
  have hw0 := wOf_nonneg ys
  have hw1 := wOf_le ys HN.out
  have htl := textL_length b l
  have hrsz : (⟨(textL b l).toArray⟩ : ByteArray).size ≤ 1000 := by show (textL b l).toArray.size ≤ 1000; rw [List.size_toArray]; omega
  have hrdl : (⟨(textL b l).toArray⟩ : ByteArray).data.toList = textL b l := rfl
  obtain ⟨rt, hrt⟩ : ∃ rt : ByteArray, rt = ⟨(textL b l).toArray⟩ := ⟨_, rfl⟩
  rw [← hrt] at hrsz hrdl ⊢
  have HR : Hid (rt.data.toList = textL b l) := hrdl
  clear hrdl hrt hbd ho htl
  have hbox : boxOf (fun j => (ys[j]!).1) (fun j => (ys[j]!).2) ys.length = .tuple #[.agg #[.int .i64 (loX ys), .int .i64 (loY ys), .int .i64 (hiX ys), .int .i64 (hiY ys)], .bool (decide (0 < ys.length))] := rfl
  rw [hbox]
  clear hbox
  have hbx5 : (w4.alloc (.cells #[.int .i64 (loX ys), .int .i64 (loY ys), .int .i64 (hiX ys), .int .i64 (hiY ys)] 25)).heap[w4.heap.size]? = some (.cells #[.int .i64 (loX ys), .int .i64 (loY ys), .int .i64 (hiX ys), .int .i64 (hiY ys)] 25 (0, 0)) := heap_alloc_new w4 _
  obtain ⟨wn, hwn⟩ : ∃ m : Nat, wOf ys = m := ⟨(wOf ys).toNat, by omega⟩
  obtain ⟨hn, hhn⟩ : ∃ m : Nat, hOf ys = m := ⟨(hOf ys).toNat, by omega⟩
  have HWH : Hid (wOf ys = wn ∧ hOf ys = hn) := ⟨hwn, hhn⟩
  have hwn2 : wn ≤ 4398046511104 := by omega
  have hhn2 : hn ≤ 4398046511104 := by omega
  have hW0 : ys.length = 0 → wn = 0 ∧ hn = 0 := fun h0 => by
    unfold wOf at hwn; unfold hOf at hhn
    rw [if_pos h0] at hwn hhn
    omega
  have hW1 : ys.length ≠ 0 → hiX ys - loX ys + 1 = wn ∧ hiY ys - loY ys + 1 = hn := fun h0 => by
    unfold wOf at hwn; unfold hOf at hhn
    rw [if_neg h0] at hwn hhn
    exact ⟨hwn, hhn⟩
  have HE : Hid (encT ys b l = headT wn hn (textL b l) ++ bodyT (loX ys) (loY ys) ys) := by
    show _ = _
    unfold encT
    rw [hwn, hhn]
  clear hwn hhn hw0 hw1
  obtain ⟨n, hnl⟩ : ∃ n, n = ys.length := ⟨_, rfl⟩
  obtain ⟨a, c, rfl, hac⟩ : ∃ a c, u = .slice a n c ∧ (0 < n → ∃ lb off, a = some ⟨lb, off, none⟩ ∧ lb < w2.heap.size ∧ HoldsR w2 lb off ys) := by
    rcases ho2 with ⟨h1, h2⟩ | ⟨_, lb, off, c, h1, h2, h3, h4, h5⟩
    · exact ⟨none, 0, by rw [h2, hnl, h1]; rfl, fun h => by rw [hnl, h1] at h; simp at h⟩
    · exact ⟨_, c, by rw [h1, hnl], fun _ => ⟨lb, off, rfl, h2, h5⟩⟩
  rw [← hnl] at hlen hW0 hW1 ⊢
  have HL : Hid (ys.length = n) := hnl.symm
  clear hnl ho2
  generalize hX0 : loX ys = X0 at *
  generalize hY0 : loY ys = Y0 at *
  generalize hX1 : hiX ys = X1 at *
  generalize hY1 : hiY ys = Y1 at *
  clear hX0 hY0 hX1 hY1
  obtain ⟨n1, n2, n3, n4, n5, n6, n7, n8⟩ := hbn
  have F4 : Below w2.heap.size w2 (w4.alloc (.cells #[.int .i64 X0, .int .i64 Y0, .int .i64 X1, .int .i64 Y1] 25)) := c4.alloc c4.size _
  have hz4 := c4.size
  obtain ⟨ok, hok⟩ : ∃ ok, ok = decide (0 < n) := ⟨_, rfl⟩
  rw [← hok]
  have HOK : Hid (ok = decide (0 < n)) := hok
  clear hok
  go_upto_if 45 with fail
  go_cut [11, 12] from 45 to 57 (fun s11 s12 wc => s11 = .int .i64 wn ∧ s12 = .int .i64 hn ∧ Below (w4.heap.size + 1) (w4.alloc (.cells #[.int .i64 X0, .int .i64 Y0, .int .i64 X1, .int .i64 Y1] 25)) wc)
  case first =>
    cases ok
    · have E1 : Hid (wn = 0 ∧ hn = 0) := hW0 (by have := HOK.out; simp at this; exact this)
      go_wp2_with fail
      go_meet
      case rel => exact ⟨by rw [E1.out.1]; rfl, by rw [E1.out.2]; rfl, Below.refl _ _⟩
    · obtain ⟨e1, e2⟩ := hW1 (by have := HOK.out; simp at this; omega)
      have hww : IntKind.i64.wrap (X1 - X0) = X1 - X0 := by rw [IntKind.wrap_i64]; omega
      have hwh : IntKind.i64.wrap (Y1 - Y0) = Y1 - Y0 := by rw [IntKind.wrap_i64]; omega
      have E1 : Hid (X1 - X0 + 1 = wn) := e1
      have E2 : Hid (Y1 - Y0 + 1 = hn) := e2
      clear e1 e2
      go_wp2_with fail
      go_region
      go_wp2_with fail
      go_meet
      case rel => exact ⟨int_eq E1.out, int_eq E2.out, (Below.refl _ _).drew⟩
  case rest =>
  obtain ⟨rfl, rfl, hcA⟩ := hcut
  obtain ⟨wA, hwA⟩ : ∃ x, x = wc := ⟨_, rfl⟩
  subst hwA
  have hzA : w4.heap.size + 1 ≤ wA.heap.size := by have := hcA.size; simpa using this
  have hbxA : wA.heap[w4.heap.size]? = some (.cells #[.int .i64 X0, .int .i64 Y0, .int .i64 X1, .int .i64 Y1] 25 (0, 0)) := (hcA.block _ (by omega)).trans hbx5
  have FA : Below w2.heap.size w2 wA := F4.trans (hcA.mono (by omega))
  have HBX : Hid (wA.heap[w4.heap.size]? = some (.cells #[.int .i64 X0, .int .i64 Y0, .int .i64 X1, .int .i64 Y1] 25 (0, 0))) := hbxA
  have HAC : Hid (0 < n → ∃ lb off, a = some ⟨lb, off, none⟩ ∧ lb < w2.heap.size ∧ HoldsR wA lb off ys) := fun h0 => by
    obtain ⟨lb, off, h1, h2, h3⟩ := hac h0
    exact ⟨lb, off, h1, h2, h3.below FA h2⟩
  have hR0 := RunsAt.born wA
  have hb6 : Below wA.heap.size wA (wA.alloc (.cells #[.slice none 0 0] 56)) := (Below.refl _ _).alloc (Nat.le_refl _) _
  have hst : At X0 Y0 ys 0 X0 Y0 [] := ⟨Nat.zero_le _, ⟨ys.length, by simp, by simp⟩, by intro p hp; simp at hp, by simp, by omega, by simpa using HO.out⟩
  have HST : Hid (At X0 Y0 ys 0 X0 Y0 []) := hst
  clear hbxA hac hW0 hW1 hbx5 F4 hcA hst
  go_wp2_with fail
  go_loopg [15, 16, 17] n (fun gk s15 s16 s17 wr => ∃ (k : Nat) (x y : Int) (ps : List (Int × UInt8)), k + gk = n ∧ s15 = .int .i64 (y - Y0) ∧ s16 = .int .i64 (x - X0) ∧ s17 = .int .i64 k ∧ At X0 Y0 ys k x y ps ∧ RunsAt wA.heap.size wA.heap.size (ps.map pieceT) wr ∧ Below wA.heap.size wA wr)
  case atStart => exact ⟨0, X0, Y0, [], by omega, int_eq (by omega), int_eq (by omega), rfl, HST.out, hR0, hb6⟩
  case round =>
    obtain ⟨k, x, y, ps, hk, rfl, rfl, rfl, hat, hrn, hlf⟩ := hrel
    obtain ⟨gK, hgK⟩ : ∃ x, x = gk := ⟨_, rfl⟩
    subst hgK
    obtain ⟨wR, hwR⟩ : ∃ x, x = wr := ⟨_, rfl⟩
    subst hwR
    have HK : Hid (k + gK = n) := hk
    have HA : Hid (At X0 Y0 ys k x y ps) := hat
    have hkn : k ≤ n := by omega
    have hzR := hlf.size
    have hz2 := FA.size
    have hxt := hat.top
    have hxx := hat.told.at0
    have hps := hat.small
    have hpl : ps.length ≤ 20000 := by have := hat.few; omega
    clear hk hat
    by_cases hlt : k < n
    · obtain ⟨lb, off, rfl, hlb, hhr⟩ := HAC.out (by omega)
      have hhw := hhr.below hlf (by omega)
      have hlen2 : (ys.drop k).length = n - k := by rw [List.length_drop, HL.out]
      cases hz : ys.drop k with
      | nil => rw [hz] at hlen2; simp at hlen2; omega
      | cons p r =>
        rw [hz] at hlen2
        have hmem : p ∈ ys := List.mem_of_mem_drop (i := k) (by rw [hz]; simp)
        have hnear := bounds_of HN.out hmem
        have hk0 := hhr k (by rw [HL.out]; exact hlt)
        have hyk : ys[k]! = p := by
          have h1 := drop_get ys k (by rw [HL.out]; exact hlt)
          rw [hz] at h1
          exact (List.cons.inj h1).1.symm
        rw [hyk] at hk0
        obtain ⟨A0, A1⟩ := hk0
        have hrl := runN_le (p.1 + 1) p.2 r
        have HZ : Hid (ys.drop k = p :: r) := hz
        obtain ⟨px, py⟩ := p
        simp only at A0 A1 hnear hrl
        have hcl : ∀ W, Below wA.heap.size wA W → W.cell? ⟨lb, off + k * 2, none⟩ = some (.int .i64 px) ∧ W.cell? ⟨lb, off + k * 2 + 1, none⟩ = some (.int .i64 py) ∧ W.cell? ⟨w4.heap.size, 0, none⟩ = some (.int .i64 X0) ∧ W.cell? ⟨w4.heap.size, 1, none⟩ = some (.int .i64 Y0) := fun W hW => by
          have hbW := (hW.block _ (by omega)).trans HBX.out
          exact ⟨(hW.cell (p := ⟨lb, off + k * 2, none⟩) (by show lb < _; omega)).trans A0, (hW.cell (p := ⟨lb, off + k * 2 + 1, none⟩) (by show lb < _; omega)).trans A1, by rw [Lib.cell_of_heap hbW]; rfl, by rw [Lib.cell_of_heap hbW]; rfl⟩
        obtain ⟨m, hm⟩ : ∃ m, m = 1 + runN (px + 1) py r := ⟨_, rfl⟩
        have HM : Hid (m = 1 + runN (px + 1) py r) := hm
        have hmn : k + m ≤ n := by simp at hlen2; omega
        have hm1 : 1 ≤ m := by omega
        have HHW : Hid (HoldsR wR lb off ys) := hhw
        have hnn : (n : Int) ≤ 4096 := by omega
        obtain ⟨a0, b0, e0, e1⟩ := hcl wR hlf
        have HPN : Hid (-1099511627776 < px ∧ px < 1099511627776 ∧ -1099511627776 < py ∧ py < 1099511627776) := hnear
        have hltb : decide ((k : Int) < (n : Int)) = true := by simpa using hlt
        clear hhr hhw hlen2 hz hmem hyk A0 A1 hrl hm hnear
        go_upto_block 2 with fail
        go_cut [18] from 59 to 146 (fun s18 wc => s18 = .int .i64 ((k + m : Nat) : Int) ∧ ∃ q, wc = wR.drewN q)
        case first =>
          go_wp2_with fail
          go_loopg [18] (n - k) (fun g s wi => ∃ kk q : Nat, k ≤ kk ∧ kk + g = n ∧ s = .int .i64 kk ∧ wi = wR.drewN q ∧ m = (kk - k) + runN (px + ((kk : Int) - k)) py (ys.drop kk))
          case atStart =>
            refine ⟨k, 0, Nat.le_refl _, by omega, rfl, rfl, ?_⟩
            have h1 := HM.out
            rw [HZ.out, runN, if_pos ⟨rfl, by show px = _; omega⟩, show px + ((k : Int) - k) + 1 = px + 1 by omega]
            omega
          case round =>
            obtain ⟨kk, q, hkk, hg, rfl, rfl, hrun⟩ := hrel
            have HG : Hid (kk + gk = n) := hg
            have HU : Hid (m = (kk - k) + runN (px + ((kk : Int) - k)) py (ys.drop kk)) := hrun
            have hkkn : kk ≤ n := by omega
            have hpn := HPN.out
            clear hg hrun
            by_cases hl2 : kk < n
            · obtain ⟨c0, c1⟩ := HHW.out kk (by rw [HL.out]; exact hl2)
              have HD : Hid (ys.drop kk = ys[kk]! :: ys.drop (kk + 1)) := drop_get ys kk (by rw [HL.out]; exact hl2)
              have hnear2 := bounds_of HN.out (p := ys[kk]!) (by rw [getElem!_pos ys kk (by rw [HL.out]; exact hl2)]; exact List.getElem_mem _)
              generalize ys[kk]! = z at c0 c1 HD hnear2
              obtain ⟨zx, zy⟩ := z
              simp only at c0 c1 hnear2
              have hgd : decide ((kk : Int) < (n : Int)) = true := by simpa using hl2
              have hwd : IntKind.i64.wrap (zx - px) = zx - px := by rw [IntKind.wrap_i64]; omega
              have hwk : IntKind.i64.wrap ((kk : Int) - k) = (kk : Int) - k := by rw [IntKind.wrap_i64]; omega
              have hi1 : (0 : Int) ≤ (kk : Int) := by omega
              have hi2 : (kk : Int) < (n : Int) := by omega
              have hi3 : (0 : Int) ≤ (k : Int) := by omega
              have hi4 : (k : Int) < (n : Int) := by omega
              by_cases hy : zy = py
              · have hdy : (zy == py) = true := by simp [hy]
                have HY : Hid (zy = py) := hy
                by_cases hx : zx - px = (kk : Int) - k
                · have hdx : (zx - px == (kk : Int) - k) = true := by simp [hx]
                  have HX : Hid (zx - px = (kk : Int) - k) := hx
                  clear hx hy
                  go_wp2
                  go_quiet (fail)
                  go_wp2
                  go_roundg (gk - 1)
                  case measure => have := HG.out; omega
                  case rel =>
                    have h1 := HG.out
                    refine ⟨kk + 1, _, by omega, by omega, by go_num, rfl, ?_⟩
                    have h2 := HU.out
                    have h3 := HX.out
                    rw [HD.out, runN, if_pos ⟨HY.out, by show zx = _; omega⟩] at h2
                    rw [show px + (((kk + 1 : Nat) : Int) - k) = px + ((kk : Int) - k) + 1 by omega]
                    omega
                · have hdx : (zx - px == (kk : Int) - k) = false := by simp [hx]
                  have HF : Hid (m = kk - k) := by
                    have h2 := HU.out
                    rw [HD.out, runN, if_neg (by rintro ⟨_, h⟩; exact hx (by show _; simp only at h; omega))] at h2
                    exact h2
                  clear hx hy
                  go_wp2
                  go_quiet (fail)
                  go_wp2
                  go_meet
                  case rel => exact ⟨int_eq (by have := HF.out; omega), _, World.drewN_drewN _ _ _⟩
              · have hdy : (zy == py) = false := by simp [hy]
                have HF : Hid (m = kk - k) := by
                  have h2 := HU.out
                  rw [HD.out, runN, if_neg (by rintro ⟨h, _⟩; exact hy h)] at h2
                  exact h2
                clear hy
                go_wp2
                go_quiet (fail)
                go_wp2
                go_meet
                case rel => exact ⟨int_eq (by have := HF.out; omega), _, World.drewN_drewN _ _ _⟩
            · have hkn2 : kk = n := by omega
              have HF : Hid (m = kk - k) := by
                have h2 := HU.out
                rw [List.drop_of_length_le (by rw [HL.out]; omega), runN] at h2
                exact h2
              have hgd : decide ((kk : Int) < (n : Int)) = false := by simp [hkn2]
              clear hl2
              go_wp2
              go_quiet (fail)
              go_wp2
              go_meet
              case rel => exact ⟨int_eq (by have := HF.out; omega), _, World.drewN_drewN _ _ _⟩
        case rest =>
        obtain ⟨rfl, q, rfl⟩ := hcut
        have hI := drewN_below wR q
        generalize wR.drewN q = wI at hI ⊢
        have hrI := hrn.go hI
        have hlI : Below wA.heap.size wA wI := hlf.trans (hI.mono hzR)
        obtain ⟨hnx, hyp, s1, s2, m1, m2, f1, f2, hmn', hxf⟩ := HA.out.step HZ.out HM.out (by rw [HL.out]; exact hlen) HPN.out.2.1
        have HNX : Hid (At X0 Y0 ys (k + m) (px + m) py (ps ++ aheadY y py ++ aheadX (xFrom X0 x y py) px ++ [((m : Int), 111)])) := hnx
        obtain ⟨km, hkm⟩ : ∃ km, km = k + m := ⟨_, rfl⟩
        have HKM : Hid (km = k + m) := hkm
        rw [← hkm]
        have hpn := HPN.out
        clear a0 b0 e0 e1 hnx hkm hrn
        obtain ⟨a0, b0, e0, e1⟩ := hcl wI hlI
        have hwy : IntKind.i64.wrap (py - Y0) = py - Y0 := by rw [IntKind.wrap_i64]; omega
        have hkmn : (km : Int) ≤ 4096 := by have := HKM.out; omega
        have hi3 : (0 : Int) ≤ (k : Int) := by omega
        have hi4 : (k : Int) < (n : Int) := by omega
        go_wp2_with fail
        go_region
        go_upto_if 110 with fail
        go_cut [15, 16] from 59 to 146 (fun s15 s16 wc => s15 = .int .i64 (py - Y0) ∧ s16 = .int .i64 (xFrom X0 x y py - X0) ∧ RunsAt wA.heap.size wA.heap.size ((ps ++ aheadY y py).map pieceT) wc ∧ Below wA.heap.size wA wc)
        case first =>
          by_cases h1 : y < py
          · have hgo := add_any wA.heap.size wA.heap.size (py - Y0 - (y - Y0)) 36 (ps.map pieceT) wI.drew (hrI.go (Below.refl _ _).drew) (by have := hlI.size; simpa using this) (by rw [List.length_map]; omega) (by omega)
            have hyb : y - Y0 < py - Y0 := by omega
            have hwz : IntKind.i64.wrap (py - Y0 - (y - Y0)) = py - Y0 - (y - Y0) := by rw [IntKind.wrap_i64]; omega
            have HAY : Hid (ps.map pieceT ++ addT (py - Y0 - (y - Y0)) 36 = (ps ++ aheadY y py).map pieceT) := by
              show _ = _
              rw [show py - Y0 - (y - Y0) = py - y by omega, addT_Y y py h1, List.map_append]
            have HXF : Hid (xFrom X0 x y py = X0) := by show _ = _; unfold xFrom; rw [if_pos h1]
            go_wp2_with fail
            refine hgo.mono ?_
            rintro e wB ⟨rfl, g2, l2⟩
            go_wp2_with fail
            go_meet
            case rel => exact ⟨rfl, int_eq (by rw [HXF.out]; omega), by rw [← HAY.out]; exact g2, (hlI.trans (Below.refl _ _).drew).trans l2⟩
          · have HAY : Hid (ps ++ aheadY y py = ps) := by show _ = _; unfold aheadY; rw [if_neg h1, List.append_nil]
            have HXF : Hid (xFrom X0 x y py = x) := by show _ = _; unfold xFrom; rw [if_neg h1]
            have hyb : ¬ y - Y0 < py - Y0 := by omega
            have HYY : Hid (y = py) := by show _ = _; omega
            go_wp2_with fail
            go_meet
            case rel => exact ⟨int_eq (by rw [HYY.out]), int_eq (by rw [HXF.out]), by rw [HAY.out]; exact hrI.go (Below.refl _ _).drew, hlI.trans (Below.refl _ _).drew⟩
        case rest =>
        obtain ⟨rfl, rfl, hrB, hlB⟩ := hcut
        have hxl : xFrom X0 x y py ≤ 8796093022208 := by unfold xFrom; split <;> omega
        generalize xFrom X0 x y py = xf at *
        generalize ps ++ aheadY y py = ps1 at *
        clear a0 b0 e0 e1
        obtain ⟨wB, hwB⟩ : ∃ x, x = wc := ⟨_, rfl⟩
        subst hwB
        obtain ⟨a0, b0, e0, e1⟩ := hcl wB hlB
        have hwx : IntKind.i64.wrap (px - X0) = px - X0 := by rw [IntKind.wrap_i64]; omega
        have hwz : IntKind.i64.wrap (px - X0 - (xf - X0)) = px - X0 - (xf - X0) := by rw [IntKind.wrap_i64]; omega
        have hgo := add_any wA.heap.size wA.heap.size (px - X0 - (xf - X0)) 98 (ps1.map pieceT) wB.drew (hrB.go (Below.refl _ _).drew) (by have := hlB.size; simpa using this) (by rw [List.length_map]; omega) (by omega)
        have HAX : Hid (ps1.map pieceT ++ addT (px - X0 - (xf - X0)) 98 = (ps1 ++ aheadX xf px).map pieceT) := by
          show _ = _
          rw [show px - X0 - (xf - X0) = px - xf by omega, addT_X xf px, List.map_append]
        go_upto_region 23 with fail
        go_cut [17] from 59 to 146 (fun s17 wc => s17 = .int .i64 k ∧ RunsAt wA.heap.size wA.heap.size ((ps1 ++ aheadX xf px).map pieceT) wc ∧ Below wA.heap.size wA wc)
        case first =>
          go_region_with (go_at_call 31; refine hgo.mono ?_; rintro e wD ⟨rfl, g2, l2⟩)
          all_goals
            go_wp2_with fail
            go_meet
            case rel => exact ⟨rfl, by rw [← HAX.out]; exact g2, (hlB.trans (Below.refl _ _).drew).trans l2⟩
        case rest =>
        obtain ⟨rfl, hrC, hlC⟩ := hcut
        clear a0 b0 e0 e1 hgo
        generalize ps1 ++ aheadX xf px = ps2 at *
        obtain ⟨wC, hwC⟩ : ∃ x, x = wc := ⟨_, rfl⟩
        subst hwC
        have hgo := add_any wA.heap.size wA.heap.size ((km : Int) - k) 111 (ps2.map pieceT) wC hrC hlC.size (by rw [List.length_map]; omega) (by omega)
        have hwk : IntKind.i64.wrap ((km : Int) - k) = (km : Int) - k := by rw [IntKind.wrap_i64]; omega
        have HAO : Hid (ps2.map pieceT ++ addT ((km : Int) - k) 111 = (ps2 ++ [((m : Int), 111)]).map pieceT) := by
          show _ = _
          rw [show (km : Int) - k = (m : Int) by have := HKM.out; omega, addT_O m hm1, List.map_append]
          rfl
        go_wp2_with fail
        refine hgo.mono ?_
        rintro e wD ⟨rfl, g2, l2⟩
        have hlD := hlC.trans l2
        obtain ⟨a0, b0, e0, e1⟩ := hcl wD hlD
        have hw1 : IntKind.i64.wrap (px - X0 + km) = px - X0 + km := by rw [IntKind.wrap_i64]; omega
        have hw2 : IntKind.i64.wrap (px - X0 + km - k) = px - X0 + km - k := by rw [IntKind.wrap_i64]; omega
        clear hgo
        go_wp2_with fail
        go_region
        go_wp2_with fail
        go_roundg (gK - m)
        case measure => have := HK.out; have := HL.out; omega
        case rel =>
          have h1 := HK.out
          have h2 := HKM.out
          refine ⟨km, px + m, py, ps2 ++ [((m : Int), 111)], by omega, rfl, int_eq (by omega), rfl, ?_, ?_, hlD.trans (Below.refl _ _).drew⟩
          · rw [h2]; exact HNX.out
          · rw [← HAO.out]; exact g2.go (Below.refl _ _).drew
    · have hkn2 : k = n := by omega
      obtain ⟨f, hf, hp⟩ := HA.out.rest
      have HP : Hid (pieces X0 ys.length X0 Y0 ys = ps) := by
        show _ = _
        rw [hp, List.drop_of_length_le (by rw [HL.out]; omega)]
        cases f <;> simp [pieces]
      have hltb : decide ((k : Int) < (n : Int)) = false := by simp [hkn2]
      have hpf : ps.length ≤ 12288 := by have := HA.out.few; omega
      have HPS : Hid (∀ t ∈ ps.map pieceT ++ [[33]], t.length ≤ 22) := by
        intro t ht
        rcases List.mem_append.1 ht with ht | ht
        · rw [List.mem_map] at ht
          obtain ⟨p, hp, rfl⟩ := ht
          have := hps p hp
          exact pieceT_le p (by omega) (by omega)
        · simp at ht; subst ht; simp
      have hd1 := decimal_any wn wR (by omega)
      have hd2 := fun W => decimal_any hn W (by omega)
      have hS1 : (⟨(Lib.itoa wn).toArray⟩ : ByteArray).size ≤ 21 ∧ (⟨(Lib.itoa wn).toArray⟩ : ByteArray).data.toList = Lib.itoa wn := ⟨by
        show (Lib.itoa wn).toArray.size ≤ 21
        rw [List.size_toArray]
        exact Lib.itoa_length_le wn (by omega) (by omega), rfl⟩
      have hS2 : (⟨(Lib.itoa hn).toArray⟩ : ByteArray).size ≤ 21 ∧ (⟨(Lib.itoa hn).toArray⟩ : ByteArray).data.toList = Lib.itoa hn := ⟨by
        show (Lib.itoa hn).toArray.size ≤ 21
        rw [List.size_toArray]
        exact Lib.itoa_length_le hn (by omega) (by omega), rfl⟩
      generalize (⟨(Lib.itoa wn).toArray⟩ : ByteArray) = S1 at *
      generalize (⟨(Lib.itoa hn).toArray⟩ : ByteArray) = S2 at *
      obtain ⟨hS1s, hS1d⟩ := hS1
      obtain ⟨hS2s, hS2d⟩ := hS2
      have HS : Hid (S1.data.toList = Lib.itoa wn ∧ S2.data.toList = Lib.itoa hn) := ⟨hS1d, hS2d⟩
      have hlt2 : ¬ (k : Int) < (n : Int) := by omega
      clear hf hp hkn2 hS1d hS2d
      go_wp2_with fail
      refine hd1.mono ?_
      rintro e wS ⟨rfl, l1⟩
      go_wp2_with fail
      refine (hd2 _).mono ?_
      rintro e wT ⟨rfl, l2⟩
      have hrT := (hrn.go l1).go l2
      have hlT : Below wA.heap.size wA wT := (hlf.trans (l1.mono hzR)).trans (l2.mono (Nat.le_trans hzR l1.size))
      obtain ⟨hge, rv, hb, hown, hne⟩ := hrT
      have c0 : wT.cell? ⟨wA.heap.size, 0, none⟩ = some rv := by rw [Lib.cell_of_heap hb]; rfl
      have f0 := Lib.frozen_of_heap hb 0
      obtain ⟨i0, hi, hz0, hz1, hz2'⟩ : ∃ i, Tryd.prog.info? 9 = some i ∧ i.zero = some (.string ⟨#[]⟩) ∧ i.size = 1 ∧ i.bytes = 16 := by
        have := Tryd.infoStr
        cases hh : Tryd.prog.info? 9 with
        | none => rw [hh] at this; cases this
        | some i =>
          rw [hh] at this
          simp only [Option.map_some, Option.some.injEq, Prod.mk.injEq] at this
          exact ⟨i, rfl, this.1, this.2.1, this.2.2⟩
      have hnp : (ps.map pieceT).length ≤ 12288 := by rw [List.length_map]; exact hpf
      clear hd1 hd2
      go_wp2_with (at_builtin; refine wpList_append_own _ rfl _ _ 56 rfl wA.heap.size 9 i0 (.string ⟨#[]⟩) 1 16 Tryd.underlying56 hi hz0 hz1 hz2' rfl (by decide) _ _ _ rfl (hown.alloc _) ⟨wT.heap.size, 0, none⟩ 1 1 [.string ⟨#[33]⟩] rfl rfl ?c1 ?c2 ?c3 ?c4 ?c5 ?_)
      case c1 =>
        intro j u hj
        match j, hj with
        | 0, hj => simp at hj; subst hj; simp [Addr.add]
      case c2 => intro u hu; simp at hu; subst hu; rfl
      case c3 => unfold maxLen; omega
      case c4 => have := hlT.size; omega
      case c5 => simp; have := hlT.size; omega
      intro v' wU hown' hgrow _
      obtain ⟨g, cap, rfl⟩ : ∃ g cap, v' = .slice (some ⟨g, 0, none⟩) (ps.length + 1) cap := by
        rcases hown'.2 with ⟨_, e⟩ | ⟨g, cap, cur, e, _⟩
        · omega
        · exact ⟨g, cap, e⟩
      have HBU : Hid (Below wA.heap.size wA wU) := (hlT.alloc hlT.size _).grown hgrow (by simp; have := hlT.size; omega) (fun k hk => (hown.lt k hk).1)
      obtain ⟨N, hN⟩ : ∃ N, N = ps.length + 1 := ⟨_, rfl⟩
      rw [← hN] at hown' ⊢
      have HCELL : Hid (∀ j, j < N → wU.cell? ⟨g, j, none⟩ = ((ps.map pieceT ++ [[33]]).map strV)[j]?) := fun j hj => by
        rw [hown'.cellAt (size := 1) j (by omega), List.map_append, List.map_map]
        rfl
      have hN2 : N ≤ 12289 := by omega
      have HNL : Hid ((ps.map pieceT ++ [[33]]).length = N) := by show _ = _; rw [List.length_append, List.length_map, hN]; rfl
      have hNc : N ≤ cap := by
        rcases hown'.2 with ⟨h1, _⟩ | ⟨g', cap', cur, e, _, _, h1, _⟩
        · cases h1
        · cases e; exact h1
      generalize hts : ps.map pieceT ++ [[33]] = ts at *
      have HTS : Hid (ps.map pieceT ++ [[33]] = ts) := hts
      clear hts hown hown' hgrow hb c0 f0 hN hnp
      go_wp2_with fail
      obtain ⟨HD, hHD⟩ : ∃ HD : ByteArray, HD = (⟨#[120, 32, 61, 32]⟩ : ByteArray) ++ S1 ++ ⟨#[44, 32, 121, 32, 61, 32]⟩ ++ S2 ++ ⟨#[44, 32, 114, 117, 108, 101, 32, 61, 32]⟩ ++ rt ++ ⟨#[10]⟩ := ⟨_, rfl⟩
      have HDL : Hid (HD.data.toList = headT wn hn (textL b l)) := by
        show _ = _
        rw [hHD]
        simp only [ByteArray.data_append, Array.toList_append, HS.out.1, HS.out.2, HR.out, headT]
        simp
      have hDs : HD.size ≤ 2000 := by
        rw [hHD]
        simp only [ByteArray.size_append]
        show 4 + S1.size + 6 + S2.size + 9 + rt.size + 1 ≤ 2000
        omega
      rw [← hHD]
      have HDS : Hid (HD.data.toList.length = HD.size) := by show _ = _; rw [Array.length_toList]; rfl
      clear hHD
      go_loopg [20, 21, 162] N (fun g' s20 s21 s162 wr => ∃ (j : Nat) (O L : ByteArray), j + g' = N ∧ s20 = .string O ∧ s21 = .string L ∧ s162 = .int .i64 j ∧ Lines HD.data.toList ts j O L ∧ wr = wU)
      case atStart => exact ⟨0, HD, ⟨#[]⟩, by omega, rfl, rfl, rfl, Lines.start HD ts, rfl⟩
      case round =>
        obtain ⟨j, O, L, hj, rfl, rfl, rfl, hli, rfl⟩ := hrel
        have HJ : Hid (j + gk = N) := hj
        have HLI : Hid (Lines HD.data.toList ts j O L) := hli
        have hjn : j ≤ N := by omega
        obtain ⟨hz5, hz6⟩ := hli.small HPS.out (by rw [HNL.out]; exact hjn)
        rw [HDS.out] at hz5
        have hOs : O.size ≤ 300000 := by omega
        clear hj hli hz5
        by_cases hlj : j < N
        · have hcj := HCELL.out j hlj
          obtain ⟨t, ht⟩ : ∃ t, ts[j]? = some t := ⟨_, List.getElem?_eq_getElem (by rw [HNL.out]; exact hlj)⟩
          rw [List.getElem?_map, ht] at hcj
          have hts22 := HPS.out t (List.mem_of_getElem? ht)
          have hst := HLI.out.step ht
          have hC : (⟨t.toArray⟩ : ByteArray).size = t.length := by show t.toArray.size = _; rw [List.size_toArray]
          have hcj2 : wr.cell? ⟨g, j, none⟩ = some (.string ⟨t.toArray⟩) := hcj
          generalize (⟨t.toArray⟩ : ByteArray) = C at *
          rw [← hC] at hst hts22
          have hi1 : (0 : Int) ≤ (j : Int) := by omega
          have hi2 : (j : Int) < (N : Int) := by omega
          clear hcj hC ht
          by_cases hc : 70 < L.size + C.size
          · rw [if_pos hc] at hst
            have HST2 : Hid (Lines HD.data.toList ts (j + 1) (O ++ (L ++ ⟨#[10]⟩)) (⟨#[]⟩ ++ C)) := hst
            have hc2 : (70 : Int) < (L.size : Int) + (C.size : Int) := by omega
            clear hst
            go_wp2_with fail
            go_roundg (gk - 1)
            case measure => have := HJ.out; omega
            case rel => exact ⟨j + 1, _, _, by have := HJ.out; omega, rfl, rfl, by go_num, HST2.out, rfl⟩
          · rw [if_neg hc] at hst
            have HST2 : Hid (Lines HD.data.toList ts (j + 1) O (L ++ C)) := hst
            have hc2 : ¬ (70 : Int) < (L.size : Int) + (C.size : Int) := by omega
            clear hst
            go_wp2_with fail
            go_roundg (gk - 1)
            case measure => have := HJ.out; omega
            case rel => exact ⟨j + 1, _, _, by have := HJ.out; omega, rfl, rfl, by go_num, HST2.out, rfl⟩
        · have hjN : j = N := by omega
          have hi2 : ¬ (j : Int) < (N : Int) := by omega
          have HX : Hid ((O ++ L ++ ⟨#[10]⟩ : ByteArray) = ⟨(headT wn hn (textL b l) ++ bodyT X0 Y0 ys).toArray⟩) := by
            show _ = _
            have h1 := HLI.out.1
            rw [List.take_of_length_le (by rw [HNL.out]; omega), HDL.out, ← HTS.out] at h1
            have h2 : (O ++ L ++ ⟨#[10]⟩ : ByteArray).data.toList = headT wn hn (textL b l) ++ bodyT X0 Y0 ys := by
              simp only [ByteArray.data_append, Array.toList_append]
              rw [h1, bodyT, HP.out]
              simp
            rw [← h2]
          clear hjN hlj
          go_wp2_with fail
          go_ret2
          refine ⟨ys, HT.out, ?_, ?_⟩
          · have he : encF ys (tcode zs) b l = (headT wn hn (textL b l) ++ bodyT X0 Y0 ys, 0) := by
              rw [encF, if_neg (by rw [HC.out.1]; simp), if_pos HC.out.2, HE.out]
            rw [he, HX.out]
            rfl
          · exact (q2.go (FA.trans (HBU.out.mono FA.size))).2.2.2.2.2

theorem refEncode_any (v : Value) (zs : List (Int × Int)) (b l : Int) (w : World) (h : RRow w v zs) :
    Calls Tryd.prog 20 #[v, .agg #[.int .i64 b, .int .i64 l]] w (EncOut zs b l w) := by
  by_cases htc : tcode zs = 0
  · cases hg : goodB b l with
    | true => exact refEncode_good v zs b l w h htc hg
    | false => exact refEncode_bad v zs b l w h (Or.inr hg)
  · exact refEncode_bad v zs b l w h (Or.inl htc)
end Go.Proofs.YtnklpjoeopcbbaaDoor
