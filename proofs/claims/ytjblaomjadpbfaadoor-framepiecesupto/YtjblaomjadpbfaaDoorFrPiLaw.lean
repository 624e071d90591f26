/- FramePieces: the law's walk. -/
import Derived.Test.YtjblaomjadpbfaaDoorFrCuLaw
import Derived.Test.YtjblaomjadpbfaaDoorFrFrames
namespace Go.Proofs.YtjblaomjadpbfaaDoor
open Go.RowKit

set_option maxHeartbeats 1000000 in
theorem spot_any (v n : Int) (w : World) (hn : 0 < n) (hn2 : n ≤ 4611686018427387904) : Calls Tryd.prog 16 #[.int .i64 v, .int .i64 n] w fun e w' => (∃ k : Nat, (k : Int) < n ∧ e = .returned (.int .i64 k)) ∧ w' = w := by
  have h1 := Int.lt_tmod_of_pos v hn
  have h2 := Int.tmod_lt_of_pos v hn
  have hz : (n == 0) = false := by simp; omega
  by_cases h0 : v.tmod n < 0
  · have HX : Hid (0 ≤ v.tmod n + n ∧ v.tmod n + n < n) := ⟨by omega, by omega⟩
    go_enter Tryd.func16, Tryd.ntmps16
    go_wp2
    go_ret
    exact ⟨⟨(v.tmod n + n).toNat, by have := HX.out; omega, by have := HX.out; rw [Int.toNat_of_nonneg this.1]; rfl⟩, rfl⟩
  · have HX : Hid (0 ≤ v.tmod n ∧ v.tmod n < n) := ⟨by omega, by omega⟩
    go_enter Tryd.func16, Tryd.ntmps16
    go_wp2
    go_ret
    exact ⟨⟨(v.tmod n).toNat, by have := HX.out; omega, by have := HX.out; rw [Int.toNat_of_nonneg this.1]; rfl⟩, rfl⟩

theorem step_append_own {P : Program} (w : World) {ops : Array Oper} {o : Oper} {a : Act} {K : Act → World → Prop} {Q : Exit → Act → World → Prop} {E : Prop} (hgd : o.guard = none) (s x : Operand) (t : TypeId)
    (ho : o.op = .call { callee := .builtin .append, args := #[s, x], argTypes := #[t, t] })
    (base : Nat) (e : TypeId) (i : TypeInfo) (z : Value) (size bytes : Nat) (ht : P.underlying t = some (.slice e)) (hi : P.info? e = some i) (hz : i.zero = some z)
    (hsize : i.size = size) (hby : i.bytes = bytes) (hzs : z.cells.size = size) (hsz : 0 < size)
    (v : Value) (n : Nat) (xs : List Value) (hs : a.eval s = v) (hown : w.ownsRow base e size v n xs)
    (ad : Addr) (m c : Nat) (news : List Value) (hx : a.eval x = .slice (some ad) m c) (hl : news.length = m * size) (hnews : ∀ j u, news[j]? = some u → w.cell? (ad.add j) = some u) (h1 : ∀ u, u ∈ news → u.oneCell' = true)
    (h63 : n + m ≤ maxLen) (hbytes : (n + m) * bytes ≤ 140737488355328) (hbase : base ≤ w.heap.size)
    (h : ∀ v' w', w'.ownsRow base e size v' (n + m) (xs ++ news) → w.grownBy w' v.ownBlock → (v' = .slice none 0 0 ↔ v = .slice none 0 0 ∧ m = 0) → K (a.put o.dst v') w') :
    if Region.wanted o (yielded ops a.tmps) = true then Oper.wp P o a w K Q else E := by
  have hw : Region.wanted o (yielded ops a.tmps) = true := by simp [Region.wanted, hgd]
  rw [if_pos hw]
  exact wp_append_own w s x t ho base e i z size bytes ht hi hz hsize hby hzs hsz v n xs hs hown ad m c news hx hl hnews h1 h63 hbytes hbase h

/-- a block of texts, as what is appended -/
theorem PBlock.news {w : World} {g : Nat} {ts rest : List (List UInt8)} (h : PBlock w g (ts ++ rest)) : ∀ j u, (ts.map fun t => Value.string ⟨t.toArray⟩)[j]? = some u → w.cell? ((⟨g, 0, none⟩ : Addr).add j) = some u := by
  intro j u hu
  have hj : j < ts.length := by
    have := (List.getElem?_eq_some_iff.1 hu).1
    rwa [List.length_map] at this
  have h2 := h.cell (i := j) (l := ts.getD j []) (by rw [List.getElem?_append_left hj, List.getD_eq_getElem?_getD, List.getElem?_eq_getElem hj]; rfl)
  rw [show (⟨g, 0, none⟩ : Addr).add j = ⟨g, j, none⟩ by simp only [Addr.add]; split <;> simp_all, h2, ← hu, List.getElem?_map, List.getD_eq_getElem?_getD, List.getElem?_eq_getElem hj]
  rfl
theorem texts_one (ts : List (List UInt8)) : ∀ u, u ∈ (ts.map fun t => Value.string ⟨t.toArray⟩) → u.oneCell' = true := by
  intro u hu
  obtain ⟨t, _, rfl⟩ := List.mem_map.1 hu
  rfl

set_option maxRecDepth 20000 in
set_option maxHeartbeats 2000000 in
theorem pieces_law (s : List UInt8) (v : Value) (len : Nat) (m : Int) (w : World) (hs : s.length ≤ 4000000000) (hm : w.cell? ⟨0, 0, none⟩ = some (.int .i64 m))
    (hv : ∃ a c, v = .slice a len c ∧ (0 < len → ∃ b off, a = some ⟨b, off, none⟩ ∧ ∀ i, i < len → ∃ x : Int, w.cell? ⟨b, off + i, none⟩ = some (.int .i64 x))) (hlen : len ≤ 140737488351232) :
    Calls Tryd.prog 7 #[.string ⟨s.toArray⟩, v] w (fun e w' => e = .returned (.bool true) ∧ Below w.heap.size w w') := by
  have hlt0 : 0 < w.heap.size := World.block_lt_of_cell? _ _ hm
  have c1 : ∀ k c W, Below w.heap.size w W → (k ++ c).length < 4294967281 → Calls Tryd.prog 8 #[.string ⟨k.toArray⟩, .string ⟨c.toArray⟩] W (CutOut (k ++ c) W) := fun k c W hb hl => cut_any k c m W hl ((World.cell?_of_block (a := ⟨0, 0, none⟩) (hb.block 0 hlt0)).trans hm)
  have c2 : ∀ W, Below w.heap.size w W → Calls Tryd.prog 15 #[] W (fun e w' => e = .returned (.bool true) ∧ Below W.heap.size W w') := fun W hb => frames_any m W ((World.cell?_of_block (a := ⟨0, 0, none⟩) (hb.block 0 hlt0)).trans hm)
  have c3 : Calls Tryd.prog 8 #[.string ⟨#[]⟩, .string ⟨s.toArray⟩] w (CutOut s w) := c1 [] s w (Below.refl _ _) (by rw [List.nil_append]; omega)
  obtain ⟨va, vc, rfl, hr⟩ := hv
  have HR : Hid (0 < len → ∃ b off, va = some ⟨b, off, none⟩ ∧ ∀ i, i < len → ∃ x : Int, w.cell? ⟨b, off + i, none⟩ = some (.int .i64 x)) := hr
  obtain ⟨SB, hSB⟩ : ∃ B, B = (⟨s.toArray⟩ : ByteArray) := ⟨_, rfl⟩
  have HS : Hid (SB = ⟨s.toArray⟩ ∧ s.length ≤ 4000000000) := ⟨hSB, hs⟩
  rw [← hSB] at c3 ⊢
  obtain ⟨i0, hi, hz0, hz1, hz2⟩ := info_parts Tryd.infoStr
  clear hSB hs hm hlt0 hr
  go_enter Tryd.func7, Tryd.ntmps7
  go_wp2_with fail
  refine c3.mono ?_
  rintro e w1 ⟨hb1, g1, rest1, hg1, he, hp1⟩
  have hR1 := hp1.row (cutA [] s).1.length
  have HP1 : Hid (PBlock w1 g1 ((cutA [] s).1 ++ rest1)) := hp1
  subst he
  obtain ⟨KB, hKB⟩ : ∃ B, B = (⟨(cutA [] s).2.toArray⟩ : ByteArray) := ⟨_, rfl⟩
  obtain ⟨N, hN⟩ : ∃ n, n = (cutA [] s).1.length := ⟨_, rfl⟩
  have hNl : N ≤ 4294967000 := by have := cutA_count s; have := HS.out; omega
  have HK : Hid (KB = ⟨(cutA [] s).2.toArray⟩ ∧ N = (cutA [] s).1.length) := ⟨hKB, hN⟩
  rw [← hKB, ← hN]
  clear c3 hR1 hp1 hKB hN
  go_wp2_with fail
  go_loopg [7, 8, 9, 10] len (fun g s7 s8 s9 s10 wr => ∃ (i : Nat) (p r : List UInt8), i + g = len ∧ s10 = .int .i64 i ∧ s8 = .string ⟨r.toArray⟩ ∧ s9 = .string ⟨(cutA [] p).2.toArray⟩ ∧ s = p ++ r ∧ Texts wr w1.heap.size s7 (cutA [] p).1 ∧ Below w1.heap.size w1 wr)
  case atStart => exact ⟨0, [], s, by omega, rfl, by rw [HS.out.1], rfl, rfl, texts_nil _ _, Below.refl _ _⟩
  case round =>
    obtain ⟨i, p, r, hi', rfl, rfl, rfl, hsp, ht, hb⟩ := hrel
    have HI : Hid (i + gk = len) := hi'
    have HSP : Hid (s = p ++ r) := hsp
    have hpr : p.length + r.length ≤ 4000000000 := by have := HS.out.2; rw [hsp, List.length_append] at this; exact this
    have hk2 : (cutA [] p).2.length ≤ 6001 := by simp only [cutA, List.length_take]; omega
    have hcp := cutA_count p
    have hin : i ≤ len := by omega
    have hbw : Below w.heap.size w wr := hb1.trans (hb.mono hb1.size)
    obtain ⟨QB, hQB⟩ : ∃ B, B = (⟨(cutA [] p).2.toArray⟩ : ByteArray) := ⟨_, rfl⟩
    have hrz : (⟨r.toArray⟩ : ByteArray).size = r.length := ba_size r
    rw [← hQB]
    clear hi' hsp
    by_cases hlt : i < len
    · have hl1 : (i : Int) < (len : Int) := by omega
      by_cases hr0 : r = []
      · have hre : r.isEmpty = true := by rw [hr0]; rfl
        clear hr0
        have HE : Hid (cutA [] s = ((cutA [] p).1 ++ (cutA [] ((cutA [] p).2 ++ r)).1, (cutA [] ((cutA [] p).2 ++ r)).2)) := by show _ = _; rw [HSP.out, cutA_pieces]
        have c4 := c1 (cutA [] p).2 r wr hbw (by rw [List.length_append]; omega)
        have hcp2 := cutA_count ((cutA [] p).2 ++ r)
        rw [List.length_append] at hcp2
        rw [← hQB] at c4
        clear c1 hQB
        go_wp2_with fail
        refine c4.mono ?_
        rintro e w2 ⟨hb2, g2, rest2, hg2, he2, hp2⟩
        subst he2
        have ht2 := ht.below hb2
        have hbw2 : Below w1.heap.size w1 w2 := hb.trans (hb2.mono hb.size)
        clear c4 ht
        go_wp2_with (at_builtin; refine wpList_append_own _ rfl _ _ 22 rfl w1.heap.size 9 i0 (.string ByteArray.empty) 1 16 Tryd.underlying22 hi hz0 hz1 hz2 rfl (by decide) _ _ _ rfl ht2 ⟨g2, 0, none⟩ _ _ ((cutA [] ((cutA [] p).2 ++ r)).1.map fun t => Value.string ⟨t.toArray⟩) rfl (by rw [List.length_map, Nat.mul_one]) hp2.news (texts_one _) (by unfold maxLen; omega) (by omega) hbw2.size ?_)
        intro v5 w5 hown5 hgrow5 _
        have hT5 : Texts w5 w1.heap.size v5 (cutA [] s).1 := by
          rw [HE.out, Texts, List.length_append, List.map_append]
          exact hown5
        have hb5 : Below w1.heap.size w1 w5 := hbw2.trans (grownBy_below hgrow5 ht2 hbw2.size)
        have hbw5 : Below w.heap.size w w5 := hb1.trans (hb5.mono hb1.size)
        have hR6 := hT5.row
        have hR7 := (HP1.out.row N).below hb5
        rw [← HK.out.2] at hR7
        obtain ⟨ua, uc, rfl, hu⟩ := hR6
        rw [← HK.out.2] at hu ⊢
        have hq2 : (⟨(cutA [] ((cutA [] p).2 ++ r)).2.toArray⟩ : ByteArray) = KB := by
          have := congrArg Prod.snd HE.out
          rw [HK.out.1, this]
        rw [hq2]
        have HU : Hid (0 < N → ∃ b off, ua = some (⟨b, off, none⟩ : Addr) ∧ ∀ i, i < N → w5.cell? ⟨b, off + i, none⟩ = some (.string ⟨((cutA [] s).1.getD i []).toArray⟩)) := hu
        have HV : Hid (∀ i, i < N → w5.cell? ⟨g1, 0 + i, none⟩ = some (.string ⟨((cutA [] s).1.getD i []).toArray⟩)) := fun i hi => by
          obtain ⟨a7, c7, hv7, h7⟩ := hR7
          have hl7 := HK.out.2
          obtain ⟨b7, o7, rfl, h8⟩ := h7 (by omega)
          simp only [Value.slice.injEq, Option.some.injEq, Addr.mk.injEq] at hv7
          obtain ⟨⟨rfl, rfl, _⟩, _⟩ := hv7
          exact h8 i (by omega)
        clear hown5 hgrow5 hT5 hu hp2 ht2 hR7 hq2 hcp2 hcp hk2 hpr
        go_wp2_with fail
        refine (c2 _ hbw5).mono ?_
        rintro e w6 ⟨rfl, hb6⟩
        have hbw6 : Below w.heap.size w w6 := hbw5.trans (hb6.mono hbw5.size)
        clear c2
        go_wp2_with fail
        go_loopg [14] N (fun g s14 wr => ∃ j : Nat, j + g = N ∧ s14 = .int .i64 j ∧ Below w6.heap.size w6 wr)
        case atStart => exact ⟨0, by omega, rfl, Below.refl _ _⟩
        case round =>
          obtain ⟨j, hj, rfl, hbj⟩ := hrel
          have HJ : Hid (j + gk = N) := hj
          have hjn : j ≤ N := by omega
          clear hj
          have hbw7 : Below w.heap.size w wr := hbw6.trans (hbj.mono hbw6.size)
          by_cases hlt : j < N
          · have h0 : (0 : Int) ≤ (j : Int) := by omega
            have h1 : (j : Int) < (N : Int) := by omega
            obtain ⟨bb, bo, hb', hcb⟩ := HU.out (by omega)
            subst hb'
            have e1 := HV.out j hlt
            have e2 := hcb j hlt
            have l1 : g1 < w5.heap.size := World.block_lt_of_cell? _ _ e1
            have l2 : bb < w5.heap.size := World.block_lt_of_cell? _ _ e2
            have hb57 : Below w5.heap.size w5 wr := hb6.trans (hbj.mono hb6.size)
            have q1 : wr.drew.cell? ⟨g1, j, none⟩ = some (.string ⟨((cutA [] s).1.getD j []).toArray⟩) := by
              have := (World.cell?_of_block (a := ⟨g1, 0 + j, none⟩) (hb57.drew.block g1 l1)).trans e1
              rwa [Nat.zero_add] at this
            have q2 : wr.drew.cell? ⟨bb, bo + j, none⟩ = some (.string ⟨((cutA [] s).1.getD j []).toArray⟩) := (World.cell?_of_block (a := ⟨bb, bo + j, none⟩) (hb57.drew.block bb l2)).trans e2
            generalize (⟨((cutA [] s).1.getD j []).toArray⟩ : ByteArray) = X at *
            have HLT : Hid (j < N) := hlt
            clear hcb e1 e2 l1 l2 hlt hb57
            go_wp2_with fail
            go_region
            go_wp2_with fail
            go_roundg (gk - 1)
            case measure => have := HJ.out; have := HLT.out; omega
            case rel => exact ⟨j + 1, by have := HJ.out; have := HLT.out; omega, by go_num, hbj.drew⟩
          · have h1 : ¬ (j : Int) < (N : Int) := by omega
            go_wp2_with fail
            go_ret
            exact ⟨rfl, hbw7⟩
      · have hre : r.isEmpty = false := by
          cases r with
          | nil => exact absurd rfl hr0
          | cons _ _ => rfl
        have HG : Hid (i < len) := hlt
        obtain ⟨ab, ao, ha, hca⟩ := HR.out (by omega)
        subst ha
        obtain ⟨x, hx⟩ := hca i hlt
        have e1 : wr.cell? ⟨ab, ao + i, none⟩ = some (.int .i64 x) := (World.cell?_of_block (a := ⟨ab, ao + i, none⟩) (hbw.block ab (World.block_lt_of_cell? _ _ hx))).trans hx
        have h0 : (0 : Int) ≤ (i : Int) := by omega
        have hw1 : IntKind.i64.wrap ((r.length : Int) + 1) = (r.length : Int) + 1 := by rw [IntKind.wrap_i64]; omega
        have c4 := fun W => spot_any x ((r.length : Int) + 1) W (by omega) (by omega)
        have c5 : ∀ (k : Nat) W, Below w.heap.size w W → Calls Tryd.prog 8 #[.string ⟨(cutA [] p).2.toArray⟩, .string ((⟨r.toArray⟩ : ByteArray).extract 0 k)] W (CutOut ((cutA [] p).2 ++ r.take k) W) := fun k W hb => by
          rw [ba_take]
          exact c1 (cutA [] p).2 (r.take k) W hb (by rw [List.length_append, List.length_take]; omega)
        rw [← hQB] at c5
        obtain ⟨rn, hrn⟩ : ∃ n, n = r.length := ⟨_, rfl⟩
        have HRX : Hid (∀ k, (⟨r.toArray⟩ : ByteArray).extract k rn = ⟨(r.drop k).toArray⟩) := fun k => by rw [hrn, ba_drop]
        have HRN : Hid (rn = r.length ∧ p.length + r.length ≤ 4000000000) := ⟨hrn, hpr⟩
        rw [← hrn] at hrz hw1 c4 hpr
        obtain ⟨RB, hRB⟩ : ∃ B, B = (⟨r.toArray⟩ : ByteArray) := ⟨_, rfl⟩
        have hre2 : RB.toList.isEmpty = false := by rw [Lib.toList_data, hRB]; exact hre
        rw [← hRB] at hrz c5 HRX ⊢
        have HRB : Hid (RB = ⟨r.toArray⟩) := hRB
        clear hr0 hca hx hlt hrn hQB c1 hRB hre
        go_upto_block 1 with fail
        go_cut [7, 8, 9, 11, 12] from 31 to 52 (fun s7 s8 s9 s11 s12 wc => ∃ k : Nat, s8 = .string ⟨(r.drop k).toArray⟩ ∧ s9 = .string ⟨(cutA [] (p ++ r.take k)).2.toArray⟩ ∧ Texts wc w1.heap.size s7 (cutA [] (p ++ r.take k)).1 ∧ Below w1.heap.size w1 wc)
        case first =>
          go_wp2_with fail
          refine (c4 _).mono ?_
          rintro e w2 ⟨⟨k, hk, rfl⟩, hw2⟩
          have hw2' := hw2.symm
          subst hw2'
          have hk0 : (0 : Int) ≤ (k : Int) := by omega
          have hk1 : (k : Int) ≤ (rn : Int) := by omega
          clear c4
          go_wp2_with fail
          refine (c5 k _ hbw).mono ?_
          rintro e w2 ⟨hb2, g2, rest2, hg2, he2, hp2⟩
          subst he2
          have ht2 := ht.below hb2
          have hbw2 : Below w1.heap.size w1 w2 := hb.trans (hb2.mono hb.size)
          have hcp2 := cutA_count ((cutA [] p).2 ++ r.take k)
          rw [List.length_append, List.length_take] at hcp2
          have HE : Hid (cutA [] (p ++ r.take k) = ((cutA [] p).1 ++ (cutA [] ((cutA [] p).2 ++ r.take k)).1, (cutA [] ((cutA [] p).2 ++ r.take k)).2)) := cutA_pieces p (r.take k)
          clear c5 ht
          generalize hC : cutA [] ((cutA [] p).2 ++ r.take k) = C at *
          have hrl := HRN.out
          have hn1 : (cutA [] p).1.length + C.1.length ≤ 5000000000 := by omega
          clear hrl hcp2 hC
          have ht3 : World.ownsRow w2.drew w1.heap.size 9 1 u7 (cutA [] p).1.length ((cutA [] p).1.map fun t => Value.string ⟨t.toArray⟩) := ht2
          have hp3 : PBlock w2.drew g2 (C.1 ++ rest2) := hp2
          have hbw3 : Below w1.heap.size w1 w2.drew := hbw2.drew
          go_wp2_with fail
          go_region_law (refine step_append_own _ (by rfl) _ _ 22 (by rfl) w1.heap.size 9 i0 (.string ByteArray.empty) 1 16 Tryd.underlying22 hi hz0 hz1 hz2 rfl (by decide) u7 (cutA [] p).1.length ((cutA [] p).1.map fun t => Value.string ⟨t.toArray⟩) (by rfl) ht3 ⟨g2, 0, none⟩ C.1.length C.1.length (C.1.map fun t => Value.string ⟨t.toArray⟩) (by rfl) (by rw [List.length_map, Nat.mul_one]) hp3.news (texts_one _) (by unfold maxLen; omega) (by omega) hbw3.size ?_; intro v5 w5 hown5 hgrow5 hnil5)
          all_goals
            go_wp2
            go_meet
            case rel =>
              refine ⟨k, by rw [HRX.out], by rw [HE.out], ?_, hbw3.trans ((grownBy_below hgrow5 ht3 hbw3.size))⟩
              rw [HE.out, Texts, List.length_append, List.map_append]
              exact hown5
        case rest =>
        obtain ⟨k, rfl, rfl, ht3, hb3⟩ := hcut
        clear c4 c5
        go_wp2_with fail
        go_roundg (gk - 1)
        case measure => have := HI.out; have := HG.out; omega
        case rel =>
          have h1 := HI.out
          have h2 := HG.out
          refine ⟨i + 1, p ++ r.take k, r.drop k, by omega, by go_num, rfl, rfl, ?_, ht3, hb3⟩
          rw [List.append_assoc, List.take_append_drop, HSP.out]
    · have hl1 : ¬ (i : Int) < (len : Int) := by omega
      have HE : Hid (cutA [] s = ((cutA [] p).1 ++ (cutA [] ((cutA [] p).2 ++ r)).1, (cutA [] ((cutA [] p).2 ++ r)).2)) := by show _ = _; rw [HSP.out, cutA_pieces]
      have c4 := c1 (cutA [] p).2 r wr hbw (by rw [List.length_append]; omega)
      have hcp2 := cutA_count ((cutA [] p).2 ++ r)
      rw [List.length_append] at hcp2
      rw [← hQB] at c4
      clear c1 hQB
      go_wp2_with fail
      refine c4.mono ?_
      rintro e w2 ⟨hb2, g2, rest2, hg2, he2, hp2⟩
      subst he2
      have ht2 := ht.below hb2
      have hbw2 : Below w1.heap.size w1 w2 := hb.trans (hb2.mono hb.size)
      clear c4 ht
      go_wp2_with (at_builtin; refine wpList_append_own _ rfl _ _ 22 rfl w1.heap.size 9 i0 (.string ByteArray.empty) 1 16 Tryd.underlying22 hi hz0 hz1 hz2 rfl (by decide) _ _ _ rfl ht2 ⟨g2, 0, none⟩ _ _ ((cutA [] ((cutA [] p).2 ++ r)).1.map fun t => Value.string ⟨t.toArray⟩) rfl (by rw [List.length_map, Nat.mul_one]) hp2.news (texts_one _) (by unfold maxLen; omega) (by omega) hbw2.size ?_)
      intro v5 w5 hown5 hgrow5 _
      have hT5 : Texts w5 w1.heap.size v5 (cutA [] s).1 := by
        rw [HE.out, Texts, List.length_append, List.map_append]
        exact hown5
      have hb5 : Below w1.heap.size w1 w5 := hbw2.trans (grownBy_below hgrow5 ht2 hbw2.size)
      have hbw5 : Below w.heap.size w w5 := hb1.trans (hb5.mono hb1.size)
      have hR6 := hT5.row
      have hR7 := (HP1.out.row N).below hb5
      rw [← HK.out.2] at hR7
      obtain ⟨ua, uc, rfl, hu⟩ := hR6
      rw [← HK.out.2] at hu ⊢
      have hq2 : (⟨(cutA [] ((cutA [] p).2 ++ r)).2.toArray⟩ : ByteArray) = KB := by
        have := congrArg Prod.snd HE.out
        rw [HK.out.1, this]
      rw [hq2]
      have HU : Hid (0 < N → ∃ b off, ua = some (⟨b, off, none⟩ : Addr) ∧ ∀ i, i < N → w5.cell? ⟨b, off + i, none⟩ = some (.string ⟨((cutA [] s).1.getD i []).toArray⟩)) := hu
      have HV : Hid (∀ i, i < N → w5.cell? ⟨g1, 0 + i, none⟩ = some (.string ⟨((cutA [] s).1.getD i []).toArray⟩)) := fun i hi => by
        obtain ⟨a7, c7, hv7, h7⟩ := hR7
        have hl7 := HK.out.2
        obtain ⟨b7, o7, rfl, h8⟩ := h7 (by omega)
        simp only [Value.slice.injEq, Option.some.injEq, Addr.mk.injEq] at hv7
        obtain ⟨⟨rfl, rfl, _⟩, _⟩ := hv7
        exact h8 i (by omega)
      clear hown5 hgrow5 hT5 hu hp2 ht2 hR7 hq2 hcp2 hcp hk2 hpr
      go_wp2_with fail
      refine (c2 _ hbw5).mono ?_
      rintro e w6 ⟨rfl, hb6⟩
      have hbw6 : Below w.heap.size w w6 := hbw5.trans (hb6.mono hbw5.size)
      clear c2
      go_wp2_with fail
      go_loopg [14] N (fun g s14 wr => ∃ j : Nat, j + g = N ∧ s14 = .int .i64 j ∧ Below w6.heap.size w6 wr)
      case atStart => exact ⟨0, by omega, rfl, Below.refl _ _⟩
      case round =>
        obtain ⟨j, hj, rfl, hbj⟩ := hrel
        have HJ : Hid (j + gk = N) := hj
        have hjn : j ≤ N := by omega
        clear hj
        have hbw7 : Below w.heap.size w wr := hbw6.trans (hbj.mono hbw6.size)
        by_cases hlt : j < N
        · have h0 : (0 : Int) ≤ (j : Int) := by omega
          have h1 : (j : Int) < (N : Int) := by omega
          obtain ⟨bb, bo, hb', hcb⟩ := HU.out (by omega)
          subst hb'
          have e1 := HV.out j hlt
          have e2 := hcb j hlt
          have l1 : g1 < w5.heap.size := World.block_lt_of_cell? _ _ e1
          have l2 : bb < w5.heap.size := World.block_lt_of_cell? _ _ e2
          have hb57 : Below w5.heap.size w5 wr := hb6.trans (hbj.mono hb6.size)
          have q1 : wr.drew.cell? ⟨g1, j, none⟩ = some (.string ⟨((cutA [] s).1.getD j []).toArray⟩) := by
            have := (World.cell?_of_block (a := ⟨g1, 0 + j, none⟩) (hb57.drew.block g1 l1)).trans e1
            rwa [Nat.zero_add] at this
          have q2 : wr.drew.cell? ⟨bb, bo + j, none⟩ = some (.string ⟨((cutA [] s).1.getD j []).toArray⟩) := (World.cell?_of_block (a := ⟨bb, bo + j, none⟩) (hb57.drew.block bb l2)).trans e2
          generalize (⟨((cutA [] s).1.getD j []).toArray⟩ : ByteArray) = X at *
          have HLT : Hid (j < N) := hlt
          clear hcb e1 e2 l1 l2 hlt hb57
          go_wp2_with fail
          go_region
          go_wp2_with fail
          go_roundg (gk - 1)
          case measure => have := HJ.out; have := HLT.out; omega
          case rel => exact ⟨j + 1, by have := HJ.out; have := HLT.out; omega, by go_num, hbj.drew⟩
        · have h1 : ¬ (j : Int) < (N : Int) := by omega
          go_wp2_with fail
          go_ret
          exact ⟨rfl, hbw7⟩
end Go.Proofs.YtjblaomjadpbfaaDoor
