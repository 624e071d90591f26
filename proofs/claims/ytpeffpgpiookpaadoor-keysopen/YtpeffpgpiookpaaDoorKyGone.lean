/- The law KeysGone. -/
import Derived.Test.YtpeffpgpiookpaaDoorKyOpens
import Derived.Test.YtpeffpgpiookpaaDoorKyDist
namespace Go.Proofs.YtpeffpgpiookpaaDoor
open Go.RowKit

/-- texts that can be read -/
def HS (w : World) (v : Value) (ts : List ByteArray) : Prop :=
  ∃ p cap, v = .slice p ts.length cap ∧ ts.length ≤ cap ∧ cap ≤ 9223372036854775807 ∧ (ts.length = 0 ∨ ∃ g, p = some ⟨g, 0, none⟩ ∧ g < w.heap.size ∧ ∀ (k : Nat) x, ts[k]? = some x → w.cell? ⟨g, k, none⟩ = some (.string x))
theorem SRow.hs {w : World} {B : Nat} {v : Value} {ts : List ByteArray} (h : SRow w B v ts) : HS w v ts := by
  rcases h.2 with ⟨h0, h1⟩ | ⟨g, cap, cur, hv, _, hg, h1, h2, hs, ht⟩
  · exact ⟨none, 0, by rw [h0, h1], by omega, by omega, .inl h1⟩
  · refine ⟨_, cap, hv, h1, by unfold maxLen at h2; omega, .inr ⟨g, rfl, (Array.getElem?_eq_some_iff.1 hg).1, fun k x hk => ?_⟩⟩
    have hl : k < ts.length := (List.getElem?_eq_some_iff.1 hk).1
    have a : (ts.map Value.string)[k]? = some (.string x) := by rw [List.getElem?_map, hk]; rfl
    rw [← ht, List.getElem?_take, if_pos (by omega)] at a
    rw [Lib.cell_of_heap hg]
    simpa using a
/-- how many keys of a name there are -/
def gone (ks : List Ky) (name : ByteArray) : Int := (ks.length : Int) - (stay ks name).length
theorem gone_step (ks : List Ky) (name : ByteArray) (j : Nat) (x : Ky) (h : ks[j]? = some x) : gone (ks.take (j + 1)) name = gone (ks.take j) name + if x.name = name then 1 else 0 := by
  obtain ⟨h1, h2⟩ := List.getElem?_eq_some_iff.1 h
  unfold gone stay
  rw [leftOf_step h, List.length_append, List.length_take, List.length_take, Nat.min_eq_left (by omega), Nat.min_eq_left (by omega)]
  by_cases hx : x.name = name
  · rw [if_pos (by simp [hx]), if_pos hx]; simp; omega
  · rw [if_neg (by simp [hx]), if_neg hx]; simp; omega
theorem gone_bound (ks : List Ky) (name : ByteArray) : 0 ≤ gone ks name ∧ gone ks name ≤ ks.length := by
  have := leftOf_le (fun k => decide (k.name = name)) ks
  unfold gone stay
  omega
theorem lacks_zero (r : Int) : lacks r 0 = false := by
  unfold lacks
  have : bits BinOp.and IntKind.i64 r 0 = 0 := by
    show IntKind.i64.wrap ((BitVec.ofInt 64 r &&& BitVec.ofInt 64 0).toNat : Int) = 0
    rw [show BitVec.ofInt 64 0 = 0#64 from rfl, BitVec.and_zero]
    rfl
  rw [this]
  rfl
/-- the text of the i-th key is its own -/
theorem text_own {L : List Wt} (hL : L.length ≤ 32) {i : Nat} {x : Wt} (hx : L[i]? = some x) {k : Ky} (hk : k ∈ keysOf L) (he : k.text = (mkKy i x).text) : k = mkKy i x := by
  obtain ⟨j, hj⟩ := List.mem_iff_getElem?.1 hk
  have hjl := (List.getElem?_eq_some_iff.1 hj).1
  rw [keysOf_len] at hjl
  have hli : L[j]? = some L[j] := List.getElem?_eq_getElem hjl
  rw [keysOf_at L j _ hli] at hj
  cases hj
  have hil := (List.getElem?_eq_some_iff.1 hx).1
  have h1 : (keyT j L[j].draw) = keyT i x.draw := by
    have h2 : (⟨(keyT j L[j].draw).toArray⟩ : ByteArray) = ⟨(keyT i x.draw).toArray⟩ := he
    have h3 := congrArg (fun b => b.data.toList) h2
    simpa using h3
  have h4 := keyT_inj j i _ _ (by omega) (by omega) h1
  subst h4
  rw [hli] at hx
  cases hx
  rfl
theorem find_stay {L : List Wt} (hL : L.length ≤ 32) {i : Nat} {x : Wt} (hx : L[i]? = some x) (name : ByteArray) : (findF (stay (keysOf L) name) (mkKy i x).text 0).2 = if x.name = name then 6 else 0 := by
  unfold findF
  by_cases hn : x.name = name
  · rw [if_pos hn]
    have : (stay (keysOf L) name).find? (fun k => decide (k.text = (mkKy i x).text)) = none := by
      rw [List.find?_eq_none]
      intro k hk
      unfold stay leftOf at hk
      obtain ⟨hk1, hk2⟩ := List.mem_filter.1 hk
      intro he
      have := text_own hL hx hk1 (by simpa using he)
      subst this
      simp only [Bool.not_eq_true', decide_eq_false_iff_not] at hk2
      exact hk2 hn
    rw [this]
  · rw [if_neg hn]
    have hm : mkKy i x ∈ stay (keysOf L) name := by
      unfold stay leftOf
      rw [List.mem_filter]
      exact ⟨List.mem_of_getElem? (keysOf_at L i x hx), by simp only [Bool.not_eq_true', decide_eq_false_iff_not]; exact hn⟩
    cases hf : (stay (keysOf L) name).find? (fun k => decide (k.text = (mkKy i x).text)) with
    | none =>
      rw [List.find?_eq_none] at hf
      exact absurd (by simp) (hf _ hm)
    | some k =>
      simp only
      rw [lacks_zero]
      rfl
theorem keysOf_ok {L : List Wt} (hL : L.length ≤ 32) (hok : ∀ x ∈ L, x.name.size ≤ 140737488355328) : ∀ k ∈ keysOf L, k.ok := fun k hk => by
  obtain ⟨i, hi⟩ := List.mem_iff_getElem?.1 hk
  have hil := (List.getElem?_eq_some_iff.1 hi).1
  rw [keysOf_len] at hil
  have hli : L[i]? = some L[i] := List.getElem?_eq_getElem hil
  rw [keysOf_at _ i _ hli] at hi
  cases hi
  exact ⟨keyT_size i _ (by omega) (by omega), hok _ (List.getElem_mem _)⟩
theorem stay_ok {ks : List Ky} {name : ByteArray} (h : ∀ k ∈ ks, k.ok) : ∀ k ∈ stay ks name, k.ok := fun k hk => h k (by unfold stay leftOf at hk; exact (List.mem_filter.1 hk).1)

set_option maxRecDepth 20000 in
set_option maxHeartbeats 2000000 in
theorem gone_law (v : Value) (ls : List Wt) (name : ByteArray) (w : World) (hv : Vars w) (h : HWt w v ls) (hok : ∀ x ∈ ls, x.name.size ≤ 140737488355328) :
    Calls Tryd.prog 5 #[v, .string name] w fun e w' => e = .returned (.bool true) ∧ Below w.heap.size w w' := by
  have cm := minted_any v ls w hv h hok
  obtain ⟨p, cap, rfl, hcap, hcm, hrow⟩ := h
  obtain ⟨n, hn⟩ : ∃ n, n = ls.length := ⟨_, rfl⟩
  rw [← hn] at cm hrow hcap ⊢
  obtain ⟨L, hL⟩ : ∃ L, L = ls.take 32 := ⟨_, rfl⟩
  have hLl : L.length ≤ 32 := by rw [hL, List.length_take]; omega
  have HLs : Hid (∀ (i : Nat) x, L[i]? = some x → ls[i]? = some x ∧ i < 32 ∧ i < n) := fun i x hx => by
    rw [hL, List.getElem?_take] at hx
    by_cases hi : i < 32
    · rw [if_pos hi] at hx; exact ⟨hx, hi, by have := (List.getElem?_eq_some_iff.1 hx).1; omega⟩
    · rw [if_neg hi] at hx; cases hx
  have hokL : ∀ x ∈ L, x.name.size ≤ 140737488355328 := fun x hx => hok x (by rw [hL] at hx; exact List.mem_of_mem_take hx)
  rw [← hL] at cm
  have hkok := keysOf_ok hLl hokL
  have HROW : Hid (n = 0 ∨ ∃ b off, p = some ⟨b, off, none⟩ ∧ b < w.heap.size ∧ ∀ k x, ls[k]? = some x → WAt w b (off + k * 3) x) := hrow
  have HV : Hid (Vars w) := hv
  have HLL : Hid (L.length ≤ 32) := hLl
  have co := fun W hW => opens_any W hW
  have cr := fun m u W hW => revoke_any m u (keysOf L) name W hW hkok (by rw [keysOf_len]; omega)
  have cf := fun m u t W hW => find_any m u (stay (keysOf L) name) t 0 W hW (stay_ok hkok)
  have hgo : ((keysOf L).length : Int) - ((stay (keysOf L) name).length : Int) = gone (keysOf L) name := rfl
  rw [hgo] at cr
  clear hrow hv hL hok hokL hkok hn
  go_enter Tryd.func5, Tryd.ntmps5
  go_wp2_with fail
  refine cm.mono ?_
  rintro e w1 ⟨u, t, rfl, hk1, hs1, hb1⟩
  clear cm
  obtain ⟨m, hm⟩ : ∃ m, m = L.length := ⟨_, rfl⟩
  rw [← hm]
  have HM : Hid (m = L.length) := hm
  clear hm hLl
  obtain ⟨pu, nu, qu, rfl⟩ := hk1.form
  have hbA : Below w1.heap.size w1 (w1.alloc (.cells #[.int .i64 m, .slice pu nu qu] 24)) := (Below.refl _ _).alloc (Nat.le_refl _) _
  have tA := T2.born w1 m (.slice pu nu qu) 24
  have kA := hk1.hk.below hbA
  have sA := hs1.below hbA
  have h0A := hb1.trans (hbA.mono hb1.size)
  clear hk1 hs1 hb1 hbA
  generalize hwA : w1.alloc (.cells #[.int .i64 m, .slice pu nu qu] 24) = wA at *
  have co1 := co wA (HV.out.go h0A HV.out.room)
  go_wp2_with (go_at_call 11; refine co1.mono ?_; rintro e w2 ⟨rfl, hb2⟩; have t2 := tA.below hb2; have HC : Hid (T2 w1.heap.size m (.slice pu nu qu) w2 ∧ HK w2 (.slice pu nu qu) (keysOf L) ∧ SRow w2 w.heap.size t (textsOf L) ∧ Below w.heap.size w w2) := ⟨t2, kA.below hb2, sA.below hb2, h0A.trans (hb2.mono h0A.size)⟩; obtain ⟨a1, a2, -, -, -⟩ := t2; clear hwA hb2 co1)
  have cr1 := cr m (.slice pu nu qu) w2 HC.out.2.1
  clear cr co
  refine cr1.mono ?_
  rintro e w3 ⟨u3, rfl, hk3, hb3⟩
  clear cr1 a1 a2 tA kA sA h0A
  obtain ⟨p3, n3, q3, rfl⟩ := hk3.form
  have hbB : Below w3.heap.size w3 (w3.alloc (.cells #[.int .i64 m, .slice p3 n3 q3] 24)) := (Below.refl _ _).alloc (Nat.le_refl _) _
  have tB := T2.born w3 m (.slice p3 n3 q3) 24
  have h2B := hb3.trans (hbB.mono hb3.size)
  have HD : Hid (T2 w1.heap.size m (.slice pu nu qu) (w3.alloc (.cells #[.int .i64 m, .slice p3 n3 q3] 24)) ∧ T2 w3.heap.size m (.slice p3 n3 q3) (w3.alloc (.cells #[.int .i64 m, .slice p3 n3 q3] 24)) ∧ HK (w3.alloc (.cells #[.int .i64 m, .slice p3 n3 q3] 24)) (.slice p3 n3 q3) (stay (keysOf L) name) ∧ HS (w3.alloc (.cells #[.int .i64 m, .slice p3 n3 q3] 24)) t (textsOf L) ∧ Below w.heap.size w (w3.alloc (.cells #[.int .i64 m, .slice p3 n3 q3] 24))) := ⟨HC.out.1.below h2B, tB, hk3.hk.below hbB, (HC.out.2.2.1.below h2B).hs, HC.out.2.2.2.trans (h2B.mono HC.out.2.2.2.size)⟩
  clear hk3 hb3 hbB tB h2B HC
  generalize hwB : w3.alloc (.cells #[.int .i64 m, .slice p3 n3 q3] 24) = wB at *
  obtain ⟨pt, ct, ht, htc, hcm2, htr⟩ := HD.out.2.2.2.1
  have htl : (textsOf L).length = m := by unfold textsOf; rw [List.length_map, keysOf_len, HM.out]
  rw [htl] at ht htc htr
  subst ht
  have HTR : Hid (m = 0 ∨ ∃ g, pt = some ⟨g, 0, none⟩ ∧ g < wB.heap.size ∧ ∀ (k : Nat) x, (textsOf L)[k]? = some x → wB.cell? ⟨g, k, none⟩ = some (.string x)) := htr
  have hgb := gone_bound (keysOf L) name
  have hkl : (keysOf L).length = m := by rw [keysOf_len, HM.out]
  rw [hkl] at hgb
  have hm32 : m ≤ 32 := by have := HLL.out; have := HM.out; omega
  have HKL : Hid ((keysOf L).length = m) := hkl
  have HGB : Hid (∀ j, 0 ≤ gone ((keysOf L).take j) name ∧ gone ((keysOf L).take j) name ≤ m) := fun j => by
    have h1 := gone_bound ((keysOf L).take j) name
    rw [List.length_take, hkl] at h1
    omega
  clear htr htl hkl
  obtain ⟨G, hG⟩ : ∃ G, G = gone (keysOf L) name := ⟨_, rfl⟩
  have HG : Hid (G = gone (keysOf L) name) := hG
  rw [← hG] at hgb ⊢
  clear hG
  go_wp2_with fail
  clear hwB
  go_loopg [9, 10, 11, 12] (m + 1) (fun gk s9 s10 _ _ wr => ∃ j : Nat, j ≤ m ∧ m + 1 ≤ j + gk ∧ s10 = .int .i64 j ∧ s9 = .int .i64 (G - gone ((keysOf L).take j) name) ∧ Below wB.heap.size wB wr)
  case atStart => exact ⟨0, by omega, by omega, rfl, by rw [show gone ((keysOf L).take 0) name = 0 from rfl]; simp, Below.refl _ _⟩
  case round =>
    obtain ⟨j, hj, hgk, rfl, rfl, hbr⟩ := hrel
    have HGK : Hid (m + 1 ≤ j + gk) := hgk
    have HBR : Hid (Below wB.heap.size wB wr) := hbr
    have hgj := HGB.out j
    clear hgk
    obtain ⟨z, hz⟩ : ∃ z, z = gone ((keysOf L).take j) name := ⟨_, rfl⟩
    have HZ : Hid (z = gone ((keysOf L).take j) name) := hz
    rw [← hz] at hgj ⊢
    clear hz
    by_cases hlt : j < m
    · obtain ⟨g, rfl, hgl, hgc⟩ : ∃ g, pt = some ⟨g, 0, none⟩ ∧ g < wB.heap.size ∧ ∀ (k : Nat) x, (textsOf L)[k]? = some x → wB.cell? ⟨g, k, none⟩ = some (.string x) := by
        rcases HTR.out with h | h
        · omega
        · exact h
      have hjL : j < L.length := by have := HM.out; omega
      obtain ⟨x, hx⟩ : ∃ x, L[j]? = some x := ⟨L[j], List.getElem?_eq_getElem hjL⟩
      obtain ⟨hxl, hj32, hjn⟩ := HLs.out j x hx
      obtain ⟨b, off, rfl, hbl, hc⟩ : ∃ b off, p = some ⟨b, off, none⟩ ∧ b < w.heap.size ∧ ∀ k x, ls[k]? = some x → WAt w b (off + k * 3) x := by
        rcases HROW.out with h | h
        · omega
        · exact h
      have hwB := HD.out.2.2.2.2
      have hbB : b < wB.heap.size := Nat.lt_of_lt_of_le hbl hwB.size
      obtain ⟨c0, -, -⟩ := ((hc j x hxl).keep (hwB.block b hbl)).keep (hbr.block b hbB)
      have htx : (textsOf L)[j]? = some (mkKy j x).text := by unfold textsOf; rw [List.getElem?_map, keysOf_at L j x hx]; rfl
      have ctx : wr.cell? ⟨g, j, none⟩ = some (.string (mkKy j x).text) := (hbr.cell (p := ⟨g, j, none⟩) hgl).trans (hgc j _ htx)
      have cf1 := cf m (.slice p3 n3 q3) (mkKy j x).text wr.drew (HD.out.2.2.1.below hbr.drew)
      have hcode := find_stay HLL.out hx name
      have hgs := gone_step (keysOf L) name j (mkKy j x) (keysOf_at L j x hx)
      have hmn : (mkKy j x).name = x.name := rfl
      rw [hmn] at hgs
      rw [← HZ.out] at hgs
      have hgj1 := HGB.out (j + 1)
      obtain ⟨b1, b2, -, -, -⟩ := HD.out.2.1.below hbr
      generalize findF (stay (keysOf L) name) (mkKy j x).text 0 = R at *
      obtain ⟨RN, RC⟩ := R
      simp only at hcode cf1
      generalize (mkKy j x).text = TX at *
      have hi1 : (0 : Int) ≤ (j : Int) := by omega
      have hi2 : (j : Int) < (m : Int) := by omega
      have hi3 : (j : Int) < (n : Int) := by omega
      have HEND : Hid (∀ W, Below wr.drew.heap.size wr.drew W → Below wB.heap.size wB W ∧ W.cell? ⟨b, off + j * 3, none⟩ = some (.string x.name)) := fun W hW => by
        have h1 : Below wB.heap.size wB W := HBR.out.drew.trans (hW.mono HBR.out.size)
        exact ⟨h1, (h1.cell (p := ⟨b, off + j * 3, none⟩) hbB).trans ((hbr.cell (p := ⟨b, off + j * 3, none⟩) hbB).symm.trans c0)⟩
      have S0 : (wr.drew.cell? ⟨w3.heap.size, 0, none⟩ = some (.int .i64 m) ∧ wr.drew.cell? ⟨w3.heap.size, 1, none⟩ = some (.slice p3 n3 q3)) ∧ wr.drew.cell? ⟨g, j, none⟩ = some (.string TX) := ⟨⟨b1, b2⟩, ctx⟩
      have hg1 : w3.heap.size < wr.drew.heap.size := (HD.out.2.1.below hbr).2.2.2.2
      have hg2 : g < wr.drew.heap.size := Nat.lt_of_lt_of_le hgl hbr.size
      have kp : ∀ W', Below wr.drew.heap.size wr.drew W' → (W'.cell? ⟨w3.heap.size, 0, none⟩ = some (.int .i64 m) ∧ W'.cell? ⟨w3.heap.size, 1, none⟩ = some (.slice p3 n3 q3)) ∧ W'.cell? ⟨g, j, none⟩ = some (.string TX) := fun W' hb => ⟨⟨(hb.cell (p := ⟨w3.heap.size, 0, none⟩) hg1).trans S0.1.1, (hb.cell (p := ⟨w3.heap.size, 1, none⟩) hg1).trans S0.1.2⟩, (hb.cell (p := ⟨g, j, none⟩) hg2).trans S0.2⟩
      have hbq := beq_ba x.name name
      obtain ⟨nm, rt, dr⟩ := x
      simp only at hbq hcode hgs HEND
      clear hc hgc htx ctx c0 b1 b2 hbr hxl hx hmn hwB hjL
      by_cases hnn : nm = name
      · rw [if_pos hnn] at hcode hgs
        rw [decide_eq_true hnn] at hbq
        subst hcode
        have HGS : Hid (gone ((keysOf L).take (j + 1)) name = z + 1) := hgs
        have hww : IntKind.i64.wrap (G - z - 1) = G - z - 1 := by rw [IntKind.wrap_i64]; omega
        have hbb1 : ((6 : Int) == 0) = false := by decide
        clear hnn hgs
        go_wp2_with fail
        go_region_held3 (fun W => (W.cell? ⟨w3.heap.size, 0, none⟩ = some (.int .i64 m) ∧ W.cell? ⟨w3.heap.size, 1, none⟩ = some (.slice p3 n3 q3)) ∧ W.cell? ⟨g, j, none⟩ = some (.string TX)) (first | exact S0 | exact kp _ hb4)
          (first | (go_at_call 13; refine cf1.mono ?_; rintro e w4 ⟨rfl, hb4⟩))
        have he := HEND.out w4 hb4
        have HE : Hid (Below wB.heap.size wB w4) := he.1
        have c4 := he.2
        clear he
        go_wp2_with fail
        go_roundg (gk - 1)
        case measure => have := HGK.out; omega
        case rel =>
          have h1 := HGK.out
          refine ⟨j + 1, by omega, by omega, by go_num, ?_, HE.out⟩
          rw [HGS.out]
          congr 1
          omega
      · rw [if_neg hnn] at hcode hgs
        rw [decide_eq_false hnn] at hbq
        subst hcode
        have HGS : Hid (gone ((keysOf L).take (j + 1)) name = z) := by show _ = _; rw [hgs]; omega
        clear hnn hgs
        go_wp2_with fail
        go_region_held3 (fun W => (W.cell? ⟨w3.heap.size, 0, none⟩ = some (.int .i64 m) ∧ W.cell? ⟨w3.heap.size, 1, none⟩ = some (.slice p3 n3 q3)) ∧ W.cell? ⟨g, j, none⟩ = some (.string TX)) (first | exact S0 | exact kp _ hb4)
          (first | (go_at_call 13; refine cf1.mono ?_; rintro e w4 ⟨rfl, hb4⟩))
        have he := HEND.out w4 hb4
        have HE : Hid (Below wB.heap.size wB w4) := he.1
        have c4 := he.2
        clear he
        go_wp2_with fail
        go_roundg (gk - 1)
        case measure => have := HGK.out; omega
        case rel =>
          have h1 := HGK.out
          refine ⟨j + 1, by omega, by omega, by go_num, ?_, HE.out⟩
          rw [HGS.out]
    · have hq : ¬ (j : Int) < (m : Int) := by omega
      have hz0 : z = G := by
        rw [HZ.out, HG.out, List.take_of_length_le (by have := HKL.out; omega)]
      subst hz0
      obtain ⟨a1, a2, -, -, -⟩ := HD.out.1.below hbr
      obtain ⟨b1, b2, -, -, -⟩ := HD.out.2.1.below hbr
      have e1 : ((z - z : Int) == 0) = true := by simp
      have e2 : ((m : Int) == (m : Int)) = true := by simp
      go_wp2_with fail
      go_ret
      exact ⟨rfl, HD.out.2.2.2.2.trans (HBR.out.mono HD.out.2.2.2.2.size)⟩
end Go.Proofs.YtpeffpgpiookpaaDoor
