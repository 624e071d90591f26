/- The plain store: lose, by Clean. -/
import Derived.Test.YtfogedmghhacdaaRsSweep
namespace Go.Proofs.Ytfogedmghhacdaa.A
open Go.RowKit

section
variable {w : World} {b : Nat} {G : Nat → Prop} {S : St} {r : Sr}
/-- a thing's mask turned -/
theorem StRaw.setMask (h : StRaw w b G S r) {g c i : Nat} {x : Rt} (hv : r.vth = .slice (some ⟨g, 0, none⟩) S.ths.length c) (hi : S.ths[i]? = some x) (m : Nat) :
    StRaw (w.setCell ⟨g, i * 9 + 8, none⟩ (.int .u64 m)) b G { S with ths := S.ths.set i { x with mask := m } } r := by
  have hg : r.vth.ownBlock = some g := by rw [hv]; rfl
  have hgb : b ≠ g := fun e => h.vb (by rw [hg, e])
  refine ⟨h.raw.go (heap_set hgb), h.room, ?_, h.quota, fun t ht => row_other (h.since t ht) fun k hk => heap_set fun e => h.vt ht hg (by rw [hk, e]), h.apt, h.fb, h.fv, h.ft, fun k hk => by rw [size_set]; exact h.flt k hk⟩
  have ht := h.ths
  rw [hv] at ht ⊢
  have := World.ownsRow.stored ht (i * 9 + 8) (.int .u64 m)
  unfold RtRow
  rw [rtL_set _ _ _ _ hi, List.length_set]
  exact this.1
end
/-- a thing that is a tenant's no more -/
def Rt.lost (x : Rt) (t : Nat) (P : Rt → Bool) : Rt := if (x.mask.testBit t && P x) = true then { x with mask := x.mask - 2 ^ t } else x
def loseL (l : List Rt) (t : Nat) (P : Rt → Bool) : List Rt := l.map fun x => x.lost t P
def lostN (l : List Rt) (t : Nat) (P : Rt → Bool) : Nat := l.countP fun x => x.mask.testBit t && P x
def midL (l : List Rt) (t : Nat) (P : Rt → Bool) (i : Nat) : List Rt := loseL (l.take i) t P ++ l.drop i
theorem mid_zero (l : List Rt) (t : Nat) (P : Rt → Bool) : midL l t P 0 = l := by simp [midL, loseL]
theorem mid_all (l : List Rt) (t : Nat) (P : Rt → Bool) (i : Nat) (h : l.length ≤ i) : midL l t P i = loseL l t P := by
  unfold midL
  rw [List.take_of_length_le h, List.drop_eq_nil_of_le h, List.append_nil]
theorem mid_len (l : List Rt) (t : Nat) (P : Rt → Bool) (i : Nat) : (midL l t P i).length = l.length := by simp [midL, loseL]; omega
theorem mid_at {l : List Rt} {t i : Nat} {P : Rt → Bool} {x : Rt} (h : l[i]? = some x) : (midL l t P i)[i]? = some x := by
  have hlt := (List.getElem?_eq_some_iff.1 h).1
  unfold midL
  rw [List.getElem?_append_right (by simp [loseL]; omega)]
  have : i - (loseL (l.take i) t P).length = 0 := by simp [loseL]; omega
  rw [this, List.getElem?_drop]
  exact h
theorem mid_succ {l : List Rt} {t i : Nat} {P : Rt → Bool} {x : Rt} (h : l[i]? = some x) : midL l t P (i + 1) = (midL l t P i).set i (x.lost t P) := by
  obtain ⟨hlt, hx⟩ := List.getElem?_eq_some_iff.1 h
  unfold midL
  have e : (loseL (l.take i) t P).length = i := by simp [loseL]; omega
  rw [List.set_append_right _ _ (by omega), e, Nat.sub_self, List.take_add_one, h, Option.toList_some, List.drop_eq_getElem_cons hlt, hx, List.set_cons_zero]
  simp [loseL]
theorem lost_succ {l : List Rt} {t i : Nat} {P : Rt → Bool} {x : Rt} (h : l[i]? = some x) : lostN (l.take (i + 1)) t P = lostN (l.take i) t P + (if (x.mask.testBit t && P x) = true then 1 else 0) := by
  unfold lostN
  rw [List.take_add_one, h, Option.toList_some, List.countP_append, List.countP_singleton]
theorem lost_le (l : List Rt) (t i : Nat) (P : Rt → Bool) : lostN (l.take i) t P ≤ i := Nat.le_trans List.countP_le_length (List.length_take_le _ _)
theorem lost_no {x : Rt} {t : Nat} {P : Rt → Bool} (h : (x.mask.testBit t && P x) = false) : x.lost t P = x := if_neg (by rw [h]; decide)
theorem lost_yes {x : Rt} {t : Nat} {P : Rt → Bool} (h : (x.mask.testBit t && P x) = true) : x.lost t P = { x with mask := x.mask - 2 ^ t } := if_pos h
theorem set_same {l : List Rt} {i : Nat} {x : Rt} (h : l[i]? = some x) : l.set i x = l := by
  obtain ⟨hlt, hx⟩ := List.getElem?_eq_some_iff.1 h
  rw [← hx]
  exact List.set_getElem_self hlt
theorem bit_le {m t : Nat} (h : m.testBit t = true) : 2 ^ t ≤ m := Nat.ge_two_pow_of_testBit h
/-- what holds while things are lost -/
structure LoSt (w : World) (b : Nat) (G : Nat → Prop) (S : St) (r : Sr) (l : List Rt) (W : World) : Prop where
  raw : StRaw W b G { S with ths := l } r
  size : w.heap.size ≤ W.heap.size
  blk : ∀ k, k < w.heap.size → r.vth.ownBlock ≠ some k → W.heap[k]? = w.heap[k]?
  os : W.os = w.os ∧ W.tape = w.tape ∧ W.output = w.output
theorem LoSt.below {w W W' : World} {b : Nat} {G : Nat → Prop} {S : St} {r : Sr} {l : List Rt} (h : LoSt w b G S r l W) (hb : Below W.heap.size W W') : LoSt w b G S r l W' :=
  ⟨h.raw.below hb, Nat.le_trans h.size hb.size, fun k hk hn => (hb.block k (Nat.lt_of_lt_of_le hk h.size)).trans (h.blk k hk hn), ⟨hb.os.trans h.os.1, hb.tape.trans h.os.2.1, hb.output.trans h.os.2.2⟩⟩
theorem LoSt.set {w W : World} {b g c i : Nat} {G : Nat → Prop} {S : St} {r : Sr} {l : List Rt} {x : Rt} (h : LoSt w b G S r l W) (hv : r.vth = .slice (some ⟨g, 0, none⟩) l.length c) (hi : l[i]? = some x) (m : Nat) :
    LoSt w b G S r (l.set i { x with mask := m }) (W.setCell ⟨g, i * 9 + 8, none⟩ (.int .u64 m)) :=
  ⟨h.raw.setMask hv hi m, by rw [size_set]; exact h.size, fun k hk hn => (heap_set (k := k) (g := g) fun e => hn (by rw [hv, e]; rfl)).trans (h.blk k hk hn), h.os⟩
/-- the store behind it -/
def St.lose (S : St) (t : Nat) (P : Rt → Bool) : St := { S with ths := loseL S.ths t P, since := upd S.since t [] }
theorem sub_wrap (m t : Nat) (ht : t < 64) (hm : m < 18446744073709551616) (h : 2 ^ t ≤ m) : IntKind.u64.wrap ((m : Int) - IntKind.u64.wrap ((2 : Int) ^ t)) = ((m - 2 ^ t : Nat) : Int) := by
  rw [wrap_bit t ht]
  unfold bitN
  rw [IntKind.wrap_u64, ← Int.ofNat_sub h]
  have h2 : m - 2 ^ t ≤ m := Nat.sub_le _ _
  generalize m - 2 ^ t = z at *
  clear h
  omega
end Go.Proofs.Ytfogedmghhacdaa.A

namespace Go.Proofs.Ytfogedmghhacdaa.A
open Go.RowKit

set_option maxRecDepth 20000 in
set_option maxHeartbeats 4000000 in
theorem loseU_any (b t cb : Nat) (P : Rt → Bool) (G : Nat → Prop) (S : St) (r : Sr) (w : World) (h : StRaw w b G S r) (hT : Tame S) (ht : t < 64)
    (hP : ∀ (W : World) (x : Rt), x ∈ S.ths → w.heap.size ≤ W.heap.size → (∀ k, k < w.heap.size → r.vth.ownBlock ≠ some k → W.heap[k]? = w.heap[k]?) → Calls Try.prog 55 #[x.val, .pointer (some ⟨cb, 0, none⟩)] W fun e w' => e = .returned (.bool (P x)) ∧ Below W.heap.size W w') :
    Calls Try.prog 54 #[.pointer (some ⟨b, 0, none⟩), .int .i64 t, .func (.func 55) #[] #[.pointer (some ⟨cb, 0, none⟩)]] w fun e w' => e = .returned (.int .i64 (lostN S.ths t P)) ∧ LedS w b G (S.lose t P) w' := by
  have c1 := h.raw.at 1 (by omega)
  rw [Sr.c1] at c1
  obtain ⟨a, c, hv⟩ := h.ths.shape
  rw [hv] at c1
  have HV : Hid (r.vth = .slice a S.ths.length c) := hv
  have HT : Hid (Tame S) := hT
  have HP : Hid (∀ (W : World) (x : Rt), x ∈ S.ths → w.heap.size ≤ W.heap.size → (∀ k, k < w.heap.size → r.vth.ownBlock ≠ some k → W.heap[k]? = w.heap[k]?) → Calls Try.prog 55 #[x.val, .pointer (some ⟨cb, 0, none⟩)] W fun e w' => e = .returned (.bool (P x)) ∧ Below W.heap.size W w') := hP
  obtain ⟨n, hn⟩ : ∃ n, n = S.ths.length := ⟨_, rfl⟩
  rw [← hn] at c1
  have HN : Hid (n = S.ths.length) := hn
  have hnb : n < 900000 := by rw [hn]; exact hT.len
  have HS0 : Hid (LoSt w b G S r S.ths w) := ⟨h, Nat.le_refl _, fun _ _ _ => rfl, rfl, rfl, rfl⟩
  have HB : Hid (G b ∧ b < w.heap.size ∧ r.vth.ownBlock ≠ some b ∧ (∀ k, r.vth.ownBlock = some k → G k)) := ⟨h.fb, h.raw.lt, h.vb, h.fv⟩
  clear hn h hv hT hP
  go_enter Try.func54, Try.ntmps54
  go_wp2_with fail
  go_loopg [14, 7] n (fun gh s14 s7 wr => ∃ i : Nat, i + gh = n ∧ s14 = .int .i64 i ∧ s7 = .int .i64 (lostN (S.ths.take i) t P : Nat) ∧ LoSt w b G S r (midL S.ths t P i) wr)
  case atStart => exact ⟨0, by omega, rfl, rfl, by rw [mid_zero]; exact HS0.out⟩
  case round =>
    obtain ⟨i, hig, rfl, rfl, hst⟩ := hrel
    have HIG : Hid (i + gk = n) := hig
    have HST : Hid (LoSt w b G S r (midL S.ths t P i) wr) := hst
    clear hig
    by_cases hlt : i < n
    · obtain ⟨x, hx⟩ : ∃ x, S.ths[i]? = some x := ⟨_, List.getElem?_eq_getElem (by rw [← HN.out]; exact hlt)⟩
      have hx2 := mid_at (t := t) (P := P) hx
      obtain ⟨g, c', hg, hgl, hcs⟩ := hst.raw.elem hx2
      have hgv := HV.out
      rw [hg] at hgv
      simp only [Value.slice.injEq] at hgv
      obtain ⟨rfl, _, hcc⟩ := hgv
      obtain ⟨d0, d1, d2, d3, d4, d5, d6, d7, d8⟩ := hcs
      have cw := hst.raw.raw.at 1 (by omega)
      rw [Sr.c1, HV.out, ← HN.out] at cw
      have HG : Hid (r.vth = .slice (some ⟨g, 0, none⟩) (midL S.ths t P i).length c') := hg
      have hfz : wr.frozen? ⟨g, i * 9 + 8, none⟩ = false := by
        have h2 := hst.raw.ths
        rw [hg] at h2
        exact h2.frozenAt (i * 9 + 8)
      have hPx := HP.out wr x (List.mem_of_getElem? hx) hst.size hst.blk
      have hbo := bit_one x.mask t
      have hle := lost_le S.ths t i P
      have HSC : Hid (lostN (S.ths.take (i + 1)) t P = lostN (S.ths.take i) t P + (if (x.mask.testBit t && P x) = true then 1 else 0)) := lost_succ hx
      have HMS : Hid (midL S.ths t P (i + 1) = (midL S.ths t P i).set i (x.lost t P)) := mid_succ hx
      have HX2 : Hid ((midL S.ths t P i)[i]? = some x) := hx2
      have hmx : x.mask < 18446744073709551616 := HT.out.mask x (List.mem_of_getElem? hx)
      obtain ⟨m, hm⟩ : ∃ m, m = lostN (S.ths.take i) t P := ⟨_, rfl⟩
      rw [← hm] at hle HSC
      rw [← hm]
      have k0 : (0 : Int) ≤ (i : Int) := by omega
      have k1 : (i : Int) < (n : Int) := by omega
      clear hx hg hst hm hx2 hcc
      cases hb : x.mask.testBit t with
      | false =>
        rw [hb] at hbo HSC
        have HNO : Hid (x.lost t P = x) := lost_no (by rw [hb]; rfl)
        clear hb hPx
        go_wp2_with fail
        go_roundg (gk - 1)
        case measure => have := HIG.out; omega
        case rel => exact ⟨i + 1, by have := HIG.out; omega, by go_num, by rw [HSC.out, Bool.false_and, if_neg (by decide)]; rfl, by rw [HMS.out, HNO.out, set_same HX2.out]; exact HST.out⟩
      | true =>
        rw [hb] at hbo HSC
        have hbl := bit_le hb
        have HBT : Hid (x.mask.testBit t = true) := hb
        have hcl : wr.cell? ⟨g, i * 9 + 8, none⟩ = some (.int .u64 x.mask) := d8
        have HSB : Hid (∀ W', Below wr.heap.size wr W' → W'.cell? ⟨b, 1, none⟩ = some (.slice (some ⟨g, 0, none⟩) n c) ∧ W'.cell? ⟨g, i * 9 + 8, none⟩ = some (.int .u64 x.mask) ∧ W'.frozen? ⟨g, i * 9 + 8, none⟩ = false) := fun W' hb' => ⟨(hb'.cell (p := ⟨b, 1, none⟩) (Nat.lt_of_lt_of_le HB.out.2.1 HST.out.size)).trans cw, (hb'.cell (p := ⟨g, i * 9 + 8, none⟩) hgl).trans d8, (World.frozen?_of_block (w := wr) (a := ⟨g, i * 9 + 8, none⟩) (hb'.block g hgl)).trans hfz⟩
        clear hb
        cases hp : P x with
        | true =>
          have HYE : Hid (x.lost t P = { x with mask := x.mask - 2 ^ t }) := lost_yes (by rw [HBT.out, hp]; rfl)
          rw [hp] at hPx HSC
          unfold Rt.val at hPx
          have hsw := sub_wrap x.mask t ht hmx hbl
          have hsl : (0 : Int) ≤ (2 : Int) ^ t := Int.le_of_lt (Int.pow_pos (by decide))
          go_wp2_with fail
          refine hPx.mono ?_
          rintro e w2 ⟨rfl, hb2⟩
          obtain ⟨q1, q2, q3⟩ := HSB.out w2 hb2
          have HS2 : Hid (LoSt w b G S r (midL S.ths t P i) w2) := HST.out.below hb2
          have HHH : Hid (LoSt w b G S r ((midL S.ths t P i).set i { x with mask := x.mask - 2 ^ t }) (w2.setCell ⟨g, i * 9 + 8, none⟩ (.int .u64 ((x.mask - 2 ^ t : Nat) : Int)))) := HS2.out.set HG.out HX2.out _
          have HWR : Hid (IntKind.u64.wrap ((x.mask : Int) - IntKind.u64.wrap ((2 : Int) ^ t)) = ((x.mask - 2 ^ t : Nat) : Int)) := hsw
          clear hb2 hPx d0 d1 d2 d3 d4 d5 d6 d7 d8 hcl cw hfz hsw hsl
          go_wp2_with fail
          go_roundg (gk - 1)
          case measure => have := HIG.out; omega
          case rel => exact ⟨i + 1, by have := HIG.out; omega, by go_num, by rw [HSC.out, if_pos (by decide)]; go_num, by rw [HMS.out, HYE.out, HWR.out]; exact HHH.out⟩
        | false =>
          have HNO : Hid (x.lost t P = x) := lost_no (by rw [HBT.out, hp]; rfl)
          rw [hp] at hPx HSC
          unfold Rt.val at hPx
          go_wp2_with fail
          refine hPx.mono ?_
          rintro e w2 ⟨rfl, hb2⟩
          have HS2 : Hid (LoSt w b G S r (midL S.ths t P i) w2) := HST.out.below hb2
          clear hb2 hPx d0 d1 d2 d3 d4 d5 d6 d7 d8 hcl cw hfz
          go_wp2_with fail
          go_roundg (gk - 1)
          case measure => have := HIG.out; omega
          case rel => exact ⟨i + 1, by have := HIG.out; omega, by go_num, by rw [HSC.out, if_neg (by decide)]; rfl, by rw [HMS.out, HNO.out, set_same HX2.out]; exact HS2.out⟩
    · have k1 : ¬ (i : Int) < (n : Int) := by omega
      have hmid := mid_all S.ths t P i (by rw [← HN.out]; omega)
      have hle := lost_le S.ths t i P
      rw [hmid] at hst
      have HLN : Hid (lostN (S.ths.take i) t P = lostN S.ths t P) := show _ = _ by rw [List.take_of_length_le (by rw [← HN.out]; omega)]
      have cs := hst.raw.raw.at (66 + t) (by omega)
      rw [Sr.cs] at cs
      have fz := hst.raw.raw.frozen (66 + t)
      have HEND : Hid (LedS w b G (S.lose t P) (wr.setCell ⟨b, 66 + t, none⟩ (.slice none 0 0))) :=
        ⟨G, fun _ h => .inl h, ⟨_, hst.raw.mark ht⟩, ⟨hst.os.1, hst.os.2.1, hst.os.2.2, by rw [size_set]; exact hst.size, fun k hk hn => (heap_set (k := k) (g := b) fun e => hn (e ▸ HB.out.1)).trans (hst.blk k hk fun e => hn (HB.out.2.2.2 k e))⟩⟩
      obtain ⟨m, hm⟩ : ∃ m, m = lostN (S.ths.take i) t P := ⟨_, rfl⟩
      rw [← hm] at HLN hle
      rw [← hm]
      have t0 : (0 : Int) ≤ (t : Int) := by omega
      have t1 : (t : Int) < 64 := by omega
      clear hm hst hmid
      go_wp2_with fail
      go_ret
      rw [← HLN.out]
      exact ⟨rfl, HEND.out⟩
end Go.Proofs.Ytfogedmghhacdaa.A

namespace Go.Proofs.Ytfogedmghhacdaa.A
open Go.RowKit

set_option maxRecDepth 20000 in
set_option maxHeartbeats 4000000 in
theorem loseC_any (b t cb : Nat) (P : Rt → Bool) (G : Nat → Prop) (S : St) (r : Sr) (w : World) (h : StRaw w b G S r) (hT : Tame S) (ht : t < 64)
    (hP : ∀ (W : World) (x : Rt), x ∈ S.ths → w.heap.size ≤ W.heap.size → (∀ k, k < w.heap.size → r.vth.ownBlock ≠ some k → W.heap[k]? = w.heap[k]?) → Calls Try.prog 56 #[x.val, .pointer (some ⟨cb, 0, none⟩)] W fun e w' => e = .returned (.bool (P x)) ∧ Below W.heap.size W w') :
    Calls Try.prog 54 #[.pointer (some ⟨b, 0, none⟩), .int .i64 t, .func (.func 56) #[] #[.pointer (some ⟨cb, 0, none⟩)]] w fun e w' => e = .returned (.int .i64 (lostN S.ths t P)) ∧ LedS w b G (S.lose t P) w' := by
  have c1 := h.raw.at 1 (by omega)
  rw [Sr.c1] at c1
  obtain ⟨a, c, hv⟩ := h.ths.shape
  rw [hv] at c1
  have HV : Hid (r.vth = .slice a S.ths.length c) := hv
  have HT : Hid (Tame S) := hT
  have HP : Hid (∀ (W : World) (x : Rt), x ∈ S.ths → w.heap.size ≤ W.heap.size → (∀ k, k < w.heap.size → r.vth.ownBlock ≠ some k → W.heap[k]? = w.heap[k]?) → Calls Try.prog 56 #[x.val, .pointer (some ⟨cb, 0, none⟩)] W fun e w' => e = .returned (.bool (P x)) ∧ Below W.heap.size W w') := hP
  obtain ⟨n, hn⟩ : ∃ n, n = S.ths.length := ⟨_, rfl⟩
  rw [← hn] at c1
  have HN : Hid (n = S.ths.length) := hn
  have hnb : n < 900000 := by rw [hn]; exact hT.len
  have HS0 : Hid (LoSt w b G S r S.ths w) := ⟨h, Nat.le_refl _, fun _ _ _ => rfl, rfl, rfl, rfl⟩
  have HB : Hid (G b ∧ b < w.heap.size ∧ r.vth.ownBlock ≠ some b ∧ (∀ k, r.vth.ownBlock = some k → G k)) := ⟨h.fb, h.raw.lt, h.vb, h.fv⟩
  clear hn h hv hT hP
  go_enter Try.func54, Try.ntmps54
  go_wp2_with fail
  go_loopg [14, 7] n (fun gh s14 s7 wr => ∃ i : Nat, i + gh = n ∧ s14 = .int .i64 i ∧ s7 = .int .i64 (lostN (S.ths.take i) t P : Nat) ∧ LoSt w b G S r (midL S.ths t P i) wr)
  case atStart => exact ⟨0, by omega, rfl, rfl, by rw [mid_zero]; exact HS0.out⟩
  case round =>
    obtain ⟨i, hig, rfl, rfl, hst⟩ := hrel
    have HIG : Hid (i + gk = n) := hig
    have HST : Hid (LoSt w b G S r (midL S.ths t P i) wr) := hst
    clear hig
    by_cases hlt : i < n
    · obtain ⟨x, hx⟩ : ∃ x, S.ths[i]? = some x := ⟨_, List.getElem?_eq_getElem (by rw [← HN.out]; exact hlt)⟩
      have hx2 := mid_at (t := t) (P := P) hx
      obtain ⟨g, c', hg, hgl, hcs⟩ := hst.raw.elem hx2
      have hgv := HV.out
      rw [hg] at hgv
      simp only [Value.slice.injEq] at hgv
      obtain ⟨rfl, _, hcc⟩ := hgv
      obtain ⟨d0, d1, d2, d3, d4, d5, d6, d7, d8⟩ := hcs
      have cw := hst.raw.raw.at 1 (by omega)
      rw [Sr.c1, HV.out, ← HN.out] at cw
      have HG : Hid (r.vth = .slice (some ⟨g, 0, none⟩) (midL S.ths t P i).length c') := hg
      have hfz : wr.frozen? ⟨g, i * 9 + 8, none⟩ = false := by
        have h2 := hst.raw.ths
        rw [hg] at h2
        exact h2.frozenAt (i * 9 + 8)
      have hPx := HP.out wr x (List.mem_of_getElem? hx) hst.size hst.blk
      have hbo := bit_one x.mask t
      have hle := lost_le S.ths t i P
      have HSC : Hid (lostN (S.ths.take (i + 1)) t P = lostN (S.ths.take i) t P + (if (x.mask.testBit t && P x) = true then 1 else 0)) := lost_succ hx
      have HMS : Hid (midL S.ths t P (i + 1) = (midL S.ths t P i).set i (x.lost t P)) := mid_succ hx
      have HX2 : Hid ((midL S.ths t P i)[i]? = some x) := hx2
      have hmx : x.mask < 18446744073709551616 := HT.out.mask x (List.mem_of_getElem? hx)
      obtain ⟨m, hm⟩ : ∃ m, m = lostN (S.ths.take i) t P := ⟨_, rfl⟩
      rw [← hm] at hle HSC
      rw [← hm]
      have k0 : (0 : Int) ≤ (i : Int) := by omega
      have k1 : (i : Int) < (n : Int) := by omega
      clear hx hg hst hm hx2 hcc
      cases hb : x.mask.testBit t with
      | false =>
        rw [hb] at hbo HSC
        have HNO : Hid (x.lost t P = x) := lost_no (by rw [hb]; rfl)
        clear hb hPx
        go_wp2_with fail
        go_roundg (gk - 1)
        case measure => have := HIG.out; omega
        case rel => exact ⟨i + 1, by have := HIG.out; omega, by go_num, by rw [HSC.out, Bool.false_and, if_neg (by decide)]; rfl, by rw [HMS.out, HNO.out, set_same HX2.out]; exact HST.out⟩
      | true =>
        rw [hb] at hbo HSC
        have hbl := bit_le hb
        have HBT : Hid (x.mask.testBit t = true) := hb
        have hcl : wr.cell? ⟨g, i * 9 + 8, none⟩ = some (.int .u64 x.mask) := d8
        have HSB : Hid (∀ W', Below wr.heap.size wr W' → W'.cell? ⟨b, 1, none⟩ = some (.slice (some ⟨g, 0, none⟩) n c) ∧ W'.cell? ⟨g, i * 9 + 8, none⟩ = some (.int .u64 x.mask) ∧ W'.frozen? ⟨g, i * 9 + 8, none⟩ = false) := fun W' hb' => ⟨(hb'.cell (p := ⟨b, 1, none⟩) (Nat.lt_of_lt_of_le HB.out.2.1 HST.out.size)).trans cw, (hb'.cell (p := ⟨g, i * 9 + 8, none⟩) hgl).trans d8, (World.frozen?_of_block (w := wr) (a := ⟨g, i * 9 + 8, none⟩) (hb'.block g hgl)).trans hfz⟩
        clear hb
        cases hp : P x with
        | true =>
          have HYE : Hid (x.lost t P = { x with mask := x.mask - 2 ^ t }) := lost_yes (by rw [HBT.out, hp]; rfl)
          rw [hp] at hPx HSC
          unfold Rt.val at hPx
          have hsw := sub_wrap x.mask t ht hmx hbl
          have hsl : (0 : Int) ≤ (2 : Int) ^ t := Int.le_of_lt (Int.pow_pos (by decide))
          go_wp2_with fail
          refine hPx.mono ?_
          rintro e w2 ⟨rfl, hb2⟩
          obtain ⟨q1, q2, q3⟩ := HSB.out w2 hb2
          have HS2 : Hid (LoSt w b G S r (midL S.ths t P i) w2) := HST.out.below hb2
          have HHH : Hid (LoSt w b G S r ((midL S.ths t P i).set i { x with mask := x.mask - 2 ^ t }) (w2.setCell ⟨g, i * 9 + 8, none⟩ (.int .u64 ((x.mask - 2 ^ t : Nat) : Int)))) := HS2.out.set HG.out HX2.out _
          have HWR : Hid (IntKind.u64.wrap ((x.mask : Int) - IntKind.u64.wrap ((2 : Int) ^ t)) = ((x.mask - 2 ^ t : Nat) : Int)) := hsw
          clear hb2 hPx d0 d1 d2 d3 d4 d5 d6 d7 d8 hcl cw hfz hsw hsl
          go_wp2_with fail
          go_roundg (gk - 1)
          case measure => have := HIG.out; omega
          case rel => exact ⟨i + 1, by have := HIG.out; omega, by go_num, by rw [HSC.out, if_pos (by decide)]; go_num, by rw [HMS.out, HYE.out, HWR.out]; exact HHH.out⟩
        | false =>
          have HNO : Hid (x.lost t P = x) := lost_no (by rw [HBT.out, hp]; rfl)
          rw [hp] at hPx HSC
          unfold Rt.val at hPx
          go_wp2_with fail
          refine hPx.mono ?_
          rintro e w2 ⟨rfl, hb2⟩
          have HS2 : Hid (LoSt w b G S r (midL S.ths t P i) w2) := HST.out.below hb2
          clear hb2 hPx d0 d1 d2 d3 d4 d5 d6 d7 d8 hcl cw hfz
          go_wp2_with fail
          go_roundg (gk - 1)
          case measure => have := HIG.out; omega
          case rel => exact ⟨i + 1, by have := HIG.out; omega, by go_num, by rw [HSC.out, if_neg (by decide)]; rfl, by rw [HMS.out, HNO.out, set_same HX2.out]; exact HS2.out⟩
    · have k1 : ¬ (i : Int) < (n : Int) := by omega
      have hmid := mid_all S.ths t P i (by rw [← HN.out]; omega)
      have hle := lost_le S.ths t i P
      rw [hmid] at hst
      have HLN : Hid (lostN (S.ths.take i) t P = lostN S.ths t P) := show _ = _ by rw [List.take_of_length_le (by rw [← HN.out]; omega)]
      have cs := hst.raw.raw.at (66 + t) (by omega)
      rw [Sr.cs] at cs
      have fz := hst.raw.raw.frozen (66 + t)
      have HEND : Hid (LedS w b G (S.lose t P) (wr.setCell ⟨b, 66 + t, none⟩ (.slice none 0 0))) :=
        ⟨G, fun _ h => .inl h, ⟨_, hst.raw.mark ht⟩, ⟨hst.os.1, hst.os.2.1, hst.os.2.2, by rw [size_set]; exact hst.size, fun k hk hn => (heap_set (k := k) (g := b) fun e => hn (e ▸ HB.out.1)).trans (hst.blk k hk fun e => hn (HB.out.2.2.2 k e))⟩⟩
      obtain ⟨m, hm⟩ : ∃ m, m = lostN (S.ths.take i) t P := ⟨_, rfl⟩
      rw [← hm] at HLN hle
      rw [← hm]
      have t0 : (0 : Int) ≤ (t : Int) := by omega
      have t1 : (t : Int) < 64 := by omega
      clear hm hst hmid
      go_wp2_with fail
      go_ret
      rw [← HLN.out]
      exact ⟨rfl, HEND.out⟩
end Go.Proofs.Ytfogedmghhacdaa.A
