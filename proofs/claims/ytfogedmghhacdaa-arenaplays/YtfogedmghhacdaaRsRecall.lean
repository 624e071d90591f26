/- The plain store: Recall. -/
import Derived.Test.YtfogedmghhacdaaRsSmall
import Derived.ChangeKeysEq
namespace Go.Proofs.Ytfogedmghhacdaa.A
open Go.RowKit

/-- how many things of a store are a tenant's -/
def ownS (l : List Rt) (t : Nat) : Nat := l.countP fun x => x.mask.testBit t
theorem ownS_succ {l : List Rt} {t i : Nat} {x : Rt} (h : l[i]? = some x) : ownS (l.take (i + 1)) t = ownS (l.take i) t + (if x.mask.testBit t = true then 1 else 0) := by
  unfold ownS
  rw [List.take_add_one, h, Option.toList_some, List.countP_append, List.countP_singleton]
theorem ownS_le (l : List Rt) (t i : Nat) : ownS (l.take i) t ≤ i := Nat.le_trans List.countP_le_length (List.length_take_le _ _)

/-- an element of the things' row, wherever memory has only grown -/
theorem StRaw.elem {w : World} {b : Nat} {G : Nat → Prop} {S : St} {r : Sr} (h : StRaw w b G S r) {i : Nat} {x : Rt} (hx : S.ths[i]? = some x) : ∃ g c, r.vth = .slice (some ⟨g, 0, none⟩) S.ths.length c ∧ g < w.heap.size ∧
    (w.cell? ⟨g, i * 9, none⟩ = some (.int .i64 x.id) ∧ w.cell? ⟨g, i * 9 + 1, none⟩ = some (.int .i64 x.k) ∧ w.cell? ⟨g, i * 9 + 2, none⟩ = some (.int .i64 x.lv) ∧ w.cell? ⟨g, i * 9 + 3, none⟩ = some (.int .i64 x.va) ∧ w.cell? ⟨g, i * 9 + 4, none⟩ = some (.int .i64 x.p0) ∧ w.cell? ⟨g, i * 9 + 5, none⟩ = some (.int .i64 x.p1) ∧ w.cell? ⟨g, i * 9 + 6, none⟩ = some (.int .i64 x.p2) ∧ w.cell? ⟨g, i * 9 + 7, none⟩ = some (.int .i64 x.p3) ∧ w.cell? ⟨g, i * 9 + 8, none⟩ = some (.int .u64 x.mask)) := by
  have hlt := (List.getElem?_eq_some_iff.1 hx).1
  obtain ⟨g, c, hv⟩ := h.ths.shape' (by omega)
  have h2 := h.ths
  rw [hv] at h2
  exact ⟨g, c, hv, (h2.lt g rfl).2, h2.cells hx⟩

set_option maxHeartbeats 2000000 in
theorem countS_any (b t : Nat) (G : Nat → Prop) (S : St) (w : World) (h : StAt w b G S) (hT : Tame S) (ht : t < 64) :
    Calls Try.prog 38 #[.pointer (some ⟨b, 0, none⟩), .int .i64 t] w fun e w' => e = .returned (.int .i64 (ownS S.ths t)) ∧ Below w.heap.size w w' := by
  obtain ⟨r, h⟩ := h
  have hi := fun W => person_yes t ht W
  have c1 := h.raw.at 1 (by omega)
  rw [Sr.c1] at c1
  obtain ⟨a, c, hv⟩ := h.ths.shape
  rw [hv] at c1
  have HH : Hid (StRaw w b G S r) := h
  have HV : Hid (r.vth = .slice a S.ths.length c) := hv
  have HT : Hid (Tame S) := hT
  obtain ⟨n, hn⟩ : ∃ n, n = S.ths.length := ⟨_, rfl⟩
  rw [← hn] at c1
  have HN : Hid (n = S.ths.length) := hn
  have hnb : n < 900000 := by rw [hn]; exact hT.len
  clear hn h hv hT
  go_enter Try.func38, Try.ntmps38
  go_wp2_with fail
  go_loopg [13, 5] n (fun gh s13 s5 wr => ∃ i : Nat, i + gh = n ∧ s13 = .int .i64 i ∧ s5 = .int .i64 (ownS (S.ths.take i) t : Nat) ∧ Below w.heap.size w wr)
  case atStart => exact ⟨0, by omega, rfl, rfl, Below.refl _ _⟩
  case round =>
    obtain ⟨i, hig, rfl, rfl, hbr⟩ := hrel
    have HIG : Hid (i + gk = n) := hig
    have HBR : Hid (Below w.heap.size w wr) := hbr
    clear hig
    by_cases hlt : i < n
    · obtain ⟨x, hx⟩ : ∃ x, S.ths[i]? = some x := ⟨_, List.getElem?_eq_getElem (by rw [← HN.out]; exact hlt)⟩
      obtain ⟨g, c', hg, hgl, hcs⟩ := HH.out.elem hx
      have hgv := HV.out
      rw [hg] at hgv
      simp only [Value.slice.injEq] at hgv
      obtain ⟨rfl, _, _⟩ := hgv
      obtain ⟨d0, d1, d2, d3, d4, d5, d6, d7, d8⟩ := hcs
      have kc := fun j => hbr.cell (p := ⟨g, j, none⟩) hgl
      have d0 := (kc _).trans d0
      have d1 := (kc _).trans d1
      have d2 := (kc _).trans d2
      have d3 := (kc _).trans d3
      have d4 := (kc _).trans d4
      have d5 := (kc _).trans d5
      have d6 := (kc _).trans d6
      have d7 := (kc _).trans d7
      have d8 := (kc _).trans d8
      have hbo := bit_one x.mask t
      have hle := ownS_le S.ths t i
      have HS : Hid (ownS (S.ths.take (i + 1)) t = ownS (S.ths.take i) t + (if x.mask.testBit t = true then 1 else 0)) := ownS_succ hx
      have hmx : x.mask < 18446744073709551616 := HT.out.mask x (List.mem_of_getElem? hx)
      obtain ⟨m, hm⟩ : ∃ m, m = ownS (S.ths.take i) t := ⟨_, rfl⟩
      rw [← hm] at hle HS
      rw [← hm]
      have k0 : (0 : Int) ≤ (i : Int) := by omega
      have k1 : (i : Int) < (n : Int) := by omega
      clear kc hx hg hbr hm
      cases hb : x.mask.testBit t with
      | true =>
        rw [hb] at hbo HS
        clear hb
        go_wp2_with fail
        refine (hi _).mono ?_
        rintro e w1 ⟨rfl, rfl⟩
        go_wp2_with fail
        go_roundg (gk - 1)
        case measure => have := HIG.out; omega
        case rel => exact ⟨i + 1, by have := HIG.out; omega, by go_num, by rw [HS.out, if_pos (by trivial)]; go_num, HBR.out.alloc HBR.out.size _⟩
      | false =>
        rw [hb] at hbo HS
        clear hb
        go_wp2_with fail
        refine (hi _).mono ?_
        rintro e w1 ⟨rfl, rfl⟩
        go_wp2_with fail
        go_roundg (gk - 1)
        case measure => have := HIG.out; omega
        case rel => exact ⟨i + 1, by have := HIG.out; omega, by go_num, by rw [HS.out, if_neg (by decide)]; rfl, HBR.out.alloc HBR.out.size _⟩
    · have k1 : ¬ (i : Int) < (n : Int) := by omega
      go_wp2_with fail
      go_ret
      refine ⟨?_, HBR.out⟩
      rw [List.take_of_length_le (by have := HN.out; omega)]
      rfl
end Go.Proofs.Ytfogedmghhacdaa.A

namespace Go.Proofs.Ytfogedmghhacdaa.A
open Go.RowKit

theorem four_eqIn (d : Nat) (a0 a1 a2 a3 b0 b1 b2 b3 : Int) (w : World) : (Op.equalIn (d + 2) 35 (.agg #[.int .i64 a0, .int .i64 a1, .int .i64 a2, .int .i64 a3]) (.agg #[.int .i64 b0, .int .i64 b1, .int .i64 b2, .int .i64 b3])).run Try.prog w = .ok (decide (a0 = b0 ∧ a1 = b1 ∧ a2 = b2 ∧ a3 = b3)) w := by
  have hU : Try.prog.underlying 35 = some (.array 4 3) := by kernel_rfl
  have hc : Try.prog.cellsOf 3 = 1 := by kernel_rfl
  obtain ⟨i0, hi, _⟩ := info_parts Try.info3
  rw [run_equalIn_array w (d + 1) _ _ hU hi, hc, show List.range 4 = [0, 1, 2, 3] from rfl]
  simp only [Op.eqItems]
  go_simp
  by_cases h0 : a0 = b0 <;> by_cases h1 : a1 = b1 <;> by_cases h2 : a2 = b2 <;> by_cases h3 : a3 = b3 <;> simp [h0, h1, h2, h3]
theorem four_eq (a0 a1 a2 a3 b0 b1 b2 b3 : Int) (w : World) : (binOp .eql 35 (.agg #[.int .i64 a0, .int .i64 a1, .int .i64 a2, .int .i64 a3]) (.agg #[.int .i64 b0, .int .i64 b1, .int .i64 b2, .int .i64 b3])).run Try.prog w = .ok (.bool (decide (a0 = b0 ∧ a1 = b1 ∧ a2 = b2 ∧ a3 = b3))) w := by
  rw [run_eql_struct, show (10000 : Nat) = 9998 + 2 from rfl, four_eqIn]
  rfl
end Go.Proofs.Ytfogedmghhacdaa.A

namespace Go.Proofs.Ytfogedmghhacdaa.A
open Go.RowKit

/-- a note is this one, and a tenant's -/
def Rt.isNote (x : Rt) (s r j : Int) : Prop := x.k = 1 ∧ x.p0 = s ∧ x.p1 = r ∧ x.p2 = j ∧ x.p3 = 0
instance (x : Rt) (s r j : Int) : Decidable (x.isNote s r j) := by unfold Rt.isNote; infer_instance
/-- what was noted, for a tenant -/
def recS (l : List Rt) (t : Nat) (s r j : Int) : Option Int := (l.find? fun x => decide (x.isNote s r j) && x.mask.testBit t).map Rt.va
theorem recS_some {l : List Rt} {t i : Nat} {s r j : Int} {x : Rt} (hx : l[i]? = some x) (he : x.isNote s r j) (hm : x.mask.testBit t = true) (hn : ∀ (k : Nat) y, k < i → l[k]? = some y → ¬ (y.isNote s r j ∧ y.mask.testBit t = true)) : recS l t s r j = some x.va := by
  unfold recS
  obtain ⟨hlt, hx'⟩ := List.getElem?_eq_some_iff.1 hx
  have : l.find? (fun x => decide (x.isNote s r j) && x.mask.testBit t) = some x := by
    rw [List.find?_eq_some_iff_getElem]
    refine ⟨by simp [he, hm], i, hlt, hx', fun k hk => ?_⟩
    have := hn k _ hk (List.getElem?_eq_getElem (by omega))
    simp only [Bool.not_eq_true', Bool.and_eq_false_imp, decide_eq_true_eq]
    intro e
    cases h2 : (l[k].mask.testBit t) with
    | false => rfl
    | true => exact absurd ⟨e, h2⟩ this
  rw [this]
  rfl
theorem recS_none {l : List Rt} {t : Nat} {s r j : Int} (hn : ∀ (k : Nat) y, l[k]? = some y → ¬ (y.isNote s r j ∧ y.mask.testBit t = true)) : recS l t s r j = none := by
  unfold recS
  have : l.find? (fun x => decide (x.isNote s r j) && x.mask.testBit t) = none := by
    rw [List.find?_eq_none]
    intro x hx e
    obtain ⟨k, hk⟩ := List.mem_iff_getElem?.1 hx
    simp only [Bool.and_eq_true, decide_eq_true_eq] at e
    exact hn k x hk e
  rw [this]
  rfl

set_option maxRecDepth 20000 in
set_option maxHeartbeats 2000000 in
theorem recallS_any (b t : Nat) (s rr j : Int) (G : Nat → Prop) (S : St) (w : World) (h : StAt w b G S) (hT : Tame S) (ht : t < 64) :
    Calls Try.prog 32 #[.pointer (some ⟨b, 0, none⟩), .int .i64 t, .int .i64 s, .int .i64 rr, .int .i64 j] w fun e w' => e = .returned (.tuple #[.int .i64 ((recS S.ths t s rr j).getD 0), .bool (recS S.ths t s rr j).isSome]) ∧ Below w.heap.size w w' := by
  obtain ⟨r, h⟩ := h
  have hi := fun W => person_yes t ht W
  have c1 := h.raw.at 1 (by omega)
  rw [Sr.c1] at c1
  obtain ⟨a, c, hv⟩ := h.ths.shape
  rw [hv] at c1
  have HH : Hid (StRaw w b G S r) := h
  have HV : Hid (r.vth = .slice a S.ths.length c) := hv
  have HT : Hid (Tame S) := hT
  obtain ⟨n, hn⟩ : ∃ n, n = S.ths.length := ⟨_, rfl⟩
  rw [← hn] at c1
  have HN : Hid (n = S.ths.length) := hn
  have hnb : n < 900000 := by rw [hn]; exact hT.len
  clear hn h hv hT
  go_enter Try.func32, Try.ntmps32
  go_wp2_with fail
  go_loopg [19] n (fun gh s19 wr => ∃ i : Nat, i + gh = n ∧ s19 = .int .i64 i ∧ (∀ (k : Nat) y, k < i → S.ths[k]? = some y → ¬ (y.isNote s rr j ∧ y.mask.testBit t = true)) ∧ Below w.heap.size w wr)
  case atStart => exact ⟨0, by omega, rfl, fun k y hk => by omega, Below.refl _ _⟩
  case round =>
    obtain ⟨i, hig, rfl, hno, hbr⟩ := hrel
    have HIG : Hid (i + gk = n) := hig
    have HBR : Hid (Below w.heap.size w wr) := hbr
    have HNO : Hid (∀ (k : Nat) y, k < i → S.ths[k]? = some y → ¬ (y.isNote s rr j ∧ y.mask.testBit t = true)) := hno
    clear hig hno
    by_cases hlt : i < n
    · obtain ⟨x, hx⟩ : ∃ x, S.ths[i]? = some x := ⟨_, List.getElem?_eq_getElem (by rw [← HN.out]; exact hlt)⟩
      obtain ⟨g, c', hg, hgl, hcs⟩ := HH.out.elem hx
      have hgv := HV.out
      rw [hg] at hgv
      simp only [Value.slice.injEq] at hgv
      obtain ⟨rfl, _, _⟩ := hgv
      obtain ⟨d0, d1, d2, d3, d4, d5, d6, d7, d8⟩ := hcs
      have kc := fun j => hbr.cell (p := ⟨g, j, none⟩) hgl
      have d0 := (kc _).trans d0
      have d1 := (kc _).trans d1
      have d2 := (kc _).trans d2
      have d3 := (kc _).trans d3
      have d4 := (kc _).trans d4
      have d5 := (kc _).trans d5
      have d6 := (kc _).trans d6
      have d7 := (kc _).trans d7
      have d8 := (kc _).trans d8
      have hbo := bit_one x.mask t
      have HX : Hid (S.ths[i]? = some x) := hx
      have hmx : x.mask < 18446744073709551616 := HT.out.mask x (List.mem_of_getElem? hx)
      have k0 : (0 : Int) ≤ (i : Int) := by omega
      have k1 : (i : Int) < (n : Int) := by omega
      have HNX : Hid (¬ (x.isNote s rr j ∧ x.mask.testBit t = true) → ∀ (k : Nat) y, k < i + 1 → S.ths[k]? = some y → ¬ (y.isNote s rr j ∧ y.mask.testBit t = true)) := fun hne k y hk hy => by
        by_cases e : k = i
        · subst e
          rw [HX.out] at hy
          cases hy
          exact hne
        · exact HNO.out k y (by omega) hy
      clear kc hx hg hbr
      by_cases hk : x.k = 1
      · have hk' : (x.k == 1) = true := by simpa using hk
        have hq := fun W => four_eq x.p0 x.p1 x.p2 x.p3 s rr j 0 W
        by_cases hp : x.p0 = s ∧ x.p1 = rr ∧ x.p2 = j ∧ x.p3 = 0
        · have HI : Hid (x.isNote s rr j) := ⟨hk, hp⟩
          rw [decide_eq_true hp] at hq
          clear hp hk
          cases hb : x.mask.testBit t with
          | true =>
            have HB : Hid (x.mask.testBit t = true) := hb
            rw [hb] at hbo
            clear hb
            go_wp2_with fail
            refine (hi _).mono ?_
            rintro e w1 ⟨rfl, rfl⟩
            go_wp2_with fail
            go_ret2
            refine ⟨?_, HBR.out.alloc HBR.out.size _⟩
            rw [recS_some HX.out HI.out HB.out HNO.out]
            rfl
          | false =>
            have HB : Hid (x.mask.testBit t = false) := hb
            rw [hb] at hbo
            clear hb
            go_wp2_with fail
            refine (hi _).mono ?_
            rintro e w1 ⟨rfl, rfl⟩
            go_wp2_with fail
            go_roundg (gk - 1)
            case measure => have := HIG.out; omega
            case rel => exact ⟨i + 1, by have := HIG.out; omega, by go_num, HNX.out fun e => by rw [HB.out] at e; exact absurd e.2 (by decide), HBR.out.alloc HBR.out.size _⟩
        · have HI : Hid (¬ x.isNote s rr j) := fun e => hp e.2
          rw [decide_eq_false hp] at hq
          clear hp hk
          go_wp2_with fail
          refine (hi _).mono ?_
          rintro e w1 ⟨rfl, rfl⟩
          go_wp2_with fail
          go_roundg (gk - 1)
          case measure => have := HIG.out; omega
          case rel => exact ⟨i + 1, by have := HIG.out; omega, by go_num, HNX.out fun e => HI.out e.1, HBR.out.alloc HBR.out.size _⟩
      · have hk' : (x.k == 1) = false := by simpa using hk
        have HK : Hid (¬ x.k = 1) := hk
        clear hk
        go_wp2_with fail
        refine (hi _).mono ?_
        rintro e w1 ⟨rfl, rfl⟩
        go_wp2_with fail
        go_roundg (gk - 1)
        case measure => have := HIG.out; omega
        case rel => exact ⟨i + 1, by have := HIG.out; omega, by go_num, HNX.out fun e => HK.out e.1.1, HBR.out.alloc HBR.out.size _⟩
    · have k1 : ¬ (i : Int) < (n : Int) := by omega
      go_wp2_with fail
      go_ret2
      refine ⟨?_, HBR.out⟩
      rw [recS_none fun k y hy => HNO.out k y (by have := (List.getElem?_eq_some_iff.1 hy).1; have := HN.out; omega) hy]
      rfl
end Go.Proofs.Ytfogedmghhacdaa.A
