/- keys.Mint. -/
import Derived.Test.YtekjcmejnhhpaaaDoorKyText
import Derived.Test.YtekjcmejnhhpaaaDoorKyCopies
import Derived.Test.YtekjcmejnhhpaaaDoorKyTable
namespace Go.Proofs.YtekjcmejnhhpaaaDoor
open Go.RowKit

theorem step_append_own {P : Program} (w : World) {ops : Array Oper} {o : Oper} {a : Act} {K : Act → World → Prop} {Q : Exit → Act → World → Prop} {E : Prop} (hgd : o.guard = none) (s x : Operand) (t : TypeId)
    (ho : o.op = .call { callee := .builtin .append, args := #[s, x], argTypes := #[t, t] })
    (base : Nat) (e : TypeId) (i : TypeInfo) (z : Value) (size bytes : Nat) (ht : P.underlying t = some (.slice e)) (hi : P.info? e = some i) (hz : i.zero = some z)
    (hsize : i.size = size) (hby : i.bytes = bytes) (hzs : z.cells.size = size) (hsz : 0 < size)
    (v : Value) (n : Nat) (xs : List Value) (hs : a.eval s = v) (hown : w.ownsRow base e size v n xs)
    (ad : Addr) (m c : Nat) (news : List Value) (hx : a.eval x = .slice (some ad) m c) (hl : news.length = m * size) (hnews : ∀ j u, news[j]? = some u → w.cell? (ad.add j) = some u) (h1 : ∀ u, u ∈ news → u.oneCell' = true)
    (h63 : n + m ≤ maxLen) (hbytes : (n + m) * bytes ≤ 140737488355328) (hbase : base ≤ w.heap.size)
    (h : ∀ v' w', w'.ownsRow base e size v' (n + m) (xs ++ news) → w.grownBy w' v.ownBlock → (v' = .slice none 0 0 ↔ v = .slice none 0 0 ∧ m = 0) → K (a.put o.dst v') w') :
    if Region.wanted o (yielded ops a.tmps) = true then Oper.wp P o a w K Q else E := by
  have hw : Region.wanted o (yielded ops a.tmps) = true := by simp [Region.wanted, hgd]
  rw [if_pos hw]
  exact wp_append_own w s x t ho base e i z size bytes ht hi hz hsize hby hzs hsz v n xs hs hown ad m c news hx hl hnews h1 h63 hbytes hbase h

theorem owns_form {w : World} {B : Nat} {t : TypeId} {k n : Nat} {v : Value} {xs : List Value} (h : w.ownsRow B t k v n xs) : ∃ p m c, v = .slice p m c := by
  rcases h.2 with ⟨h, _⟩ | ⟨g, cap, cur, h, _⟩
  · exact ⟨_, _, _, h⟩
  · exact ⟨_, _, _, h⟩

set_option maxRecDepth 20000 in
set_option maxHeartbeats 2000000 in
theorem mint_any (serial : Int) (v : Value) (ks : List Ky) (name : ByteArray) (rights draw : Int) (w : World) (hv : Vars w) (h : HK w v ks) (hok : ∀ k ∈ ks, k.ok) (hn : name.size ≤ 140737488355328) (h0 : 0 ≤ serial) (h1 : serial ≤ 2147483647) (hr0 : 1 ≤ rights) (hr1 : rights ≤ 3) (hl : ks.length < 32) :
    Calls Tryd.prog 4 #[.agg #[.int .i64 serial, v], .string name, .int .i64 rights, .int .i64 draw] w fun e w' => ∃ u, e = .returned (.tuple #[.agg #[.int .i64 (serial + 1), u], .string ⟨(keyT serial draw).toArray⟩, .int .i64 0]) ∧ KRow w' w.heap.size u (ks ++ [⟨⟨(keyT serial draw).toArray⟩, name, rights⟩]) ∧ Below w.heap.size w w' := by
  obtain ⟨i0, hi, hz0, hz1, hz2⟩ := info_parts Tryd.infoKey
  have t0 := T2.born w serial v 24
  have hb0 : Below w.heap.size w (w.alloc (.cells #[.int .i64 serial, v] 24)) := (Below.refl _ _).alloc (Nat.le_refl _) _
  generalize hwA : w.alloc (.cells #[.int .i64 serial, v] 24) = wA at *
  have hsA : wA.heap.size = w.heap.size + 1 := by rw [← hwA]; simp
  have hb1 : Below wA.heap.size wA (wA.alloc (.cells #[.int .i64 0, .slice none 0 0] 24)) := (Below.refl _ _).alloc (Nat.le_refl _) _
  have r0 := T2.born wA 0 (.slice none 0 0) 24
  have hsB : (wA.alloc (.cells #[.int .i64 0, .slice none 0 0] 24)).heap.size = w.heap.size + 2 := by simp; omega
  have t1 := t0.below hb1
  have hb := hb0.trans (hb1.mono hb0.size)
  rw [hsA] at r0
  generalize hwB : wA.alloc (.cells #[.int .i64 0, .slice none 0 0] 24) = w0 at *
  have ct := textOf_any serial draw w0 (hv.below hb) h0 h1
  obtain ⟨TX, hTX⟩ : ∃ TX, TX = (⟨(keyT serial draw).toArray⟩ : ByteArray) := ⟨_, rfl⟩
  have htx : TX.size ≤ 140737488355328 := by
    rw [hTX]
    exact keyT_size serial draw h0 h1
  rw [← hTX] at ct ⊢
  have cd := fun W => copied_any ⟨TX, name, rights⟩ W ⟨htx, hn⟩
  have cc := fun W hW => copies_any v ks W hW hok (by omega)
  have HT : Hid (T2 w.heap.size serial v w0 ∧ T2 (w.heap.size + 1) 0 (.slice none 0 0) w0 ∧ w0.heap.size = w.heap.size + 2 ∧ Below w.heap.size w w0 ∧ HK w0 v ks) := ⟨t1, r0, hsB, hb, h.below hb⟩
  have HKW := h
  obtain ⟨p, cap, hv0, hcap, hcm, -, -⟩ := h
  obtain ⟨n, hn0⟩ : ∃ n, n = ks.length := ⟨_, rfl⟩
  have HN : Hid (n = ks.length) := hn0
  rw [← hn0] at hv0 hl hcap
  obtain ⟨a1, a2, -, -, -⟩ := t1
  have q1 : ¬ rights < 1 := by omega
  have q2 : ¬ 3 < rights := by omega
  have q3 : ¬ serial < 0 := by omega
  have q4 : ¬ 2147483647 < serial := by omega
  have q5 : ¬ (32 : Int) ≤ (n : Int) := by omega
  have hws : IntKind.i64.wrap (serial + 1) = serial + 1 := by rw [IntKind.wrap_i64]; omega
  clear hb0 hb1 t0 r0 hb hTX htx hn hn0 hok hv
  subst hv0
  go_enter Tryd.func4, Tryd.ntmps4
  go_wp2_with fail
  refine ct.mono ?_
  rintro e w1 ⟨rfl, hb1⟩
  clear hwA hwB a1 a2 ct hsA hsB
  go_wp2_with fail
  refine (cd _).mono ?_
  rintro e w2 ⟨rfl, hb2⟩
  have h02 := hb1.trans (hb2.mono hb1.size)
  have k3 := K3.born w2 ⟨TX, name, rights⟩ 33
  have hb3 : Below w2.heap.size w2 (w2.alloc (.cells #[.string TX, .string name, .int .i64 rights] 33)) := (Below.refl _ _).alloc (Nat.le_refl _) _
  have h03 := h02.trans (hb3.mono h02.size)
  simp only [Ky.val]
  clear cd hb1 hb2 hb3
  generalize hwM : w2.alloc (.cells #[.string TX, .string name, .int .i64 rights] 33) = wM at *
  have hT := HT.out
  have t2 := hT.1.below h03
  have r2 := hT.2.1.below h03
  have hK2 := hT.2.2.2.2.below h03
  have HM : Hid (T2 (w.heap.size + 1) 0 (.slice none 0 0) wM ∧ Below w.heap.size w wM ∧ w.heap.size + 2 ≤ w2.heap.size ∧ w2.heap.size < wM.heap.size) := ⟨r2, hT.2.2.2.1.trans (h03.mono hT.2.2.2.1.size), by have := h02.size; omega, k3.2.2.2.2.2.2⟩
  have HW : Hid (HK w (.slice p n cap) ks) := HKW
  clear HKW
  have S0 : (wM.drew.cell? ⟨w.heap.size, 0, none⟩ = some (.int .i64 serial) ∧ wM.drew.cell? ⟨w.heap.size, 1, none⟩ = some (.slice p n cap)) ∧ (wM.drew.cell? ⟨w2.heap.size, 0, none⟩ = some (.string TX) ∧ wM.drew.cell? ⟨w2.heap.size, 1, none⟩ = some (.string name) ∧ wM.drew.cell? ⟨w2.heap.size, 2, none⟩ = some (.int .i64 rights)) ∧ Below w.heap.size w wM.drew ∧ wM.heap.size ≤ wM.drew.heap.size := ⟨⟨t2.1, t2.2.1⟩, ⟨k3.1, k3.2.1, k3.2.2.1⟩, HM.out.2.1.drew, Nat.le_refl _⟩
  obtain ⟨S, hS⟩ : ∃ S : World → Prop, S = fun W => (W.cell? ⟨w.heap.size, 0, none⟩ = some (.int .i64 serial) ∧ W.cell? ⟨w.heap.size, 1, none⟩ = some (.slice p n cap)) ∧ (W.cell? ⟨w2.heap.size, 0, none⟩ = some (.string TX) ∧ W.cell? ⟨w2.heap.size, 1, none⟩ = some (.string name) ∧ W.cell? ⟨w2.heap.size, 2, none⟩ = some (.int .i64 rights)) ∧ Below w.heap.size w W ∧ wM.heap.size ≤ W.heap.size := ⟨_, rfl⟩
  have kb : ∀ W W', S W → W.heap.size ≤ W'.heap.size → Below w.heap.size w W' → W'.heap[w.heap.size]? = W.heap[w.heap.size]? → W'.heap[w2.heap.size]? = W.heap[w2.heap.size]? → S W' := fun W W' hW hs hb e1 e2 => by
    rw [hS] at hW ⊢
    exact ⟨⟨(cell_heap (a := ⟨w.heap.size, 0, none⟩) e1).trans hW.1.1, (cell_heap (a := ⟨w.heap.size, 1, none⟩) e1).trans hW.1.2⟩, ⟨(cell_heap (a := ⟨w2.heap.size, 0, none⟩) e2).trans hW.2.1.1, (cell_heap (a := ⟨w2.heap.size, 1, none⟩) e2).trans hW.2.1.2.1, (cell_heap (a := ⟨w2.heap.size, 2, none⟩) e2).trans hW.2.1.2.2⟩, hb, Nat.le_trans hW.2.2.2 hs⟩
  have kz : ∀ W, S W → w.heap.size < W.heap.size ∧ w2.heap.size < W.heap.size ∧ Below w.heap.size w W ∧ wM.heap.size ≤ W.heap.size := fun W hW => by
    rw [hS] at hW
    have := HM.out
    exact ⟨by omega, by omega, hW.2.2.1, hW.2.2.2⟩
  have kp : ∀ W W', S W → Below W.heap.size W W' → S W' := fun W W' hW hb => by
    obtain ⟨z1, z2, z3, z4⟩ := kz W hW
    exact kb W W' hW hb.size (z3.trans (hb.mono z3.size)) (hb.block _ z1) (hb.block _ z2)
  have kst : ∀ W a b, S W → S ((W.setCell ⟨w.heap.size + 1, 0, none⟩ a).setCell ⟨w.heap.size + 1, 1, none⟩ b) := fun W a b hW => by
    obtain ⟨z1, z2, z3, z4⟩ := kz W hW
    have hm := HM.out
    refine kb W _ hW (by simp [World.setCell]) ((z3.setCell (p := ⟨w.heap.size + 1, 0, none⟩) (by show w.heap.size ≤ w.heap.size + 1; omega) _).setCell (p := ⟨w.heap.size + 1, 1, none⟩) (by show w.heap.size ≤ w.heap.size + 1; omega) _) ?_ ?_
    · rw [Below.heap_setCell _ _ _ _ (by show w.heap.size ≠ w.heap.size + 1; omega), Below.heap_setCell _ _ _ _ (by show w.heap.size ≠ w.heap.size + 1; omega)]
    · rw [Below.heap_setCell _ _ _ _ (by show w2.heap.size ≠ w.heap.size + 1; omega), Below.heap_setCell _ _ _ _ (by show w2.heap.size ≠ w.heap.size + 1; omega)]
  have ck : ∀ W, S W → Calls Tryd.prog 10 #[.slice p n cap] W fun e w' => ∃ u, e = .returned u ∧ w'.ownsRow wM.heap.size 33 3 u n (keysL ks) ∧ Below W.heap.size W w' ∧ (∀ q, u.ownBlock = some q → wM.heap.size ≤ q) := fun W hW => (cc W (HW.out.below (kz W hW).2.2.1)).mono fun e w' ⟨u, he, hk, hb, _⟩ => ⟨u, he, by have h1 := hk.mono (kz W hW).2.2.2; unfold KRow at h1; rw [← HN.out] at h1; exact h1, hb, fun q hq => by have := (hk.lt q hq).1; have := (kz W hW).2.2.2; omega⟩
  have kg : ∀ W W' (u : Value), S W → W.grownBy W' u.ownBlock → (∀ q, u.ownBlock = some q → wM.heap.size ≤ q) → S W' := fun W W' u hW hg hq => by
    obtain ⟨z1, z2, z3, z4⟩ := kz W hW
    have hm := HM.out
    refine kb W W' hW hg.size (z3.trans ⟨hg.os, hg.tape, hg.output, hg.size, fun k hk => hg.block k (by omega) (fun e => by have := hq k e.symm; omega)⟩) (hg.block _ z1 (fun e => by have := hq _ e.symm; omega)) (hg.block _ z2 (fun e => by have := hq _ e.symm; omega))
  subst hS
  have HR1 : Hid (∀ W, Below wM.heap.size wM W → T2 (w.heap.size + 1) 0 (.slice none 0 0) W) := fun W hW => HM.out.1.below hW
  have HCH : Hid (∀ W3 W5 (u : Value) o, Below wM.drew.heap.size wM.drew W3 → (W3.alloc o).grownBy W5 u.ownBlock → (∀ q, u.ownBlock = some q → wM.heap.size ≤ q) → Below wM.heap.size wM W5) := fun W3 W5 u o hb hg hq => by
    have h1 : Below wM.heap.size wM W3 := ((Below.refl _ wM).drew).trans hb
    exact (h1.alloc h1.size o).trans ⟨hg.os, hg.tape, hg.output, hg.size, fun k hk => hg.block k (by have := h1.size; simp; omega) (fun e => by have := hq k e.symm; omega)⟩
  have HC2 : Hid (∀ W3 W5 (u : Value) o, Below wM.drew.heap.size wM.drew W3 → (W3.alloc o).grownBy W5 u.ownBlock → (∀ q, u.ownBlock = some q → wM.heap.size ≤ q) → W5.cell? ⟨w.heap.size + 1, 0, none⟩ = some (.int .i64 0) ∧ W5.cell? ⟨w.heap.size + 1, 1, none⟩ = some (.slice none 0 0) ∧ W5.frozen? ⟨w.heap.size + 1, 0, none⟩ = false ∧ W5.frozen? ⟨w.heap.size + 1, 1, none⟩ = false ∧ Hid (Below wM.heap.size wM W5)) := fun W3 W5 u o hb hg hq => by
    have h1 := HCH.out W3 W5 u o hb hg hq
    have h2 := HR1.out W5 h1
    exact ⟨h2.1, h2.2.1, h2.2.2.1, h2.2.2.2.1, h1⟩
  obtain ⟨wK, hwK⟩ : ∃ wK, wK = (wM.alloc (.cells #[.string TX, .string name, .int .i64 rights] 33)).drew := ⟨_, rfl⟩
  have hkB := K3.born wM ⟨TX, name, rights⟩ 33
  have hsK : wK.heap.size = wM.heap.size + 1 := by rw [hwK]; exact Array.size_push _
  have hbK : Below wM.heap.size wM wK := by rw [hwK]; exact ((Below.refl _ _).alloc (Nat.le_refl _) _).drew
  have HKB : Hid (∀ W, Below (wM.alloc (.cells #[.string TX, .string name, .int .i64 rights] 33)).drew.heap.size (wM.alloc (.cells #[.string TX, .string name, .int .i64 rights] 33)).drew W → ∀ (j : Nat) u, [Value.string TX, .string name, .int .i64 rights][j]? = some u → W.cell? ((⟨wM.heap.size, 0, none⟩ : Addr).add j) = some u) := fun W hW j u hu => by
    rw [← hwK] at hW
    have h0 : K3 wM.heap.size ⟨TX, name, rights⟩ wK := by rw [hwK]; exact hkB
    have h1 := h0.below hW
    match j, hu with
    | 0, hu => simp at hu; subst hu; exact h1.1
    | 1, hu => simp at hu; subst hu; exact h1.2.1
    | 2, hu => simp at hu; subst hu; exact h1.2.2.1
  have HC3 : Hid (∀ W3 W5 (u : Value), Below (wM.alloc (.cells #[.string TX, .string name, .int .i64 rights] 33)).drew.heap.size (wM.alloc (.cells #[.string TX, .string name, .int .i64 rights] 33)).drew W3 → W3.grownBy W5 u.ownBlock → (∀ q, u.ownBlock = some q → wM.heap.size ≤ q) → W5.cell? ⟨w.heap.size + 1, 0, none⟩ = some (.int .i64 0) ∧ W5.cell? ⟨w.heap.size + 1, 1, none⟩ = some (.slice none 0 0) ∧ W5.frozen? ⟨w.heap.size + 1, 0, none⟩ = false ∧ W5.frozen? ⟨w.heap.size + 1, 1, none⟩ = false ∧ Hid (Below wM.heap.size wM W5)) := fun W3 W5 u hb hg hq => by
    rw [← hwK] at hb
    have h1 : Below wM.heap.size wM W3 := hbK.trans (hb.mono hbK.size)
    have h3 : Below wM.heap.size wM W5 := h1.trans ⟨hg.os, hg.tape, hg.output, hg.size, fun k hk => hg.block k (by have := h1.size; omega) (fun e => by have := hq k e.symm; omega)⟩
    have h2 := HR1.out W5 h3
    exact ⟨h2.1, h2.2.1, h2.2.2.1, h2.2.2.2.1, h3⟩
  have HFIN : Hid (∀ W5 (q : Value), W5.ownsRow wM.heap.size 33 3 q (n + 1) (keysL ks ++ [.string TX, .string name, .int .i64 rights]) → Below wM.heap.size wM W5 → KRow ((W5.setCell ⟨w.heap.size + 1, 0, none⟩ (.int .i64 (serial + 1))).setCell ⟨w.heap.size + 1, 1, none⟩ q) w.heap.size q (ks ++ [⟨TX, name, rights⟩]) ∧ Below w.heap.size w ((W5.setCell ⟨w.heap.size + 1, 0, none⟩ (.int .i64 (serial + 1))).setCell ⟨w.heap.size + 1, 1, none⟩ q) ∧ T2 (w.heap.size + 1) (serial + 1) q ((W5.setCell ⟨w.heap.size + 1, 0, none⟩ (.int .i64 (serial + 1))).setCell ⟨w.heap.size + 1, 1, none⟩ q)) := fun W5 q ho hb => by
    have hm := HM.out
    have hk : KRow W5 wM.heap.size q (ks ++ [⟨TX, name, rights⟩]) := by
      unfold KRow
      rw [List.length_append, keysL_append, ← HN.out]
      exact ho
    have h1 := hm.2.1.trans (hb.mono hm.2.1.size)
    exact ⟨((hk.set (R := w.heap.size + 1) (by omega) 0 (.int .i64 (serial + 1))).set (R := w.heap.size + 1) (by omega) 1 q).mono (by omega), (h1.setCell (p := ⟨w.heap.size + 1, 0, none⟩) (by show w.heap.size ≤ w.heap.size + 1; omega) _).setCell (p := ⟨w.heap.size + 1, 1, none⟩) (by show w.heap.size ≤ w.heap.size + 1; omega) _, (HR1.out W5 hb).both⟩
  clear hT t2 r2 hK2 k3 h03 h02 cc kb HCH hwK hkB hsK hbK wK
  go_wp2_with fail
  go_region_held3 (fun W => (W.cell? ⟨w.heap.size, 0, none⟩ = some (.int .i64 serial) ∧ W.cell? ⟨w.heap.size, 1, none⟩ = some (.slice p n cap)) ∧ (W.cell? ⟨w2.heap.size, 0, none⟩ = some (.string TX) ∧ W.cell? ⟨w2.heap.size, 1, none⟩ = some (.string name) ∧ W.cell? ⟨w2.heap.size, 2, none⟩ = some (.int .i64 rights)) ∧ Below w.heap.size w W ∧ wM.heap.size ≤ W.heap.size) (first | exact S0 | exact kp _ _ (by assumption) hb3 | exact kp _ _ (by assumption) ((Below.refl _ _).alloc (Nat.le_refl _) _) | exact kg _ _ _ (by assumption) hgrow5 hq3 | exact kst _ _ _ (by assumption))
    (first | (go_at_call 10; refine (ck _ (by first | assumption | exact S0 | exact kp _ _ S0 ((Below.refl _ _).alloc (Nat.le_refl _) _))).mono ?_; rintro e w3 ⟨u3, rfl, hk3, hb3, hq3⟩) | (refine step_append_own _ (by rfl) _ _ 22 (by rfl) wM.heap.size 33 i0 _ 3 40 Tryd.underlying22 hi hz0 hz1 hz2 rfl (by decide) u3 n (keysL ks) (by rfl) (World.ownsRow.alloc hk3 _) ⟨w3.heap.size, 0, none⟩ 1 1 [.string TX, .string name, .int .i64 rights] (by rfl) rfl (by exact key_second w3 TX name rights _) (by intro u hu; simp at hu; rcases hu with rfl | rfl | rfl <;> rfl) (by unfold maxLen; omega) (by omega) (by have := hb3.size; simp at this ⊢; omega) ?_; intro v5 w5 hown5 hgrow5 hnil5; obtain ⟨pv, nv, cv, rfl⟩ := owns_form hown5; obtain ⟨d1, d2, d3, d4, hq5⟩ := HC2.out w3 w5 u3 _ hb3 hgrow5 hq3) | (refine step_append_own _ (by rfl) _ _ 22 (by rfl) wM.heap.size 33 i0 _ 3 40 Tryd.underlying22 hi hz0 hz1 hz2 rfl (by decide) u3 n (keysL ks) (by rfl) hk3 ⟨wM.heap.size, 0, none⟩ 1 1 [.string TX, .string name, .int .i64 rights] (by rfl) rfl (by exact HKB.out w3 hb3) (by intro u hu; simp at hu; rcases hu with rfl | rfl | rfl <;> rfl) (by unfold maxLen; omega) (by omega) (by have := hb3.size; simp at this ⊢; omega) ?_; intro v5 w5 hown5 hgrow5 hnil5; obtain ⟨pv, nv, cv, rfl⟩ := owns_form hown5; obtain ⟨d1, d2, d3, d4, hq5⟩ := HC3.out w3 w5 u3 hb3 hgrow5 hq3))
  all_goals
    go_wp2_with fail
    obtain ⟨f1, f2, f3⟩ := HFIN.out w5 _ hown5 hq5.out
    refine bodyPost_ret (v := .tuple #[.agg #[.int .i64 (serial + 1), .slice pv nv cv], .string TX, .int .i64 0]) (by simp [results, Tryd.results4, go_sem, f3.1, f3.2.1]) rfl ⟨_, rfl, f1, f2⟩
end Go.Proofs.YtekjcmejnhhpaaaDoor
