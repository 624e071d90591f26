/- The document's Revoke. -/
import Derived.Test.YtpeffpgpiookpaaKyRevoke
namespace Go.Proofs.Ytpeffpgpiookpaa
open Go.RowKit

theorem owns_form {w : World} {B : Nat} {t : TypeId} {k n : Nat} {v : Value} {xs : List Value} (h : w.ownsRow B t k v n xs) : ∃ p m c, v = .slice p m c := by
  rcases h.2 with ⟨h, _⟩ | ⟨g, cap, cur, h, _⟩
  · exact ⟨_, _, _, h⟩
  · exact ⟨_, _, _, h⟩

set_option maxRecDepth 20000 in
set_option maxHeartbeats 2000000 in
theorem refRevoke_any (serial : Int) (v : Value) (ks : List Ky) (name : ByteArray) (w : World) (h : HK w v ks) (hlen : ks.length * 40 ≤ 140737488355328) :
    Calls Try.prog 9 #[.agg #[.int .i64 serial, v], .string name] w fun e w' => ∃ u, e = .returned (.tuple #[.agg #[.int .i64 serial, u], .int .i64 ((ks.length : Int) - (stay ks name).length)]) ∧ KRow w' w.heap.size u (stay ks name) ∧ Below w.heap.size w w' := by
  obtain ⟨i0, hi, hz0, hz1, hz2⟩ := info_parts Try.infoKey
  have t0 := T2.born w serial v 24
  have hb0 : Below w.heap.size w (w.alloc (.cells #[.int .i64 serial, v] 24)) := (Below.refl _ _).alloc (Nat.le_refl _) _
  generalize hwA : w.alloc (.cells #[.int .i64 serial, v] 24) = wA at *
  have hsA : wA.heap.size = w.heap.size + 1 := by rw [← hwA]; simp
  have hb1 : Below wA.heap.size wA (wA.alloc (.cells #[.int .i64 0, .slice none 0 0] 24)) := (Below.refl _ _).alloc (Nat.le_refl _) _
  have r0 := T2.born wA 0 (.slice none 0 0) 24
  have hsB : (wA.alloc (.cells #[.int .i64 0, .slice none 0 0] 24)).heap.size = w.heap.size + 2 := by simp; omega
  have t1 := t0.below hb1
  have hb01 := hb0.trans (hb1.mono hb0.size)
  rw [hsA] at r0
  generalize hwB : wA.alloc (.cells #[.int .i64 0, .slice none 0 0] 24) = wB at *
  have hb2 : Below wB.heap.size wB (wB.alloc (.cells #[.int .i64 serial, .slice none 0 0] 24)) := (Below.refl _ _).alloc (Nat.le_refl _) _
  have o0 := T2.born wB serial (.slice none 0 0) 24
  rw [hsB] at o0
  have hsC : (wB.alloc (.cells #[.int .i64 serial, .slice none 0 0] 24)).heap.size = w.heap.size + 3 := by simp; omega
  have t2 := t1.below hb2
  have r1 := r0.below hb2
  have hb := hb01.trans (hb2.mono hb01.size)
  obtain ⟨w0, hwC⟩ : ∃ w0, w0 = wB.alloc (.cells #[.int .i64 serial, .slice none 0 0] 24) := ⟨_, rfl⟩
  rw [← hwC] at o0 hsC t2 r1 hb
  have HTB : Hid (T2 w.heap.size serial v wB) := t1
  obtain ⟨e1, e2, -, -, -⟩ := t1
  obtain ⟨a1, a2, -, -, -⟩ := t2
  rw [hwC] at a1 a2
  obtain ⟨p, cap, rfl, hcap, hcm, -, hrow⟩ := h
  obtain ⟨n, hn⟩ : ∃ n, n = ks.length := ⟨_, rfl⟩
  have HN : Hid (n = ks.length) := hn
  have HB : Hid (Below w.heap.size w w0) := hb
  have HR1 : Hid (T2 (w.heap.size + 1) 0 (.slice none 0 0) w0 ∧ T2 (w.heap.size + 2) serial (.slice none 0 0) w0 ∧ w0.heap.size = w.heap.size + 3) := ⟨r1, o0, hsC⟩
  have HROW : Hid (ks.length = 0 ∨ ∃ b off, p = some ⟨b, off, none⟩ ∧ b < w.heap.size ∧ ∀ k x, ks[k]? = some x → KAt w b (off + k * 3) x) := hrow
  rw [← hn] at e2 a2 hwA hlen hcap ⊢
  clear hb hrow t0 hb0 hb1 hb01 hb2 r0 r1 o0 hn HTB
  go_enter Try.func9, Try.ntmps9
  go_wp2_with fail
  rw [← hwC]
  clear hwA hwB hwC a1 a2 e1 e2
  have HSTAY : Hid (∀ (j : Nat) x, ks[j]? = some x → stay (ks.take (j + 1)) name = stay (ks.take j) name ++ (if decide (x.name = name) = true then [] else [x])) := fun j x hx => leftOf_step hx
  go_loopg [7, 9, 16] n (fun gk s7 _ s16 wr => ∃ (j : Nat) (u : Value), j + gk = n ∧ s16 = .int .i64 j ∧ s7 = .int .i64 ((j : Int) - (stay (ks.take j) name).length) ∧ KRow wr (w.heap.size + 3) u (stay (ks.take j) name) ∧ T2 (w.heap.size + 2) serial u wr ∧ T2 (w.heap.size + 1) 0 (.slice none 0 0) wr ∧ Below w.heap.size w wr ∧ w.heap.size + 3 ≤ wr.heap.size)
  case atStart =>
    have h1 := HR1.out
    exact ⟨0, .slice none 0 0, by omega, rfl, rfl, World.ownsRow_nil _ _ _ _, h1.2.1, h1.1, HB.out, by omega⟩
  case round =>
    obtain ⟨j, u, hj, rfl, rfl, hrow, ht, hr, hbr, hsz⟩ := hrel
    have HJ : Hid (j + gk = n) := hj
    have HR : Hid (KRow wr (w.heap.size + 3) u (stay (ks.take j) name)) := hrow
    have HT : Hid (T2 (w.heap.size + 2) serial u wr ∧ T2 (w.heap.size + 1) 0 (.slice none 0 0) wr ∧ Below w.heap.size w wr) := ⟨ht, hr, hbr⟩
    have hjn : j ≤ n := by omega
    have hsl : (stay (ks.take j) name).length ≤ j := by
      have := leftOf_le (fun k => decide (k.name = name)) (ks.take j)
      rw [List.length_take] at this
      unfold stay
      omega
    clear hj
    by_cases hlt : j < n
    · obtain ⟨b, off, rfl, hbl, hc⟩ : ∃ b off, p = some ⟨b, off, none⟩ ∧ b < w.heap.size ∧ ∀ k x, ks[k]? = some x → KAt w b (off + k * 3) x := by
        rcases HROW.out with h | h
        · have := HN.out; omega
        · exact h
      have hjk : j < ks.length := by have := HN.out; omega
      obtain ⟨x, hx⟩ : ∃ x, x = ks[j] := ⟨_, rfl⟩
      have hxg : ks[j]? = some x := by rw [hx]; exact List.getElem?_eq_getElem hjk
      obtain ⟨c0, c1, c2⟩ := (hc j x hxg).keep (hbr.block b hbl)
      have HX : Hid (stay (ks.take (j + 1)) name = stay (ks.take j) name ++ (if decide (x.name = name) = true then [] else [x])) := HSTAY.out j x hxg
      have hi1 : (0 : Int) ≤ (j : Int) := by omega
      have hi2 : (j : Int) < (n : Int) := by omega
      clear hc hx hxg hjk
      have k3 := K3.born wr x 33
      have hba : Below wr.heap.size wr (wr.alloc (.cells #[.string x.text, .string x.name, .int .i64 x.rights] 33)) := (Below.refl _ _).alloc (Nat.le_refl _) _
      obtain ⟨tx, nm, rt⟩ := x
      simp only at c0 c1 c2 HX k3 hba
      have hbq := beq_ba nm name
      by_cases hq : nm = name
      · rw [decide_eq_true hq] at hbq HX
        have HY : Hid (stay (ks.take (j + 1)) name = stay (ks.take j) name) := by
          have h1 := HX.out
          rwa [if_pos rfl, List.append_nil] at h1
        have HBA : Hid (Below wr.heap.size wr (wr.alloc (.cells #[.string tx, .string nm, .int .i64 rt] 33))) := hba
        have hw : IntKind.i64.wrap ((j : Int) - ((stay (ks.take j) name).length : Int) + 1) = (j : Int) - ((stay (ks.take j) name).length : Int) + 1 := by rw [IntKind.wrap_i64]; omega
        generalize hsll : (stay (ks.take j) name).length = sl at *
        have HSL : Hid ((stay (ks.take j) name).length = sl) := hsll
        clear hq HX hrow ht hr hbr k3 hba hsll
        go_wp2_with fail
        go_roundg (gk - 1)
        case measure => have := HJ.out; omega
        case rel =>
          have h1 := HJ.out
          have h2 := HBA.out
          have h3 := HT.out
          refine ⟨j + 1, u, by omega, by go_num, ?_, by rw [HY.out]; exact HR.out.below h2, h3.1.below h2, h3.2.1.below h2, h3.2.2.trans (h2.mono h3.2.2.size), by have := h2.size; omega⟩
          rw [HY.out, HSL.out]
          congr 1
          omega
      · rw [decide_eq_false hq] at hbq HX
        have HY : Hid (stay (ks.take (j + 1)) name = stay (ks.take j) name ++ [⟨tx, nm, rt⟩]) := by
          have h1 := HX.out
          rwa [if_neg (by simp)] at h1
        obtain ⟨pv, nv, cv, rfl⟩ := hrow.form
        have HBA : Hid (Below wr.heap.size wr (wr.alloc (.cells #[.string tx, .string nm, .int .i64 rt] 33))) := hba
        have hsA1 : (wr.alloc (.cells #[.string tx, .string nm, .int .i64 rt] 33)).heap.size = wr.heap.size + 1 := by simp
        obtain ⟨a1, a2, a3, a4, -⟩ := ht.below hba
        obtain ⟨k0, k1, k2, -, -, -, -⟩ := k3
        have HRA : Hid (KRow (wr.alloc (.cells #[.string tx, .string nm, .int .i64 rt] 33)) (w.heap.size + 3) (.slice pv nv cv) (stay (ks.take j) name)) := hrow.below hba
        generalize hwA : wr.alloc (.cells #[.string tx, .string nm, .int .i64 rt] 33) = wA at *
        simp only at k0 k1 k2
        have OWN : Hid (∀ o, (wA.alloc o).ownsRow (w.heap.size + 3) 33 3 (.slice pv nv cv) (stay (ks.take j) name).length (keysL (stay (ks.take j) name))) := fun o => World.ownsRow.alloc HRA.out o
        have hlow : Hid (∀ q, (Value.slice pv nv cv).ownBlock = some q → w.heap.size + 3 ≤ q) := fun q hq => (HRA.out.lt q hq).1
        have HAFT : Hid (∀ W, (wA.alloc (.cells #[.string tx, .string nm, .int .i64 rt] 33)).grownBy W (Value.slice pv nv cv).ownBlock → T2 (w.heap.size + 2) serial (.slice pv nv cv) W ∧ T2 (w.heap.size + 1) 0 (.slice none 0 0) W ∧ Below w.heap.size w W ∧ w.heap.size + 3 ≤ W.heap.size) := fun W hg => by
          have hbb : Below (w.heap.size + 3) wr W := ((HBA.out.mono hsz).alloc (by omega) _).trans ⟨hg.os, hg.tape, hg.output, hg.size, fun q hq => hg.block q (by simp; omega) (fun e => by have := hlow.out q e.symm; omega)⟩
          have h3 := HT.out
          exact ⟨h3.1.under hbb (by omega), h3.2.1.under hbb (by omega), h3.2.2.trans (hbb.mono (by omega)), Nat.le_trans hsz hbb.size⟩
        obtain ⟨sl, hsll⟩ : ∃ sl, sl = (stay (ks.take j) name).length := ⟨_, rfl⟩
        have HSL : Hid (sl = (stay (ks.take j) name).length) := hsll
        rw [← hsll] at OWN hsl ⊢
        clear hq HX hrow ht hr hbr hba hsll HRA hsA1
        have HFIN : Hid (∀ W v', W.ownsRow (w.heap.size + 3) 33 3 v' (sl + 1) (keysL (stay (ks.take j) name) ++ [.string tx, .string nm, .int .i64 rt]) → T2 (w.heap.size + 2) serial (.slice pv nv cv) W → T2 (w.heap.size + 1) 0 (.slice none 0 0) W → Below w.heap.size w W → w.heap.size + 3 ≤ W.heap.size → KRow (W.setCell ⟨w.heap.size + 2, 1, none⟩ v') (w.heap.size + 3) v' (stay (ks.take (j + 1)) name) ∧ T2 (w.heap.size + 2) serial v' (W.setCell ⟨w.heap.size + 2, 1, none⟩ v') ∧ T2 (w.heap.size + 1) 0 (.slice none 0 0) (W.setCell ⟨w.heap.size + 2, 1, none⟩ v') ∧ Below w.heap.size w (W.setCell ⟨w.heap.size + 2, 1, none⟩ v') ∧ w.heap.size + 3 ≤ (W.setCell ⟨w.heap.size + 2, 1, none⟩ v').heap.size) := fun W v' h1 h2 h3 h4 h5 => by
          have hk : KRow W (w.heap.size + 3) v' (stay (ks.take (j + 1)) name) := by
            rw [HY.out]
            unfold KRow
            rw [List.length_append, keysL_append, ← HSL.out]
            exact h1
          exact ⟨hk.set (by omega) 1 v', h2.put v', h3.keep (Below.heap_setCell _ _ _ _ (by show w.heap.size + 1 ≠ w.heap.size + 2; omega)) (by simp [World.setCell]), h4.setCell (p := ⟨w.heap.size + 2, 1, none⟩) (by show w.heap.size ≤ w.heap.size + 2; omega) _, by simp [World.setCell]; exact h5⟩
        go_wp2_with (at_builtin; refine wpList_append_own _ rfl _ _ 22 rfl (w.heap.size + 3) 33 i0 _ 3 40 Try.underlying22 hi hz0 hz1 hz2 rfl (by decide) (.slice pv nv cv) sl (keysL (stay (ks.take j) name)) rfl (by exact OWN.out _) ⟨wA.heap.size, 0, none⟩ 1 1 [.string tx, .string nm, .int .i64 rt] rfl rfl (by exact key_second wA tx nm rt _) (by intro u hu; simp at hu; rcases hu with rfl | rfl | rfl <;> rfl) (by unfold maxLen; omega) (by omega) (by have := HBA.out.size; simp; omega) ?_; intro v' w3 hown3 hgrow hnil3; have haft := HAFT.out w3 hgrow; have HALL : Hid (w3.ownsRow (w.heap.size + 3) 33 3 v' (sl + 1) (keysL (stay (ks.take j) name) ++ [.string tx, .string nm, .int .i64 rt]) ∧ T2 (w.heap.size + 2) serial (.slice pv nv cv) w3 ∧ T2 (w.heap.size + 1) 0 (.slice none 0 0) w3 ∧ Below w.heap.size w w3 ∧ w.heap.size + 3 ≤ w3.heap.size) := ⟨hown3, haft⟩; obtain ⟨d1, d2, d3, d4, -⟩ := haft.1; clear hgrow haft hnil3; obtain ⟨pv', nv', cv', rfl⟩ := owns_form hown3; clear hown3)
        go_roundg (gk - 1)
        case measure => have := HJ.out; omega
        case rel =>
          have h1 := HJ.out
          obtain ⟨g1, g2, g3, g4, g5⟩ := HALL.out
          obtain ⟨f1, f2, f3, f4, f5⟩ := HFIN.out _ _ g1 g2 g3 g4 g5
          refine ⟨j + 1, _, by omega, by go_num, ?_, f1, f2, f3, f4, f5⟩
          rw [HY.out, List.length_append, ← HSL.out]
          congr 1
          simp
          omega
    · have hq : ¬ (j : Int) < (n : Int) := by omega
      have HE : Hid (j = n) := by show j = n; omega
      have hjst : stay (ks.take j) name = stay ks name := by rw [HE.out, HN.out, List.take_length]
      rw [hjst] at HR hsl ⊢
      obtain ⟨pv, nv, cv, rfl⟩ := hrow.form
      obtain ⟨a1, a2, a3, a4, -⟩ := ht
      obtain ⟨b1, b2, b3, b4, -⟩ := hr
      have HFIN : Hid (KRow ((wr.setCell ⟨w.heap.size + 1, 0, none⟩ (.int .i64 serial)).setCell ⟨w.heap.size + 1, 1, none⟩ (.slice pv nv cv)) w.heap.size (.slice pv nv cv) (stay ks name) ∧ Below w.heap.size w ((wr.setCell ⟨w.heap.size + 1, 0, none⟩ (.int .i64 serial)).setCell ⟨w.heap.size + 1, 1, none⟩ (.slice pv nv cv)) ∧ T2 (w.heap.size + 1) serial (.slice pv nv cv) ((wr.setCell ⟨w.heap.size + 1, 0, none⟩ (.int .i64 serial)).setCell ⟨w.heap.size + 1, 1, none⟩ (.slice pv nv cv))) :=
        ⟨((HR.out.set (R := w.heap.size + 1) (by omega) 0 (.int .i64 serial)).set (R := w.heap.size + 1) (by omega) 1 (.slice pv nv cv)).mono (by omega), (HT.out.2.2.setCell (p := ⟨w.heap.size + 1, 0, none⟩) (by show w.heap.size ≤ w.heap.size + 1; omega) _).setCell (p := ⟨w.heap.size + 1, 1, none⟩) (by show w.heap.size ≤ w.heap.size + 1; omega) _, HT.out.2.1.both⟩
      clear hrow hbr hjst
      go_wp2_with fail
      obtain ⟨f1, f2, f3⟩ := HFIN.out
      refine bodyPost_ret (v := .tuple #[.agg #[.int .i64 serial, .slice pv nv cv], .int .i64 ((j : Int) - ((stay ks name).length : Int))]) (by simp [results, Try.results9, go_sem, f3.1, f3.2.1]) rfl ⟨.slice pv nv cv, by rw [HE.out], f1, f2⟩
end Go.Proofs.Ytpeffpgpiookpaa
