/- The law's own copy of a table. -/
import Derived.Test.YtekjcmejnhhpaaaDoorKyFind
namespace Go.Proofs.YtekjcmejnhhpaaaDoor
open Go.RowKit

theorem HK.news {w : World} {b off : Nat} {ks : List Ky} (hc : ∀ k x, ks[k]? = some x → KAt w b (off + k * 3) x) : ∀ (j : Nat) u, (keysL ks)[j]? = some u → w.cell? ((⟨b, off, none⟩ : Addr).add j) = some u := by
  intro j u hu
  have hl := (List.getElem?_eq_some_iff.1 hu).1
  rw [keysL_len] at hl
  have hj : j / 3 < ks.length := by omega
  obtain ⟨a, b', c⟩ := keysL_at ks (j / 3) ks[j / 3] (List.getElem?_eq_getElem hj)
  obtain ⟨a', b'', c'⟩ := hc (j / 3) ks[j / 3] (List.getElem?_eq_getElem hj)
  have hadd : (⟨b, off, none⟩ : Addr).add j = ⟨b, off + j, none⟩ := by
    unfold Addr.add
    split
    · rename_i h; rw [h, Nat.add_zero]
    · rfl
  rw [hadd]
  rcases (by omega : j = j / 3 * 3 ∨ j = j / 3 * 3 + 1 ∨ j = j / 3 * 3 + 2) with h | h | h
  · rw [h] at hu ⊢; rw [a] at hu; rw [show off + j / 3 * 3 = off + j / 3 * 3 from rfl, a', hu]
  · rw [h] at hu ⊢; rw [b'] at hu; rw [← Nat.add_assoc, b'', hu]
  · rw [h] at hu ⊢; rw [c] at hu; rw [← Nat.add_assoc, c', hu]
theorem T2.put {R : Nat} {s : Int} {v : Value} {w : World} (h : T2 R s v w) (u : Value) : T2 R s u (w.setCell ⟨R, 1, none⟩ u) := by
  obtain ⟨h1, h2, h3, h4, h5⟩ := h
  refine ⟨?_, ?_, ?_, ?_, ?_⟩
  · simp [go_sem, h1]
  · simp [go_sem, h2]
  · simp [go_sem, h3]
  · simp [go_sem, h4]
  · simp [World.setCell]; exact h5
theorem T2.both {R : Nat} {s s' : Int} {v v' : Value} {w : World} (h : T2 R s v w) : T2 R s' v' ((w.setCell ⟨R, 0, none⟩ (.int .i64 s')).setCell ⟨R, 1, none⟩ v') := by
  obtain ⟨h1, h2, h3, h4, h5⟩ := h
  refine ⟨?_, ?_, ?_, ?_, ?_⟩
  · simp [go_sem, h1]
  · simp [go_sem, h2]
  · simp [go_sem, h3]
  · simp [go_sem, h4]
  · simp [World.setCell]; exact h5

theorem grown_set (w : World) (R i : Nat) (v : Value) : w.grownBy (w.setCell ⟨R, i, none⟩ v) (some R) :=
  ⟨rfl, rfl, rfl, by simp [World.setCell], fun k _ hne => Below.heap_setCell _ _ _ _ (fun e => hne (by rw [e]))⟩
theorem KRow.set {w : World} {B : Nat} {u : Value} {ks : List Ky} (h : KRow w B u ks) {R : Nat} (hR : R < B) (i : Nat) (v : Value) : KRow (w.setCell ⟨R, i, none⟩ v) B u ks :=
  World.ownsRow.kept h (grown_set w R i v) (Or.inr fun e => by have := (h.lt R e).1; omega)
theorem KRow.mono {w : World} {B B' : Nat} {u : Value} {ks : List Ky} (h : KRow w B u ks) (hB : B' ≤ B) : KRow w B' u ks := by
  refine ⟨h.1, ?_⟩
  rcases h.2 with h | ⟨g, cap, cur, hv, hb, rest⟩
  · exact .inl h
  · exact .inr ⟨g, cap, cur, hv, Nat.le_trans hB hb, rest⟩

theorem KRow.form {w : World} {B : Nat} {v : Value} {ks : List Ky} (h : KRow w B v ks) : ∃ p n c, v = .slice p n c := by
  rcases h.2 with ⟨h, _⟩ | ⟨g, cap, cur, h, _⟩
  · exact ⟨_, _, _, h⟩
  · exact ⟨_, _, _, h⟩

set_option maxRecDepth 20000 in
set_option maxHeartbeats 1000000 in
theorem table_any (serial : Int) (v : Value) (ks : List Ky) (w : World) (h : HK w v ks) (hlen : ks.length * 40 ≤ 140737488355328) :
    Calls Tryd.prog 5 #[.agg #[.int .i64 serial, v]] w fun e w' => ∃ u, e = .returned (.agg #[.int .i64 serial, u]) ∧ KRow w' w.heap.size u ks ∧ Below w.heap.size w w' := by
  obtain ⟨i0, hi, hz0, hz1, hz2⟩ := info_parts Tryd.infoKey
  obtain ⟨p, cap, rfl, hcap, hcm, hnil, hrow⟩ := h
  have t0 := T2.born w serial (.slice p ks.length cap) 24
  have hb0 : Below w.heap.size w (w.alloc (.cells #[.int .i64 serial, .slice p ks.length cap] 24)) := (Below.refl _ _).alloc (Nat.le_refl _) _
  generalize hwA : w.alloc (.cells #[.int .i64 serial, .slice p ks.length cap] 24) = wA at *
  have hsA : wA.heap.size = w.heap.size + 1 := by rw [← hwA]; simp
  have t1 := T2.born wA 0 (.slice none 0 0) 24
  have hb1 : Below wA.heap.size wA (wA.alloc (.cells #[.int .i64 0, .slice none 0 0] 24)) := (Below.refl _ _).alloc (Nat.le_refl _) _
  have t0' := t0.below hb1
  have hb := hb0.trans (hb1.mono hb0.size)
  rw [hsA] at t1
  have hs : (wA.alloc (.cells #[.int .i64 0, .slice none 0 0] 24)).heap.size = w.heap.size + 2 := by simp; omega
  generalize hw0 : wA.alloc (.cells #[.int .i64 0, .slice none 0 0] 24) = w0 at *
  clear t0 hb0 hb1
  have HT : Hid (T2 w.heap.size serial (.slice p ks.length cap) w0 ∧ T2 (w.heap.size + 1) 0 (.slice none 0 0) w0 ∧ Below w.heap.size w w0 ∧ w0.heap.size = w.heap.size + 2) := ⟨t0', t1, hb, hs⟩
  obtain ⟨a1, a2, a3, a4, -⟩ := t0'
  obtain ⟨b1, b2, b3, b4, -⟩ := t1
  have HFIN : Hid (∀ W u, T2 w.heap.size serial (.slice p ks.length cap) W → T2 (w.heap.size + 1) 0 (.slice none 0 0) W → Below w.heap.size w W → KRow W (w.heap.size + 2) u ks → KRow (((W.setCell ⟨w.heap.size, 1, none⟩ u).setCell ⟨w.heap.size + 1, 0, none⟩ (.int .i64 serial)).setCell ⟨w.heap.size + 1, 1, none⟩ u) w.heap.size u ks ∧ Below w.heap.size w (((W.setCell ⟨w.heap.size, 1, none⟩ u).setCell ⟨w.heap.size + 1, 0, none⟩ (.int .i64 serial)).setCell ⟨w.heap.size + 1, 1, none⟩ u) ∧ T2 (w.heap.size + 1) serial u (((W.setCell ⟨w.heap.size, 1, none⟩ u).setCell ⟨w.heap.size + 1, 0, none⟩ (.int .i64 serial)).setCell ⟨w.heap.size + 1, 1, none⟩ u)) := fun W u h1 h2 h3 h4 => by
    refine ⟨(((h4.set (by omega) 1 u).set (R := w.heap.size + 1) (by omega) 0 (.int .i64 serial)).set (R := w.heap.size + 1) (by omega) 1 u).mono (by omega), ((h3.setCell (p := ⟨w.heap.size, 1, none⟩) (Nat.le_refl _) u).setCell (p := ⟨w.heap.size + 1, 0, none⟩) (by show w.heap.size ≤ w.heap.size + 1; omega) _).setCell (p := ⟨w.heap.size + 1, 1, none⟩) (by show w.heap.size ≤ w.heap.size + 1; omega) _, ?_⟩
    refine T2.both (s := 0) (v := .slice none 0 0) (h2.keep (Below.heap_setCell _ _ _ _ (by show w.heap.size + 1 ≠ w.heap.size; omega)) (by simp [World.setCell]))
  clear hb hs hcap hcm
  have hne : w.heap.size ≠ w.heap.size + 1 := by omega
  rcases p with _ | ad
  · have hc0 := hnil rfl
    subst hc0
    have hks : ks = [] := by
      rcases hrow with h | ⟨b, off, e, _⟩
      · exact List.eq_nil_of_length_eq_zero h
      · cases e
    subst hks
    clear hrow hnil
    simp only [List.length_nil] at hwA a2
    go_enter Tryd.func5, Tryd.ntmps5
    go_wp2
    obtain ⟨f1, f2, f3⟩ := HFIN.out w0 (.slice none 0 0) HT.out.1 HT.out.2.1 HT.out.2.2.1 (World.ownsRow_nil _ _ _ _)
    refine bodyPost_ret (v := .agg #[.int .i64 serial, .slice none 0 0]) (by simp [results, Tryd.results5, go_sem, f3.1, f3.2.1]) rfl ⟨_, rfl, f1, f2⟩
  · have hnews : ∀ (j : Nat) u, (keysL ks)[j]? = some u → w0.cell? (ad.add j) = some u := by
      rcases hrow with h | ⟨b, off, e, hbl, hc⟩
      · have hks := List.eq_nil_of_length_eq_zero h
        subst hks
        intro j u hu
        simp [keysL] at hu
      · cases e
        exact HK.news fun k x hk => (hc k x hk).keep (HT.out.2.2.1.block b hbl)
    have HNEWS : Hid (∀ (j : Nat) u, (keysL ks)[j]? = some u → w0.cell? (ad.add j) = some u) := hnews
    have hsz : w0.heap.size = w.heap.size + 2 := HT.out.2.2.2
    have HGR : Hid (∀ W u, w0.grownBy W none → W.ownsRow (w.heap.size + 2) 33 3 u (0 + ks.length) ([] ++ keysL ks) → T2 w.heap.size serial (.slice (some ad) ks.length cap) W ∧ T2 (w.heap.size + 1) 0 (.slice none 0 0) W ∧ Below w.heap.size w W ∧ KRow W (w.heap.size + 2) u ks) := fun W u hg ho => by
      have hbw : Below w0.heap.size w0 W := ⟨hg.os, hg.tape, hg.output, hg.size, fun j hj => hg.block j hj (by simp)⟩
      refine ⟨HT.out.1.below hbw, HT.out.2.1.below hbw, HT.out.2.2.1.trans (hbw.mono HT.out.2.2.1.size), ?_⟩
      rw [Nat.zero_add, List.nil_append] at ho
      exact ho
    obtain ⟨n, hn⟩ : ∃ n, n = ks.length := ⟨_, rfl⟩
    have HN : Hid (n = ks.length) := hn
    have hkl : (keysL ks).length = n * 3 := by rw [keysL_len, hn]
    rw [← hn] at a2 hwA hlen ⊢
    clear hnews hrow hnil hn
    have HFIN2 : Hid (∀ W u, T2 w.heap.size serial (.slice (some ad) n cap) W → T2 (w.heap.size + 1) 0 (.slice none 0 0) W → Below w.heap.size w W → KRow W (w.heap.size + 2) u ks → KRow (((W.setCell ⟨w.heap.size, 1, none⟩ u).setCell ⟨w.heap.size + 1, 0, none⟩ (.int .i64 serial)).setCell ⟨w.heap.size + 1, 1, none⟩ u) w.heap.size u ks ∧ Below w.heap.size w (((W.setCell ⟨w.heap.size, 1, none⟩ u).setCell ⟨w.heap.size + 1, 0, none⟩ (.int .i64 serial)).setCell ⟨w.heap.size + 1, 1, none⟩ u) ∧ T2 (w.heap.size + 1) serial u (((W.setCell ⟨w.heap.size, 1, none⟩ u).setCell ⟨w.heap.size + 1, 0, none⟩ (.int .i64 serial)).setCell ⟨w.heap.size + 1, 1, none⟩ u)) := by rw [HN.out]; exact HFIN
    have HGR2 : Hid (∀ W u, w0.grownBy W none → W.ownsRow (w.heap.size + 2) 33 3 u (0 + n) ([] ++ keysL ks) → T2 w.heap.size serial (.slice (some ad) n cap) W ∧ T2 (w.heap.size + 1) 0 (.slice none 0 0) W ∧ Below w.heap.size w W ∧ KRow W (w.heap.size + 2) u ks) := by rw [HN.out]; exact HGR
    clear HFIN HGR HT
    go_enter Tryd.func5, Tryd.ntmps5
    go_wp2_with (at_builtin; refine wpList_append_own _ rfl _ _ 22 rfl (w.heap.size + 2) 33 i0 _ 3 40 Tryd.underlying22 hi hz0 hz1 hz2 rfl (by decide) (.slice none 0 0) 0 [] rfl (World.ownsRow_nil _ _ _ _) ad n cap (keysL ks) rfl hkl (by exact HNEWS.out) (keysL_one ks) (by unfold maxLen; omega) (by omega) (by omega) ?_; intro v' w1 hown hgrow hnil; have hall := HGR2.out w1 v' hgrow hown; have HALL : Hid (T2 w.heap.size serial (.slice (some ad) n cap) w1 ∧ T2 (w.heap.size + 1) 0 (.slice none 0 0) w1 ∧ Below w.heap.size w w1 ∧ KRow w1 (w.heap.size + 2) v' ks) := hall; obtain ⟨c1, c2, c3, c4, -⟩ := hall.1; obtain ⟨d1, d2, d3, d4, -⟩ := hall.2.1; clear hgrow hown hall; obtain ⟨pv, nv, cv, rfl⟩ := KRow.form HALL.out.2.2.2)
    obtain ⟨f1, f2, f3⟩ := HFIN2.out w1 _ HALL.out.1 HALL.out.2.1 HALL.out.2.2.1 HALL.out.2.2.2
    refine bodyPost_ret (v := .agg #[.int .i64 serial, .slice pv nv cv]) (by simp [results, Tryd.results5, go_sem, f3.1, f3.2.1]) rfl ⟨_, rfl, f1, f2⟩
end Go.Proofs.YtekjcmejnhhpaaaDoor
