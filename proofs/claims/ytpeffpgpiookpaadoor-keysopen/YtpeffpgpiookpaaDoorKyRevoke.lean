/- keys.Revoke. -/
import Derived.Test.YtpeffpgpiookpaaDoorKyDel
import Derived.Test.YtpeffpgpiookpaaDoorKyCopies
namespace Go.Proofs.YtpeffpgpiookpaaDoor
open Go.RowKit

/-- what is left when the keys of a name are gone -/
def stay (ks : List Ky) (name : ByteArray) : List Ky := leftOf (fun k => decide (k.name = name)) ks

set_option maxRecDepth 20000 in
set_option maxHeartbeats 2000000 in
theorem revoke_any (serial : Int) (v : Value) (ks : List Ky) (name : ByteArray) (w : World) (h : HK w v ks) (hok : ∀ k ∈ ks, k.ok) (hlen : ks.length * 40 ≤ 140737488355328) :
    Calls Tryd.prog 15 #[.agg #[.int .i64 serial, v], .string name] w fun e w' => ∃ u, e = .returned (.tuple #[.agg #[.int .i64 serial, u], .int .i64 ((ks.length : Int) - (stay ks name).length)]) ∧ KRow w' w.heap.size u (stay ks name) ∧ Below w.heap.size w w' := by
  have t0 := T2.born w serial v 24
  have hb0 : Below w.heap.size w (w.alloc (.cells #[.int .i64 serial, v] 24)) := (Below.refl _ _).alloc (Nat.le_refl _) _
  generalize hwA : w.alloc (.cells #[.int .i64 serial, v] 24) = wA at *
  have hsA : wA.heap.size = w.heap.size + 1 := by rw [← hwA]; simp
  have hb1 : Below wA.heap.size wA (wA.alloc (.cells #[.string name] 9)) := (Below.refl _ _).alloc (Nat.le_refl _) _
  have hnm : (wA.alloc (.cells #[.string name] 9)).cell? ⟨w.heap.size + 1, 0, none⟩ = some (.string name) := by rw [← hsA]; simp
  have hsB : (wA.alloc (.cells #[.string name] 9)).heap.size = w.heap.size + 2 := by simp; omega
  have t1 := t0.below hb1
  have hb01 := hb0.trans (hb1.mono hb0.size)
  generalize hwB : wA.alloc (.cells #[.string name] 9) = wB at *
  have hb2 : Below wB.heap.size wB (wB.alloc (.cells #[.int .i64 0, .slice none 0 0] 24)) := (Below.refl _ _).alloc (Nat.le_refl _) _
  have r0 := T2.born wB 0 (.slice none 0 0) 24
  rw [hsB] at r0
  have hsC : (wB.alloc (.cells #[.int .i64 0, .slice none 0 0] 24)).heap.size = w.heap.size + 3 := by simp; omega
  have t2 := t1.below hb2
  have hnm2 : (wB.alloc (.cells #[.int .i64 0, .slice none 0 0] 24)).cell? ⟨w.heap.size + 1, 0, none⟩ = some (.string name) := (hb2.cell (p := ⟨w.heap.size + 1, 0, none⟩) (by show w.heap.size + 1 < _; omega)).trans hnm
  have hb := hb01.trans (hb2.mono hb01.size)
  generalize hwC : wB.alloc (.cells #[.int .i64 0, .slice none 0 0] 24) = w0 at *
  clear t0 hb0 hb1 hb01 hb2 t1 hnm
  have hK0 := h.below hb
  have cc := copies_any v ks w0 hK0 hok hlen
  have eg : ∀ args w, (callFunc 26 args).run Tryd.prog w = .ok (.enter 26 args) w := enters_of Tryd.func26 (by kernel_rfl) rfl
  have HT : Hid (T2 w.heap.size serial v w0 ∧ T2 (w.heap.size + 2) 0 (.slice none 0 0) w0 ∧ w0.cell? ⟨w.heap.size + 1, 0, none⟩ = some (.string name) ∧ w0.heap.size = w.heap.size + 3 ∧ Below w.heap.size w w0) := ⟨t2, r0, hnm2, hsC, hb⟩
  have HV : Hid (∃ p cap, v = .slice p ks.length cap) := by obtain ⟨p, cap, e, _⟩ := h; exact ⟨p, cap, e⟩
  have hst : (stay ks name).length ≤ ks.length := leftOf_le _ _
  obtain ⟨a1, a2, -, -, -⟩ := t2
  obtain ⟨p, cap, rfl⟩ := HV.out
  obtain ⟨n, hn⟩ : ∃ n, n = ks.length := ⟨_, rfl⟩
  have HN : Hid (n = ks.length) := hn
  rw [← hn] at hst a2 hwA hlen cc ⊢
  clear h hok hb hK0 hn
  go_enter Tryd.func15, Tryd.ntmps15
  go_wp2_with fail
  refine cc.mono ?_
  rintro e w1 ⟨u, rfl, hrow, hb1, hnn⟩
  obtain ⟨g, cp, rfl, hcp⟩ : ∃ g cp, u = .slice (some ⟨g, 0, none⟩) ks.length cp ∧ cp ≤ 9223372036854775807 := by
    rcases hrow.2 with ⟨h0, _⟩ | ⟨g, cp, cur, hv, _, _, _, hm, _⟩
    · exact absurd h0 hnn
    · exact ⟨g, cp, hv, by unfold maxLen at hm; omega⟩
  have hgl := hrow.lt g rfl
  have cd := deleteFunc_any 26 #[.pointer (some ⟨w.heap.size + 1, 0, none⟩)] eg (fun k => decide (k.name = name)) g ks.length cp w0.heap.size ks w1 rfl hcp hrow (fun W x hO => predName_any name (w.heap.size + 1) x W (by
    have h1 := HT.out
    have h2 : w1.cell? ⟨w.heap.size + 1, 0, none⟩ = some (.string name) := (hb1.cell (p := ⟨w.heap.size + 1, 0, none⟩) (by show w.heap.size + 1 < _; omega)).trans h1.2.2.1
    rw [← h2]
    exact World.cell?_of_block (a := ⟨w.heap.size + 1, 0, none⟩) (hO.block (w.heap.size + 1) (by have := hb1.size; omega) (by have := hgl.1; omega))) (by have := hO.size; have := hb1.size; have := HT.out.2.2.2.1; omega))
  have hss : leftOf (fun k => decide (k.name = name)) ks = stay ks name := rfl
  rw [hss] at cd
  have HG : Hid (w0.heap.size ≤ g ∧ Below w0.heap.size w0 w1) := ⟨hgl.1, hb1⟩
  clear hwA hwB hwC a1 a2 hrow hnn cc hgl hcp eg hb1 hss hsC r0 hnm2
  go_wp2_with fail
  refine cd.mono ?_
  rintro e w2 ⟨rfl, hrow2, hO2⟩
  clear cd
  have hbO : Below w0.heap.size w1 w2 := hO2.below HG.out.1 HG.out.2.size
  have h02 : Below w0.heap.size w0 w2 := HG.out.2.trans hbO
  have HT2 : Hid (T2 w.heap.size serial (.slice p n cap) w2 ∧ T2 (w.heap.size + 2) 0 (.slice none 0 0) w2) := ⟨by rw [HN.out]; exact HT.out.1.under h02 (by have := HT.out.2.2.2.1; omega), HT.out.2.1.under h02 (by have := HT.out.2.2.2.1; omega)⟩
  have HB2 : Hid (Below w.heap.size w w2) := HT.out.2.2.2.2.trans (h02.mono (by have := HT.out.2.2.2.1; omega))
  have HR2 : Hid (KRow w2 (w.heap.size + 3) (.slice (some ⟨g, 0, none⟩) (stay ks name).length cp) (stay ks name)) := by show KRow _ _ _ _; rw [← HT.out.2.2.2.1]; exact hrow2
  clear hrow2 hO2 hbO h02 HT HG
  obtain ⟨m, hm⟩ : ∃ m, m = (stay ks name).length := ⟨_, rfl⟩
  rw [← hm] at hst HR2 ⊢
  have HM : Hid (m = (stay ks name).length) := hm
  clear hm
  obtain ⟨a1, a2, -, -, -⟩ := HT2.out.1
  obtain ⟨b1, b2, b3, b4, -⟩ := HT2.out.2
  have hw : IntKind.i64.wrap ((n : Int) - (m : Int)) = (n : Int) - (m : Int) := by rw [IntKind.wrap_i64]; omega
  have HFIN : Hid (KRow ((w2.setCell ⟨w.heap.size + 2, 0, none⟩ (.int .i64 serial)).setCell ⟨w.heap.size + 2, 1, none⟩ (.slice (some ⟨g, 0, none⟩) m cp)) w.heap.size (.slice (some ⟨g, 0, none⟩) m cp) (stay ks name) ∧ Below w.heap.size w ((w2.setCell ⟨w.heap.size + 2, 0, none⟩ (.int .i64 serial)).setCell ⟨w.heap.size + 2, 1, none⟩ (.slice (some ⟨g, 0, none⟩) m cp)) ∧ T2 (w.heap.size + 2) serial (.slice (some ⟨g, 0, none⟩) m cp) ((w2.setCell ⟨w.heap.size + 2, 0, none⟩ (.int .i64 serial)).setCell ⟨w.heap.size + 2, 1, none⟩ (.slice (some ⟨g, 0, none⟩) m cp))) :=
    ⟨((HR2.out.set (R := w.heap.size + 2) (by omega) 0 (.int .i64 serial)).set (R := w.heap.size + 2) (by omega) 1 (.slice (some ⟨g, 0, none⟩) m cp)).mono (by omega), (HB2.out.setCell (p := ⟨w.heap.size + 2, 0, none⟩) (by show w.heap.size ≤ w.heap.size + 2; omega) _).setCell (p := ⟨w.heap.size + 2, 1, none⟩) (by show w.heap.size ≤ w.heap.size + 2; omega) _, HT2.out.2.both⟩
  go_wp2_with fail
  go_region
  go_wp2_with fail
  obtain ⟨f1, f2, f3⟩ := HFIN.out
  refine bodyPost_ret (v := .tuple #[.agg #[.int .i64 serial, .slice (some ⟨g, 0, none⟩) m cp], .int .i64 ((n : Int) - (m : Int))]) ?_ rfl ⟨.slice (some ⟨g, 0, none⟩) m cp, by rw [← HM.out], ?_, ?_⟩
  · have g1 : ((w2.setCell ⟨w.heap.size + 2, 0, none⟩ (.int .i64 serial)).setCell ⟨w.heap.size + 2, 1, none⟩ (.slice (some ⟨g, 0, none⟩) m cp)).drew.cell? ⟨w.heap.size + 2, 0, none⟩ = _ := f3.1
    have g2 : ((w2.setCell ⟨w.heap.size + 2, 0, none⟩ (.int .i64 serial)).setCell ⟨w.heap.size + 2, 1, none⟩ (.slice (some ⟨g, 0, none⟩) m cp)).drew.cell? ⟨w.heap.size + 2, 1, none⟩ = _ := f3.2.1
    simp [results, Tryd.results15, go_sem, g1, g2]
  · exact f1
  · exact f2.drew
end Go.Proofs.YtpeffpgpiookpaaDoor
