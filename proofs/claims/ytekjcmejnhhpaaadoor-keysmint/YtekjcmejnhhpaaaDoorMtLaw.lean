/- The law KeysMint. -/
import Derived.Test.YtekjcmejnhhpaaaDoorMtRef
import Derived.Test.YtekjcmejnhhpaaaDoorMtBad
import Derived.Test.YtekjcmejnhhpaaaDoorKySame
namespace Go.Proofs.YtekjcmejnhhpaaaDoor
open Go.RowKit

theorem hk_none (w : World) : HK w (.slice none 0 0) [] := ⟨none, 0, rfl, by simp, by simp, fun _ => rfl, .inl rfl⟩
theorem krow_out {w : World} {B : Nat} {u : Value} {ks : List Ky} (h : KRow w B u ks) : ∃ p n c, u = .slice p n c ∧ HK w (.slice p n c) ks := by
  obtain ⟨p, n, c, rfl⟩ := h.form
  exact ⟨p, n, c, rfl, h.hk⟩
/-- what both answer -/
def MnOut (sp : Int) (tx : ByteArray) (er : Int) (L : List Ky) (W : World) (e : Ending) (w' : World) : Prop := ∃ p n c, e = .returned (.tuple #[.agg #[.int .i64 sp, .slice p n c], .string tx, .int .i64 er]) ∧ HK w' (.slice p n c) L ∧ Below W.heap.size W w'
theorem two_mint (serial : Int) (ks : List Ky) (name : ByteArray) (rights draw : Int) (hok : ∀ k ∈ ks, k.ok) (hn : name.size ≤ 140737488355328) (hd0 : -9223372036854775808 ≤ draw) (hd1 : draw ≤ 9223372036854775807) : ∃ (sp : Int) (tx : ByteArray) (er : Int) (L : List Ky),
    (∀ W u, Vars W → HK W u ks → Calls Tryd.prog 4 #[.agg #[.int .i64 serial, u], .string name, .int .i64 rights, .int .i64 draw] W (MnOut sp tx er L W)) ∧
    (∀ W u, HK W u ks → Calls Tryd.prog 6 #[.agg #[.int .i64 serial, u], .string name, .int .i64 rights, .int .i64 draw] W (MnOut sp tx er L W)) := by
  by_cases hc : rights < 1 ∨ 3 < rights ∨ serial < 0 ∨ 2147483647 < serial
  · exact ⟨0, ⟨#[]⟩, 3, [], fun W u _ h => (mint_bad serial u ks name rights draw W h hc).mono fun e w' ⟨a, b⟩ => ⟨none, 0, 0, a, hk_none _, b⟩, fun W u h => (refMint_bad serial u ks name rights draw W h hc).mono fun e w' ⟨a, b⟩ => ⟨none, 0, 0, a, hk_none _, b⟩⟩
  · by_cases hl : 32 ≤ ks.length
    · exact ⟨0, ⟨#[]⟩, 5, [], fun W u _ h => (mint_full serial u ks name rights draw W h (by omega) (by omega) (by omega) (by omega) hl).mono fun e w' ⟨a, b⟩ => ⟨none, 0, 0, a, hk_none _, b⟩, fun W u h => (refMint_full serial u ks name rights draw W h (by omega) (by omega) (by omega) (by omega) hl).mono fun e w' ⟨a, b⟩ => ⟨none, 0, 0, a, hk_none _, b⟩⟩
    · refine ⟨serial + 1, ⟨(keyT serial draw).toArray⟩, 0, ks ++ [⟨⟨(keyT serial draw).toArray⟩, name, rights⟩], fun W u hv h => (mint_any serial u ks name rights draw W hv h hok hn (by omega) (by omega) (by omega) (by omega) (by omega)).mono fun e w' ⟨u', a, b, c⟩ => ?_, fun W u h => (refMint_any serial u ks name rights draw W h (by omega) (by omega) (by omega) (by omega) (by omega) hd0 hd1).mono fun e w' ⟨u', a, b, c⟩ => ?_⟩
      · obtain ⟨p, n, q, rfl, hk⟩ := krow_out b
        exact ⟨p, n, q, a, hk, c⟩
      · obtain ⟨p, n, q, rfl, hk⟩ := krow_out b
        exact ⟨p, n, q, a, hk, c⟩
set_option maxRecDepth 20000 in
set_option maxHeartbeats 4000000 in
theorem mint_law (serial : Int) (v : Value) (ks : List Ky) (name : ByteArray) (rights draw : Int) (w : World) (hv : Vars w) (h : HK w v ks) (hok : ∀ k ∈ ks, k.ok) (hlen : ks.length * 40 ≤ 140737488355328) (hn : name.size ≤ 140737488355328) (hd0 : -9223372036854775808 ≤ draw) (hd1 : draw ≤ 9223372036854775807) :
    Calls Tryd.prog 3 #[.agg #[.int .i64 serial, v], .string name, .int .i64 rights, .int .i64 draw] w fun e w' => e = .returned (.bool true) ∧ Below w.heap.size w w' := by
  obtain ⟨sp, tx, er, L, c2, c3⟩ := two_mint serial ks name rights draw hok hn hd0 hd1
  have t0 := T2.born w serial v 24
  have hb0 : Below w.heap.size w (w.alloc (.cells #[.int .i64 serial, v] 24)) := (Below.refl _ _).alloc (Nat.le_refl _) _
  have h0 := h.below hb0
  have hv0 := hv.below hb0
  generalize hw0 : w.alloc (.cells #[.int .i64 serial, v] 24) = w0 at *
  have c1 := table_any serial v ks w0 h0 hlen
  have HB0 : Hid (Below w.heap.size w w0) := hb0
  have HT : Hid (T2 w.heap.size serial v w0) := t0
  have HH : Hid (HK w0 v ks) := h0
  have HV : Hid (Vars w0) := hv0
  have c4 := fun W (hW : Vars W) => mint_any 0 (.slice none 0 0) [] ⟨#[97]⟩ 1 5 W hW (hk_none W) (fun k hk => by cases hk) (by decide) (by omega) (by omega) (by omega) (by omega) (by simp)
  obtain ⟨a1, a2, -, -, -⟩ := t0
  have he : (er == er) = true := by simp
  clear h h0 hb0 hok hlen hn hd0 hd1 hv hv0
  go_enter Tryd.func3, Tryd.ntmps3
  go_wp2_with fail
  refine c1.mono ?_
  rintro e w1 ⟨u, rfl, hk1, hb1⟩
  clear hw0 a1 a2 c1
  have c2' := c2 w1 u (HV.out.below hb1) hk1.hk
  clear c2
  go_wp2_with fail
  refine c2'.mono ?_
  rintro e w2 ⟨p2, n2, q2, rfl, hk2, hb2⟩
  clear c2' hk1
  have h02 := hb1.trans (hb2.mono hb1.size)
  have hbA : Below w2.heap.size w2 (w2.alloc (.cells #[.int .i64 sp, .slice p2 n2 q2] 24)) := (Below.refl _ _).alloc (Nat.le_refl _) _
  have s2 := T2.born w2 sp (.slice p2 n2 q2) 24
  have hkA := hk2.below hbA
  have h0A := h02.trans (hbA.mono h02.size)
  have tA := HT.out.below h0A
  have hvA := HH.out.below h0A
  obtain ⟨a1, a2, -, -, -⟩ := tA
  have c3' := c3 _ v hvA
  clear c3 hb1 hb2 h02 hk2
  generalize hwA : w2.alloc (.cells #[.int .i64 sp, .slice p2 n2 q2] 24) = wA at *
  go_wp2_with fail
  refine c3'.mono ?_
  rintro e w3 ⟨p3, n3, q3, rfl, hk3, hb3⟩
  clear hwA c3' a1 a2 hvA
  have hbB : Below w3.heap.size w3 (w3.alloc (.cells #[.int .i64 sp, .slice p3 n3 q3] 24)) := (Below.refl _ _).alloc (Nat.le_refl _) _
  have s3 := T2.born w3 sp (.slice p3 n3 q3) 24
  have hkB := hk3.below hbB
  have hAB := hb3.trans (hbB.mono hb3.size)
  have hkA2 := hkA.below hAB
  have s2B := s2.below hAB
  have h0B := h0A.trans (hAB.mono h0A.size)
  have c4' := c4 _ (HV.out.below h0B)
  clear hk3 hb3 hbB hkA s2 hAB h0A c4
  generalize hwB : w3.alloc (.cells #[.int .i64 sp, .slice p3 n3 q3] 24) = wB at *
  go_wp2_with fail
  refine c4'.mono ?_
  rintro e w4 ⟨u4, rfl, hk4, hb4⟩
  clear hwB c4'
  obtain ⟨p4, n4, q4, rfl⟩ := hk4.form
  have hbD : Below w4.heap.size w4 (w4.alloc (.cells #[.int .i64 (0 + 1), .slice p4 n4 q4] 24)) := (Below.refl _ _).alloc (Nat.le_refl _) _
  have hCD := hb4.trans (hbD.mono hb4.size)
  have c5 := fun W hW => sameTable_any sp _ _ _ W ((hkA2.below hCD).below hW) ((hkB.below hCD).below hW)
  obtain ⟨x1, x2, -, -, -⟩ := s2B.below hCD
  obtain ⟨y1, y2, -, -, -⟩ := s3.below hCD
  obtain ⟨z1, z2, -, -, zl⟩ := T2.born w4 (0 + 1) (.slice p4 n4 q4) 24
  have h0D := h0B.trans (hCD.mono h0B.size)
  have HBD : Hid (Below w.heap.size w (w4.alloc (.cells #[.int .i64 (0 + 1), .slice p4 n4 q4] 24))) := HB0.out.trans (h0D.mono HB0.out.size)
  have c5' := c5 _ (Below.refl _ _)
  simp only [Int.zero_add] at *
  clear hkA2 hkB s2B s3 hbD hCD hk4 hb4 h0B h0D c5
  generalize hwD : w4.alloc (.cells #[.int .i64 1, .slice p4 n4 q4] 24) = wD at *
  go_wp2_with (go_at_call 7; refine c5'.mono ?_; rintro e w5 ⟨rfl, hb5⟩; have z5 := (hb5.cell (p := ⟨w4.heap.size, 0, none⟩) zl).trans z1)
  go_ret
  exact ⟨rfl, HBD.out.trans (hb5.mono HBD.out.size)⟩
end Go.Proofs.YtekjcmejnhhpaaaDoor
