/- The law SpeechTells. -/
import Derived.Test.YtnklpjoeopcbbaaDoorTellRef
import Derived.Test.YtnklpjoeopcbbaaDoorTellSize
import Derived.Test.YtnklpjoeopcbbaaDoorRefEnc3
namespace Go.Proofs.YtnklpjoeopcbbaaDoor
open Go.RowKit

theorem cell_heap {w w' : World} {a : Addr} (h : w'.heap[a.block]? = w.heap[a.block]?) : w'.cell? a = w.cell? a := by
  unfold World.cell?
  rw [h]
theorem Row.keep {w w' : World} {v : Value} {zs : List (Int × Int)} (h : Row w v zs) (hs : w.heap.size ≤ w'.heap.size) (hk : ∀ ad n c, v = .slice (some ad) n c → w'.heap[ad.block]? = w.heap[ad.block]?) : Row w' v zs := by
  rcases h with h | ⟨hz, b, off, c, hv, hlt, hl, hm, hh⟩
  · exact Or.inl h
  · have hb := hk _ _ _ hv
    refine Or.inr ⟨hz, b, off, c, hv, Nat.lt_of_lt_of_le hlt hs, hl, hm, fun j hj => ?_⟩
    exact ⟨(cell_heap (a := ⟨b, off + j * 2, none⟩) hb).trans (hh j hj).1, (cell_heap (a := ⟨b, off + j * 2 + 1, none⟩) hb).trans (hh j hj).2⟩
theorem cells_own (v : Value) (zs : List (Int × Int)) (w : World) (hn : zs.length * 16 ≤ 140737488355328) (h : RRow w v zs) :
    Calls Tryd.prog 9 #[v] w fun e w' => ∃ ua un uc, e = .returned (.slice ua un uc) ∧ Below w.heap.size w w' ∧ Row w' (.slice ua un uc) zs ∧ (∀ ad, ua = some ad → w.heap.size ≤ ad.block) := by
  obtain ⟨a, c, rfl, hc, hm, ha, h⟩ := h
  by_cases h0 : zs.length = 0
  · have hz := List.length_eq_zero_iff.1 h0
    subst hz
    cases a with
    | none =>
      have h0 := ha rfl
      subst h0
      refine (cells_nil w).mono ?_
      rintro e w' ⟨rfl, rfl⟩
      exact ⟨_, _, _, rfl, Below.refl _ _, Or.inl ⟨rfl, rfl⟩, fun _ e => by cases e⟩
    | some ad =>
      refine (cells_zero ad c w).mono ?_
      rintro e w' ⟨rfl, hb⟩
      exact ⟨_, _, _, rfl, hb, Or.inl ⟨rfl, rfl⟩, fun _ e => by cases e⟩
  · rcases h with h | ⟨b, off, rfl, hb, hp⟩
    · exact absurd h h0
    refine (cells_some b off zs.length c _ _ w hn hp).mono ?_
    rintro e w' ⟨u, rfl, hb', hu⟩
    rcases hu with ⟨h1, rfl⟩ | ⟨g, cap, rfl, hgw, hg, hcap, hmx, hP⟩
    · exact absurd h1 h0
    · exact ⟨_, _, _, rfl, hb', Or.inr ⟨fun e => h0 (by rw [e]; rfl), g, 0, cap, rfl, hg, hcap, hmx, hP⟩, fun ad e => by cases e; exact hgw⟩

theorem enc_one (zs : List (Int × Int)) (b l : Int) : ∃ (T : ByteArray) (t : Int), T.size ≤ 10000000 ∧ (∀ W u, Row W u zs → Vars W → At18 25 b l u T t W) ∧ (∀ W v, RRow W v zs → At18 20 b l v T t W) := by
  by_cases hex : ∃ ys, Tidied zs ys
  · obtain ⟨ys, hys⟩ := hex
    refine ⟨⟨(encF ys (tcode zs) b l).1.toArray⟩, (encF ys (tcode zs) b l).2, ?_, fun W u hr hv => (encode_any u zs b l W hr hv).mono ?_, fun W v hr => (refEncode_any v zs b l W hr).mono ?_⟩
    · have := encF_len zs ys b l hys
      show (encF ys (tcode zs) b l).1.toArray.size ≤ _
      rw [List.size_toArray]; omega
    · rintro e w' ⟨ts, ht, rfl, hb⟩
      have h := ht.unique hys
      subst h
      exact ⟨rfl, hb⟩
    · rintro e w' ⟨ts, ht, rfl, hb⟩
      have h := ht.unique hys
      subst h
      exact ⟨rfl, hb⟩
  · refine ⟨⟨#[]⟩, 0, by decide, fun W u hr hv => (encode_any u zs b l W hr hv).mono ?_, fun W v hr => (refEncode_any v zs b l W hr).mono ?_⟩
    · rintro e w' ⟨ts, ht, _⟩
      exact absurd ⟨ts, ht⟩ hex
    · rintro e w' ⟨ts, ht, _⟩
      exact absurd ⟨ts, ht⟩ hex

theorem lo'_fits (f : Nat → Int) (n : Nat) (h : ∀ j, j < n → Fits (f j)) : Fits (lo' f n) := by
  cases n with
  | zero => show Fits 0; unfold Fits; omega
  | succ n =>
    show Fits (lo f n)
    obtain ⟨j, hj, e⟩ := lo_at f n
    rw [e]
    exact h j (by omega)
theorem box_one (zs : List (Int × Int)) (hz : ∀ p ∈ zs, Fits p.1 ∧ Fits p.2) : ∃ (X0 Y0 X1 Y1 : Int) (k : Bool), (Fits X0 ∧ Fits Y0) ∧ (∀ W u, Row W u zs → At26 26 u X0 Y0 X1 Y1 k W) ∧ (∀ W v, RRow W v zs → At26 21 v X0 Y0 X1 Y1 k W) := by
  have hm : ∀ j, j < zs.length → zs[j]! ∈ zs := fun j hj => by rw [getElem!_pos zs j hj]; exact List.getElem_mem hj
  refine ⟨lo' (fun j => (zs[j]!).1) zs.length, lo' (fun j => (zs[j]!).2) zs.length, hi' (fun j => (zs[j]!).1) zs.length, hi' (fun j => (zs[j]!).2) zs.length, decide (0 < zs.length), ⟨?_, ?_⟩, ?_, ?_⟩
  · exact lo'_fits _ _ fun j hj => (hz _ (hm j hj)).1
  · exact lo'_fits _ _ fun j hj => (hz _ (hm j hj)).2
  · intro W u hr
    exact bounds_any u _ _ _ W hr.isRow
  · intro W v hr
    exact ref_any v _ _ _ W hr

def noAn : An := ⟨0, 0, 0, 0, 0, 0, 0, 0, ⟨#[]⟩⟩
theorem noAn_tells (P : ByteArray × Int) : tellB 0 noAn P = (⟨#[111, 107]⟩, 0) := by
  unfold tellB noAn
  simp

set_option maxRecDepth 20000 in
set_option maxHeartbeats 4000000 in
theorem tells_any (verb : Int) (a : An) (va : Option Addr) (vn vc : Nat) (zs : List (Int × Int)) (w : World) (hv : Vars w) (hf : a.fits) (hk : a.key.size ≤ 140737488351232) (hn : zs.length * 16 ≤ 140737488355328) (h : RRow w (.slice va vn vc) zs) (hz : ∀ p ∈ zs, Fits p.1 ∧ Fits p.2) :
    Calls Tryd.prog 4 #[.int .i64 verb, .agg (a.vals (.slice va vn vc))] w fun e w' => e = .returned (.bool true) ∧ Below w.heap.size w w' := by
  obtain ⟨T, t, hT, e1, e2⟩ := enc_one zs a.born a.live
  obtain ⟨X0, Y0, X1, Y1, k, hX, b1, b2⟩ := box_one zs hz
  have HV : Hid (Vars w) := hv
  have hroom := hv.room
  have HRF : Hid (∀ W, Below w.heap.size w W → Ready verb a (.slice va vn vc) W 20 21 T t X0 Y0 X1 Y1 k) := fun W hb =>
    ⟨HV.out.go hb hroom, hf, hk, hT, hX, fun _ W' hW => e2 W' _ (h.below (hb.trans (hW.mono hb.size))), fun _ W' hW => b2 W' _ (h.below (hb.trans (hW.mono hb.size)))⟩
  have HRT : Hid (∀ W ua un uc, Below w.heap.size w W → Row W (.slice ua un uc) zs → Ready verb a (.slice ua un uc) W 25 26 T t X0 Y0 X1 Y1 k) := fun W ua un uc hb hr =>
    ⟨HV.out.go hb hroom, hf, hk, hT, hX, fun _ W' hW => e1 W' _ (hr.below hW) ((HV.out.go hb hroom).go hW (Nat.le_trans hroom hb.size)), fun _ W' hW => b1 W' _ (hr.below hW)⟩
  have HRZ : Hid (∀ W, Below w.heap.size w W → Ready 0 noAn (.slice none 0 0) W 25 26 T t X0 Y0 X1 Y1 k) := fun W hb =>
    ⟨HV.out.go hb hroom, by constructor <;> (show Fits 0; unfold Fits; omega), by decide, hT, hX, fun e => absurd e (by decide), fun e => absurd e (by decide)⟩
  have hb0 : Below w.heap.size w (w.alloc (.cells (a.vals (.slice va vn vc)) 30)) := (Below.refl _ _).alloc (Nat.le_refl _) _
  have P0 := AnIn.born w a (.slice va vn vc)
  unfold An.vals at *
  generalize hw0 : w.alloc (.cells #[.int .i64 a.code, .int .i64 a.n, .int .i64 a.x0, .int .i64 a.y0, .int .i64 a.x1, .int .i64 a.y1, .int .i64 a.born, .int .i64 a.live, .string a.key, .slice va vn vc] 30) = w0 at *
  have hb1 : Below w0.heap.size w0 (w0.alloc (.cells (a.vals (.slice va vn vc)) 30)) := (Below.refl _ _).alloc (Nat.le_refl _) _
  have C1 := AnIn.born w0 a (.slice va vn vc)
  have P1 := P0.go hb1
  unfold An.vals at *
  generalize hw1 : w0.alloc (.cells #[.int .i64 a.code, .int .i64 a.n, .int .i64 a.x0, .int .i64 a.y0, .int .i64 a.x1, .int .i64 a.y1, .int .i64 a.born, .int .i64 a.live, .string a.key, .slice va vn vc] 30) = w1 at *
  have HB1 : Hid (Below w.heap.size w w1) := hb0.trans (hb1.mono hb0.size)
  have ck := cells_own (.slice va vn vc) zs w1 hn (h.below HB1.out)
  have HPC : Hid (w.heap.size < w0.heap.size ∧ w0.heap.size < w1.heap.size) := ⟨P0.lt, C1.lt⟩
  have HP1 : Hid (AnIn w.heap.size a (.slice va vn vc) w1) := P1
  have HC1 : Hid (AnIn w0.heap.size a (.slice va vn vc) w1) := C1
  have hne : w.heap.size ≠ w0.heap.size := Nat.ne_of_lt P0.lt
  obtain ⟨p0, p1, p2, p3, p4, p5, p6, p7, p8, p9⟩ := P0.cells
  obtain ⟨q0, q1, q2, q3, q4, q5, q6, q7, q8, q9⟩ := P1.cells
  clear hb0 P0 P1 C1 hb1 e1 e2 b1 b2 hX hT hv hf hk hn h hz hroom
  go_enter Tryd.func4, Tryd.ntmps4
  go_wp2_with fail
  refine ck.mono ?_
  rintro e w2 ⟨ua, un, uc, rfl, hb2, hu, hown⟩
  have HB2 : Hid (Below w.heap.size w w2) := HB1.out.trans (hb2.mono HB1.out.size)
  have hP2 := HP1.out.go hb2
  have hC2 := HC1.out.go hb2
  obtain ⟨c0, c1, c2, c3, c4, c5, c6, c7, c8, c9⟩ := hC2.cells
  obtain ⟨d0, d1, d2, d3, d4, d5, d6, d7, d8, d9⟩ := hP2.cells
  have z9 : w2.frozen? ⟨w0.heap.size, 9, none⟩ = false := Lib.frozen_of_heap hC2 9
  have hset : ∀ j, j ≠ w0.heap.size → (w2.setCell ⟨w0.heap.size, 9, none⟩ (.slice ua un uc)).heap[j]? = w2.heap[j]? := fun j hj => Below.heap_setCell _ _ _ _ hj
  have hsz3 : (w2.setCell ⟨w0.heap.size, 9, none⟩ (.slice ua un uc)).heap.size = w2.heap.size := by simp [World.setCell]
  have HP3 : Hid (AnIn w.heap.size a (.slice va vn vc) (w2.setCell ⟨w0.heap.size, 9, none⟩ (.slice ua un uc))) := (hset _ hne).trans hP2
  have HB3 : Hid (Below w.heap.size w (w2.setCell ⟨w0.heap.size, 9, none⟩ (.slice ua un uc))) := HB2.out.setCell (p := ⟨w0.heap.size, 9, none⟩) (Nat.le_of_lt HPC.out.1) _
  have hu3 : Row (w2.setCell ⟨w0.heap.size, 9, none⟩ (.slice ua un uc)) (.slice ua un uc) zs := hu.keep (Nat.le_of_eq hsz3.symm) fun ad n c e => by
    cases e
    exact hset _ (by have := hown ad rfl; have := HPC.out.2; omega)
  have ct := Tell_any verb a ua un uc _ T t X0 Y0 X1 Y1 k (HRT.out _ _ _ _ HB3.out hu3)
  have cf := fun W hb => tellAnswer_any verb a va vn vc W T t X0 Y0 X1 Y1 k (HRF.out W hb)
  have cz := fun W hb => Tell_any 0 noAn none 0 0 W T t X0 Y0 X1 Y1 k (HRZ.out W hb)
  rw [noAn_tells] at cz
  generalize tellB verb a (patB T t X0 Y0 k) = R at *
  obtain ⟨L, le⟩ := R
  unfold An.vals noAn at *
  simp only at ct cf cz
  clear ck p0 p1 p2 p3 p4 p5 p6 p7 p8 p9 q0 q1 q2 q3 q4 q5 q6 q7 q8 q9 hw0 hw1 hP2 hC2 hb2 hu hown hset hsz3 hu3
  go_wp2_with fail
  refine ct.mono ?_
  rintro e w4 ⟨rfl, hb4⟩
  have HB4 : Hid (Below w.heap.size w w4) := HB3.out.trans (hb4.mono HB3.out.size)
  obtain ⟨f0, f1, f2, f3, f4, f5, f6, f7, f8, f9⟩ := (HP3.out.go hb4).cells
  clear ct hb4 c0 c1 c2 c3 c4 c5 c6 c7 c8 c9 d0 d1 d2 d3 d4 d5 d6 d7 d8 d9 z9
  have c5 := cf w4 HB4.out
  clear cf
  go_wp2_with fail
  refine c5.mono ?_
  rintro e w5 ⟨rfl, hb5⟩
  have HB5 : Hid (Below w.heap.size w w5) := HB4.out.trans (hb5.mono HB4.out.size)
  have c6 := cz w5 HB5.out
  clear c5 hb5 cz f0 f1 f2 f3 f4 f5 f6 f7 f8 f9
  go_wp2_with fail
  refine c6.mono ?_
  rintro e w6 ⟨rfl, hb6⟩
  go_wp2_with fail
  go_ret
  exact ⟨rfl, HB5.out.trans (hb6.mono HB5.out.size)⟩
end Go.Proofs.YtnklpjoeopcbbaaDoor
