/- ArenaRoom: the law. -/
import Derived.Test.YtfogedmghhacdaaArRoomSt
import Derived.Deep.CutBlock
import Derived.Deep.RegionWith
import Derived.Deep.QuietTactic
namespace Go.Proofs.Ytfogedmghhacdaa.A
open Go.RowKit Go.Maps

def q4 (x0 x1 x2 x3 : Int) : Nat → Int := fun u => if u = 0 then x0 else if u = 1 then x1 else if u = 2 then x2 else x3
theorem tens_eq : tens = 0 :: 1 :: 2 :: 3 :: (List.range 60).map (· + 4) := by decide
theorem sum_qq (q : Nat → Int) : lsum tens (qq q) = q 0 + q 1 + q 2 + q 3 := by
  rw [tens_eq, lsum_cons, lsum_cons, lsum_cons, lsum_cons]
  have z : ∀ L : List Nat, (∀ u ∈ L, 4 ≤ u) → lsum L (qq q) = 0 := fun L hL => by
    induction L with
    | nil => rfl
    | cons a L ih =>
      rw [lsum_cons, ih fun u hu => hL u (by simp [hu])]
      have := hL a (by simp)
      unfold qq
      rw [if_neg (by omega)]
      rfl
  rw [z _ fun u hu => by obtain ⟨v, _, rfl⟩ := List.mem_map.1 hu; omega]
  unfold qq
  simp
  omega
/-- while the quotas are laid -/
structure QSt (w : World) (b : Nat) (F : Nat → Prop) (A : Ar) (q : Nat → Int) (W : World) : Prop where
  at_ : AtP W b F A
  qblk : W.heap[w.heap.size]? = some (.cells #[.int .i64 (q 0), .int .i64 (q 1), .int .i64 (q 2), .int .i64 (q 3)] 35 (0, 0))
  fq : ¬ F w.heap.size
  fge : ∀ k, F k → w.heap.size ≤ k
  bel : Below w.heap.size w W
section
variable {w W W' : World} {b : Nat} {q : Nat → Int} {F : Nat → Prop} {A : Ar}
theorem QSt.lt (h : QSt w b F A q W) : w.heap.size < W.heap.size := (Array.getElem?_eq_some_iff.1 h.qblk).1
theorem QSt.cell (h : QSt w b F A q W) {t : Nat} (ht : t < 4) : W.cell? ⟨w.heap.size, t, none⟩ = some (.int .i64 (q t)) ∧ W.frozen? ⟨w.heap.size, t, none⟩ = false := by
  refine ⟨?_, Lib.frozen_of_heap h.qblk t⟩
  rw [Lib.cell_of_heap h.qblk t]
  match t, ht with
  | 0, _ => rfl
  | 1, _ => rfl
  | 2, _ => rfl
  | 3, _ => rfl
theorem QSt.set (h : QSt w b F A q W) {t : Nat} (ht : t < 4) (z : Int) : QSt w b F A (upd q t z) (W.setCell ⟨w.heap.size, t, none⟩ (.int .i64 z)) := by
  refine ⟨h.at_.other (by rw [size_set]; exact Nat.le_refl _) fun k hk => heap_set fun e => h.fq (e ▸ hk), ?_, h.fq, h.fge, h.bel.setCell (p := ⟨w.heap.size, t, none⟩) (Nat.le_refl _) _⟩
  rw [Go.Joins.block_setCell h.qblk]
  match t, ht with
  | 0, _ => rfl
  | 1, _ => rfl
  | 2, _ => rfl
  | 3, _ => rfl
theorem QSt.led (h : QSt w b F A q W) {A' : Ar} (hl : Led W b F A' W') : ∃ F', QSt w b F' A' q W' := by
  obtain ⟨F', h1, h2, P⟩ := hl
  refine ⟨F', h2, (P.block _ h.lt h.fq).trans h.qblk, fun hf => ?_, fun k hk => ?_, ⟨P.os.trans h.bel.os, P.tape.trans h.bel.tape, P.output.trans h.bel.output, Nat.le_trans h.bel.size P.size, fun k hk => (P.block k (Nat.lt_of_lt_of_le hk h.bel.size) fun hf => by have := h.fge k hf; omega).trans (h.bel.block k hk)⟩⟩
  · rcases h1 _ hf with e | e
    · exact h.fq e
    · have := h.lt; omega
  · rcases h1 k hk with e | e
    · exact h.fge k e
    · exact Nat.le_trans h.bel.size e
end
theorem cell_lt {w : World} {b o : Nat} {v : Value} (h : w.cell? ⟨b, o, none⟩ = some v) : b < w.heap.size := by
  refine Nat.lt_of_not_le fun hl => ?_
  unfold World.cell? at h
  rw [show w.heap[b]? = none from Array.getElem?_eq_none (by omega)] at h
  simp at h
theorem live_four {A : Ar} {q : Nat → Int} (hS : Sound A) (hR : Roomy A (qq q)) : (liveN A.swept.ths : Int) ≤ A.cnt 0 + A.cnt 1 + A.cnt 2 + A.cnt 3 := by
  refine Int.le_trans (roomy_live hS) (Int.le_trans (lsum_le (g := qq A.cnt) fun u hu => ?_) (Int.le_of_eq (sum_qq A.cnt)))
  have hu : u < 64 := by unfold tens at hu; simpa using hu
  have := hR.le u hu
  unfold qq at *
  split
  · exact Int.le_refl _
  · rename_i h
    rw [if_neg h] at this
    exact this
/-- four limits laid -/
def lim4 (A : Ar) (x0 x1 x2 x3 : Int) : Ar := (((A.limP 0 x0).limP 1 x1).limP 2 x2).limP 3 x3

set_option maxRecDepth 20000 in
set_option maxHeartbeats 8000000 in
theorem room_law (v : Value) (ds : List Dd) (y0 y1 y2 y3 : Int) (w : World) (h : DRow w v ds) :
    Calls Try.prog 5 #[v, quad4 y0 y1 y2 y3] w fun e w' => e = .returned (.bool true) ∧ Below w.heap.size w w' := by
  obtain ⟨va, vc, rfl, hlen, hrow⟩ := h
  have hb0 : Below w.heap.size w (w.alloc (.cells #[.int .i64 y0, .int .i64 y1, .int .i64 y2, .int .i64 y3] 35)) := (Below.refl _ _).alloc (Nat.le_refl _) _
  have hQ0 : (w.alloc (.cells #[.int .i64 y0, .int .i64 y1, .int .i64 y2, .int .i64 y3] 35)).heap[w.heap.size]? = some (.cells #[.int .i64 y0, .int .i64 y1, .int .i64 y2, .int .i64 y3] 35 (0, 0)) := heap_alloc_new w _
  have hsz0 : (w.alloc (.cells #[.int .i64 y0, .int .i64 y1, .int .i64 y2, .int .i64 y3] 35)).heap.size = w.heap.size + 1 := by simp
  have hnew := newP_any 100 (w.alloc (.cells #[.int .i64 y0, .int .i64 y1, .int .i64 y2, .int .i64 y3] 35)) (by omega) (by omega)
  have hsp := fun (z : Int) W => spot_any z 26 W (by omega) (by omega)
  have hspb := fun (z : Int) => spotI_bound z 26 (by omega)
  rw [hsz0] at hnew
  generalize hW0 : w.alloc (.cells #[.int .i64 y0, .int .i64 y1, .int .i64 y2, .int .i64 y3] 35) = W0 at *
  have HROW : Hid (ds = [] ∨ _) := hrow
  have HLEN : Hid (ds.length ≤ 9223372036854775807) := hlen
  have HB0 : Hid (Below w.heap.size w W0 ∧ W0.heap.size = w.heap.size + 1) := ⟨hb0, hsz0⟩
  obtain ⟨nd, hnd⟩ : ∃ n, n = ds.length := ⟨_, rfl⟩
  rw [← hnd] at HLEN ⊢
  have HND0 : Hid (nd = ds.length) := hnd
  clear hnd hlen
  clear hrow hb0 hsz0
  unfold quad4
  go_enter Try.func5, Try.ntmps5
  go_wp2_with fail
  refine hnew.mono ?_
  rintro e w1 ⟨rfl, ⟨F1, hF1, A1⟩, hb1⟩
  have hQ1 := (hb1.block _ (by omega)).trans hQ0
  have S0 : QSt w (w.heap.size + 1 + 1) F1 (arNew 100) (q4 y0 y1 y2 y3) w1 := ⟨A1, hQ1, fun hf => by have := hF1 _ hf; omega, fun k hk => by have := hF1 k hk; omega, HB0.out.1.trans (hb1.mono (by have := HB0.out.2; omega))⟩
  obtain ⟨F0, hF0⟩ : ∃ F, F = F1 := ⟨_, rfl⟩
  subst hF0
  clear A1 hQ1 hQ0 hb1 hF1
  go_wp2_with fail
  refine wp_loop_rounds 5 ?_
  rw [rounds_succ]
  obtain ⟨c0, z0⟩ := S0.cell (t := 0) (by omega)
  have hx0 := hspb y0
  go_wp2_with fail
  refine (hsp y0 _).mono ?_
  rintro e wx ⟨rfl, rfl⟩
  have S0' := S0.set (t := 0) (by omega) (spotI y0 26)
  generalize hgx0 : spotI y0 26 = x0 at *
  clear hgx0
  have hl0 := limP_any (w.heap.size + 1 + 1) 0 F0 x0 _ _ S0'.at_ (by omega) hx0.1 (by show x0 ≤ 100; omega)
  go_wp2_with fail
  generalize wx.setCell ⟨w.heap.size, 0, none⟩ (.int .i64 x0) = Wx0 at *
  refine hl0.mono ?_
  rintro e w2 ⟨rfl, hled0⟩
  obtain ⟨F1, S1⟩ := S0'.led hled0
  clear hl0 hled0 c0 z0
  clear S0 S0'
  go_wp2_with fail
  rw [rounds_succ]
  obtain ⟨c1, z1⟩ := S1.cell (t := 1) (by omega)
  have hx1 := hspb y1
  go_wp2_with fail
  refine (hsp y1 _).mono ?_
  rintro e wx ⟨rfl, rfl⟩
  have S1' := S1.set (t := 1) (by omega) (spotI y1 26)
  generalize hgx1 : spotI y1 26 = x1 at *
  clear hgx1
  have hl1 := limP_any (w.heap.size + 1 + 1) 1 F1 x1 _ _ S1'.at_ (by omega) hx1.1 (by show x1 ≤ 100; omega)
  go_wp2_with fail
  generalize wx.setCell ⟨w.heap.size, 1, none⟩ (.int .i64 x1) = Wx1 at *
  refine hl1.mono ?_
  rintro e w3 ⟨rfl, hled1⟩
  obtain ⟨F2, S2⟩ := S1'.led hled1
  clear hl1 hled1 c1 z1
  clear S1 S1'
  go_wp2_with fail
  rw [rounds_succ]
  obtain ⟨c2, z2⟩ := S2.cell (t := 2) (by omega)
  have hx2 := hspb y2
  go_wp2_with fail
  refine (hsp y2 _).mono ?_
  rintro e wx ⟨rfl, rfl⟩
  have S2' := S2.set (t := 2) (by omega) (spotI y2 26)
  generalize hgx2 : spotI y2 26 = x2 at *
  clear hgx2
  have hl2 := limP_any (w.heap.size + 1 + 1) 2 F2 x2 _ _ S2'.at_ (by omega) hx2.1 (by show x2 ≤ 100; omega)
  go_wp2_with fail
  generalize wx.setCell ⟨w.heap.size, 2, none⟩ (.int .i64 x2) = Wx2 at *
  refine hl2.mono ?_
  rintro e w4 ⟨rfl, hled2⟩
  obtain ⟨F3, S3⟩ := S2'.led hled2
  clear hl2 hled2 c2 z2
  clear S2 S2'
  go_wp2_with fail
  rw [rounds_succ]
  obtain ⟨c3, z3⟩ := S3.cell (t := 3) (by omega)
  have hx3 := hspb y3
  go_wp2_with fail
  refine (hsp y3 _).mono ?_
  rintro e wx ⟨rfl, rfl⟩
  have S3' := S3.set (t := 3) (by omega) (spotI y3 26)
  generalize hgx3 : spotI y3 26 = x3 at *
  clear hgx3
  have hl3 := limP_any (w.heap.size + 1 + 1) 3 F3 x3 _ _ S3'.at_ (by omega) hx3.1 (by show x3 ≤ 100; omega)
  go_wp2_with fail
  generalize wx.setCell ⟨w.heap.size, 3, none⟩ (.int .i64 x3) = Wx3 at *
  refine hl3.mono ?_
  rintro e w5 ⟨rfl, hled3⟩
  obtain ⟨F4, S4⟩ := S3'.led hled3
  clear hl3 hled3 c3 z3
  clear S3 S3'
  go_wp2_with fail
  rw [rounds_succ]
  have HX : Hid ((0 ≤ x0 ∧ x0 < 26) ∧ (0 ≤ x1 ∧ x1 < 26) ∧ (0 ≤ x2 ∧ x2 < 26) ∧ 0 ≤ x3 ∧ x3 < 26) := ⟨hx0, hx1, hx2, hx3⟩
  have HR : Hid (∀ o, o = .cells #[.slice none 0 0, .slice none 0 0, .slice none 0 0, .slice none 0 0] 54 → RmSt w (w.heap.size + 1 + 1) w.heap.size w5.heap.size (q4 x0 x1 x2 x3) 0 F4 (lim4 (arNew 100) x0 x1 x2 x3) (fun _ => .slice none 0 0) (fun _ => []) (w5.alloc o)) := fun o ho => by
    have hb : Below w5.heap.size w5 (w5.alloc o) := (Below.refl _ _).alloc (Nat.le_refl _) _
    have hlt := S4.lt
    subst ho
    exact {
      at_ := S4.at_.below hb
      snd := lim_sound (lim_sound (lim_sound (lim_sound (new_sound (by omega) (by omega)) hx0.1 (by show x0 ≤ 100; omega)) hx1.1 (by show x1 ≤ 100; omega)) hx2.1 (by show x2 ≤ 100; omega)) hx3.1 (by show x3 ≤ 100; omega)
      room := rfl
      lim := fun t ht => by
        match t, ht with
        | 0, _ => rfl
        | 1, _ => rfl
        | 2, _ => rfl
        | 3, _ => rfl
      rm := ⟨fun u _ => by
        show (0 : Int) ≤ qq _ u
        unfold qq q4
        split
        · split
          · exact hx0.1
          · split
            · exact hx1.1
            · split
              · exact hx2.1
              · exact hx3.1
        · exact Int.le_refl _, by rw [sum_qq]; show x0 + x1 + x2 + x3 ≤ 100; omega⟩
      qblk := (hb.block _ hlt).trans S4.qblk
      made := ⟨heap_alloc_new w5 _, fun t _ => World.ownsRow_nil _ _ _ _, fun t u _ _ _ k hk => by simp [Value.ownBlock] at hk, fun t _ => by simp [Value.ownBlock], S4.bel.size⟩
      fits := fun t _ x hx => by cases hx
      few := fun t _ => Nat.le_refl _
      fge := S4.fge
      fq := S4.fq
      fm := fun k hk => by
        rcases hk with e | ⟨t, _, e⟩
        · subst e
          exact ⟨fun hf => by have := S4.at_.flt _ hf; omega, by omega⟩
        · simp [Value.ownBlock] at e
      bel := S4.bel.trans (hb.mono S4.bel.size)
      hq := Nat.le_refl _ }
  have HR0 := HR.out _ rfl
  have HRR : Hid _ := HR0
  clear HR HR0 S4 hx0 hx1 hx2 hx3 hnew hsp hspb
  obtain ⟨N, hN⟩ : ∃ m, m = min nd 200 := ⟨_, rfl⟩
  have HND : Hid (N = min nd 200 ∧ nd = ds.length) := ⟨hN, HND0.out⟩
  have hNd : N ≤ nd := by omega
  have hN2 : N ≤ 200 := by omega
  clear hN
  go_wp2_with fail
  go_loopg [10] N (fun gh s10 wr => ∃ (i : Nat) (F : Nat → Prop) (A : Ar) (vs : Nat → Value) (M : Nat → List Int), i + gh = N ∧ s10 = .int .i64 i ∧ RmSt w (w.heap.size + 1 + 1) w.heap.size w5.heap.size (q4 x0 x1 x2 x3) i F A vs M wr)
  case atStart => exact ⟨0, _, _, _, _, by omega, rfl, HRR.out⟩
  case round =>
    obtain ⟨i, F, A, vs, M, hig, rfl, S⟩ := hrel
    have HIG : Hid (i + gk = N) := hig
    have hiN : i ≤ N := by omega
    have HS : Hid (RmSt w (w.heap.size + 1 + 1) w.heap.size w5.heap.size (q4 x0 x1 x2 x3) i F A vs M wr) := S
    clear hig S
    by_cases hlt : i < N
    · have k0 : (0 : Int) ≤ (i : Int) := by omega
      have k1 : (i : Int) < (nd : Int) := by omega
      have k2 : (i : Int) < 200 := by omega
      have hxd : ds[i]? = some (ds[i]'(by rw [← HND.out.2]; omega)) := List.getElem?_eq_getElem _
      generalize ds[i]'(by rw [← HND.out.2]; omega) = d at hxd
      obtain ⟨g, o, rfl, hg, hc⟩ := (show ∃ g o, va = some ⟨g, o, none⟩ ∧ g < w.heap.size ∧ _ from by
        rcases HROW.out with e | e
        · rw [e] at hxd; simp at hxd
        · exact e)
      obtain ⟨⟨e0, e1, e2, e3, e4, e5⟩, hfit1⟩ := hc i d hxd
      have hkc := fun j => HS.out.bel.cell (p := ⟨g, j, none⟩) hg
      have d0 := (hkc _).trans e0
      have d1 := (hkc _).trans e1
      have d2 := (hkc _).trans e2
      have d3 := (hkc _).trans e3
      have d4 := (hkc _).trans e4
      have d5 := (hkc _).trans e5
      obtain ⟨t, ht⟩ : ∃ t : Nat, (t : Int) = spotI d.t 4 := ⟨(spotI d.t 4).toNat, by have := spotI_bound d.t 4 (by omega); omega⟩
      have ht4 : t < 4 := by have := spotI_bound d.t 4 (by omega); omega
      have hsp := fun W => spot_any d.t 4 W (by omega) (by omega)
      rw [← ht] at hsp
      have HF1 : Hid (Fits d.a1) := hfit1
      clear e0 e1 e2 e3 e4 e5 hkc hxd hc ht hfit1
      go_wp2_with fail
      refine (hsp _).mono ?_
      rintro e wx ⟨rfl, rfl⟩
      clear hsp d0 d1 d2 d3 d4 d5
      have hbd : Below wr.heap.size wr ((wr.alloc (.cells #[.int .i64 d.k, .int .i64 d.t, .int .i64 d.a0, .int .i64 d.a1, .int .i64 d.a2, .int .i64 d.a3] 55)).alloc (.cells #[.int .i64 t] 3)) := ((Below.refl _ _).alloc (Nat.le_refl _) _).alloc (by simp) _
      have HD : Hid (((wr.alloc (.cells #[.int .i64 d.k, .int .i64 d.t, .int .i64 d.a0, .int .i64 d.a1, .int .i64 d.a2, .int .i64 d.a3] 55)).alloc (.cells #[.int .i64 t] 3)).heap[wr.heap.size]? = some (.cells #[.int .i64 d.k, .int .i64 d.t, .int .i64 d.a0, .int .i64 d.a1, .int .i64 d.a2, .int .i64 d.a3] 55 (0, 0))) := heap_alloc2_old wr _ _
      have HT : Hid (((wr.alloc (.cells #[.int .i64 d.k, .int .i64 d.t, .int .i64 d.a0, .int .i64 d.a1, .int .i64 d.a2, .int .i64 d.a3] 55)).alloc (.cells #[.int .i64 t] 3)).heap[wr.heap.size + 1]? = some (.cells #[.int .i64 t] 3 (0, 0))) := heap_alloc2_new wr _ _
      have HS2 : Hid (RmSt w (w.heap.size + 1 + 1) w.heap.size w5.heap.size (q4 x0 x1 x2 x3) i F A vs M ((wr.alloc (.cells #[.int .i64 d.k, .int .i64 d.t, .int .i64 d.a0, .int .i64 d.a1, .int .i64 d.a2, .int .i64 d.a3] 55)).alloc (.cells #[.int .i64 t] 3))) := HS.out.below hbd
      clear hbd
      go_upto_block 4 with fail
      generalize (wr.alloc (.cells #[.int .i64 d.k, .int .i64 d.t, .int .i64 d.a0, .int .i64 d.a1, .int .i64 d.a2, .int .i64 d.a3] 55)).alloc (.cells #[.int .i64 t] 3) = W2 at *
      go_cut [15] from 69 to 147 (fun s15 wc => ∃ (fv : Int) (F' : Nat → Prop) (A' : Ar) (vs' : Nat → Value) (M' : Nat → List Int), s15 = .int .i64 fv ∧ fv ≠ 5 ∧ RmSt w (w.heap.size + 1 + 1) w.heap.size w5.heap.size (q4 x0 x1 x2 x3) (i + 1) F' A' vs' M' wc ∧ wc.cell? ⟨wr.heap.size + 1, 0, none⟩ = some (.int .i64 t))
      case first =>
        have HFD : Hid (¬ F wr.heap.size ∧ ¬ F (wr.heap.size + 1)) := ⟨fun hf => by have := HS.out.at_.flt _ hf; omega, fun hf => by have := HS.out.at_.flt _ hf; omega⟩
        have HLT : Hid (wr.heap.size < W2.heap.size ∧ wr.heap.size + 1 < W2.heap.size) := ⟨(Array.getElem?_eq_some_iff.1 HD.out).1, (Array.getElem?_eq_some_iff.1 HT.out).1⟩
        have HKP : Hid (∀ A' W', Led W2.drew (w.heap.size + 1 + 1) F A' W' → W'.heap[wr.heap.size]? = W2.heap[wr.heap.size]? ∧ W'.heap[wr.heap.size + 1]? = W2.heap[wr.heap.size + 1]?) := fun A' W' hl => by
          obtain ⟨_, _, _, P⟩ := hl
          exact ⟨P.block _ HLT.out.1 HFD.out.1, P.block _ HLT.out.2 HFD.out.2⟩
        have HKQ : Hid (∀ A' W', Led W2 (w.heap.size + 1 + 1) F A' W' → W'.heap[wr.heap.size + 1]? = W2.heap[wr.heap.size + 1]?) := fun A' W' hl => by
          obtain ⟨_, _, _, P⟩ := hl
          exact P.block _ HLT.out.2 HFD.out.2
        have HVB : Hid ((∀ u, u < 4 → ∀ k, (vs u).ownBlock = some k → k < wr.heap.size) ∧ w5.heap.size < wr.heap.size) := ⟨fun u hu k hk => ((HS.out.made.row u hu).lt k hk).2, (HS.out.made.lt (.inl rfl)).2⟩
        have d2 := Lib.cell_of_heap HD.out 2
        have d3 := Lib.cell_of_heap HD.out 3
        have d4 := Lib.cell_of_heap HD.out 4
        have d5 := Lib.cell_of_heap HD.out 5
        have dt := Lib.cell_of_heap HT.out 0
        simp only [List.getElem?_toArray, List.getElem?_cons_zero, List.getElem?_cons_succ] at d2 d3 d4 d5 dt
        have hid := fun n => roomId_any t n w.heap.size w5.heap.size (wr.heap.size + 1) vs M W2.drew HS2.out.drew.made ht4 (by have := HS2.out.few t ht4; omega) dt
        have hfi := fun n => idOf_fits (HS2.out.fits t ht4) n
        have hlimq : A.lim t ≤ qq (q4 x0 x1 x2 x3) t := by unfold qq; rw [if_pos ht4]; exact Int.le_of_eq (HS2.out.lim t ht4)
        have HLQ : Hid (A.lim t ≤ qq (q4 x0 x1 x2 x3) t) := hlimq
        have t0 : (0 : Int) ≤ (t : Int) := by omega
        have t1 : (t : Int) < 4 := by omega
        clear hlimq
        generalize d.k = kk at *
        by_cases n1 : kk = 1
        · subst n1
          have hj := joinP_any (w.heap.size + 1 + 1) t (idOf (M t) d.a0) (idOf (M t) d.a1) (idOf (M t) d.a2) (idOf (M t) d.a3) F A W2.drew HS2.out.drew.at_ HS2.out.snd (by omega) (hfi _) (hfi _) (hfi _) (hfi _)
          have HJ : Hid (Sound (A.joinP t (idOf (M t) d.a0) (idOf (M t) d.a1) (idOf (M t) d.a2) (idOf (M t) d.a3)).1 ∧ (A.joinP t (idOf (M t) d.a0) (idOf (M t) d.a1) (idOf (M t) d.a2) (idOf (M t) d.a3)).2.2 ≠ 5 ∧ Roomy (A.joinP t (idOf (M t) d.a0) (idOf (M t) d.a1) (idOf (M t) d.a2) (idOf (M t) d.a3)).1 (qq (q4 x0 x1 x2 x3)) ∧ ((A.joinP t (idOf (M t) d.a0) (idOf (M t) d.a1) (idOf (M t) d.a2) (idOf (M t) d.a3)).1.lim = A.lim ∧ (A.joinP t (idOf (M t) d.a0) (idOf (M t) d.a1) (idOf (M t) d.a2) (idOf (M t) d.a3)).1.room = A.room) ∧ Fits (A.joinP t (idOf (M t) d.a0) (idOf (M t) d.a1) (idOf (M t) d.a2) (idOf (M t) d.a3)).2.1) :=
            ⟨join_sound HS2.out.snd (by omega) (hfi _) (hfi _) (hfi _) (hfi _), join_full HS2.out.snd HS2.out.rm (by omega) HLQ.out, join_roomy HS2.out.rm HLQ.out, join_rest _ _ _ _ _ _, join_fits HS2.out.snd⟩
          unfold quad4 JoinPOut at hj
          have hi0 := hid d.a0
          have hi1 := hid d.a1
          have hi2 := hid d.a2
          have hi3 := hid d.a3
          generalize idOf (M t) d.a0 = j0 at *
          generalize idOf (M t) d.a1 = j1 at *
          generalize idOf (M t) d.a2 = j2 at *
          generalize idOf (M t) d.a3 = j3 at *
          generalize A.joinP t j0 j1 j2 j3 = J at *
          obtain ⟨A5, id5, er⟩ := J
          simp only at hj HJ
          clear hid hfi
          have HKC : Hid (∀ A' W', Led W2.drew (w.heap.size + 1 + 1) F A' W' → W'.cell? ⟨wr.heap.size + 1, 0, none⟩ = some (.int .i64 t) ∧ W'.cell? ⟨wr.heap.size, 2, none⟩ = some (.int .i64 d.a0) ∧ W'.cell? ⟨wr.heap.size, 3, none⟩ = some (.int .i64 d.a1) ∧ W'.cell? ⟨wr.heap.size, 4, none⟩ = some (.int .i64 d.a2) ∧ W'.cell? ⟨wr.heap.size, 5, none⟩ = some (.int .i64 d.a3)) := fun A' W' hl => by
            obtain ⟨k1, k2⟩ := HKP.out A' W' hl
            have kd := k1.trans HD.out
            have kt := k2.trans HT.out
            exact ⟨Lib.cell_of_heap kt 0, Lib.cell_of_heap kd 2, Lib.cell_of_heap kd 3, Lib.cell_of_heap kd 4, Lib.cell_of_heap kd 5⟩
          go_wp2_with fail
          go_region_held3 (fun w' => w'.cell? ⟨wr.heap.size + 1, 0, none⟩ = some (.int .i64 t) ∧ w'.cell? ⟨wr.heap.size, 2, none⟩ = some (.int .i64 d.a0) ∧ w'.cell? ⟨wr.heap.size, 3, none⟩ = some (.int .i64 d.a1) ∧ w'.cell? ⟨wr.heap.size, 4, none⟩ = some (.int .i64 d.a2) ∧ w'.cell? ⟨wr.heap.size, 5, none⟩ = some (.int .i64 d.a3)) (first | exact ⟨dt, d2, d3, d4, d5⟩ | exact HKC.out _ _ hled5) ((first
            | (go_at_call_of 16 (Value.int IntKind.i64 d.a0); refine hi0.mono ?_; rintro e wq ⟨rfl, rfl⟩)
            | (go_at_call_of 16 (Value.int IntKind.i64 d.a1); refine hi1.mono ?_; rintro e wq ⟨rfl, rfl⟩)
            | (go_at_call_of 16 (Value.int IntKind.i64 d.a2); refine hi2.mono ?_; rintro e wq ⟨rfl, rfl⟩)
            | (go_at_call_of 16 (Value.int IntKind.i64 d.a3); refine hi3.mono ?_; rintro e wq ⟨rfl, rfl⟩)
            | (go_at_call 17; refine hj.mono ?_; rintro e w6 ⟨rfl, hled5⟩)))
          obtain ⟨F6, S6⟩ := HS2.out.drew.led hled5 HJ.out.1 HJ.out.2.2.2.1.1 HJ.out.2.2.2.1.2 HJ.out.2.2.1
          have dt6 := (HKC.out _ _ hled5).1
          have HS6 : Hid (RmSt w (w.heap.size + 1 + 1) w.heap.size w5.heap.size (q4 x0 x1 x2 x3) i F6 A5 vs M w6) := S6
          clear hled5 S6 hi0 hi1 hi2 hi3 hj dt d2 d3 d4 d5 HKC HKP HKQ HD HT HS HS2
          by_cases hE : er = 0
          · subst hE
            have hcm := HS6.out.made.cell ht4
            have hrow := HS6.out.made.row t ht4
            have hmlt := (HS6.out.made.lt (.inl rfl)).2
            have hfew := HS6.out.few t ht4
            have hvm := HS6.out.made.ne t ht4
            obtain ⟨vt, hvt⟩ : ∃ x, x = vs t := ⟨_, rfl⟩
            rw [← hvt] at hcm hrow hvm
            obtain ⟨hc6, hz6⟩ := hcm
            have HVT : Hid (vt = vs t) := hvt
            obtain ⟨lm, hlm⟩ : ∃ x, x = (M t).length := ⟨_, rfl⟩
            rw [← hlm] at hrow hfew
            have HLM : Hid (lm = (M t).length) := hlm
            obtain ⟨i0, hi, hz0, hz1, hz2⟩ := info_parts Try.info3
            have OW : Hid (∀ o, (w6.alloc o).drew.ownsRow w.heap.size 3 1 vt lm ((M t).map (Value.int .i64))) := fun o => World.ownsRow.alloc hrow o
            have htl : wr.heap.size + 1 < w6.heap.size := cell_lt dt6
            have hTB : vt.ownBlock ≠ some (wr.heap.size + 1) := fun e => by have := HVB.out.1 t ht4 _ (by rw [← HVT.out]; exact e); omega
            have hmt : w5.heap.size ≠ wr.heap.size + 1 := by have := HVB.out.2; omega
            have HSM : Hid (lm < 200 ∧ w.heap.size ≤ w6.heap.size) := ⟨by omega, HS6.out.bel.size⟩
            have HPU : Hid (∀ (g7 cap7 : Nat) (w7 : World) (o : Obj), w7.ownsRow w.heap.size 3 1 (.slice (some ⟨g7, 0, none⟩) (lm + 1) cap7) (lm + 1) ((M t).map (Value.int .i64) ++ [.int .i64 id5]) → (w6.alloc o).drew.grownBy w7 vt.ownBlock → (vt.ownBlock = some g7 ∨ g7 = (w6.alloc o).drew.heap.size) → w7.cell? ⟨wr.heap.size + 1, 0, none⟩ = some (.int .i64 t) →
                ∃ (F' : Nat → Prop) (A' : Ar) (vs' : Nat → Value) (M' : Nat → List Int), RmSt w (w.heap.size + 1 + 1) w.heap.size w5.heap.size (q4 x0 x1 x2 x3) (i + 1) F' A' vs' M' (w7.setCell ⟨w5.heap.size, t, none⟩ (.slice (some ⟨g7, 0, none⟩) (lm + 1) cap7)) ∧ (w7.setCell ⟨w5.heap.size, t, none⟩ (.slice (some ⟨g7, 0, none⟩) (lm + 1) cap7)).cell? ⟨wr.heap.size + 1, 0, none⟩ = some (.int .i64 t)) := fun g7 cap7 w7 o ho hg ha hq => by
              have e1 := HLM.out
              have e2 := HVT.out
              subst e1 e2
              have hs : w6.heap.size + 1 ≤ w7.heap.size := by have := hg.size; simpa using this
              refine ⟨F6, A5, _, _, HS6.out.push ht4 HJ.out.2.2.2.2 (W' := w7) (g := g7) (c2 := cap7) (by rw [List.map_append]; exact ho) ?_ (by omega) (fun k hk _ hne => grown_blk hg hk hne) ⟨hg.os, hg.tape, hg.output⟩, ?_⟩
              · rcases ha with e | e
                · exact .inl e
                · exact .inr (by rw [e]; simp)
              · exact (World.cell?_of_block (w := w7) (a := ⟨wr.heap.size + 1, 0, none⟩) (heap_set (fun e => hmt e.symm))).trans hq
            clear hvt hlm hrow
            go_wp2_with fail
            go_region_law (refine step_append_lies _ (by rfl) _ _ 31 (by rfl) w.heap.size 3 i0 (.int .i64 0) 1 8 Try.underlying31 hi hz0 hz1 hz2 rfl (by decide) vt lm ((M t).map (Value.int .i64)) (by rfl) (OW.out _) ⟨w6.heap.size, 0, none⟩ 1 1 [.int .i64 id5] (by rfl) rfl (cell_one_new _ _ _) (by intro u hu; simp at hu; subst hu; rfl) (by omega) (by have := HSM.out.1; unfold maxLen; omega) (by have := HSM.out.1; omega) (by have := HSM.out.2; simp; omega) _ rfl ?_; intro g7 cap7 w7 hown7 hgrow7 hat7 hlt7; have bm := grown_blk hgrow7 hmlt hvm; have bt := grown_blk hgrow7 htl hTB; have q4 := (World.cell?_of_block (w := w6) (a := ⟨w5.heap.size, t, none⟩) bm).trans hc6; have q5 := (World.frozen?_of_block (w := w6) (a := ⟨w5.heap.size, t, none⟩) bm).trans hz6; have q6 := (World.cell?_of_block (w := w6) (a := ⟨wr.heap.size + 1, 0, none⟩) bt).trans dt6)
            all_goals
              obtain ⟨F', A', vs', M', hR9, hT9⟩ := HPU.out _ _ _ _ hown7 hgrow7 hat7 q6
              clear hown7 hgrow7 hat7 bm bt q4 q5 q6
              go_wp2_with fail
              go_meet
              case rel => exact ⟨0, F', A', vs', M', rfl, by decide, hR9, hT9⟩
          · have hE' : (er == 0) = false := by simpa using hE
            go_wp2_with fail
            go_meet
            case rel => exact ⟨er, F6, A5, vs, M, rfl, HJ.out.2.1, HS6.out.up, dt6⟩
        have m1 : (kk == 1) = false := by simpa using n1
        by_cases n2 : kk = 2
        · subst n2
          have ft : Fits (t : Int) := ⟨by omega, by omega⟩
          have hnt := noteP_any (w.heap.size + 1 + 1) t F (idOf (M t) d.a0) t d.a1 (idOf (M t) d.a0) A W2.drew HS2.out.drew.at_ HS2.out.snd (by omega) (hfi _) ft HF1.out (hfi _)
          have HJ : Hid (Sound (A.noteP t (idOf (M t) d.a0) t d.a1 (idOf (M t) d.a0)).1 ∧ (A.noteP t (idOf (M t) d.a0) t d.a1 (idOf (M t) d.a0)).2 ≠ 5 ∧ Roomy (A.noteP t (idOf (M t) d.a0) t d.a1 (idOf (M t) d.a0)).1 (qq (q4 x0 x1 x2 x3)) ∧ (A.noteP t (idOf (M t) d.a0) t d.a1 (idOf (M t) d.a0)).1.lim = A.lim ∧ (A.noteP t (idOf (M t) d.a0) t d.a1 (idOf (M t) d.a0)).1.room = A.room) :=
            ⟨note_sound HS2.out.snd (by omega) (hfi _) ft HF1.out (hfi _), note_full HS2.out.snd HS2.out.rm (by omega) HLQ.out, note_roomy HS2.out.rm HLQ.out, note_rest _ _ _ _ _ _⟩
          unfold NoteOut at hnt
          have hi0 := hid d.a0
          generalize idOf (M t) d.a0 = j0 at *
          generalize A.noteP t j0 t d.a1 j0 = J at *
          obtain ⟨A5, er⟩ := J
          simp only at hnt HJ
          clear hid hfi ft m1
          have HKC : Hid (∀ A' W', Led W2.drew (w.heap.size + 1 + 1) F A' W' → W'.cell? ⟨wr.heap.size + 1, 0, none⟩ = some (.int .i64 t) ∧ W'.cell? ⟨wr.heap.size, 2, none⟩ = some (.int .i64 d.a0) ∧ W'.cell? ⟨wr.heap.size, 3, none⟩ = some (.int .i64 d.a1)) := fun A' W' hl => by
            obtain ⟨k1, k2⟩ := HKP.out A' W' hl
            have kd := k1.trans HD.out
            have kt := k2.trans HT.out
            exact ⟨Lib.cell_of_heap kt 0, Lib.cell_of_heap kd 2, Lib.cell_of_heap kd 3⟩
          go_wp2_with fail
          go_region_held3 (fun w' => w'.cell? ⟨wr.heap.size + 1, 0, none⟩ = some (.int .i64 t) ∧ w'.cell? ⟨wr.heap.size, 2, none⟩ = some (.int .i64 d.a0) ∧ w'.cell? ⟨wr.heap.size, 3, none⟩ = some (.int .i64 d.a1)) (first | exact ⟨dt, d2, d3⟩ | exact HKC.out _ _ hled5) ((first
            | (go_at_call 16; refine hi0.mono ?_; rintro e wq ⟨rfl, rfl⟩)
            | (go_at_call 18; refine hnt.mono ?_; rintro e w6 ⟨rfl, hled5⟩)))
          obtain ⟨F6, S6⟩ := HS2.out.drew.led hled5 HJ.out.1 HJ.out.2.2.2.1 HJ.out.2.2.2.2 HJ.out.2.2.1
          have dt6 := (HKC.out _ _ hled5).1
          have HS6 : Hid (RmSt w (w.heap.size + 1 + 1) w.heap.size w5.heap.size (q4 x0 x1 x2 x3) i F6 A5 vs M w6) := S6
          clear hled5 S6 hi0 hnt dt d2 d3 d4 d5 HKC HKP HKQ HD HT HS HS2
          go_wp2_with fail
          go_meet
          case rel => exact ⟨er, F6, A5, vs, M, rfl, HJ.out.2.1, HS6.out.up, dt6⟩
        have m2 : (kk == 2) = false := by simpa using n2
        by_cases n3 : kk = 3
        · subst n3
          have hmk := markP_any (w.heap.size + 1 + 1) t F A W2 HS2.out.at_ (by omega)
          clear hid hfi m1 m2
          go_wp2_with fail
          refine hmk.mono ?_
          rintro e w6 ⟨rfl, hled5⟩
          obtain ⟨F6, S6⟩ := HS2.out.led hled5 (mark_sound HS2.out.snd (by omega)) (lose_rest _ _ _ _).1 (lose_rest _ _ _ _).2 (lose_roomy _ _ HS2.out.rm)
          have dt6 : w6.cell? ⟨wr.heap.size + 1, 0, none⟩ = some (.int .i64 t) := Lib.cell_of_heap ((HKQ.out _ _ hled5).trans HT.out) 0
          have HS6 : Hid (RmSt w (w.heap.size + 1 + 1) w.heap.size w5.heap.size (q4 x0 x1 x2 x3) i F6 (A.lose t [] []) vs M w6) := S6
          clear hled5 S6 hmk dt d2 d3 d4 d5 HKP HKQ HD HT HS HS2
          go_wp2_with fail
          go_meet
          case rel => exact ⟨0, F6, _, vs, M, rfl, by decide, HS6.out.up, dt6⟩
        have m3 : (kk == 3) = false := by simpa using n3
        by_cases n4 : kk = 4
        · subst n4
          have hun := undoP_any (w.heap.size + 1 + 1) t F A W2 HS2.out.at_ HS2.out.snd (by omega)
          clear hid hfi m1 m2 m3
          go_wp2_with fail
          refine hun.mono ?_
          rintro e w6 ⟨rfl, hled5⟩
          obtain ⟨F6, S6⟩ := HS2.out.led hled5 (undo_sound HS2.out.snd (by omega)) (lose_rest _ _ _ _).1 (lose_rest _ _ _ _).2 (lose_roomy _ _ HS2.out.rm)
          have dt6 : w6.cell? ⟨wr.heap.size + 1, 0, none⟩ = some (.int .i64 t) := Lib.cell_of_heap ((HKQ.out _ _ hled5).trans HT.out) 0
          have HS6 : Hid (RmSt w (w.heap.size + 1 + 1) w.heap.size w5.heap.size (q4 x0 x1 x2 x3) i F6 (A.lose t (A.fresh t) []) vs M w6) := S6
          clear hled5 S6 hun dt d2 d3 d4 d5 HKP HKQ HD HT HS HS2
          go_wp2_with fail
          go_meet
          case rel => exact ⟨0, F6, _, vs, M, rfl, by decide, HS6.out.up, dt6⟩
        have m4 : (kk == 4) = false := by simpa using n4
        by_cases n5 : kk = 5
        · subst n5
          have hi0 := hid d.a0
          have hf0 := hfi d.a0
          generalize idOf (M t) d.a0 = j0 at *
          have hbO : Below W2.drew.heap.size W2.drew (W2.drew.alloc (.cells #[.int .i64 j0] 3)) := (Below.refl _ _).alloc (Nat.le_refl _) _
          have hSO := HS2.out.drew.below hbO
          have hTO : (W2.drew.alloc (.cells #[.int .i64 j0] 3)).heap[wr.heap.size + 1]? = some (.cells #[.int .i64 t] 3 (0, 0)) := (hbO.block _ HLT.out.2).trans HT.out
          have hDO : (W2.drew.alloc (.cells #[.int .i64 j0] 3)).heap[wr.heap.size]? = _ := (hbO.block _ HLT.out.1).trans HD.out
          have hcl := cleanP_any (w.heap.size + 1 + 1) t F A [j0] (.slice (some ⟨W2.drew.heap.size, 0, none⟩) 1 1) (W2.drew.alloc (.cells #[.int .i64 j0] 3)) hSO.at_ hSO.snd (by omega) ⟨_, _, rfl, .inr ⟨_, _, rfl, by simp, fun k x hk => by
            match k, hk with
            | 0, hk => simp at hk; subst hk; simp [go_sem]⟩⟩ (by simp) (fun id hid => by simp at hid; subst hid; exact hf0)
          have HSO : Hid (RmSt w (w.heap.size + 1 + 1) w.heap.size w5.heap.size (q4 x0 x1 x2 x3) i F A vs M (W2.drew.alloc (.cells #[.int .i64 j0] 3))) := hSO
          have HKC : Hid (∀ A' W', Led (W2.drew.alloc (.cells #[.int .i64 j0] 3)) (w.heap.size + 1 + 1) F A' W' → W'.cell? ⟨wr.heap.size + 1, 0, none⟩ = some (.int .i64 t) ∧ W'.cell? ⟨wr.heap.size, 2, none⟩ = some (.int .i64 d.a0)) := fun A' W' hl => by
            obtain ⟨_, _, _, P⟩ := hl
            have kt := (P.block _ (Array.getElem?_eq_some_iff.1 hTO).1 HFD.out.2).trans hTO
            have kd := (P.block _ (Array.getElem?_eq_some_iff.1 hDO).1 HFD.out.1).trans hDO
            exact ⟨Lib.cell_of_heap kt 0, Lib.cell_of_heap kd 2⟩
          have HKO : Hid ((W2.drew.alloc (.cells #[.int .i64 j0] 3)).cell? ⟨wr.heap.size + 1, 0, none⟩ = some (.int .i64 t) ∧ (W2.drew.alloc (.cells #[.int .i64 j0] 3)).cell? ⟨wr.heap.size, 2, none⟩ = some (.int .i64 d.a0)) := ⟨Lib.cell_of_heap hTO 0, Lib.cell_of_heap hDO 2⟩
          clear hid hfi m1 m2 m3 m4 hbO hSO hTO hDO hf0
          go_wp2_with fail
          go_region_held3 (fun w' => w'.cell? ⟨wr.heap.size + 1, 0, none⟩ = some (.int .i64 t) ∧ w'.cell? ⟨wr.heap.size, 2, none⟩ = some (.int .i64 d.a0)) (first | exact ⟨dt, d2⟩ | exact HKO.out | exact HKC.out _ _ hled5) ((first
            | (go_at_call 16; refine hi0.mono ?_; rintro e wq ⟨rfl, rfl⟩)
            | (go_at_call 21; refine hcl.mono ?_; rintro e w6 ⟨rfl, hled5⟩)))
          all_goals
            obtain ⟨F6, S6⟩ := HSO.out.led hled5 (clean_sound HSO.out.snd (by omega) _) (lose_rest _ _ _ _).1 (lose_rest _ _ _ _).2 (lose_roomy _ _ HSO.out.rm)
            have dt6 := (HKC.out _ _ hled5).1
            have HS6 : Hid (RmSt w (w.heap.size + 1 + 1) w.heap.size w5.heap.size (q4 x0 x1 x2 x3) i F6 (A.cleanP t [j0]) vs M w6) := S6
            clear hled5 S6 hi0 hcl dt d2 d3 d4 d5 HKC HKP HKQ HD HT HS HS2 HSO HKO
            go_wp2_with fail
            go_meet
            case rel => exact ⟨0, F6, _, vs, M, rfl, by decide, HS6.out.up, dt6⟩
        have m5 : (kk == 5) = false := by simpa using n5
        clear hid hfi
        go_wp2_with fail
        go_meet
        case rel => exact ⟨0, F, A, vs, M, rfl, by decide, HS2.out.up, dt⟩
      case rest =>
        obtain ⟨fv, F', A', vs', M', rfl, hfv, S9, hct⟩ := hcut
        have HS9 : Hid (RmSt w (w.heap.size + 1 + 1) w.heap.size w5.heap.size (q4 x0 x1 x2 x3) (i + 1) F' A' vs' M' wc) := S9
        obtain ⟨cn, hcn⟩ : ∃ x, x = A'.cnt t := ⟨_, rfl⟩
        obtain ⟨qt, hqt⟩ : ∃ x, x = q4 x0 x1 x2 x3 t := ⟨_, rfl⟩
        obtain ⟨lv, hlv⟩ : ∃ x, x = (liveN A'.ths : Int) := ⟨_, rfl⟩
        have hcq : cn ≤ qt := by
          have := S9.rm.le t (by omega)
          unfold qq at this
          rw [if_pos ht4] at this
          omega
        have hlv1 : lv ≤ 100 := by
          have h1 := S9.snd.len
          rw [S9.room] at h1
          have h2 := free_live A'.ths
          omega
        have hcnt := fun k => countP_any (w.heap.size + 1 + 1) t F' A' (wc.drewN k) (S9.at_.drewN k) (by omega)
        have hlive := fun k => liveP_any (w.heap.size + 1 + 1) F' A' (wc.drewN k) (S9.at_.drewN k) S9.snd
        have hcq2 := S9.qcell ht4
        rw [← hcn] at hcnt
        rw [← hlv] at hlive
        rw [← hqt] at hcq2
        have t0 : (0 : Int) ≤ (t : Int) := by omega
        have t1 : (t : Int) < 4 := by omega
        clear hcn hqt hlv S9 HS HS2 HD HT
        go_wp2_with fail
        have g1 : (fv == 5) = false := by simpa using hfv
        have g2 : decide (qt < cn) = false := by simpa using hcq
        have g3 : decide (100 < lv) = false := by simpa using hlv1
        go_quiet ((first | (go_at_call 22; exact Calls.quiet_of_same (hcnt _)) | (go_at_call 9; exact Calls.quiet_of (hlive _))))
        go_wp2_with fail
        go_roundg (gk - 1)
        case measure => have := HIG.out; omega
        case rel => exact ⟨i + 1, F', A', vs', M', by have := HIG.out; omega, by go_num, HS9.out.below ⟨rfl, rfl, rfl, Nat.le_refl _, fun _ _ => rfl⟩⟩
    · have S := HS.out
      have hb := HX.out
      have hr0 := S.rm.le 0 (by omega)
      have hr1 := S.rm.le 1 (by omega)
      have hr2 := S.rm.le 2 (by omega)
      have hr3 := S.rm.le 3 (by omega)
      have hr0 : A.cnt 0 ≤ x0 := hr0
      have hr1 : A.cnt 1 ≤ x1 := hr1
      have hr2 : A.cnt 2 ≤ x2 := hr2
      have hr3 : A.cnt 3 ≤ x3 := hr3
      have p0 : 0 ≤ A.cnt 0 := by rw [S.snd.cnt 0 (by omega)]; omega
      have p1 : 0 ≤ A.cnt 1 := by rw [S.snd.cnt 1 (by omega)]; omega
      have p2 : 0 ≤ A.cnt 2 := by rw [S.snd.cnt 2 (by omega)]; omega
      have p3 : 0 ≤ A.cnt 3 := by rw [S.snd.cnt 3 (by omega)]; omega
      have hl4 := live_four S.snd S.rm
      have c0 := countP_any (w.heap.size + 1 + 1) 0 F A wr S.at_ (by omega)
      have c1 := countP_any (w.heap.size + 1 + 1) 1 F A wr S.at_ (by omega)
      have c2 := countP_any (w.heap.size + 1 + 1) 2 F A wr S.at_ (by omega)
      have c3 := countP_any (w.heap.size + 1 + 1) 3 F A wr S.at_ (by omega)
      have hsw := sweepP_any (w.heap.size + 1 + 1) F A wr S.at_ S.snd
      have HLV : Hid (∀ W F', AtP W (w.heap.size + 1 + 1) F' A.swept → _) := fun W F' hW => liveP_any (w.heap.size + 1 + 1) F' A.swept W hW (swept_sound S.snd)
      have HEND : Hid (∀ W k, Led wr (w.heap.size + 1 + 1) F A.swept W → Below w.heap.size w (W.drewN k)) := fun W k hW => by
        obtain ⟨F', S'⟩ := S.led hW (swept_sound S.snd) rfl rfl ⟨S.rm.le, S.rm.sum⟩
        exact ⟨S'.bel.os, S'.bel.tape, S'.bel.output, S'.bel.size, S'.bel.block⟩
      generalize (liveN A.swept.ths : Int) = lv at *
      generalize A.cnt 0 = n0 at *
      generalize A.cnt 1 = n1 at *
      generalize A.cnt 2 = n2 at *
      generalize A.cnt 3 = n3 at *
      have hg1 : lv ≤ n0 + n1 + n2 + n3 := hl4
      have hg2 : n0 + n1 + n2 + n3 ≤ x0 + x1 + x2 + x3 := by omega
      clear S hl4
      have hnn := HND.out.1
      have hcase : (¬ (i : Int) < (nd : Int)) ∨ ((i : Int) < (nd : Int) ∧ ¬ (i : Int) < 200) := by omega
      clear hnn
      rcases hcase with hc | ⟨hc, hc2⟩
      all_goals
        go_wp2_with fail
        refine wp_loop_rounds 5 ?_
        rw [rounds_succ]
        go_wp2_with fail
        refine c0.mono ?_
        rintro e wq ⟨rfl, hw⟩
        have hw' := hw.symm
        subst hw'
        clear hw
        go_wp2_with fail
        rw [rounds_succ]
        go_wp2_with fail
        refine c1.mono ?_
        rintro e wq ⟨rfl, hw⟩
        have hw' := hw.symm
        subst hw'
        clear hw
        go_wp2_with fail
        rw [rounds_succ]
        go_wp2_with fail
        refine c2.mono ?_
        rintro e wq ⟨rfl, hw⟩
        have hw' := hw.symm
        subst hw'
        clear hw
        go_wp2_with fail
        rw [rounds_succ]
        go_wp2_with fail
        refine c3.mono ?_
        rintro e wq ⟨rfl, hw⟩
        have hw' := hw.symm
        subst hw'
        clear hw c0 c1 c2 c3
        go_wp2_with fail
        rw [rounds_succ]
        go_wp2_with fail
        refine hsw.mono ?_
        rintro e w8 ⟨rfl, hled⟩
        have HLED : Hid _ := hled
        obtain ⟨F8, _, A8, _⟩ := hled
        clear hsw
        go_wp2_with fail
        refine (HLV.out _ _ A8).mono ?_
        rintro e w9 ⟨rfl, k, rfl⟩
        clear A8
        go_wp2_with fail
        go_ret
        exact ⟨rfl, HEND.out _ _ HLED.out⟩
end Go.Proofs.Ytfogedmghhacdaa.A
