/- ArenaAlone: played. -/
import Derived.Test.YtfogedmghhacdaaArAlSt
import Derived.Test.YtfogedmghhacdaaArRoomLaw
namespace Go.Proofs.Ytfogedmghhacdaa.A
open Go.RowKit Go.Maps

/-- the run after so many deeds -/
def runI (me : Nat) (all : Bool) (ds : List Dd) (i : Nat) : Rn := (ds.take i).foldl (Rn.go me all) Rn.start
theorem runI_zero (me : Nat) (all : Bool) (ds : List Dd) : runI me all ds 0 = Rn.start := by unfold runI; rw [List.take_zero]; rfl
theorem runI_succ {me : Nat} {all : Bool} {ds : List Dd} {i : Nat} {d : Dd} (h : ds[i]? = some d) : runI me all ds (i + 1) = (runI me all ds i).go me all d := by
  unfold runI
  rw [List.take_add_one, h, Option.toList_some, List.foldl_append]
  rfl
theorem runI_ok (me : Nat) (all : Bool) (ds : List Dd) (i : Nat) : (runI me all ds i).Ok := by
  unfold runI
  have : ∀ (l : List Dd) (S : Rn), S.Ok → (l.foldl (Rn.go me all) S).Ok := fun l => by
    induction l with
    | nil => exact fun S h => h
    | cons d l ih => exact fun S h => ih _ (h.go me all d)
  exact this _ _ start_ok
/-- while limits are laid -/
structure BSt (w : World) (b : Nat) (F : Nat → Prop) (A : Ar) (W : World) : Prop where
  at_ : AtP W b F A
  fge : ∀ k, F k → w.heap.size ≤ k
  bel : Below w.heap.size w W
theorem BSt.led {w W W' : World} {b : Nat} {F : Nat → Prop} {A A' : Ar} (h : BSt w b F A W) (hl : Led W b F A' W') : ∃ F', BSt w b F' A' W' := by
  obtain ⟨F', h1, h2, P⟩ := hl
  refine ⟨F', h2, fun k hk => ?_, ⟨P.os.trans h.bel.os, P.tape.trans h.bel.tape, P.output.trans h.bel.output, Nat.le_trans h.bel.size P.size, fun k hk => (P.block k (Nat.lt_of_lt_of_le hk h.bel.size) fun hf => by have := h.fge k hf; omega).trans (h.bel.block k hk)⟩⟩
  rcases h1 k hk with e | e
  · exact h.fge k e
  · exact Nat.le_trans h.bel.size e
theorem BSt.start {w W : World} {b : Nat} {F : Nat → Prop} (h : BSt w b F arBeg W) : PlSt w b W.heap.size 0 F Rn.start (fun _ => .slice none 0 0) (.slice none 0 0) (W.alloc (.cells #[.slice none 0 0, .slice none 0 0, .slice none 0 0, .slice none 0 0] 54)) := by
  have hb : Below W.heap.size W (W.alloc (.cells #[.slice none 0 0, .slice none 0 0, .slice none 0 0, .slice none 0 0] 54)) := (Below.refl _ _).alloc (Nat.le_refl _) _
  refine ⟨h.at_.below hb, ⟨heap_alloc_new W _, fun t _ => World.ownsRow_nil _ _ _ _, fun t u _ _ _ k hk => by simp [Value.ownBlock] at hk, fun t _ => by simp [Value.ownBlock], h.bel.size⟩, fun t _ => Nat.le_refl _, World.ownsRow_nil _ _ _ _, Nat.le_refl _, h.fge, fun k hk => ?_, fun k hk => by simp [Value.ownBlock] at hk, h.bel.trans (hb.mono h.bel.size)⟩
  rcases hk with e | ⟨t, _, e⟩
  · subst e
    exact fun hf => by have := h.at_.flt _ hf; omega
  · simp [Value.ownBlock] at e

theorem still_succ {A : Ar} {t j : Nat} {M : List Int} {x : Int} (h : M[j]? = some x) : still A t (M.take (j + 1)) = still A t (M.take j) ++ (if (levelF A.ths t x).isSome = true then [x] else []) := by
  unfold still
  rw [List.take_add_one, h, Option.toList_some, List.filter_append]
  congr 1
  cases hl : (levelF A.ths t x).isSome <;> simp [hl]
theorem row_slice {w : World} {B m k : Nat} {v : Value} {n : Nat} {l : List Value} (h : w.ownsRow B m k v n l) : ∃ a c, v = .slice a n c ∧ (n = 0 ∨ ∃ g, a = some ⟨g, 0, none⟩) := by
  rcases h.2 with ⟨h1, h2⟩ | ⟨g, cap, cur, h1, _⟩
  · exact ⟨none, 0, by rw [h1, h2], .inl h2⟩
  · exact ⟨_, _, h1, .inr ⟨g, rfl⟩⟩
theorem row_base {w : World} {B C m k : Nat} {v : Value} {n : Nat} {l : List Value} (h : w.ownsRow B m k v n l) (hc : C ≤ B) : w.ownsRow C m k v n l := by
  refine ⟨h.1, ?_⟩
  rcases h.2 with e | ⟨g, cap, cur, h1, h2, h3⟩
  · exact .inl e
  · exact .inr ⟨g, cap, cur, h1, Nat.le_trans hc h2, h3⟩
theorem cell_three_new (w : World) (x y z : Value) (t : TypeId) : ∀ j u, [x, y, z][j]? = some u → (w.alloc (.cells #[x, y, z] t)).cell? ((⟨w.heap.size, 0, none⟩ : Addr).add j) = some u :=
  World.news_of_block (heap_alloc_new w (.cells #[x, y, z] t))
theorem runI_past {me : Nat} {all : Bool} {ds : List Dd} {i : Nat} (h : i = min ds.length 150) : runI me all ds i = runI me all ds 150 := by
  unfold runI
  by_cases e : ds.length ≤ 150
  · rw [List.take_of_length_le (by omega), List.take_of_length_le e]
  · rw [show i = 150 by omega]

set_option maxRecDepth 20000 in
set_option maxHeartbeats 8000000 in
theorem played_any (v : Value) (ds : List Dd) (me : Nat) (all : Bool) (w : World) (h : DRow w v ds) (hme : me < 4) :
    Calls Try.prog 14 #[v, .int .i64 me, .bool all] w fun e w' => ∃ tv, e = .returned (.tuple #[tv, .bool true]) ∧ w'.ownsRow w.heap.size 3 1 tv (runI me all ds 150).T.length ((runI me all ds 150).T.map (Value.int .i64)) ∧ (runI me all ds 150).T.length ≤ 450 ∧ Below w.heap.size w w' := by
  obtain ⟨va, vc, rfl, hlen, hrow⟩ := h
  have hbeg := begun_any w
  have HROW : Hid (ds = [] ∨ _) := hrow
  have HLEN : Hid (ds.length ≤ 9223372036854775807) := hlen
  obtain ⟨nd, hnd⟩ : ∃ n, n = ds.length := ⟨_, rfl⟩
  rw [← hnd] at HLEN ⊢
  have HND0 : Hid (nd = ds.length) := hnd
  have HME : Hid (me < 4) := hme
  clear hnd hlen
  clear hrow hme
  go_enter Try.func14, Try.ntmps14
  go_wp2_with fail
  refine hbeg.mono ?_
  rintro e w1 ⟨rfl, ⟨F0, hF0, A0⟩, hb0⟩
  have S0 : BSt w (w.heap.size + 1) F0 arBeg1 w1 := ⟨A0, hF0, hb0⟩
  have HRM : Hid (arBeg1.room = 200000) := beg1_room
  clear hF0 A0 hb0 hbeg
  go_wp2_with fail
  refine wp_loop_rounds 5 ?_
  rw [rounds_succ]
  have hl0 := limP_any (w.heap.size + 1) 0 F0 30 _ _ S0.at_ (by omega) (by omega) (by show (30 : Int) ≤ arBeg1.room; rw [HRM.out]; omega)
  go_wp2_with fail
  refine hl0.mono ?_
  rintro e w2 ⟨rfl, hled⟩
  obtain ⟨F1, S1⟩ := S0.led hled
  clear hl0 hled S0
  go_wp2_with fail
  rw [rounds_succ]
  have hl0 := limP_any (w.heap.size + 1) 1 F1 30 _ _ S1.at_ (by omega) (by omega) (by show (30 : Int) ≤ arBeg1.room; rw [HRM.out]; omega)
  go_wp2_with fail
  refine hl0.mono ?_
  rintro e w3 ⟨rfl, hled⟩
  obtain ⟨F2, S2⟩ := S1.led hled
  clear hl0 hled S1
  go_wp2_with fail
  rw [rounds_succ]
  have hl0 := limP_any (w.heap.size + 1) 2 F2 30 _ _ S2.at_ (by omega) (by omega) (by show (30 : Int) ≤ arBeg1.room; rw [HRM.out]; omega)
  go_wp2_with fail
  refine hl0.mono ?_
  rintro e w4 ⟨rfl, hled⟩
  obtain ⟨F3, S3⟩ := S2.led hled
  clear hl0 hled S2
  go_wp2_with fail
  rw [rounds_succ]
  have hl0 := limP_any (w.heap.size + 1) 3 F3 30 _ _ S3.at_ (by omega) (by omega) (by show (30 : Int) ≤ arBeg1.room; rw [HRM.out]; omega)
  go_wp2_with fail
  refine hl0.mono ?_
  rintro e w5 ⟨rfl, hled⟩
  obtain ⟨F4, S4⟩ := S3.led hled
  clear hl0 hled S3
  go_wp2_with fail
  rw [rounds_succ]
  have HP0 : Hid (PlSt w (w.heap.size + 1) w5.heap.size 0 F4 Rn.start (fun _ => .slice none 0 0) (.slice none 0 0) (w5.alloc (.cells #[.slice none 0 0, .slice none 0 0, .slice none 0 0, .slice none 0 0] 54))) := BSt.start S4
  clear S4
  obtain ⟨N, hN⟩ : ∃ m, m = min nd 150 := ⟨_, rfl⟩
  have HND : Hid (N = min nd 150 ∧ nd = ds.length) := ⟨hN, HND0.out⟩
  have hNd : N ≤ nd := by omega
  have hN2 : N ≤ 150 := by omega
  clear hN
  go_wp2_with fail
  go_loopg [13, 11] N (fun gh s13 s11 wr => ∃ (i : Nat) (F : Nat → Prop) (vs : Nat → Value) (tv : Value), i + gh = N ∧ s13 = .int .i64 i ∧ tv = s11 ∧ PlSt w (w.heap.size + 1) w5.heap.size i F (runI me all ds i) vs tv wr)
  case atStart => exact ⟨0, _, _, _, by omega, rfl, rfl, by rw [runI_zero]; exact HP0.out⟩
  case round =>
    obtain ⟨i, F, vs, tv, hig, rfl, rfl, S⟩ := hrel
    have HIG : Hid (i + gk = N) := hig
    have hiN : i ≤ N := by omega
    generalize hRR : runI me all ds i = R at S
    have HR : Hid (runI me all ds i = R) := hRR
    have HOK : Hid R.Ok := by rw [← hRR]; exact runI_ok me all ds i
    clear hRR
    have HS : Hid (PlSt w (w.heap.size + 1) w5.heap.size i F R vs tv wr) := S
    clear hig S
    by_cases hlt : i < N
    · have k0 : (0 : Int) ≤ (i : Int) := by omega
      have k1 : (i : Int) < (nd : Int) := by omega
      have k2 : (i : Int) < 150 := by omega
      have hxd : ds[i]? = some (ds[i]'(by rw [← HND.out.2]; omega)) := List.getElem?_eq_getElem _
      generalize ds[i]'(by rw [← HND.out.2]; omega) = d at hxd
      obtain ⟨g, o, rfl, hg, hc⟩ := (show ∃ g o, va = some ⟨g, o, none⟩ ∧ g < w.heap.size ∧ _ from by
        rcases HROW.out with e | e
        · rw [e] at hxd; simp at hxd
        · exact e)
      obtain ⟨⟨e0, e1, e2, e3, e4, e5⟩, _⟩ := hc i d hxd
      have hkc := fun j => HS.out.bel.cell (p := ⟨g, j, none⟩) hg
      have d0 := (hkc _).trans e0
      have d1 := (hkc _).trans e1
      have d2 := (hkc _).trans e2
      have d3 := (hkc _).trans e3
      have d4 := (hkc _).trans e4
      have d5 := (hkc _).trans e5
      have HR1 : Hid (runI me all ds (i + 1) = R.go me all d) := (runI_succ hxd).trans (by rw [HR.out])
      obtain ⟨t, htd⟩ : ∃ t : Nat, t = tenD d := ⟨_, rfl⟩
      have HTD : Hid (t = tenD d) := htd
      have ht4 : t < 4 := by rw [htd]; exact tenD_lt d
      have hsp := fun W => spot_any d.t 4 W (by omega) (by omega)
      have ht : spotI d.t 4 = (t : Int) := by rw [htd]; unfold tenD; have := spotI_bound d.t 4 (by omega); omega
      rw [ht] at hsp
      clear e0 e1 e2 e3 e4 e5 hkc hxd hc ht htd
      have hbd : Below wr.heap.size wr ((wr.alloc (.cells #[.int .i64 d.k, .int .i64 d.t, .int .i64 d.a0, .int .i64 d.a1, .int .i64 d.a2, .int .i64 d.a3] 55)).alloc (.cells #[.int .i64 t] 3)) := ((Below.refl _ _).alloc (Nat.le_refl _) _).alloc (by simp) _
      have HD : Hid (((wr.alloc (.cells #[.int .i64 d.k, .int .i64 d.t, .int .i64 d.a0, .int .i64 d.a1, .int .i64 d.a2, .int .i64 d.a3] 55)).alloc (.cells #[.int .i64 t] 3)).heap[wr.heap.size]? = some (.cells #[.int .i64 d.k, .int .i64 d.t, .int .i64 d.a0, .int .i64 d.a1, .int .i64 d.a2, .int .i64 d.a3] 55 (0, 0))) := heap_alloc2_old wr _ _
      have HT : Hid (((wr.alloc (.cells #[.int .i64 d.k, .int .i64 d.t, .int .i64 d.a0, .int .i64 d.a1, .int .i64 d.a2, .int .i64 d.a3] 55)).alloc (.cells #[.int .i64 t] 3)).heap[wr.heap.size + 1]? = some (.cells #[.int .i64 t] 3 (0, 0))) := heap_alloc2_new wr _ _
      have HS2 : Hid (PlSt w (w.heap.size + 1) w5.heap.size i F R vs tv ((wr.alloc (.cells #[.int .i64 d.k, .int .i64 d.t, .int .i64 d.a0, .int .i64 d.a1, .int .i64 d.a2, .int .i64 d.a3] 55)).alloc (.cells #[.int .i64 t] 3))) := HS.out.below hbd
      clear hbd
      by_cases hc : t ≠ me ∧ all = false
      · as_aux_lemma =>
          obtain ⟨hne, rfl⟩ := hc
          have HG : Hid (R.go me false d = R) := Rn.go_not R (by rw [← HTD.out]; exact hne)
          have hne' : ((t : Int) == (me : Int)) = false := by simp; omega
          clear hne
          go_wp2_with fail
          refine (hsp _).mono ?_
          rintro e wx ⟨rfl, rfl⟩
          clear hsp d0 d1 d2 d3 d4 d5
          go_wp2_with fail
          go_roundg (gk - 1)
          case measure => have := HIG.out; omega
          case rel => exact ⟨i + 1, F, vs, tv, by have := HIG.out; omega, by go_num, rfl, by rw [HR1.out, HG.out]; exact HS2.out.up (by omega)⟩
      · have HG : Hid (R.go me all d = R.deed me d) := if_neg (by rw [← HTD.out]; exact hc)
        have hcase : t = me ∨ (t ≠ me ∧ all = true) := by
          by_cases e : t = me
          · exact .inl e
          · refine .inr ⟨e, ?_⟩
            cases all with
            | true => rfl
            | false => exact absurd ⟨e, rfl⟩ hc
        clear hc
        obtain ⟨Q, hQ⟩ : ∃ Q, Q = stepA R.A (R.M t) t d := ⟨_, rfl⟩
        have HQ : Hid (Q = stepA R.A (R.M t) t d) := hQ
        clear hQ
        obtain ⟨kk, hkk⟩ : ∃ x, x = d.k := ⟨_, rfl⟩
        have HK : Hid (kk = d.k) := hkk
        rw [← hkk] at HD HT HS2 d0
        clear hkk
        rcases hcase with rfl | ⟨hne, rfl⟩
        rotate_left
        have HNE : Hid (t ≠ me) := hne
        have hne' : ((t : Int) == (me : Int)) = false := by simp; omega
        clear hne
        rotate_left
        all_goals
          go_wp2_with fail
          refine (hsp _).mono ?_
          rintro e wx ⟨rfl, rfl⟩
          clear hsp d0 d1 d2 d3 d4 d5
          go_upto_block 4 with fail
          all_goals (try (exfalso; have := HNE.out; omega))
          try clear hne'
          generalize (wr.alloc (.cells #[.int .i64 kk, .int .i64 d.t, .int .i64 d.a0, .int .i64 d.a1, .int .i64 d.a2, .int .i64 d.a3] 55)).alloc (.cells #[.int .i64 t] 3) = W2 at *
          go_cut [17] from 68 to 193 (fun s17 wc => ∃ (F' : Nat → Prop) (vs' : Nat → Value), s17 = .int .i64 Q.2.2 ∧ PlSt w (w.heap.size + 1) w5.heap.size (i + 1) F' ⟨Q.1, upd R.M t Q.2.1, R.T⟩ vs' tv wc ∧ wc.cell? ⟨wr.heap.size + 1, 0, none⟩ = some (.int .i64 t) ∧ wc.cell? ⟨wr.heap.size, 0, none⟩ = some (.int .i64 kk))
          case first =>
            have HFD : Hid (¬ F wr.heap.size ∧ ¬ F (wr.heap.size + 1)) := ⟨fun hf => by have := HS.out.at_.flt _ hf; omega, fun hf => by have := HS.out.at_.flt _ hf; omega⟩
            have HLT : Hid (wr.heap.size < W2.heap.size ∧ wr.heap.size + 1 < W2.heap.size) := ⟨(Array.getElem?_eq_some_iff.1 HD.out).1, (Array.getElem?_eq_some_iff.1 HT.out).1⟩
            have HKP : Hid (∀ A' W', Led W2.drew (w.heap.size + 1) F A' W' → W'.heap[wr.heap.size]? = W2.heap[wr.heap.size]? ∧ W'.heap[wr.heap.size + 1]? = W2.heap[wr.heap.size + 1]?) := fun A' W' hl => by
              obtain ⟨_, _, _, P⟩ := hl
              exact ⟨P.block _ HLT.out.1 HFD.out.1, P.block _ HLT.out.2 HFD.out.2⟩
            have HKQ : Hid (∀ A' W', Led W2 (w.heap.size + 1) F A' W' → W'.heap[wr.heap.size]? = W2.heap[wr.heap.size]? ∧ W'.heap[wr.heap.size + 1]? = W2.heap[wr.heap.size + 1]?) := fun A' W' hl => by
              obtain ⟨_, _, _, P⟩ := hl
              exact ⟨P.block _ HLT.out.1 HFD.out.1, P.block _ HLT.out.2 HFD.out.2⟩
            have HVB : Hid ((∀ u, u < 4 → ∀ k, (vs u).ownBlock = some k → k < wr.heap.size) ∧ w5.heap.size < wr.heap.size) := ⟨fun u hu k hk => ((HS.out.made.row u hu).lt k hk).2, (HS.out.made.lt (.inl rfl)).2⟩
            have dk := Lib.cell_of_heap HD.out 0
            have d2 := Lib.cell_of_heap HD.out 2
            have d3 := Lib.cell_of_heap HD.out 3
            have d4 := Lib.cell_of_heap HD.out 4
            have d5 := Lib.cell_of_heap HD.out 5
            have dt := Lib.cell_of_heap HT.out 0
            simp only [List.getElem?_toArray, List.getElem?_cons_zero, List.getElem?_cons_succ] at dk d2 d3 d4 d5 dt
            have hid := fun n => playId_any t n w.heap.size w5.heap.size (wr.heap.size + 1) vs R.M W2.drew HS2.out.drew.made ht4 (by have := HS2.out.few t ht4; omega) dt
            have hidp := fun n => playId_any t n w.heap.size w5.heap.size (wr.heap.size + 1) vs R.M W2 HS2.out.made ht4 (by have := HS2.out.few t ht4; omega) dt
            have hfi := fun n => kn_fits HOK.out.f.s (kn_id (HOK.out.m t ht4) n)
            have hsnd := HOK.out.f.s
            have t0 : (0 : Int) ≤ (t : Int) := by omega
            have t1 : (t : Int) < 4 := by omega
            by_cases n1 : kk = 1
            · as_aux_lemma =>
                subst n1
                have HQ1 : Hid (Q = ((R.A.joinP t (idOf (R.M t) d.a0) (idOf (R.M t) d.a1) (idOf (R.M t) d.a2) (idOf (R.M t) d.a3)).1, if (R.A.joinP t (idOf (R.M t) d.a0) (idOf (R.M t) d.a1) (idOf (R.M t) d.a2) (idOf (R.M t) d.a3)).2.2 = 0 then R.M t ++ [(R.A.joinP t (idOf (R.M t) d.a0) (idOf (R.M t) d.a1) (idOf (R.M t) d.a2) (idOf (R.M t) d.a3)).2.1] else R.M t, (R.A.joinP t (idOf (R.M t) d.a0) (idOf (R.M t) d.a1) (idOf (R.M t) d.a2) (idOf (R.M t) d.a3)).2.2)) := HQ.out.trans (by unfold stepA; rw [if_pos HK.out.symm]; rfl)
                have hj := joinP_any (w.heap.size + 1) t (idOf (R.M t) d.a0) (idOf (R.M t) d.a1) (idOf (R.M t) d.a2) (idOf (R.M t) d.a3) F R.A W2.drew HS2.out.drew.at_ hsnd (by omega) (hfi _) (hfi _) (hfi _) (hfi _)
                unfold quad4 JoinPOut at hj
                have hi0 := hid d.a0
                have hi1 := hid d.a1
                have hi2 := hid d.a2
                have hi3 := hid d.a3
                generalize idOf (R.M t) d.a0 = j0 at *
                generalize idOf (R.M t) d.a1 = j1 at *
                generalize idOf (R.M t) d.a2 = j2 at *
                generalize idOf (R.M t) d.a3 = j3 at *
                generalize R.A.joinP t j0 j1 j2 j3 = J at *
                obtain ⟨A5, id5, er⟩ := J
                simp only at hj HQ1
                clear hid hidp hfi hsnd
                have HKC : Hid (∀ A' W', Led W2.drew (w.heap.size + 1) F A' W' → W'.cell? ⟨wr.heap.size + 1, 0, none⟩ = some (.int .i64 t) ∧ W'.cell? ⟨wr.heap.size, 2, none⟩ = some (.int .i64 d.a0) ∧ W'.cell? ⟨wr.heap.size, 3, none⟩ = some (.int .i64 d.a1) ∧ W'.cell? ⟨wr.heap.size, 4, none⟩ = some (.int .i64 d.a2) ∧ W'.cell? ⟨wr.heap.size, 5, none⟩ = some (.int .i64 d.a3) ∧ W'.cell? ⟨wr.heap.size, 0, none⟩ = some (.int .i64 1)) := fun A' W' hl => by
                  obtain ⟨k1, k2⟩ := HKP.out A' W' hl
                  have kd := k1.trans HD.out
                  have kt := k2.trans HT.out
                  exact ⟨Lib.cell_of_heap kt 0, Lib.cell_of_heap kd 2, Lib.cell_of_heap kd 3, Lib.cell_of_heap kd 4, Lib.cell_of_heap kd 5, Lib.cell_of_heap kd 0⟩
                go_wp2_with fail
                go_region_held3 (fun w' => w'.cell? ⟨wr.heap.size + 1, 0, none⟩ = some (.int .i64 t) ∧ w'.cell? ⟨wr.heap.size, 2, none⟩ = some (.int .i64 d.a0) ∧ w'.cell? ⟨wr.heap.size, 3, none⟩ = some (.int .i64 d.a1) ∧ w'.cell? ⟨wr.heap.size, 4, none⟩ = some (.int .i64 d.a2) ∧ w'.cell? ⟨wr.heap.size, 5, none⟩ = some (.int .i64 d.a3) ∧ w'.cell? ⟨wr.heap.size, 0, none⟩ = some (.int .i64 1)) (first | exact ⟨dt, d2, d3, d4, d5, dk⟩ | exact HKC.out _ _ hled5) ((first
                  | (go_at_call_of 40 (Value.int IntKind.i64 d.a0); refine hi0.mono ?_; rintro e wq ⟨rfl, rfl⟩)
                  | (go_at_call_of 40 (Value.int IntKind.i64 d.a1); refine hi1.mono ?_; rintro e wq ⟨rfl, rfl⟩)
                  | (go_at_call_of 40 (Value.int IntKind.i64 d.a2); refine hi2.mono ?_; rintro e wq ⟨rfl, rfl⟩)
                  | (go_at_call_of 40 (Value.int IntKind.i64 d.a3); refine hi3.mono ?_; rintro e wq ⟨rfl, rfl⟩)
                  | (go_at_call 17; refine hj.mono ?_; rintro e w6 ⟨rfl, hled5⟩)))
                obtain ⟨F6, S6⟩ := HS2.out.drew.led hled5
                have dt6 := (HKC.out _ _ hled5).1
                have dk6 := (HKC.out _ _ hled5).2.2.2.2.2
                have HS6 : Hid (PlSt w (w.heap.size + 1) w5.heap.size i F6 ⟨A5, R.M, R.T⟩ vs tv w6) := S6
                clear hled5 S6 hi0 hi1 hi2 hi3 hj dt d2 d3 d4 d5 dk HKC HKP HKQ HD HT HS HS2
                by_cases hE : er = 0
                · as_aux_lemma =>
                    subst hE
                    have HQ2 : Hid (Q = (A5, R.M t ++ [id5], 0)) := HQ1.out.trans (by rw [if_pos rfl])
                    have hcm := HS6.out.made.cell ht4
                    have hrow := HS6.out.made.row t ht4
                    have hmlt := (HS6.out.made.lt (.inl rfl)).2
                    have hfew := HS6.out.few t ht4
                    have hvm := HS6.out.made.ne t ht4
                    simp only at hcm hrow hfew
                    obtain ⟨vt, hvt⟩ : ∃ x, x = vs t := ⟨_, rfl⟩
                    rw [← hvt] at hcm hrow hvm
                    obtain ⟨hc6, hz6⟩ := hcm
                    have HVT : Hid (vt = vs t) := hvt
                    obtain ⟨lm, hlm⟩ : ∃ x, x = (R.M t).length := ⟨_, rfl⟩
                    rw [← hlm] at hrow hfew
                    have HLM : Hid (lm = (R.M t).length) := hlm
                    obtain ⟨i0, hi, hz0, hz1, hz2⟩ := info_parts Try.info3
                    have OW : Hid (∀ o, (w6.alloc o).drew.ownsRow w.heap.size 3 1 vt lm ((R.M t).map (Value.int .i64))) := fun o => World.ownsRow.alloc hrow o
                    have htl : wr.heap.size + 1 < w6.heap.size := cell_lt dt6
                    have hTB : vt.ownBlock ≠ some (wr.heap.size + 1) := fun e => by have := HVB.out.1 t ht4 _ (by rw [← HVT.out]; exact e); omega
                    have hTD : vt.ownBlock ≠ some wr.heap.size := fun e => by have := HVB.out.1 t ht4 _ (by rw [← HVT.out]; exact e); omega
                    have hmt : w5.heap.size ≠ wr.heap.size + 1 := by have := HVB.out.2; omega
                    have hmd : w5.heap.size ≠ wr.heap.size := by have := HVB.out.2; omega
                    have HSM : Hid (lm < 200 ∧ w.heap.size ≤ w6.heap.size) := ⟨by omega, HS6.out.bel.size⟩
                    have HPU : Hid (∀ (g7 cap7 : Nat) (w7 : World) (o : Obj), w7.ownsRow w.heap.size 3 1 (.slice (some ⟨g7, 0, none⟩) (lm + 1) cap7) (lm + 1) ((R.M t).map (Value.int .i64) ++ [.int .i64 id5]) → (w6.alloc o).drew.grownBy w7 vt.ownBlock → (vt.ownBlock = some g7 ∨ g7 = (w6.alloc o).drew.heap.size) →
                        ∃ (F' : Nat → Prop) (vs' : Nat → Value), PlSt w (w.heap.size + 1) w5.heap.size (i + 1) F' ⟨Q.1, upd R.M t Q.2.1, R.T⟩ vs' tv (w7.setCell ⟨w5.heap.size, t, none⟩ (.slice (some ⟨g7, 0, none⟩) (lm + 1) cap7)) ∧ (w7.setCell ⟨w5.heap.size, t, none⟩ (.slice (some ⟨g7, 0, none⟩) (lm + 1) cap7)).cell? ⟨wr.heap.size + 1, 0, none⟩ = some (.int .i64 t) ∧ (w7.setCell ⟨w5.heap.size, t, none⟩ (.slice (some ⟨g7, 0, none⟩) (lm + 1) cap7)).cell? ⟨wr.heap.size, 0, none⟩ = some (.int .i64 1)) := fun g7 cap7 w7 o ho hg ha => by
                      have e1 := HLM.out
                      have e2 := HVT.out
                      subst e1 e2
                      have hs : w6.heap.size + 1 ≤ w7.heap.size := by have := hg.size; simpa using this
                      have bt := grown_blk hg htl hTB
                      have bd := grown_blk hg (show wr.heap.size < w6.heap.size by omega) hTD
                      have q6 := (World.cell?_of_block (w := w6) (a := ⟨wr.heap.size + 1, 0, none⟩) bt).trans dt6
                      have q7 := (World.cell?_of_block (w := w6) (a := ⟨wr.heap.size, 0, none⟩) bd).trans dk6
                      rw [HQ2.out]
                      refine ⟨F6, _, HS6.out.setRow (j := i + 1) (L := R.M t ++ [id5]) ht4 (by omega) (by rw [List.length_append, List.length_singleton]; omega) (W' := w7) (v' := .slice (some ⟨g7, 0, none⟩) ((R.M t).length + 1) cap7) (by rw [List.map_append, List.length_append]; exact ho) (fun g hgg => ?_) (by omega) (fun k hk hne => grown_blk hg hk hne) ⟨hg.os, hg.tape, hg.output⟩, ?_, ?_⟩
                      · simp only [Value.ownBlock, Option.some.injEq] at hgg
                        subst hgg
                        rcases ha with e | e
                        · exact .inl e
                        · exact .inr (by rw [e]; simp)
                      · exact (World.cell?_of_block (w := w7) (a := ⟨wr.heap.size + 1, 0, none⟩) (heap_set (fun e => hmt e.symm))).trans q6
                      · exact (World.cell?_of_block (w := w7) (a := ⟨wr.heap.size, 0, none⟩) (heap_set (fun e => hmd e.symm))).trans q7
                    clear hvt hlm hrow
                    go_wp2_with fail
                    go_region_law (refine step_append_lies _ (by rfl) _ _ 31 (by rfl) w.heap.size 3 i0 (.int .i64 0) 1 8 Try.underlying31 hi hz0 hz1 hz2 rfl (by decide) vt lm ((R.M t).map (Value.int .i64)) (by rfl) (OW.out _) ⟨w6.heap.size, 0, none⟩ 1 1 [.int .i64 id5] (by rfl) rfl (cell_one_new _ _ _) (by intro u hu; simp at hu; subst hu; rfl) (by omega) (by have := HSM.out.1; unfold maxLen; omega) (by have := HSM.out.1; omega) (by have := HSM.out.2; simp; omega) _ rfl ?_; intro g7 cap7 w7 hown7 hgrow7 hat7 hlt7; have bm := grown_blk hgrow7 hmlt hvm; have bt := grown_blk hgrow7 htl hTB; have q4 := (World.cell?_of_block (w := w6) (a := ⟨w5.heap.size, t, none⟩) bm).trans hc6; have q5 := (World.frozen?_of_block (w := w6) (a := ⟨w5.heap.size, t, none⟩) bm).trans hz6; have q6 := (World.cell?_of_block (w := w6) (a := ⟨wr.heap.size + 1, 0, none⟩) bt).trans dt6)
                    all_goals
                      obtain ⟨F', vs', hR9, hT9, hK9⟩ := HPU.out _ _ _ _ hown7 hgrow7 hat7
                      clear hown7 hgrow7 hat7 bm bt q4 q5 q6
                      go_wp2_with fail
                      go_meet
                      case rel => exact ⟨F', vs', by rw [HQ2.out], hR9, hT9, hK9⟩
                · as_aux_lemma =>
                    have hE' : (er == 0) = false := by simpa using hE
                    have HQ2 : Hid (Q = (A5, R.M t, er)) := HQ1.out.trans (by rw [if_neg hE])
                    go_wp2_with fail
                    go_meet
                    case rel => exact ⟨F6, vs, by rw [HQ2.out], by rw [HQ2.out, upd_self]; exact HS6.out.up (by omega), dt6, dk6⟩
            have m1 : (kk == 1) = false := by simpa using n1
            by_cases n2 : kk = 2
            · as_aux_lemma =>
                subst n2
                have ft : Fits (t : Int) := ⟨by omega, by omega⟩
                have HQ1 : Hid (Q = ((R.A.noteP t (idOf (R.M t) d.a0) t (spotI d.a1 3) (idOf (R.M t) d.a0)).1, R.M t, (R.A.noteP t (idOf (R.M t) d.a0) t (spotI d.a1 3) (idOf (R.M t) d.a0)).2)) := HQ.out.trans (by unfold stepA; rw [if_neg (by rw [← HK.out]; decide), if_pos HK.out.symm]; rfl)
                have hnt := noteP_any (w.heap.size + 1) t F (idOf (R.M t) d.a0) t (spotI d.a1 3) (idOf (R.M t) d.a0) R.A W2.drew HS2.out.drew.at_ hsnd (by omega) (hfi _) ft (spot_fits _) (hfi _)
                have hsp3 := fun W => spot_any d.a1 3 W (by omega) (by omega)
                unfold NoteOut at hnt
                have hi0 := hidp d.a0
                generalize idOf (R.M t) d.a0 = j0 at *
                generalize spotI d.a1 3 = z3 at *
                generalize R.A.noteP t j0 t z3 j0 = J at *
                obtain ⟨A5, er⟩ := J
                simp only at hnt HQ1
                clear hid hidp hfi ft m1 hsnd
                have HKC : Hid (∀ A' W', Led W2.drew (w.heap.size + 1) F A' W' → W'.cell? ⟨wr.heap.size + 1, 0, none⟩ = some (.int .i64 t) ∧ W'.cell? ⟨wr.heap.size, 3, none⟩ = some (.int .i64 d.a1) ∧ W'.cell? ⟨wr.heap.size, 0, none⟩ = some (.int .i64 2)) := fun A' W' hl => by
                  obtain ⟨k1, k2⟩ := HKP.out A' W' hl
                  have kd := k1.trans HD.out
                  have kt := k2.trans HT.out
                  exact ⟨Lib.cell_of_heap kt 0, Lib.cell_of_heap kd 3, Lib.cell_of_heap kd 0⟩
                go_wp2_with fail
                refine hi0.mono ?_
                rintro e wq ⟨rfl, hwq⟩
                have hwq' := hwq.symm
                subst hwq'
                clear hwq
                go_wp2_with fail
                go_region_held3 (fun w' => w'.cell? ⟨wr.heap.size + 1, 0, none⟩ = some (.int .i64 t) ∧ w'.cell? ⟨wr.heap.size, 3, none⟩ = some (.int .i64 d.a1) ∧ w'.cell? ⟨wr.heap.size, 0, none⟩ = some (.int .i64 2)) (first | exact ⟨dt, d3, dk⟩ | exact HKC.out _ _ hled5) ((first
                  | (go_at_call 13; refine (hsp3 _).mono ?_; rintro e wq ⟨rfl, rfl⟩)
                  | (go_at_call 18; refine hnt.mono ?_; rintro e w6 ⟨rfl, hled5⟩)))
                obtain ⟨F6, S6⟩ := HS2.out.drew.led hled5
                have dt6 := (HKC.out _ _ hled5).1
                have dk6 := (HKC.out _ _ hled5).2.2
                have HS6 : Hid (PlSt w (w.heap.size + 1) w5.heap.size i F6 ⟨A5, R.M, R.T⟩ vs tv w6) := S6
                clear hled5 S6 hi0 hnt hsp3 dt d2 d3 d4 d5 dk HKC HKP HKQ HD HT HS HS2
                go_wp2_with fail
                go_meet
                case rel => exact ⟨F6, vs, by rw [HQ1.out], by rw [HQ1.out, upd_self]; exact HS6.out.up (by omega), dt6, dk6⟩
            have m2 : (kk == 2) = false := by simpa using n2
            by_cases n3 : kk = 3
            · as_aux_lemma =>
                subst n3
                have HQ1 : Hid (Q = (R.A.lose t [] [], R.M t, -1)) := HQ.out.trans (by unfold stepA; rw [if_neg (by rw [← HK.out]; decide), if_neg (by rw [← HK.out]; decide), if_pos HK.out.symm])
                have hmk := markP_any (w.heap.size + 1) t F R.A W2 HS2.out.at_ (by omega)
                clear hid hidp hfi m1 m2 hsnd
                go_wp2_with fail
                refine hmk.mono ?_
                rintro e w6 ⟨rfl, hled5⟩
                obtain ⟨F6, S6⟩ := HS2.out.led hled5
                have dt6 : w6.cell? ⟨wr.heap.size + 1, 0, none⟩ = some (.int .i64 t) := Lib.cell_of_heap ((HKQ.out _ _ hled5).2.trans HT.out) 0
                have dk6 : w6.cell? ⟨wr.heap.size, 0, none⟩ = some (.int .i64 3) := Lib.cell_of_heap ((HKQ.out _ _ hled5).1.trans HD.out) 0
                have HS6 : Hid (PlSt w (w.heap.size + 1) w5.heap.size i F6 ⟨R.A.lose t [] [], R.M, R.T⟩ vs tv w6) := S6
                clear hled5 S6 hmk dt d2 d3 d4 d5 dk HKP HKQ HD HT HS HS2
                go_wp2_with fail
                go_meet
                case rel => exact ⟨F6, vs, by rw [HQ1.out], by rw [HQ1.out, upd_self]; exact HS6.out.up (by omega), dt6, dk6⟩
            have m3 : (kk == 3) = false := by simpa using n3
            by_cases n45 : kk = 4 ∨ kk = 5
            · have HCALL : Hid (kk = 4 ∨ kk = 5) := n45
              rcases n45 with n4 | n5
              rotate_left
              focus
                subst n5
                have HQ0 : Hid (Q = (R.A.cleanP t [idOf (R.M t) d.a0], still (R.A.cleanP t [idOf (R.M t) d.a0]) t (R.M t), ((idsF R.A.ths t (keepAll R.A.ths t [idOf (R.M t) d.a0]) R.A.ths.length).length : Int))) := HQ.out.trans (by unfold stepA; rw [if_neg (by rw [← HK.out]; decide), if_neg (by rw [← HK.out]; decide), if_neg (by rw [← HK.out]; decide), if_neg (by rw [← HK.out]; decide), if_pos HK.out.symm])
                have hi0 := hid d.a0
                have hf0 := hfi d.a0
                generalize idOf (R.M t) d.a0 = j0 at *
                have hbO : Below W2.drew.heap.size W2.drew (W2.drew.alloc (.cells #[.int .i64 j0] 3)) := (Below.refl _ _).alloc (Nat.le_refl _) _
                have hSO := HS2.out.drew.below hbO
                have hTO : (W2.drew.alloc (.cells #[.int .i64 j0] 3)).heap[wr.heap.size + 1]? = some (.cells #[.int .i64 t] 3 (0, 0)) := (hbO.block _ HLT.out.2).trans HT.out
                have hDO : (W2.drew.alloc (.cells #[.int .i64 j0] 3)).heap[wr.heap.size]? = _ := (hbO.block _ HLT.out.1).trans HD.out
                have hcl := cleanP_any (w.heap.size + 1) t F R.A [j0] (.slice (some ⟨W2.drew.heap.size, 0, none⟩) 1 1) (W2.drew.alloc (.cells #[.int .i64 j0] 3)) hSO.at_ hsnd (by omega) ⟨_, _, rfl, .inr ⟨_, _, rfl, by simp, fun k x hk => by
                  match k, hk with
                  | 0, hk => simp at hk; subst hk; simp [go_sem]⟩⟩ (by simp) (fun id hid => by simp at hid; subst hid; exact hf0)
                have HSO : Hid (PlSt w (w.heap.size + 1) w5.heap.size i F R vs tv (W2.drew.alloc (.cells #[.int .i64 j0] 3))) := hSO
                have HSN : Hid (Sound (R.A.cleanP t [j0])) := clean_sound hsnd (by omega) _
                have HKC : Hid (∀ A' W', Led (W2.drew.alloc (.cells #[.int .i64 j0] 3)) (w.heap.size + 1) F A' W' → W'.cell? ⟨wr.heap.size + 1, 0, none⟩ = some (.int .i64 t) ∧ W'.cell? ⟨wr.heap.size, 2, none⟩ = some (.int .i64 d.a0) ∧ W'.cell? ⟨wr.heap.size, 0, none⟩ = some (.int .i64 5)) := fun A' W' hl => by
                  obtain ⟨_, _, _, P⟩ := hl
                  have kt := (P.block _ (Array.getElem?_eq_some_iff.1 hTO).1 HFD.out.2).trans hTO
                  have kd := (P.block _ (Array.getElem?_eq_some_iff.1 hDO).1 HFD.out.1).trans hDO
                  exact ⟨Lib.cell_of_heap kt 0, Lib.cell_of_heap kd 2, Lib.cell_of_heap kd 0⟩
                have HKO : Hid ((W2.drew.alloc (.cells #[.int .i64 j0] 3)).cell? ⟨wr.heap.size + 1, 0, none⟩ = some (.int .i64 t) ∧ (W2.drew.alloc (.cells #[.int .i64 j0] 3)).cell? ⟨wr.heap.size, 2, none⟩ = some (.int .i64 d.a0) ∧ (W2.drew.alloc (.cells #[.int .i64 j0] 3)).cell? ⟨wr.heap.size, 0, none⟩ = some (.int .i64 5)) := ⟨Lib.cell_of_heap hTO 0, Lib.cell_of_heap hDO 2, Lib.cell_of_heap hDO 0⟩
                clear hid hidp hfi m1 m2 m3 hbO hSO hTO hDO hf0 hsnd
                go_wp2_with fail
                go_region_held3 (fun w' => w'.cell? ⟨wr.heap.size + 1, 0, none⟩ = some (.int .i64 t) ∧ w'.cell? ⟨wr.heap.size, 2, none⟩ = some (.int .i64 d.a0) ∧ w'.cell? ⟨wr.heap.size, 0, none⟩ = some (.int .i64 5)) (first | exact ⟨dt, d2, dk⟩ | exact HKO.out | exact HKC.out _ _ hled5) ((first
                  | (go_at_call 40; refine hi0.mono ?_; rintro e wq ⟨rfl, rfl⟩)
                  | (go_at_call 21; refine hcl.mono ?_; rintro e w6 ⟨rfl, hled5⟩)))
                obtain ⟨F6, S6⟩ := HSO.out.led hled5
                have dt6 := (HKC.out _ _ hled5).1
                have dk6 := (HKC.out _ _ hled5).2.2
                generalize R.A.cleanP t [j0] = A6 at *
                generalize ((idsF R.A.ths t (keepAll R.A.ths t [j0]) R.A.ths.length).length : Int) = xx at *
                have HQ1 : Hid (Q = (A6, still A6 t (R.M t), xx)) := HQ0
                have HS6 : Hid (PlSt w (w.heap.size + 1) w5.heap.size i F6 ⟨A6, R.M, R.T⟩ vs tv w6) := S6
                clear hled5 S6 hi0 hcl dt d2 d3 d4 d5 dk HKC HKP HKQ HD HT HS HS2 HSO HKO HQ0
              rotate_left
              focus
                subst n4
                have HQ0 : Hid (Q = (R.A.lose t (R.A.fresh t) [], still (R.A.lose t (R.A.fresh t) []) t (R.M t), ((R.A.fresh t).length : Int))) := HQ.out.trans (by unfold stepA; rw [if_neg (by rw [← HK.out]; decide), if_neg (by rw [← HK.out]; decide), if_neg (by rw [← HK.out]; decide), if_pos HK.out.symm])
                have hun := undoP_any (w.heap.size + 1) t F R.A W2 HS2.out.at_ hsnd (by omega)
                have HSN : Hid (Sound (R.A.lose t (R.A.fresh t) [])) := undo_sound hsnd (by omega)
                generalize R.A.lose t (R.A.fresh t) [] = A6 at *
                generalize ((R.A.fresh t).length : Int) = xx at *
                have HQ1 : Hid (Q = (A6, still A6 t (R.M t), xx)) := HQ0
                clear hid hidp hfi m1 m2 m3 hsnd HQ0
                go_wp2_with fail
                refine hun.mono ?_
                rintro e w6 ⟨rfl, hled5⟩
                obtain ⟨F6, S6⟩ := HS2.out.led hled5
                have dt6 : w6.cell? ⟨wr.heap.size + 1, 0, none⟩ = some (.int .i64 t) := Lib.cell_of_heap ((HKQ.out _ _ hled5).2.trans HT.out) 0
                have dk6 : w6.cell? ⟨wr.heap.size, 0, none⟩ = some (.int .i64 4) := Lib.cell_of_heap ((HKQ.out _ _ hled5).1.trans HD.out) 0
                have HS6 : Hid (PlSt w (w.heap.size + 1) w5.heap.size i F6 ⟨A6, R.M, R.T⟩ vs tv w6) := S6
                clear hled5 S6 hun dt d2 d3 d4 d5 dk HKP HKQ HD HT HS HS2
              all_goals
                have hcm := HS6.out.made.cell ht4
                have hrow := HS6.out.made.row t ht4
                simp only at hcm hrow
                have HML : Hid (∀ x ∈ R.M t, Fits x) := fun x hx => kn_fits HOK.out.f.s (HOK.out.m t ht4 x hx)
                obtain ⟨va6, vc6, hv6⟩ : ∃ a c, vs t = .slice a (R.M t).length c := by
                  rcases hrow.2 with ⟨h1, h2⟩ | ⟨g, cap, cur, h1, _⟩
                  · exact ⟨none, 0, by rw [h1, h2]⟩
                  · exact ⟨_, _, h1⟩
                have HMB : Hid (w5.heap.size < w6.heap.size) := (HS6.out.made.lt (.inl rfl)).2
                have HMN : Hid (w5.heap.size ≠ wr.heap.size + 1 ∧ w5.heap.size ≠ wr.heap.size) := ⟨by have := HVB.out.2; omega, by have := HVB.out.2; omega⟩
                rw [hv6] at hcm hrow
                obtain ⟨hc6, hz6⟩ := hcm
                have HROW6 : Hid (w6.ownsRow w.heap.size 3 1 (.slice va6 (R.M t).length vc6) (R.M t).length ((R.M t).map (Value.int .i64))) := hrow
                obtain ⟨ln, hln⟩ : ∃ x, x = (R.M t).length := ⟨_, rfl⟩
                have HLN : Hid (ln = (R.M t).length) := hln
                have hlnb : ln ≤ 150 := by rw [hln]; have := HS6.out.few t ht4; simp only at this; omega
                rw [← hln] at hc6
                have hfw : ln ≤ i := by rw [hln]; have := HS6.out.few t ht4; simpa using this
                have HFW : Hid (ln ≤ i) := hfw
                clear hfw
                clear hrow hln hv6
                obtain ⟨gK, hgK⟩ : ∃ a, a = gk := ⟨_, rfl⟩
                subst hgK
                obtain ⟨wR, hwR⟩ : ∃ a, a = wr := ⟨_, rfl⟩
                subst hwR
                obtain ⟨i0, hi, hz0, hz1, hz2⟩ := info_parts Try.info3
                go_wp2_with fail
                go_loopg [154, 21] ln (fun gh s154 s21 wz => ∃ (j : Nat) (sv : Value), j + gh = ln ∧ s154 = .int .i64 j ∧ sv = s21 ∧ wz.ownsRow w6.heap.size 3 1 sv (still A6 t ((R.M t).take j)).length ((still A6 t ((R.M t).take j)).map (Value.int .i64)) ∧ Below w6.heap.size w6 wz)
                case atStart => exact ⟨0, _, by omega, rfl, rfl, by rw [List.take_zero]; exact World.ownsRow_nil _ _ _ _, Below.refl _ _⟩
                case round =>
                  obtain ⟨j, sv, hjg, rfl, rfl, hown, hbz⟩ := hrel
                  have HJG : Hid (j + gk = ln) := hjg
                  have HOWN : Hid (wr.ownsRow w6.heap.size 3 1 sv (still A6 t ((R.M t).take j)).length ((still A6 t ((R.M t).take j)).map (Value.int .i64))) := hown
                  have HBZ : Hid (Below w6.heap.size w6 wr) := hbz
                  have dtz := (hbz.cell (p := ⟨wR.heap.size + 1, 0, none⟩) (cell_lt dt6)).trans dt6
                  have dkz := (hbz.cell (p := ⟨wR.heap.size, 0, none⟩) (cell_lt dk6)).trans dk6
                  clear hjg hown
                  by_cases hj : j < ln
                  · obtain ⟨x, hx⟩ : ∃ x, (R.M t)[j]? = some x := ⟨_, List.getElem?_eq_getElem (by rw [← HLN.out]; exact hj)⟩
                    obtain ⟨g6, rfl⟩ : ∃ g, va6 = some ⟨g, 0, none⟩ := by
                      rcases HROW6.out.2 with ⟨_, h2⟩ | ⟨g, cap, cur, h1, _⟩
                      · have := HLN.out; omega
                      · simp only [Value.slice.injEq] at h1; exact ⟨g, h1.1⟩
                    have hg6 := (HROW6.out.lt g6 rfl).2
                    have hcx : wr.cell? ⟨g6, j, none⟩ = some (.int .i64 x) := (hbz.cell (p := ⟨g6, j, none⟩) hg6).trans (by
                      rw [HROW6.out.cellAt j (by rw [← HLN.out]; omega), List.getElem?_map, hx]; rfl)
                    have hlev := LevelP_any (w.heap.size + 1) t F6 x A6 wr (HS6.out.below hbz).at_ HSN.out (by omega) (HML.out x (List.mem_of_getElem? hx))
                    have HST := still_succ (A := A6) (t := t) hx
                    have HST' : Hid (still A6 t ((R.M t).take (j + 1)) = _) := HST
                    have HLB : Hid ((still A6 t ((R.M t).take j)).length ≤ 150) := Nat.le_trans (Nat.le_trans (List.length_filter_le _ _) (List.length_take_le _ _)) (by omega)
                    have k0 : (0 : Int) ≤ (j : Int) := by omega
                    have k1 : (j : Int) < (ln : Int) := by omega
                    clear HST hx hbz hg6
                    cases hL : levelF A6.ths t x with
                    | none =>
                      as_aux_lemma =>
                        rw [hL] at hlev HST'
                        simp only [lack, Option.getD] at hlev
                        clear hL
                        go_wp2_with fail
                        refine hlev.mono ?_
                        rintro e w8 ⟨rfl, hb8⟩
                        have HB8 : Hid (Below w6.heap.size w6 w8 ∧ Below wr.heap.size wr w8) := ⟨HBZ.out.trans (hb8.mono HBZ.out.size), hb8⟩
                        clear hb8 hlev hcx
                        go_wp2_with fail
                        go_roundg (gk - 1)
                        case measure => have := HJG.out; omega
                        case rel => exact ⟨j + 1, sv, by have := HJG.out; omega, by go_num, rfl, by rw [HST'.out, if_neg (by decide), List.append_nil]; exact row_other HOWN.out fun k hk => HB8.out.2.block k (HOWN.out.lt k hk).2, HB8.out.1⟩
                    | some a =>
                      as_aux_lemma =>
                        rw [hL] at hlev HST'
                        simp only [lack, Option.getD] at hlev
                        clear hL
                        go_wp2_with fail
                        refine hlev.mono ?_
                        rintro e w8 ⟨rfl, hb8⟩
                        have HB8 : Hid (Below w6.heap.size w6 w8 ∧ Below wr.heap.size wr w8) := ⟨HBZ.out.trans (hb8.mono HBZ.out.size), hb8⟩
                        have HO8 : Hid (w8.ownsRow w6.heap.size 3 1 sv (still A6 t ((R.M t).take j)).length ((still A6 t ((R.M t).take j)).map (Value.int .i64))) := row_other HOWN.out fun k hk => hb8.block k (HOWN.out.lt k hk).2
                        clear hb8 hlev hcx
                        go_wp2_with (at_builtin; refine wpList_append_own _ rfl _ _ 31 rfl w6.heap.size 3 i0 (.int .i64 0) 1 8 Try.underlying31 hi hz0 hz1 hz2 rfl (by decide) _ _ _ rfl (HO8.out.alloc _) ⟨w8.heap.size, 0, none⟩ 1 1 [.int .i64 x] rfl rfl ?c1 ?c2 ?c3 ?c4 ?c5 ?_)
                        case c1 =>
                          intro j u hj
                          match j, hj with
                          | 0, hj => simp at hj; subst hj; simp [Addr.add]
                        case c2 => intro u hu; simp at hu; subst hu; rfl
                        case c3 => unfold maxLen; have := HLB.out; omega
                        case c4 => have := HLB.out; omega
                        case c5 => have := HB8.out.1.size; simp; omega
                        intro v' w9 hown' hgrow _
                        go_wp2_with fail
                        go_roundg (gk - 1)
                        case measure => have := HJG.out; omega
                        case rel => exact ⟨j + 1, v', by have := HJG.out; omega, by go_num, rfl, by rw [HST'.out, if_pos (show (some a).isSome = true from rfl), List.map_append, List.length_append]; exact hown', (HB8.out.1.alloc HB8.out.1.size _).grown hgrow (by have := HB8.out.1.size; simp; omega) (fun g hg => (HOWN.out.lt g hg).1)⟩
                  · as_aux_lemma =>
                      have HOW : Hid (wr.ownsRow w6.heap.size 3 1 sv (still A6 t (R.M t)).length ((still A6 t (R.M t)).map (Value.int .i64))) := by
                        have h := HOWN.out
                        rw [List.take_of_length_le (by rw [← HLN.out]; omega)] at h
                        exact h
                      obtain ⟨a8, c8, hsv, _⟩ := row_slice HOW.out
                      have hbm := hbz.block _ HMB.out
                      have cz := (World.cell?_of_block (w := w6) (a := ⟨w5.heap.size, t, none⟩) hbm).trans hc6
                      have fz := (World.frozen?_of_block (w := w6) (a := ⟨w5.heap.size, t, none⟩) hbm).trans hz6
                      have hj1 : ¬ (j : Int) < (ln : Int) := by omega
                      have HEND : Hid (∃ (F' : Nat → Prop) (vs' : Nat → Value), PlSt w (w.heap.size + 1) w5.heap.size (i + 1) F' ⟨Q.1, upd R.M t Q.2.1, R.T⟩ vs' tv (wr.setCell ⟨w5.heap.size, t, none⟩ sv) ∧ (wr.setCell ⟨w5.heap.size, t, none⟩ sv).cell? ⟨wR.heap.size + 1, 0, none⟩ = some (.int .i64 t) ∧ (wr.setCell ⟨w5.heap.size, t, none⟩ sv).cell? ⟨wR.heap.size, 0, none⟩ = wr.cell? ⟨wR.heap.size, 0, none⟩) := by
                        rw [HQ1.out]
                        refine ⟨F6, _, HS6.out.setRow (j := i + 1) (L := still A6 t (R.M t)) ht4 (by omega) (Nat.le_trans (List.length_filter_le _ _) (by rw [← HLN.out]; have := HFW.out; omega)) (W' := wr) (v' := sv) ?_ (fun g hg => .inr (HOW.out.lt g hg).1) HBZ.out.size (fun k hk _ => HBZ.out.block k hk) ⟨HBZ.out.os, HBZ.out.tape, HBZ.out.output⟩, ?_, ?_⟩
                        · exact row_base HOW.out HS6.out.bel.size
                        · exact (World.cell?_of_block (w := wr) (a := ⟨wR.heap.size + 1, 0, none⟩) (heap_set (fun e => HMN.out.1 e.symm))).trans dtz
                        · exact World.cell?_of_block (w := wr) (a := ⟨wR.heap.size, 0, none⟩) (heap_set (fun e => HMN.out.2 e.symm))
                      have HDK : Hid (wr.cell? ⟨wR.heap.size, 0, none⟩ = _) := dkz
                      clear hbz hbm hc6 hz6 dt6 dk6 dkz hj HOWN HOW
                      generalize (still A6 t (R.M t)).length = l8 at hsv
                      subst hsv
                      go_wp2_with fail
                      go_meet
                      case rel =>
                        obtain ⟨F', vs', h1, h2, h3⟩ := HEND.out
                        exact ⟨F', vs', by rw [HQ1.out], h1, h2, h3.trans HDK.out⟩
            have m4 : (kk == 4) = false := by simpa using fun e => n45 (.inl e)
            have m5 : (kk == 5) = false := by simpa using fun e => n45 (.inr e)
            by_cases n6 : kk = 6
            · as_aux_lemma =>
                subst n6
                have ft : Fits (t : Int) := ⟨by omega, by omega⟩
                have HQ1 : Hid (Q = (R.A, R.M t, if (recallF R.A.ths t (idOf (R.M t) d.a0) t (spotI d.a1 3)).isSome = true then 1 else -1)) := HQ.out.trans (by unfold stepA; rw [if_neg (by rw [← HK.out]; decide), if_neg (by rw [← HK.out]; decide), if_neg (by rw [← HK.out]; decide), if_neg (by rw [← HK.out]; decide), if_neg (by rw [← HK.out]; decide), if_pos HK.out.symm])
                have hrc := recallP_any (w.heap.size + 1) t F (idOf (R.M t) d.a0) t (spotI d.a1 3) R.A W2.drew HS2.out.drew.at_ hsnd (by omega) (hfi _) ft (spot_fits _)
                have hsp3 := fun W => spot_any d.a1 3 W (by omega) (by omega)
                have hi0 := hid d.a0
                generalize idOf (R.M t) d.a0 = j0 at *
                generalize spotI d.a1 3 = z3 at *
                generalize (recallF R.A.ths t j0 t z3).isSome = is at *
                generalize (recallF R.A.ths t j0 t z3).getD 0 = rv at *
                clear hid hidp hfi ft m1 m2 m3 m4 m5 hsnd n45
                have HKC : Hid (∀ W', Below W2.drew.heap.size W2.drew W' → W'.cell? ⟨wr.heap.size + 1, 0, none⟩ = some (.int .i64 t) ∧ W'.cell? ⟨wr.heap.size, 2, none⟩ = some (.int .i64 d.a0) ∧ W'.cell? ⟨wr.heap.size, 3, none⟩ = some (.int .i64 d.a1) ∧ W'.cell? ⟨wr.heap.size, 0, none⟩ = some (.int .i64 6)) := fun W' hl => by
                  have kd := (hl.block _ HLT.out.1).trans HD.out
                  have kt := (hl.block _ HLT.out.2).trans HT.out
                  exact ⟨Lib.cell_of_heap kt 0, Lib.cell_of_heap kd 2, Lib.cell_of_heap kd 3, Lib.cell_of_heap kd 0⟩
                go_wp2_with fail
                go_region_held3 (fun w' => w'.cell? ⟨wr.heap.size + 1, 0, none⟩ = some (.int .i64 t) ∧ w'.cell? ⟨wr.heap.size, 2, none⟩ = some (.int .i64 d.a0) ∧ w'.cell? ⟨wr.heap.size, 3, none⟩ = some (.int .i64 d.a1) ∧ w'.cell? ⟨wr.heap.size, 0, none⟩ = some (.int .i64 6)) (first | exact ⟨dt, d2, d3, dk⟩ | exact HKC.out _ hbl) ((first
                  | (go_at_call 40; refine hi0.mono ?_; rintro e wq ⟨rfl, rfl⟩)
                  | (go_at_call 13; refine (hsp3 _).mono ?_; rintro e wq ⟨rfl, rfl⟩)
                  | (go_at_call 31; refine hrc.mono ?_; rintro e w6 ⟨rfl, hbl⟩)))
                all_goals
                  have dt6 := (HKC.out _ hbl).1
                  have dk6 := (HKC.out _ hbl).2.2.2
                  have HS6 : Hid (PlSt w (w.heap.size + 1) w5.heap.size i F R vs tv w6) := HS2.out.drew.below hbl
                  clear hbl hi0 hrc hsp3 dt d2 d3 d4 d5 dk HKC HKP HKQ HD HT HS HS2
                  cases is with
                  | true =>
                    go_wp2_with fail
                    go_meet
                    case rel => exact ⟨F, vs, by rw [HQ1.out]; rfl, by rw [HQ1.out, upd_self]; exact HS6.out.up (by omega), dt6, dk6⟩
                  | false =>
                    go_wp2_with fail
                    go_meet
                    case rel => exact ⟨F, vs, by rw [HQ1.out]; rfl, by rw [HQ1.out, upd_self]; exact HS6.out.up (by omega), dt6, dk6⟩
            have m6 : (kk == 6) = false := by simpa using n6
            as_aux_lemma =>
              have HQ1 : Hid (Q = (R.A.swept, R.M t, -1)) := HQ.out.trans (by unfold stepA; rw [if_neg (by rw [← HK.out]; exact n1), if_neg (by rw [← HK.out]; exact n2), if_neg (by rw [← HK.out]; exact n3), if_neg (by rw [← HK.out]; exact fun e => n45 (.inl e)), if_neg (by rw [← HK.out]; exact fun e => n45 (.inr e)), if_neg (by rw [← HK.out]; exact n6)])
              have hsw := sweepP_any (w.heap.size + 1) F R.A W2 HS2.out.at_ hsnd
              clear hid hidp hfi hsnd n1 n2 n3 n45 n6
              go_wp2_with fail
              refine hsw.mono ?_
              rintro e w6 ⟨rfl, hled5⟩
              obtain ⟨F6, S6⟩ := HS2.out.led hled5
              have dt6 : w6.cell? ⟨wr.heap.size + 1, 0, none⟩ = some (.int .i64 t) := Lib.cell_of_heap ((HKQ.out _ _ hled5).2.trans HT.out) 0
              have dk6 : w6.cell? ⟨wr.heap.size, 0, none⟩ = some (.int .i64 kk) := Lib.cell_of_heap ((HKQ.out _ _ hled5).1.trans HD.out) 0
              have HS6 : Hid (PlSt w (w.heap.size + 1) w5.heap.size i F6 ⟨R.A.swept, R.M, R.T⟩ vs tv w6) := S6
              clear hled5 S6 hsw dt d2 d3 d4 d5 dk HKP HKQ HD HT HS HS2
              go_wp2_with fail
              go_meet
              case rel => exact ⟨F6, vs, by rw [HQ1.out], by rw [HQ1.out, upd_self]; exact HS6.out.up (by omega), dt6, dk6⟩
          case rest =>
            as_aux_lemma =>
              first
                | (have HDE : Hid (R.deed me d = ⟨Q.1, upd R.M t Q.2.1, R.T⟩) := by unfold Rn.deed; rw [← HTD.out, ← HQ.out, if_neg HNE.out]; exact rfl
                   obtain ⟨F', vs', rfl, S9, dt9, dk9⟩ := hcut
                   have hne2 : ((t : Int) == (me : Int)) = false := by have := HNE.out; simp; omega
                   have HS9 : Hid (PlSt w (w.heap.size + 1) w5.heap.size (i + 1) F' ⟨Q.1, upd R.M t Q.2.1, R.T⟩ vs' tv wc) := S9
                   clear S9 HS HS2 HD HT HQ HK
                   go_wp2_with fail
                   go_roundg (gk - 1)
                   case measure => have := HIG.out; omega
                   case rel => exact ⟨i + 1, F', vs', _, by have := HIG.out; omega, by go_num, rfl, by rw [HR1.out, HG.out, HDE.out]; exact HS9.out⟩)
                | (
                   obtain ⟨F', vs', rfl, S9, dt9, dk9⟩ := hcut
                   have HDE : Hid (R.deed t d = ⟨Q.1, upd R.M t Q.2.1, R.T ++ [kk, Q.2.2, Q.1.cnt t]⟩) := by unfold Rn.deed; rw [← HTD.out, ← HQ.out, ← HK.out, if_pos rfl]; exact rfl
                   have HS9 : Hid (PlSt w (w.heap.size + 1) w5.heap.size (i + 1) F' ⟨Q.1, upd R.M t Q.2.1, R.T⟩ vs' tv wc) := S9
                   have HTL : Hid (R.T.length ≤ 3 * i) := HS.out.tl
                   have hcnt := countP_any (w.heap.size + 1) t F' Q.1 wc.drew S9.drew.at_ (by omega)
                   obtain ⟨cn, hcn⟩ : ∃ x, x = Q.1.cnt t := ⟨_, rfl⟩
                   obtain ⟨xx, hxx⟩ : ∃ x, x = Q.2.2 := ⟨_, rfl⟩
                   rw [← hcn] at hcnt HDE
                   rw [← hxx] at HDE ⊢
                   obtain ⟨ln, hln⟩ : ∃ x, x = R.T.length := ⟨_, rfl⟩
                   have hrow : wc.ownsRow w.heap.size 3 1 tv ln (R.T.map (Value.int .i64)) := by rw [hln]; exact S9.told
                   have HLN : Hid (ln = R.T.length) := hln
                   have HL3 : Hid (ln ≤ 450 ∧ w.heap.size ≤ wc.heap.size) := ⟨by have := HTL.out; omega, S9.bel.size⟩
                   obtain ⟨i0, hi, hz0, hz1, hz2⟩ := info_parts Try.info3
                   have OW : Hid (∀ o, (wc.alloc o).drew.ownsRow w.heap.size 3 1 tv ln (R.T.map (Value.int .i64))) := fun o => World.ownsRow.alloc hrow o
                   have HPU : Hid (∀ (g7 cap7 : Nat) (w7 : World) (o : Obj), w7.ownsRow w.heap.size 3 1 (.slice (some ⟨g7, 0, none⟩) (ln + 3) cap7) (ln + 3) (R.T.map (Value.int .i64) ++ [.int .i64 kk, .int .i64 xx, .int .i64 cn]) → (wc.alloc o).drew.grownBy w7 tv.ownBlock → (tv.ownBlock = some g7 ∨ g7 = (wc.alloc o).drew.heap.size) →
                       PlSt w (w.heap.size + 1) w5.heap.size (i + 1) F' (R.deed t d) vs' (.slice (some ⟨g7, 0, none⟩) (ln + 3) cap7) w7) := fun g7 cap7 w7 o ho hg ha => by
                     have e1 := HLN.out
                     subst e1
                     have hs : wc.heap.size + 1 ≤ w7.heap.size := by have := hg.size; simpa using this
                     rw [HDE.out]
                     refine HS9.out.tell (j := i + 1) (Nat.le_refl _) (by rw [List.length_append]; have := HTL.out; simp; omega) (W' := w7) (by rw [List.map_append, List.length_append]; exact ho) (fun g hgg => ?_) (by omega) (fun k hk hne => grown_blk hg hk hne) ⟨hg.os, hg.tape, hg.output⟩
                     simp only [Value.ownBlock, Option.some.injEq] at hgg
                     subst hgg
                     rcases ha with e | e
                     · exact .inl e
                     · exact .inr (by rw [e]; simp)
                   clear hcn hxx hln hrow S9 HS HS2 HD HT HQ HK
                   go_wp2_with fail
                   go_region_law (first | (refine step_append_lies _ (by rfl) _ _ 31 (by rfl) w.heap.size 3 i0 (.int .i64 0) 1 8 Try.underlying31 hi hz0 hz1 hz2 rfl (by decide) tv ln (R.T.map (Value.int .i64)) (by rfl) (OW.out _) ⟨wc.heap.size, 0, none⟩ 3 3 [.int .i64 kk, .int .i64 xx, .int .i64 cn] (by rfl) rfl (cell_three_new _ _ _ _ _) (by intro u hu; simp at hu; rcases hu with rfl | rfl | rfl <;> rfl) (by omega) (by have := HL3.out.1; unfold maxLen; omega) (by have := HL3.out.1; omega) (by have := HL3.out.2; simp; omega) _ rfl ?_; intro g7 cap7 w7 hown7 hgrow7 hat7 hlt7) | (go_simp; go_wp2_with (go_at_call 22; refine hcnt.mono ?_; rintro e wq ⟨rfl, rfl⟩)))
                   all_goals
                     have HR9 : Hid _ := HPU.out _ _ _ _ hown7 hgrow7 hat7
                     clear hown7 hgrow7 hat7
                     go_wp2_with fail
                     go_roundg (gk - 1)
                     case measure => have := HIG.out; omega
                     case rel => exact ⟨i + 1, F', vs', _, by have := HIG.out; omega, by go_num, rfl, by rw [HR1.out, HG.out]; exact HR9.out⟩)
    · have hnn := HND.out.1
      have HEN : Hid (wr.ownsRow w.heap.size 3 1 tv (runI me all ds 150).T.length ((runI me all ds 150).T.map (Value.int .i64)) ∧ (runI me all ds 150).T.length ≤ 450 ∧ Below w.heap.size w wr) := by
        have hi : i = min ds.length 150 := by have := HND.out.2; omega
        rw [← runI_past hi, HR.out]
        exact ⟨HS.out.told, by have := HS.out.tl; omega, HS.out.bel⟩
      have hcase : (¬ (i : Int) < (nd : Int)) ∨ ((i : Int) < (nd : Int) ∧ ¬ (i : Int) < 150) := by omega
      clear hnn
      rcases hcase with hc | ⟨hc, hc2⟩
      all_goals
        go_wp2_with fail
        go_ret2
        exact ⟨tv, rfl, HEN.out⟩
end Go.Proofs.Ytfogedmghhacdaa.A
