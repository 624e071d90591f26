/- ArenaPlays: one move. -/
import Derived.Test.YtfogedmghhacdaaRsMoved0
import Derived.Deep.CutBlock
import Derived.Deep.RegionHeld3
namespace Go.Proofs.Ytfogedmghhacdaa.A
open Go.RowKit Go.Maps

/-- behind a move -/
def MvOut (w : World) (ba bs db : Nat) (l : List Int) (e : Ending) (w' : World) : Prop :=
  e = .returned (.bool true) ∧ ∃ F G A v l', PaSt w ba bs db F G A A v l' w' ∧ Good A ∧ l'.length ≤ l.length + 1 ∧ ∀ z ∈ l', Fits z
set_option maxRecDepth 20000 in
set_option maxHeartbeats 8000000 in
theorem moved_any (ba bs db : Nat) (k t a0 a1 a2 a3 : Int) (F G : Nat → Prop) (A : Ar) (v : Value) (l : List Int) (w W : World) (h : PaSt w ba bs db F G A A v l W) (hG : Good A) (hl : l.length < 1000) (hlf : ∀ z ∈ l, Fits z) (hd : Fits a0 ∧ Fits a1 ∧ Fits a2 ∧ Fits a3) :
    Calls Try.prog 8 #[.pointer (some ⟨ba, 0, none⟩), .pointer (some ⟨bs, 0, none⟩), .pointer (some ⟨db, 0, none⟩), .agg #[.int .i64 k, .int .i64 t, .int .i64 a0, .int .i64 a1, .int .i64 a2, .int .i64 a3]] W fun e w' => MvOut w ba bs db l e w' := by
  have hb0 : Below W.heap.size W (W.alloc (.cells #[.int .i64 k, .int .i64 t, .int .i64 a0, .int .i64 a1, .int .i64 a2, .int .i64 a3] 37)) := (Below.refl _ _).alloc (Nat.le_refl _) _
  have h1 := h.below hb0
  have hm : (W.alloc (.cells #[.int .i64 k, .int .i64 t, .int .i64 a0, .int .i64 a1, .int .i64 a2, .int .i64 a3] 37)).heap[W.heap.size]? = some (.cells #[.int .i64 k, .int .i64 t, .int .i64 a0, .int .i64 a1, .int .i64 a2, .int .i64 a3] 37 (0, 0)) := heap_alloc_new W _
  have HNM : Hid (¬ F W.heap.size ∧ ¬ G W.heap.size) := ⟨fun e => by have := h.ar.flt _ e; omega, fun e => by have := h.st.flt e; omega⟩
  obtain ⟨va, vc, rfl, _⟩ := row_slice h.row
  obtain ⟨n, hn⟩ : ∃ n, n = l.length := ⟨_, rfl⟩
  have HN : Hid (n = l.length) := hn
  have HLF : Hid (∀ z ∈ l, Fits z) := hlf
  have HFT : Hid (Fits a0 ∧ Fits a1 ∧ Fits a2 ∧ Fits a3) := hd
  have HGD : Hid (Good A) := hG
  rw [← hn] at h1 hl
  clear h hn hlf hd hG
  go_enter Try.func8, Try.ntmps8
  go_wp2_with fail
  generalize W.alloc (.cells #[.int .i64 k, .int .i64 t, .int .i64 a0, .int .i64 a1, .int .i64 a2, .int .i64 a3] 37) = W1 at *
  have HP : Hid (PaSt w ba bs db F G A A (.slice va n vc) l W1) := h1
  have HM : Hid (W1.heap[W.heap.size]? = some (.cells #[.int .i64 k, .int .i64 t, .int .i64 a0, .int .i64 a1, .int .i64 a2, .int .i64 a3] 37 (0, 0))) := hm
  have HLT : Hid (W.heap.size < W1.heap.size ∧ db < W1.heap.size) := ⟨(Array.getElem?_eq_some_iff.1 hm).1, h1.dlt⟩
  clear h1 hm hb0
  generalize W.heap.size = mb at *
  go_cut [10] from 29 to 57 (fun s10 wq => ∃ qb, s10 = .pointer (some ⟨qb, 0, none⟩) ∧ W1.heap.size ≤ qb ∧ wq.heap[qb]? = some (.cells #[.int .i64 (ofF l a0), .int .i64 (ofF l a1), .int .i64 (ofF l a2), .int .i64 (ofF l a3)] 35 (0, 0)) ∧ Below W1.heap.size W1 wq)
  case first =>
    have cd : W1.cell? ⟨db, 0, none⟩ = some (.slice va n vc) := Lib.cell_of_heap HP.out.ids 0
    have m2 : W1.cell? ⟨mb, 2, none⟩ = some (.int .i64 a0) := Lib.cell_of_heap HM.out 2
    have m3 : W1.cell? ⟨mb, 3, none⟩ = some (.int .i64 a1) := Lib.cell_of_heap HM.out 3
    have m4 : W1.cell? ⟨mb, 4, none⟩ = some (.int .i64 a2) := Lib.cell_of_heap HM.out 4
    have m5 : W1.cell? ⟨mb, 5, none⟩ = some (.int .i64 a3) := Lib.cell_of_heap HM.out 5
    have ld : db < W1.heap.size := HLT.out.2
    have lm : mb < W1.heap.size := HLT.out.1
    have HOF : Hid (∀ n' W', Below W1.heap.size W1 W' → _) := fun n' W' hb => of_eq l va n vc n' W' (row_other HP.out.row fun k hk => hb.block k (HP.out.row.lt k hk).2) HN.out (by omega)
    have HKC : Hid (∀ W', Below W1.heap.size W1 W' → W'.cell? ⟨db, 0, none⟩ = some (.slice va n vc) ∧ W'.cell? ⟨mb, 2, none⟩ = some (.int .i64 a0) ∧ W'.cell? ⟨mb, 3, none⟩ = some (.int .i64 a1) ∧ W'.cell? ⟨mb, 4, none⟩ = some (.int .i64 a2) ∧ W'.cell? ⟨mb, 5, none⟩ = some (.int .i64 a3)) := fun W' hb => by
      have kc := fun j => hb.cell (p := ⟨mb, j, none⟩) lm
      exact ⟨(hb.cell (p := ⟨db, 0, none⟩) ld).trans cd, (kc 2).trans m2, (kc 3).trans m3, (kc 4).trans m4, (kc 5).trans m5⟩
    go_region_held3 (fun w' => w'.cell? ⟨db, 0, none⟩ = some (.slice va n vc) ∧ w'.cell? ⟨mb, 2, none⟩ = some (.int .i64 a0) ∧ w'.cell? ⟨mb, 3, none⟩ = some (.int .i64 a1) ∧ w'.cell? ⟨mb, 4, none⟩ = some (.int .i64 a2) ∧ w'.cell? ⟨mb, 5, none⟩ = some (.int .i64 a3)) (exact HKC.out _ (by repeat (first | refine Below.alloc ?_ (by simp <;> omega) _ | refine Below.setCell ?_ (by simp <;> omega) _ | exact Below.refl _ _ | refine Below.drew ?_))) ((first
      | (go_at_call_of 24 (Value.int IntKind.i64 a0); refine (HOF.out a0 _ (by repeat (first | refine Below.alloc ?_ (by simp <;> omega) _ | refine Below.setCell ?_ (by simp <;> omega) _ | exact Below.refl _ _ | refine Below.drew ?_))).mono ?_; rintro e wq ⟨rfl, rfl⟩)
      | (go_at_call_of 24 (Value.int IntKind.i64 a1); refine (HOF.out a1 _ (by repeat (first | refine Below.alloc ?_ (by simp <;> omega) _ | refine Below.setCell ?_ (by simp <;> omega) _ | exact Below.refl _ _ | refine Below.drew ?_))).mono ?_; rintro e wq ⟨rfl, rfl⟩)
      | (go_at_call_of 24 (Value.int IntKind.i64 a2); refine (HOF.out a2 _ (by repeat (first | refine Below.alloc ?_ (by simp <;> omega) _ | refine Below.setCell ?_ (by simp <;> omega) _ | exact Below.refl _ _ | refine Below.drew ?_))).mono ?_; rintro e wq ⟨rfl, rfl⟩)
      | (go_at_call_of 24 (Value.int IntKind.i64 a3); refine (HOF.out a3 _ (by repeat (first | refine Below.alloc ?_ (by simp <;> omega) _ | refine Below.setCell ?_ (by simp <;> omega) _ | exact Below.refl _ _ | refine Below.drew ?_))).mono ?_; rintro e wq ⟨rfl, rfl⟩)))
    all_goals
      go_wp2_with fail
      go_meet
      case rel =>
        refine ⟨_, rfl, by omega, (by first | exact qat4 _ _ _ | exact qat3 _ _ _ | exact qat2 _ _ _ | exact qat1 _ _ _ | exact qat0 _ _ _), ?_⟩
        repeat (first | refine Below.alloc ?_ (by simp <;> omega) _ | refine Below.setCell ?_ (by simp <;> omega) _ | exact Below.refl _ _ | refine Below.drew ?_)
  case rest =>
    obtain ⟨qb, rfl, hqb, hq, hb⟩ := hcut
    have HP2 : Hid (PaSt w ba bs db F G A A (.slice va n vc) l wc) := HP.out.below hb
    have HQ2 : Hid (MvQ mb qb F G k t a0 a1 a2 a3 (ofF l a0) (ofF l a1) (ofF l a2) (ofF l a3) wc) := ⟨(hb.block _ HLT.out.1).trans HM.out, hq, HNM.out, ⟨fun e => by have := HP.out.ar.flt _ e; omega, fun e => by have := HP.out.st.flt e; omega⟩⟩
    have HF0 : Hid (Fits (ofF l a0)) := ofF_fits HLF.out HFT.out.1
    have HF1 : Hid (Fits (ofF l a1)) := ofF_fits HLF.out HFT.out.2.1
    have HF2 : Hid (Fits (ofF l a2)) := ofF_fits HLF.out HFT.out.2.2.1
    have HF3 : Hid (Fits (ofF l a3)) := ofF_fits HLF.out HFT.out.2.2.2
    clear hqb hq hb HP HM HLT HNM
    generalize ofF l a0 = q0 at *
    generalize ofF l a1 = q1 at *
    generalize ofF l a2 = q2 at *
    generalize ofF l a3 = q3 at *
    obtain ⟨⟨m0, m1, m2, m3, m4, m5⟩, c0, c1, c2, c3⟩ := HQ2.out.cells
    by_cases n1 : k = 1
    · as_aux_lemma =>
        subst n1
        obtain ⟨id, er, A', hG', hfi, hA, hS⟩ := two_join ba bs t q0 q1 q2 q3 HGD.out HF0.out HF1.out HF2.out HF3.out
        have HGD' : Hid (Good A') := hG'
        have HFI : Hid (Fits id) := hfi
        have HSS : Hid (∀ W G, StAt W bs G (St.of A) → _) := hS
        have hA' := hA wc F HP2.out.ar
        clear hG' hfi hA hS
        go_wp2_with fail
        refine hA'.mono ?_
        rintro e w3 ⟨rfl, hl3⟩
        obtain ⟨F3, P3, Q3⟩ := HP2.out.stepA HQ2.out hl3
        have hS' := HSS.out w3 G P3.st
        obtain ⟨-, d0, d1, d2, d3⟩ := Q3.cells
        have HP3 : Hid (PaSt w ba bs db F3 G A' A (.slice va n vc) l w3) := P3
        clear hA' hl3 P3 Q3 m0 m1 m2 m3 m4 m5 c0 c1 c2 c3 HP2 HQ2 HSS
        go_wp2_with fail
        refine hS'.mono ?_
        rintro e w4 ⟨rfl, hl4⟩
        obtain ⟨G4, P4⟩ := HP3.out.ledS hl4
        have HP4 : Hid (PaSt w ba bs db F3 G4 A' A' (.slice va n vc) l w4) := P4
        clear hS' hl4 P4 HP3 d0 d1 d2 d3
        by_cases hE : er = 0
        · subst hE
          have cd : w4.cell? ⟨db, 0, none⟩ = some (.slice va n vc) := Lib.cell_of_heap HP4.out.ids 0
          have hdl := HP4.out.dlt
          have HND : Hid (∀ j, (Value.slice va n vc).ownBlock = some j → j ≠ db) := fun j hj => (HP4.out.fv j hj).2.2
          obtain ⟨i0, hi, hz0, hz1, hz2⟩ := info_parts Try.info3
          have OW : Hid (∀ o, (w4.alloc o).ownsRow 0 3 1 (.slice va n vc) n (l.map (Value.int .i64))) := fun o => by
            have h2 := HP4.out.row
            unfold IntRow at h2
            rw [← HN.out] at h2
            exact World.ownsRow.alloc h2 o
          go_wp2_with (at_builtin; refine wpList_append_lies _ rfl _ _ 31 rfl 0 3 i0 (.int .i64 0) 1 8 Try.underlying31 hi hz0 hz1 hz2 rfl (by decide) (.slice va n vc) n (l.map (Value.int .i64)) rfl (by exact OW.out _) ⟨w4.heap.size, 0, none⟩ 1 1 [.int .i64 id] rfl rfl (cell_one_new _ _ _) (by intro u hu; simp at hu; subst hu; rfl) (by omega) (by unfold maxLen; omega) (by omega) (by simp) (w4.heap.size + 1) (by simp) ?_; intro g7 cap7 w7 hown7 hgrow7 hat7 hlt7; have bd := (grown_bl hgrow7 hdl (fun e => HND.out db e rfl)).trans HP4.out.ids; have q4 := Lib.cell_of_heap bd 0; have q5 := Lib.frozen_of_heap bd 0)
          have HP7 : Hid _ := HP4.out.push HN.out hown7 hgrow7 hat7
          clear hown7 hgrow7 hat7 bd q4 q5 OW
          go_wp2_with fail
          go_ret
          refine ⟨rfl, _, _, _, _, _, HP7.out, HGD'.out, by rw [List.length_append]; exact Nat.le_refl _, fun z hz => ?_⟩
          rcases List.mem_append.1 hz with e | e
          · exact HLF.out z e
          · rw [List.mem_singleton.1 e]; exact HFI.out
        · have hE' : (er == 0) = false := by simpa using hE
          clear hE
          go_wp2_with fail
          go_ret
          exact ⟨rfl, _, _, _, _, _, HP4.out, HGD'.out, Nat.le_succ _, HLF.out⟩
    have e1 : (k == 1) = false := by simpa using n1
    by_cases n2 : k = 2
    · as_aux_lemma =>
        subst n2
        obtain ⟨k0, k1, k2, k3, er, hA, hS⟩ := two_kids ba bs t q0 HGD.out HF0.out
        have HSS : Hid (∀ W G, StAt W bs G (St.of A) → _) := hS
        have hA' := hA wc F HP2.out.ar
        clear hA hS
        go_wp2_with fail
        refine hA'.mono ?_
        rintro e w3 ⟨rfl, hb3⟩
        have hbz : Below w3.heap.size w3 (w3.alloc (.cells #[.int .i64 k0, .int .i64 k1, .int .i64 k2, .int .i64 k3] 35)) := (Below.refl _ _).alloc (Nat.le_refl _) _
        have HP3 : Hid (PaSt w ba bs db F G A A (.slice va n vc) l (w3.alloc (.cells #[.int .i64 k0, .int .i64 k1, .int .i64 k2, .int .i64 k3] 35))) := (HP2.out.below hb3).below hbz
        have hS' := HSS.out _ G HP3.out.st
        obtain ⟨⟨-, -, -, y3, y4, -⟩, d0, d1, d2, d3⟩ := ((HQ2.out.below hb3).below hbz).cells
        obtain ⟨⟨-, -, -, y3, y4, -⟩, x0, x1, x2, x3⟩ := (HQ2.out.below hb3).cells
        clear hA' hb3 m0 m1 m2 m3 m4 m5 c0 c1 c2 c3 HP2 HQ2 HSS hbz
        go_wp2_with fail
        refine hS'.mono ?_
        rintro e w4 ⟨rfl, hb4⟩
        have HP4 : Hid (PaSt w ba bs db F G A A (.slice va n vc) l (w4.alloc (.cells #[.int .i64 k0, .int .i64 k1, .int .i64 k2, .int .i64 k3] 35))) := (HP3.out.below hb4).below ((Below.refl _ _).alloc (Nat.le_refl _) _)
        have hx := (hb4.block w3.heap.size (by simp)).trans (heap_alloc_new w3 _)
        have z0 := Lib.cell_of_heap hx 0
        have z1 := Lib.cell_of_heap hx 1
        have z2 := Lib.cell_of_heap hx 2
        have z3 := Lib.cell_of_heap hx 3
        have hlt : w3.heap.size < w4.heap.size := (Array.getElem?_eq_some_iff.1 hx).1
        have hq4 := fun W => four_eq k0 k1 k2 k3 k0 k1 k2 k3 W
        clear hS' hb4 HP3 d0 d1 d2 d3 y3 y4 hx x0 x1 x2 x3
        go_wp2_with fail
        go_ret
        exact ⟨rfl, _, _, _, _, _, HP4.out, HGD.out, Nat.le_succ _, HLF.out⟩
    have e2 : (k == 2) = false := by simpa using n2
    by_cases n3 : k = 3
    · as_aux_lemma =>
        subst n3
        obtain ⟨lv, er, hA, hS⟩ := two_level ba bs t q0 HGD.out HF0.out
        have HSS : Hid (∀ W G, StAt W bs G (St.of A) → _) := hS
        have hA' := hA wc F HP2.out.ar
        clear hA hS
        go_wp2_with fail
        refine hA'.mono ?_
        rintro e w3 ⟨rfl, hb3⟩
        have HP3 : Hid (PaSt w ba bs db F G A A (.slice va n vc) l w3) := HP2.out.below hb3
        have hS' := HSS.out w3 G HP3.out.st
        obtain ⟨⟨-, -, -, y3, y4, -⟩, d0, d1, d2, d3⟩ := (HQ2.out.below hb3).cells
        clear hA' hb3 m0 m1 m2 m3 m4 m5 c0 c1 c2 c3 HP2 HQ2 HSS
        go_wp2_with fail
        refine hS'.mono ?_
        rintro e w4 ⟨rfl, hb4⟩
        have HP4 : Hid (PaSt w ba bs db F G A A (.slice va n vc) l w4) := HP3.out.below hb4
        clear hS' hb4 HP3 d0 d1 d2 d3 y3 y4
        go_wp2_with fail
        go_ret
        exact ⟨rfl, _, _, _, _, _, HP4.out, HGD.out, Nat.le_succ _, HLF.out⟩
    have e3 : (k == 3) = false := by simpa using n3
    by_cases n4 : k = 4
    · as_aux_lemma =>
        subst n4
        obtain ⟨er, A', hG', hA, hS⟩ := two_note ba bs t q0 a1 a2 q3 HGD.out HF0.out HFT.out.2.1 HFT.out.2.2.1 HF3.out
        have HGD' : Hid (Good A') := hG'
        have HSS : Hid (∀ W G, StAt W bs G (St.of A) → _) := hS
        have HAA : Hid (∀ W F, AtP W ba F A → _) := hA
        have HC1 : Hid (MvC mb qb 4 t a0 a1 a2 a3 q0 q1 q2 q3 wc.drew) := (HQ2.out.below (Below.refl _ _).drew).cells
        clear hG' hA hS
        go_wp2_with fail
        go_region_held3 (fun w' => w'.cell? ⟨qb, 0, none⟩ = some (.int .i64 q0) ∧ w'.cell? ⟨qb, 3, none⟩ = some (.int .i64 q3) ∧ w'.cell? ⟨mb, 3, none⟩ = some (.int .i64 a1) ∧ w'.cell? ⟨mb, 4, none⟩ = some (.int .i64 a2)) (first | exact keepN HC4.out | exact keepN HC3.out | exact keepN HC1.out) ((first
          | (go_at_call 18; refine (HAA.out _ F HP2.out.drew.ar).mono ?_; rintro e w3 ⟨rfl, hl3⟩; obtain ⟨F3, P3, Q3⟩ := HP2.out.drew.stepA (HQ2.out.below (Below.refl _ _).drew) hl3; have HC3 : Hid _ := Q3.cells; have HP3 : Hid _ := P3; have HQ3 : Hid _ := Q3; clear hl3 P3 Q3)
          | (go_at_call 30; refine (HSS.out _ G HP3.out.st).mono ?_; rintro e w4 ⟨rfl, hl4⟩; obtain ⟨G4, P4⟩ := HP3.out.ledS hl4; have HC4 : Hid (MvC mb qb 4 t a0 a1 a2 a3 q0 q1 q2 q3 w4) := HQ3.out.ledC hl4; have HP4 : Hid _ := P4; clear hl4 P4)))
        all_goals
          clear m0 m1 m2 m3 m4 m5 c0 c1 c2 c3 HP2 HQ2 HSS HAA
          go_wp2_with fail
          go_ret
          exact ⟨rfl, _, _, _, _, _, HP4.out, HGD'.out, Nat.le_succ _, HLF.out⟩
    have e4 : (k == 4) = false := by simpa using n4
    by_cases n5 : k = 5
    · as_aux_lemma =>
        subst n5
        obtain ⟨rv, ok, hA, hS⟩ := two_recall ba bs t q0 a1 a2 HGD.out HF0.out HFT.out.2.1 HFT.out.2.2.1
        have HSS : Hid (∀ W G, StAt W bs G (St.of A) → _) := hS
        have hA' := hA wc F HP2.out.ar
        clear hA hS
        go_wp2_with fail
        refine hA'.mono ?_
        rintro e w3 ⟨rfl, hb3⟩
        have HP3 : Hid (PaSt w ba bs db F G A A (.slice va n vc) l w3) := HP2.out.below hb3
        have hS' := HSS.out w3 G HP3.out.st
        obtain ⟨⟨-, -, -, y3, y4, -⟩, d0, d1, d2, d3⟩ := (HQ2.out.below hb3).cells
        clear hA' hb3 m0 m1 m2 m3 m4 m5 c0 c1 c2 c3 HP2 HQ2 HSS
        go_wp2_with fail
        refine hS'.mono ?_
        rintro e w4 ⟨rfl, hb4⟩
        have HP4 : Hid (PaSt w ba bs db F G A A (.slice va n vc) l w4) := HP3.out.below hb4
        clear hS' hb4 HP3 d0 d1 d2 d3 y3 y4
        go_wp2_with fail
        go_ret
        exact ⟨rfl, _, _, _, _, _, HP4.out, HGD.out, Nat.le_succ _, HLF.out⟩
    have e5 : (k == 5) = false := by simpa using n5
    by_cases n6 : k = 6
    · as_aux_lemma =>
        subst n6
        obtain ⟨er, A', hG', hA, hS⟩ := two_limit ba bs t a0 HGD.out
        have HGD' : Hid (Good A') := hG'
        have HSS : Hid (∀ W G, StAt W bs G (St.of A) → _) := hS
        have HAA : Hid (∀ W F, AtP W ba F A → _) := hA
        have HC1 : Hid (MvC mb qb 6 t a0 a1 a2 a3 q0 q1 q2 q3 wc.drew) := (HQ2.out.below (Below.refl _ _).drew).cells
        clear hG' hA hS
        go_wp2_with fail
        go_region_held3 (fun w' => w'.cell? ⟨mb, 2, none⟩ = some (.int .i64 a0)) (first | exact keepL HC4.out | exact keepL HC3.out | exact keepL HC1.out) ((first
          | (go_at_call 15; refine (HAA.out _ F HP2.out.drew.ar).mono ?_; rintro e w3 ⟨rfl, hl3⟩; obtain ⟨F3, P3, Q3⟩ := HP2.out.drew.stepA (HQ2.out.below (Below.refl _ _).drew) hl3; have HC3 : Hid _ := Q3.cells; have HP3 : Hid _ := P3; have HQ3 : Hid _ := Q3; clear hl3 P3 Q3)
          | (go_at_call 33; refine (HSS.out _ G HP3.out.st).mono ?_; rintro e w4 ⟨rfl, hl4⟩; obtain ⟨G4, P4⟩ := HP3.out.ledS hl4; have HC4 : Hid (MvC mb qb 6 t a0 a1 a2 a3 q0 q1 q2 q3 w4) := HQ3.out.ledC hl4; have HP4 : Hid _ := P4; clear hl4 P4)))
        all_goals
          clear m0 m1 m2 m3 m4 m5 c0 c1 c2 c3 HP2 HQ2 HSS HAA
          go_wp2_with fail
          go_ret
          exact ⟨rfl, _, _, _, _, _, HP4.out, HGD'.out, Nat.le_succ _, HLF.out⟩
    have e6 : (k == 6) = false := by simpa using n6
    by_cases n7 : k = 7
    · as_aux_lemma =>
        subst n7
        obtain ⟨er, A', hG', hA, hS⟩ := two_mark ba bs t HGD.out
        have HGD' : Hid (Good A') := hG'
        have HSS : Hid (∀ W G, StAt W bs G (St.of A) → _) := hS
        have hA' := hA wc F HP2.out.ar
        clear hG' hA hS
        go_wp2_with fail
        refine hA'.mono ?_
        rintro e w3 ⟨rfl, hl3⟩
        obtain ⟨F3, P3⟩ := HP2.out.ledA hl3
        have HP3 : Hid (PaSt w ba bs db F3 G A' A (.slice va n vc) l w3) := P3
        have hS' := HSS.out w3 G HP3.out.st
        clear hA' hl3 P3 m0 m1 m2 m3 m4 m5 c0 c1 c2 c3 HP2 HQ2 HSS
        go_wp2_with fail
        refine hS'.mono ?_
        rintro e w4 ⟨rfl, hl4⟩
        obtain ⟨G4, P4⟩ := HP3.out.ledS hl4
        have HP4 : Hid (PaSt w ba bs db F3 G4 A' A' (.slice va n vc) l w4) := P4
        clear hS' hl4 P4 HP3
        go_wp2_with fail
        go_ret
        exact ⟨rfl, _, _, _, _, _, HP4.out, HGD'.out, Nat.le_succ _, HLF.out⟩
    have e7 : (k == 7) = false := by simpa using n7
    by_cases n8 : k = 8
    · as_aux_lemma =>
        subst n8
        obtain ⟨er, A', hG', hA, hS⟩ := two_undo ba bs t HGD.out
        have HGD' : Hid (Good A') := hG'
        have HSS : Hid (∀ W G, StAt W bs G (St.of A) → _) := hS
        have hA' := hA wc F HP2.out.ar
        clear hG' hA hS
        go_wp2_with fail
        refine hA'.mono ?_
        rintro e w3 ⟨rfl, hl3⟩
        obtain ⟨F3, P3⟩ := HP2.out.ledA hl3
        have HP3 : Hid (PaSt w ba bs db F3 G A' A (.slice va n vc) l w3) := P3
        have hS' := HSS.out w3 G HP3.out.st
        clear hA' hl3 P3 m0 m1 m2 m3 m4 m5 c0 c1 c2 c3 HP2 HQ2 HSS
        go_wp2_with fail
        refine hS'.mono ?_
        rintro e w4 ⟨rfl, hl4⟩
        obtain ⟨G4, P4⟩ := HP3.out.ledS hl4
        have HP4 : Hid (PaSt w ba bs db F3 G4 A' A' (.slice va n vc) l w4) := P4
        clear hS' hl4 P4 HP3
        go_wp2_with fail
        go_ret
        exact ⟨rfl, _, _, _, _, _, HP4.out, HGD'.out, Nat.le_succ _, HLF.out⟩
    have e8 : (k == 8) = false := by simpa using n8
    by_cases n9 : k = 9
    · as_aux_lemma =>
        subst n9
        obtain ⟨er, A', hG', hA, hS⟩ := two_clean ba bs t [q0, q1] HGD.out (Nat.le_refl _) (fun z hz => by
          rcases List.mem_cons.1 hz with e | e
          · rw [e]; exact HF0.out
          · rw [List.mem_singleton.1 e]; exact HF1.out)
        have HGD' : Hid (Good A') := hG'
        have HSS : Hid (∀ W G rv, StAt W bs G (St.of A) → NRow W rv [q0, q1] → _) := hS
        have HAA : Hid (∀ W F rv, AtP W ba F A → NRow W rv [q0, q1] → _) := hA
        have hbz : Below wc.heap.size wc (wc.alloc (.cells #[.int .i64 q0, .int .i64 q1] 3)).drew := ((Below.refl _ _).alloc (Nat.le_refl _) _).drew
        have HPZ : Hid (PaSt w ba bs db F G A A (.slice va n vc) l (wc.alloc (.cells #[.int .i64 q0, .int .i64 q1] 3)).drew) := HP2.out.below hbz
        have HQZ : Hid (MvQ mb qb F G 9 t a0 a1 a2 a3 q0 q1 q2 q3 (wc.alloc (.cells #[.int .i64 q0, .int .i64 q1] 3)).drew) := HQ2.out.below hbz
        have HC1 : Hid (MvC mb qb 9 t a0 a1 a2 a3 q0 q1 q2 q3 wc.drew) := (HQ2.out.below (Below.refl _ _).drew).cells
        have HC2 : Hid (MvC mb qb 9 t a0 a1 a2 a3 q0 q1 q2 q3 (wc.alloc (.cells #[.int .i64 q0, .int .i64 q1] 3)).drew) := HQZ.out.cells
        clear hG' hA hS hbz
        go_wp2_with fail
        go_region_held3 (fun w' => w'.cell? ⟨qb, 0, none⟩ = some (.int .i64 q0) ∧ w'.cell? ⟨qb, 1, none⟩ = some (.int .i64 q1)) (first | exact keepC HC4.out | exact keepC HC3.out | exact keepC HC2.out | exact keepC HC1.out) ((first
          | (go_at_call 21; refine (HAA.out _ F _ HPZ.out.ar (row_two wc q0 q1)).mono ?_; rintro e w3 ⟨rfl, hl3⟩; obtain ⟨F3, P3, Q3⟩ := HPZ.out.stepA HQZ.out hl3; have HC3 : Hid _ := Q3.cells; have HP3 : Hid _ := P3; have HQ3 : Hid _ := Q3; clear hl3 P3 Q3)
          | (go_at_call 36; refine (HSS.out _ G _ HP3.out.st HQ3.out.two).mono ?_; rintro e w4 ⟨rfl, hl4⟩; obtain ⟨G4, P4⟩ := HP3.out.ledS hl4; have HC4 : Hid (MvC mb qb 9 t a0 a1 a2 a3 q0 q1 q2 q3 w4) := HQ3.out.ledC hl4; have HP4 : Hid _ := P4; clear hl4 P4)))
        all_goals
          clear m0 m1 m2 m3 m4 m5 c0 c1 c2 c3 HP2 HQ2 HSS HAA
          go_wp2_with fail
          go_ret
          exact ⟨rfl, _, _, _, _, _, HP4.out, HGD'.out, Nat.le_succ _, HLF.out⟩
    have e9 : (k == 9) = false := by simpa using n9
    by_cases n10 : k = 10
    · as_aux_lemma =>
        subst n10
        obtain ⟨er, A', hG', hA, hS⟩ := two_sweep ba bs HGD.out
        have HGD' : Hid (Good A') := hG'
        have HSS : Hid (∀ W G, StAt W bs G (St.of A) → _) := hS
        have hA' := hA wc F HP2.out.ar
        clear hG' hA hS
        go_wp2_with fail
        refine hA'.mono ?_
        rintro e w3 ⟨rfl, hl3⟩
        obtain ⟨F3, P3⟩ := HP2.out.ledA hl3
        have HP3 : Hid (PaSt w ba bs db F3 G A' A (.slice va n vc) l w3) := P3
        have hS' := HSS.out w3 G HP3.out.st
        clear hA' hl3 P3 m0 m1 m2 m3 m4 m5 c0 c1 c2 c3 HP2 HQ2 HSS
        go_wp2_with fail
        refine hS'.mono ?_
        rintro e w4 ⟨rfl, hl4⟩
        obtain ⟨G4, P4⟩ := HP3.out.ledS hl4
        have HP4 : Hid (PaSt w ba bs db F3 G4 A' A' (.slice va n vc) l w4) := P4
        clear hS' hl4 P4 HP3
        go_wp2_with fail
        go_ret
        exact ⟨rfl, _, _, _, _, _, HP4.out, HGD'.out, Nat.le_succ _, HLF.out⟩
    have e10 : (k == 10) = false := by simpa using n10
    as_aux_lemma =>
      obtain ⟨cn, hA, hS⟩ := two_count ba bs t HGD.out
      have HSS : Hid (∀ W G, StAt W bs G (St.of A) → _) := hS
      have hA' := hA wc F HP2.out.ar
      clear hA hS
      go_wp2_with fail
      refine hA'.mono ?_
      rintro e w3 ⟨rfl, hb3⟩
      have HP3 : Hid (PaSt w ba bs db F G A A (.slice va n vc) l w3) := HP2.out.below hb3
      have hS' := HSS.out w3 G HP3.out.st
      obtain ⟨⟨-, -, -, y3, y4, -⟩, d0, d1, d2, d3⟩ := (HQ2.out.below hb3).cells
      clear hA' hb3 m0 m1 m2 m3 m4 m5 c0 c1 c2 c3 HP2 HQ2 HSS
      go_wp2_with fail
      refine hS'.mono ?_
      rintro e w4 ⟨rfl, hb4⟩
      have HP4 : Hid (PaSt w ba bs db F G A A (.slice va n vc) l w4) := HP3.out.below hb4
      clear hS' hb4 HP3 d0 d1 d2 d3 y3 y4
      go_wp2_with fail
      go_ret
      exact ⟨rfl, _, _, _, _, _, HP4.out, HGD.out, Nat.le_succ _, HLF.out⟩
end Go.Proofs.Ytfogedmghhacdaa.A
