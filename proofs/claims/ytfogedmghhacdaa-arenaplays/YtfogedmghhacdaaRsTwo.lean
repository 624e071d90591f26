/- ArenaPlays: to each deed both arenas answer the same, and are one behind it. -/
import Derived.Test.YtfogedmghhacdaaRsGood
namespace Go.Proofs.Ytfogedmghhacdaa.A
open Go.RowKit Go.Maps

theorem lack_one {α β : Type} {o : Option α} {p : Option β} (h : o.isSome = p.isSome) : lack o = lack p := by
  cases o <;> cases p <;> first | rfl | (simp at h)
theorem fits_small {z : Int} (h0 : 0 ≤ z) (h1 : z ≤ 1000000) : Fits z := ⟨by omega, by omega⟩
theorem first_le (l : List Th) : firstNo l ≤ l.length := by
  unfold firstNo
  cases h : l.findIdx? isNo with
  | none => exact Nat.le_refl _
  | some i => exact Nat.le_of_lt (List.findIdx?_eq_some_iff_getElem.1 h).1
theorem spot_lt {l : List Th} {q : Ky} {i : Nat} (h : spotF l q = some i) : i < l.length := by
  unfold spotF at h
  exact (List.findIdx?_eq_some_iff_getElem.1 h).1
theorem beco_fits {A : Ar} (hG : Good A) (t : Nat) (x : Th) (hk : x.k ≠ 0) : Fits (A.beco t x).2.1 := by
  have h1 := hG.s.len
  have h2 := hG.s.room1
  have h3 := hG.made.s.len
  have h4 := hG.made.s.room1
  unfold Ar.beco
  cases hs : spotF A.ths x.key with
  | some i =>
    have := spot_lt hs
    simp only
    split
    · exact fits_small (by simp only; omega) (by simp only; omega)
    · split
      · exact fits_zero
      · exact fits_small (by simp only; omega) (by simp only; omega)
  | none =>
    simp only
    split
    · exact fits_zero
    · split
      · exact fits_zero
      · simp only
        rw [(laid_ref A.made t x hk).1]
        have := first_le A.made.ths
        exact fits_small (by omega) (by omega)
section
variable (ba bs : Nat) (t : Int) {A : Ar}
theorem two_join (q0 q1 q2 q3 : Int) (hG : Good A) (h0 : Fits q0) (h1 : Fits q1) (h2 : Fits q2) (h3 : Fits q3) : ∃ (id er : Int) (A' : Ar), Good A' ∧ Fits id ∧
    (∀ W F, AtP W ba F A → Calls Try.prog 17 #[.pointer (some ⟨ba, 0, none⟩), .int .i64 t, .agg #[.int .i64 q0, .int .i64 q1, .int .i64 q2, .int .i64 q3]] W fun e w' => e = .returned (.tuple #[.int .i64 id, .int .i64 er]) ∧ Led W ba F A' w') ∧
    (∀ W G, StAt W bs G (St.of A) → Calls Try.prog 25 #[.pointer (some ⟨bs, 0, none⟩), .int .i64 t, .agg #[.int .i64 q0, .int .i64 q1, .int .i64 q2, .int .i64 q3]] W fun e w' => e = .returned (.tuple #[.int .i64 id, .int .i64 er]) ∧ LedS W bs G (St.of A') w') := by
  by_cases ht : 0 ≤ t ∧ t < 64
  · obtain ⟨n, rfl⟩ : ∃ n : Nat, t = n := ⟨t.toNat, by omega⟩
    refine ⟨(A.joinP n q0 q1 q2 q3).2.1, (A.joinP n q0 q1 q2 q3).2.2, (A.joinP n q0 q1 q2 q3).1, hG.join (by omega) h0 h1 h2 h3, ?_, fun W F h => joinP_any ba n q0 q1 q2 q3 F A W h hG.s (by omega) h0 h1 h2 h3, fun W G h => joinS_any bs n q0 q1 q2 q3 G A W h hG.s (by omega)⟩
    unfold Ar.joinP
    split
    · exact beco_fits hG n _ (by show (1 : Int) ≠ 0; omega)
    · exact fits_zero
  · exact ⟨0, 3, A, hG, fits_zero, fun W F h => (joinA_no ba t q0 q1 q2 q3 W ht).mono fun e w' ⟨a, b⟩ => ⟨a, h.ledB b⟩, fun W G h => (joinS_no bs t q0 q1 q2 q3 W ht).mono fun e w' ⟨a, b⟩ => ⟨a, LedS.of_below h b⟩⟩
theorem two_kids (id : Int) (hG : Good A) (h0 : Fits id) : ∃ (k0 k1 k2 k3 er : Int),
    (∀ W F, AtP W ba F A → Calls Try.prog 26 #[.pointer (some ⟨ba, 0, none⟩), .int .i64 t, .int .i64 id] W fun e w' => e = .returned (.tuple #[.agg #[.int .i64 k0, .int .i64 k1, .int .i64 k2, .int .i64 k3], .int .i64 er]) ∧ Below W.heap.size W w') ∧
    (∀ W G, StAt W bs G (St.of A) → Calls Try.prog 27 #[.pointer (some ⟨bs, 0, none⟩), .int .i64 t, .int .i64 id] W fun e w' => e = .returned (.tuple #[.agg #[.int .i64 k0, .int .i64 k1, .int .i64 k2, .int .i64 k3], .int .i64 er]) ∧ Below W.heap.size W w') := by
  by_cases ht : 0 ≤ t ∧ t < 64
  · obtain ⟨n, rfl⟩ : ∃ n : Nat, t = n := ⟨t.toNat, by omega⟩
    obtain ⟨e1, e2⟩ := kids_ref hG.s.zero n id
    obtain ⟨k0, k1, k2, k3, hk⟩ : ∃ k0 k1 k2 k3 : Int, kidsV (squareF A.ths n id) = .agg #[.int .i64 k0, .int .i64 k1, .int .i64 k2, .int .i64 k3] := by
      cases squareF A.ths n id with
      | none => exact ⟨0, 0, 0, 0, rfl⟩
      | some x => exact ⟨_, _, _, _, rfl⟩
    refine ⟨k0, k1, k2, k3, lack (squareF A.ths n id), fun W F h => ?_, fun W G h => ?_⟩
    · have := kidsP_any ba n F id A W h hG.s (by omega) h0
      rw [hk] at this
      exact this
    · have := kidsS_any bs n id G (St.of A) W h (of_tame hG.s) (by omega)
      rw [show kidsS (squareS (St.of A).ths n id) = _ from e1, hk, lack_one (show (squareS (St.of A).ths n id).isSome = _ from e2)] at this
      exact this
  · exact ⟨0, 0, 0, 0, 6, fun W F h => Kids_no ba t id W ht, fun W G h => kidsS_no bs t id W ht⟩
theorem two_level (id : Int) (hG : Good A) (h0 : Fits id) : ∃ (lv er : Int),
    (∀ W F, AtP W ba F A → Calls Try.prog 28 #[.pointer (some ⟨ba, 0, none⟩), .int .i64 t, .int .i64 id] W fun e w' => e = .returned (.tuple #[.int .i64 lv, .int .i64 er]) ∧ Below W.heap.size W w') ∧
    (∀ W G, StAt W bs G (St.of A) → Calls Try.prog 29 #[.pointer (some ⟨bs, 0, none⟩), .int .i64 t, .int .i64 id] W fun e w' => e = .returned (.tuple #[.int .i64 lv, .int .i64 er]) ∧ Below W.heap.size W w') := by
  by_cases ht : 0 ≤ t ∧ t < 64
  · obtain ⟨n, rfl⟩ : ∃ n : Nat, t = n := ⟨t.toNat, by omega⟩
    obtain ⟨e1, e2⟩ := level_ref hG.s.zero n id
    refine ⟨(levelF A.ths n id).getD 0, lack (levelF A.ths n id), fun W F h => LevelP_any ba n F id A W h hG.s (by omega) h0, fun W G h => ?_⟩
    have := levelS_any bs n id G (St.of A) W h (of_tame hG.s) (by omega)
    rw [show ((ownedF (St.of A).ths n id 0).getD noRt).lv = _ from e1, lack_one (show (ownedF (St.of A).ths n id 0).isSome = _ from e2)] at this
    exact this
  · exact ⟨0, 6, fun W F h => (Level_no ba t id W ht).mono fun e w' ⟨a, b⟩ => ⟨a, by rw [b]; exact Below.refl _ _⟩, fun W G h => (levelS_no bs t id W ht).mono fun e w' ⟨a, b⟩ => ⟨a, by rw [b]; exact Below.refl _ _⟩⟩
theorem two_note (s r j v : Int) (hG : Good A) (h0 : Fits s) (h1 : Fits r) (h2 : Fits j) (h3 : Fits v) : ∃ (er : Int) (A' : Ar), Good A' ∧
    (∀ W F, AtP W ba F A → Calls Try.prog 18 #[.pointer (some ⟨ba, 0, none⟩), .int .i64 t, .int .i64 s, .int .i64 r, .int .i64 j, .int .i64 v] W fun e w' => e = .returned (.int .i64 er) ∧ Led W ba F A' w') ∧
    (∀ W G, StAt W bs G (St.of A) → Calls Try.prog 30 #[.pointer (some ⟨bs, 0, none⟩), .int .i64 t, .int .i64 s, .int .i64 r, .int .i64 j, .int .i64 v] W fun e w' => e = .returned (.int .i64 er) ∧ LedS W bs G (St.of A') w') := by
  by_cases ht : 0 ≤ t ∧ t < 64
  · obtain ⟨n, rfl⟩ : ∃ n : Nat, t = n := ⟨t.toNat, by omega⟩
    exact ⟨(A.noteP n s r j v).2, (A.noteP n s r j v).1, hG.note (by omega) h0 h1 h2 h3, fun W F h => noteP_any ba n F s r j v A W h hG.s (by omega) h0 h1 h2 h3, fun W G h => noteS_any bs n s r j v G A W h hG.s (by omega)⟩
  · exact ⟨6, A, hG, fun W F h => (noteA_no ba t s r j v W ht).mono fun e w' ⟨a, b⟩ => ⟨a, by rw [b]; exact h.led⟩, fun W G h => (noteS_no bs t s r j v W ht).mono fun e w' ⟨a, b⟩ => ⟨a, by rw [b]; exact LedS.of_below h (Below.refl _ _)⟩⟩
theorem two_recall (s r j : Int) (hG : Good A) (h0 : Fits s) (h1 : Fits r) (h2 : Fits j) : ∃ (v : Int) (ok : Bool),
    (∀ W F, AtP W ba F A → Calls Try.prog 31 #[.pointer (some ⟨ba, 0, none⟩), .int .i64 t, .int .i64 s, .int .i64 r, .int .i64 j] W fun e w' => e = .returned (.tuple #[.int .i64 v, .bool ok]) ∧ Below W.heap.size W w') ∧
    (∀ W G, StAt W bs G (St.of A) → Calls Try.prog 32 #[.pointer (some ⟨bs, 0, none⟩), .int .i64 t, .int .i64 s, .int .i64 r, .int .i64 j] W fun e w' => e = .returned (.tuple #[.int .i64 v, .bool ok]) ∧ Below W.heap.size W w') := by
  by_cases ht : 0 ≤ t ∧ t < 64
  · obtain ⟨n, rfl⟩ : ∃ n : Nat, t = n := ⟨t.toNat, by omega⟩
    refine ⟨(recallF A.ths n s r j).getD 0, (recallF A.ths n s r j).isSome, fun W F h => recallP_any ba n F s r j A W h hG.s (by omega) h0 h1 h2, fun W G h => ?_⟩
    have := recallS_any bs n s r j G (St.of A) W h (of_tame hG.s) (by omega)
    rw [show recS (St.of A).ths n s r j = _ from recall_ref hG.s.uniq n s r j] at this
    exact this
  · exact ⟨0, false, fun W F h => (recallA_no ba t s r j W ht).mono fun e w' ⟨a, b⟩ => ⟨a, by rw [b]; exact Below.refl _ _⟩, fun W G h => recallS_no bs t s r j G (St.of A) W h (of_tame hG.s) ht⟩
theorem two_limit (n : Int) (hG : Good A) : ∃ (er : Int) (A' : Ar), Good A' ∧
    (∀ W F, AtP W ba F A → Calls Try.prog 15 #[.pointer (some ⟨ba, 0, none⟩), .int .i64 t, .int .i64 n] W fun e w' => e = .returned (.int .i64 er) ∧ Led W ba F A' w') ∧
    (∀ W G, StAt W bs G (St.of A) → Calls Try.prog 33 #[.pointer (some ⟨bs, 0, none⟩), .int .i64 t, .int .i64 n] W fun e w' => e = .returned (.int .i64 er) ∧ LedS W bs G (St.of A') w') := by
  by_cases ht : (0 ≤ t ∧ t < 64) ∧ 0 ≤ n ∧ n ≤ A.room
  · obtain ⟨ht, h0, h1⟩ := ht
    obtain ⟨m, rfl⟩ : ∃ m : Nat, t = m := ⟨t.toNat, by omega⟩
    exact ⟨0, A.limP m n, hG.lim h0 h1, fun W F h => limP_any ba m F n A W h (by omega) h0 h1, fun W G h => limS_any bs m n G (St.of A) W h (by omega) h0 h1⟩
  · exact ⟨3, A, hG, fun W F h => (limA_bad ba t n F A W h ht).mono fun e w' ⟨a, b⟩ => ⟨a, by rw [b]; exact h.led⟩, fun W G h => (limS_bad bs t n G (St.of A) W h ht).mono fun e w' ⟨a, b⟩ => ⟨a, by rw [b]; exact LedS.of_below h (Below.refl _ _)⟩⟩
theorem two_mark (hG : Good A) : ∃ (er : Int) (A' : Ar), Good A' ∧
    (∀ W F, AtP W ba F A → Calls Try.prog 19 #[.pointer (some ⟨ba, 0, none⟩), .int .i64 t] W fun e w' => e = .returned (.int .i64 er) ∧ Led W ba F A' w') ∧
    (∀ W G, StAt W bs G (St.of A) → Calls Try.prog 34 #[.pointer (some ⟨bs, 0, none⟩), .int .i64 t] W fun e w' => e = .returned (.int .i64 er) ∧ LedS W bs G (St.of A') w') := by
  by_cases ht : 0 ≤ t ∧ t < 64
  · obtain ⟨n, rfl⟩ : ∃ n : Nat, t = n := ⟨t.toNat, by omega⟩
    exact ⟨0, A.lose n [] [], hG.mark (by omega), fun W F h => markP_any ba n F A W h (by omega), fun W G h => markS_any bs n G (St.of A) W h (by omega)⟩
  · exact ⟨11, A, hG, fun W F h => (markA_no ba t W ht).mono fun e w' ⟨a, b⟩ => ⟨a, by rw [b]; exact h.led⟩, fun W G h => (markS_no bs t W ht).mono fun e w' ⟨a, b⟩ => ⟨a, by rw [b]; exact LedS.of_below h (Below.refl _ _)⟩⟩
theorem fresh_few (hG : Good A) {n : Nat} (ht : n < 64) : (A.fresh n).length < 900000 := by
  obtain ⟨h1, h2⟩ := hG.s.fresh n ht
  have h3 := hG.s.len
  have h4 := hG.s.room1
  have hs := nodup_le A.ths.length _ h1 fun id hid => by
    obtain ⟨k2, x, hx, _⟩ := h2 id hid
    exact ⟨k2, (List.getElem?_eq_some_iff.1 hx).1⟩
  omega
theorem two_undo (hG : Good A) : ∃ (n : Int) (A' : Ar), Good A' ∧
    (∀ W F, AtP W ba F A → Calls Try.prog 20 #[.pointer (some ⟨ba, 0, none⟩), .int .i64 t] W fun e w' => e = .returned (.int .i64 n) ∧ Led W ba F A' w') ∧
    (∀ W G, StAt W bs G (St.of A) → Calls Try.prog 35 #[.pointer (some ⟨bs, 0, none⟩), .int .i64 t] W fun e w' => e = .returned (.int .i64 n) ∧ LedS W bs G (St.of A') w') := by
  by_cases ht : 0 ≤ t ∧ t < 64
  · obtain ⟨n, rfl⟩ : ∃ n : Nat, t = n := ⟨t.toNat, by omega⟩
    have hn : n < 64 := by omega
    obtain ⟨e1, e2⟩ := undo_ref hG.s hn
    refine ⟨((A.fresh n).length : Int), A.lose n (A.fresh n) [], hG.lose hn, fun W F h => undoP_any ba n F A W h hG.s hn, fun W G h => ?_⟩
    have := undoS_any bs n G (St.of A) W h (of_tame hG.s) hn (by show (A.fresh n).length < 1000000; have := fresh_few hG hn; omega)
    rw [e1, e2] at this
    exact this
  · exact ⟨0, A, hG, fun W F h => (undoA_no ba t W ht).mono fun e w' ⟨a, b⟩ => ⟨a, by rw [b]; exact h.led⟩, fun W G h => (undoS_no bs t W ht).mono fun e w' ⟨a, b⟩ => ⟨a, by rw [b]; exact LedS.of_below h (Below.refl _ _)⟩⟩
theorem two_clean (rs : List Int) (hG : Good A) (hrl : rs.length ≤ 2) (hf : ∀ id ∈ rs, Fits id) : ∃ (n : Int) (A' : Ar), Good A' ∧
    (∀ W F rv, AtP W ba F A → NRow W rv rs → Calls Try.prog 21 #[.pointer (some ⟨ba, 0, none⟩), .int .i64 t, rv] W fun e w' => e = .returned (.int .i64 n) ∧ Led W ba F A' w') ∧
    (∀ W G rv, StAt W bs G (St.of A) → NRow W rv rs → Calls Try.prog 36 #[.pointer (some ⟨bs, 0, none⟩), .int .i64 t, rv] W fun e w' => e = .returned (.int .i64 n) ∧ LedS W bs G (St.of A') w') := by
  by_cases ht : 0 ≤ t ∧ t < 64
  · obtain ⟨n, rfl⟩ : ∃ n : Nat, t = n := ⟨t.toNat, by omega⟩
    have hn : n < 64 := by omega
    exact ⟨((idsF A.ths n (keepAll A.ths n rs) A.ths.length).length : Int), A.cleanP n rs, hG.clean hn rs, fun W F rv h hr => cleanP_any ba n F A rs rv W h hG.s hn hr (by omega) hf, fun W G rv h hr => cleanS_any bs n rs rv G A W h hG.s hn hr hrl hf (hG.clo hn)⟩
  · exact ⟨0, A, hG, fun W F rv h _ => (cleanA_no ba t rv W ht).mono fun e w' ⟨a, b⟩ => ⟨a, by rw [b]; exact h.led⟩, fun W G rv h _ => (cleanS_no bs t rv W ht).mono fun e w' ⟨a, b⟩ => ⟨a, by rw [b]; exact LedS.of_below h (Below.refl _ _)⟩⟩
theorem two_sweep (hG : Good A) : ∃ (n : Int) (A' : Ar), Good A' ∧
    (∀ W F, AtP W ba F A → Calls Try.prog 23 #[.pointer (some ⟨ba, 0, none⟩)] W fun e w' => e = .returned (.int .i64 n) ∧ Led W ba F A' w') ∧
    (∀ W G, StAt W bs G (St.of A) → Calls Try.prog 37 #[.pointer (some ⟨bs, 0, none⟩)] W fun e w' => e = .returned (.int .i64 n) ∧ LedS W bs G (St.of A') w') := by
  refine ⟨(liveN A.ths : Int) - (liveN A.swept.ths : Int), A.swept, hG.swept, fun W F h => sweepP_any ba F A W h hG.s, fun W G h => ?_⟩
  have := sweepS_any bs G (St.of A) W h (of_tame hG.s)
  rw [sweep_ref, show (sweptL (St.of A).ths).length = liveN A.swept.ths by rw [show sweptL (St.of A).ths = refL 0 A.swept.ths from swept_ref A.ths 0]; exact ref_len _ _, show (St.of A).ths.length = liveN A.ths from ref_len _ _] at this
  exact this
theorem two_count (hG : Good A) : ∃ n : Int,
    (∀ W F, AtP W ba F A → Calls Try.prog 22 #[.pointer (some ⟨ba, 0, none⟩), .int .i64 t] W fun e w' => e = .returned (.int .i64 n) ∧ Below W.heap.size W w') ∧
    (∀ W G, StAt W bs G (St.of A) → Calls Try.prog 38 #[.pointer (some ⟨bs, 0, none⟩), .int .i64 t] W fun e w' => e = .returned (.int .i64 n) ∧ Below W.heap.size W w') := by
  by_cases ht : 0 ≤ t ∧ t < 64
  · obtain ⟨n, rfl⟩ : ∃ n : Nat, t = n := ⟨t.toNat, by omega⟩
    have hn : n < 64 := by omega
    refine ⟨A.cnt n, fun W F h => (countP_any ba n F A W h hn).mono fun e w' ⟨a, b⟩ => ⟨a, by rw [b]; exact Below.refl _ _⟩, fun W G h => ?_⟩
    have := countS_any bs n G (St.of A) W h (of_tame hG.s) hn
    rw [show ownS (St.of A).ths n = ownN A.ths n from ref_own _ _ hG.s.zero, ← hG.s.cnt n hn] at this
    exact this
  · exact ⟨0, fun W F h => (countA_no ba t W ht).mono fun e w' ⟨a, b⟩ => ⟨a, by rw [b]; exact Below.refl _ _⟩, fun W G h => countS_no bs t G (St.of A) W h (of_tame hG.s) ht⟩
end
end Go.Proofs.Ytfogedmghhacdaa.A
