/- take, Mark: a thing is a tenant's no more; what can be undone begins anew. -/
import Derived.Test.YtgipjplifndniaaGreatDoorArLay
namespace Go.Proofs.YtgipjplifndniaaGreatDoor.A
open Go.RowKit Go.Maps Go.ChangeMaps Go.WideElems

theorem look_num {w : World} {mp n : Nat} {D : DataW Unit} {l : List Th} (h : w.ownsMap Tryz.prog 97 (plainElem Tryz.prog 3) mp n D) (hn : NumIs D l) {q : Ky} (hq : q.Fit) (hk : q.k ≠ 0) :
    (Instr.lookup 72 (.map (some mp)) q.val true).run Tryz.prog w = .ok (.tuple #[.int .i64 (numF l q), .bool (spotF l q).isSome]) w := by
  obtain ⟨v, ps, hrun, hv⟩ := h.look_ok thLaw Tryz.underlying72 (Tryz.zero3 w) (plainElem_int (H := Unit) Tryz.underlying3 (show (Lit.int .i64 0).wf = true by decide)) (key_ky hq)
  obtain ⟨h1, h2⟩ := hn q hq hk
  rw [h2] at hv
  obtain ⟨a, rfl, hz, _⟩ := plainElem_int_inv Tryz.underlying3 hv
  simp at hz
  rw [hrun, h1, hz.1]

theorem More.step {F : Nat → Prop} {w w1 w2 : World} (hs : w.heap.size ≤ w1.heap.size) {k : Nat} (h : More F w1 w2 k) : More F w w2 k := by
  rcases h with h | h
  · exact Or.inl h
  · exact Or.inr ⟨by omega, h.2⟩
theorem More.lt {F : Nat → Prop} {w w2 : World} (hF : ∀ k, F k → k < w.heap.size) (hs : w.heap.size ≤ w2.heap.size) {k : Nat} (h : More F w w2 k) : k < w2.heap.size := by
  rcases h with h | h
  · have := hF k h; omega
  · exact h.2
def ArAt (w : World) (b : Nat) (F : Nat → Prop) (n : Nat) (A : Ar) : Prop := ∃ r D, ArRaw w b F n A r D
instance : Inhabited Th := ⟨noTh⟩
def Ar.become (A : Ar) (t : Nat) (x : Th) : Ar × Int × Int :=
  match spotF A.ths x.key with
  | some i => if (A.ths[i]!).mask.testBit t = true then (A, (i : Int) + 2, 0) else if A.lim t ≤ A.cnt t then (A, 0, 9) else (A.give t i (A.ths[i]!), (i : Int) + 2, 0)
  | none => if A.lim t ≤ A.cnt t then (A, 0, 9) else (({ A with ths := A.ths ++ [x] } : Ar).give t A.ths.length x, (A.ths.length : Int) + 2, 0)


set_option maxRecDepth 20000 in
set_option maxHeartbeats 4000000 in
theorem become_there (b n t i : Nat) (F : Nat → Prop) (A : Ar) (r : Raw) (D : DataW Unit) (x y : Th) (w : World) (h : ArRaw w b F n A r D) (hx : x.key.Fit) (hk : x.k ≠ 0) (hs : spotF A.ths x.key = some i) (hy : A.ths[i]? = some y) (hm : ∀ z ∈ A.ths, z.mask < 18446744073709551616) (ht : t < 64) (hlen : A.ths.length < 1000000) (hown : y.mask.testBit t = true) :
    Calls Tryz.prog 47 #[.pointer (some ⟨b, 0, none⟩), .int .i64 t, x.val] w fun e w' => e = .returned (.tuple #[.int .i64 ((i : Int) + 2), .int .i64 0]) ∧ Below w.heap.size w w' := by
  have hblt := h.raw.lt
  have hbx : Below w.heap.size w (w.alloc (.cells #[.int .i64 x.k, .int .i64 x.p0, .int .i64 x.p1, .int .i64 x.p2, .int .i64 x.p3, .int .i64 x.lv, .int .i64 x.va, .int .u64 x.mask] 100)) := (Below.refl _ _).alloc (Nat.le_refl _) _
  have hX : (w.alloc (.cells #[.int .i64 x.k, .int .i64 x.p0, .int .i64 x.p1, .int .i64 x.p2, .int .i64 x.p3, .int .i64 x.lv, .int .i64 x.va, .int .u64 x.mask] 100)).heap[w.heap.size]? = some (.cells #[.int .i64 x.k, .int .i64 x.p0, .int .i64 x.p1, .int .i64 x.p2, .int .i64 x.p3, .int .i64 x.lv, .int .i64 x.va, .int .u64 x.mask] 100 (0, 0)) := heap_alloc_new w _
  have hilt : i < A.ths.length := (List.getElem?_eq_some_iff.1 hy).1
  have hio := fun W => isOwn_any y t W (hm y (List.mem_of_getElem? hy)) ht
  rw [hown] at hio
  unfold Th.val
  go_enter Tryz.func47, Tryz.ntmps47
  go_wp2_with fail
  generalize hW0 : w.alloc (.cells #[.int .i64 x.k, .int .i64 x.p0, .int .i64 x.p1, .int .i64 x.p2, .int .i64 x.p3, .int .i64 x.lv, .int .i64 x.va, .int .u64 x.mask] 100) = W0 at *
  have HSZ : Hid (W0.heap.size = w.heap.size + 1) := by show _ = _; rw [← hW0]; simp
  clear hW0
  have H0 := h.below hbx
  obtain ⟨d0, d1, d2, d3, d4, d5, d6, d7⟩ := cells8 hX
  have c2 := H0.raw.at 2 (by omega)
  rw [Raw.c2] at c2
  have c1 := H0.raw.at 1 (by omega)
  obtain ⟨g, c, hv⟩ := H0.ths.shape' (by omega)
  rw [Raw.c1, hv] at c1
  have hth := H0.ths
  rw [hv] at hth
  obtain ⟨e0, e1, e2, e3, e4, e5, e6, e7⟩ := hth.cells hy
  have hlk := look_num (w := W0.drew) H0.drew.map H0.num hx hk
  rw [hs] at hlk
  have hnum : numF A.ths x.key = (i : Int) + 2 := by unfold numF; rw [hs]
  rw [hnum] at hlk
  unfold Ky.val Th.key at hlk
  simp only [Option.isSome_some] at hlk
  have hin : (i : Int) < (A.ths.length : Int) := by omega
  have hi0 : (0 : Int) ≤ i := by omega
  generalize A.ths.length = len at *
  go_region
  all_goals
    go_wp2_with fail
    refine (hio _).mono ?_
    rintro e w1 ⟨rfl, hb1⟩
    go_wp2_with fail
    go_ret2
    exact ⟨rfl, (hbx.drew).trans (hb1.mono hbx.size)⟩

set_option maxRecDepth 20000 in
set_option maxHeartbeats 4000000 in
theorem become_else (b n t i : Nat) (F : Nat → Prop) (A : Ar) (r : Raw) (D : DataW Unit) (x y : Th) (w : World) (h : ArRaw w b F n A r D) (hx : x.key.Fit) (hk : x.k ≠ 0) (hs : spotF A.ths x.key = some i) (hy : A.ths[i]? = some y) (hm : ∀ z ∈ A.ths, z.mask < 18446744073709551616) (ht : t < 64) (hlen : A.ths.length < 1000000) (hown : y.mask.testBit t = false)
    (hcnt : 0 ≤ A.cnt t ∧ A.cnt t < 4611686018427387904) (hlf : (A.fresh t).length < 10000000) :
    Calls Tryz.prog 47 #[.pointer (some ⟨b, 0, none⟩), .int .i64 t, x.val] w fun e w' => if A.lim t ≤ A.cnt t then e = .returned (.tuple #[.int .i64 0, .int .i64 9]) ∧ Below w.heap.size w w' else e = .returned (.tuple #[.int .i64 ((i : Int) + 2), .int .i64 0]) ∧ ArAt w' b (More F w w') n (A.give t i y) ∧ Apart F w w' := by
  have hblt := h.raw.lt
  have hbx : Below w.heap.size w (w.alloc (.cells #[.int .i64 x.k, .int .i64 x.p0, .int .i64 x.p1, .int .i64 x.p2, .int .i64 x.p3, .int .i64 x.lv, .int .i64 x.va, .int .u64 x.mask] 100)) := (Below.refl _ _).alloc (Nat.le_refl _) _
  have hX : (w.alloc (.cells #[.int .i64 x.k, .int .i64 x.p0, .int .i64 x.p1, .int .i64 x.p2, .int .i64 x.p3, .int .i64 x.lv, .int .i64 x.va, .int .u64 x.mask] 100)).heap[w.heap.size]? = some (.cells #[.int .i64 x.k, .int .i64 x.p0, .int .i64 x.p1, .int .i64 x.p2, .int .i64 x.p3, .int .i64 x.lv, .int .i64 x.va, .int .u64 x.mask] 100 (0, 0)) := heap_alloc_new w _
  have hilt : i < A.ths.length := (List.getElem?_eq_some_iff.1 hy).1
  have hmy := hm y (List.mem_of_getElem? hy)
  have hio := fun W => isOwn_any y t W hmy ht
  rw [hown] at hio
  have HG : Hid (∀ W, ArRaw W b F n A r D → _) := fun W hW => give_any b t i n F ((i : Int) + 2) A r D y W hW hy rfl ht hmy (by omega) hcnt hlf
  generalize hP : (fun (e : Ending) (w' : World) => if A.lim t ≤ A.cnt t then e = .returned (.tuple #[.int .i64 0, .int .i64 9]) ∧ Below w.heap.size w w' else e = .returned (.tuple #[.int .i64 ((i : Int) + 2), .int .i64 0]) ∧ ArAt w' b (More F w w') n (A.give t i y) ∧ Apart F w w') = Post
  have HP : Hid (_ = Post) := hP
  clear hP
  unfold Th.val
  go_enter Tryz.func47, Tryz.ntmps47
  go_wp2_with fail
  generalize hW0 : w.alloc (.cells #[.int .i64 x.k, .int .i64 x.p0, .int .i64 x.p1, .int .i64 x.p2, .int .i64 x.p3, .int .i64 x.lv, .int .i64 x.va, .int .u64 x.mask] 100) = W0 at *
  have HSZ : Hid (W0.heap.size = w.heap.size + 1) := by show _ = _; rw [← hW0]; simp
  clear hW0
  have H0 := h.below hbx
  obtain ⟨d0, d1, d2, d3, d4, d5, d6, d7⟩ := cells8 hX
  have c2 := H0.raw.at 2 (by omega)
  rw [Raw.c2] at c2
  have c1 := H0.raw.at 1 (by omega)
  obtain ⟨g, c, hv⟩ := H0.ths.shape' (by omega)
  rw [Raw.c1, hv] at c1
  have hth := H0.ths
  rw [hv] at hth
  obtain ⟨e0, e1, e2, e3, e4, e5, e6, e7⟩ := hth.cells hy
  have hlk := look_num (w := W0.drew) H0.drew.map H0.num hx hk
  rw [hs] at hlk
  have hnum : numF A.ths x.key = (i : Int) + 2 := by unfold numF; rw [hs]
  rw [hnum] at hlk
  unfold Ky.val Th.key at hlk
  simp only [Option.isSome_some] at hlk
  have hin : (i : Int) < (A.ths.length : Int) := by omega
  have hi0 : (0 : Int) ≤ i := by omega
  have h0 : (0 : Int) ≤ t := by omega
  have h1 : (t : Int) < 64 := by omega
  generalize A.ths.length = len at *
  go_region
  all_goals
    go_wp2_with fail
    refine (hio _).mono ?_
    rintro e w1 ⟨rfl, hb1⟩
    have hbw1 : Below w.heap.size w w1 := (hbx.drew).trans (hb1.mono hbx.size)
    have H1 := h.below hbw1
    have cl := H1.raw.at (4 + t * 3) (by omega)
    rw [Raw.cl, H1.lim t ht] at cl
    have cc := H1.raw.at (4 + t * 3 + 1) (by omega)
    rw [Raw.cc, H1.cnt t ht] at cc
    clear c1 c2 d0 d1 d2 d3 d4 d5 d6 d7 e0 e1 e2 e3 e4 e5 e6 e7 hlk hth
    by_cases hq : A.lim t ≤ A.cnt t
    · have hq' : decide (A.lim t ≤ A.cnt t) = true := by simpa using hq
      go_wp2_with fail
      go_quiet (fail)
      go_wp2_with fail
      rw [← HP.out]
      simp only [if_pos hq]
      exact ⟨rfl, ⟨hbw1.os, hbw1.tape, hbw1.output, hbw1.size, hbw1.block⟩⟩
    · have hq' : decide (A.lim t ≤ A.cnt t) = false := by simpa using hq
      go_wp2_with fail
      go_quiet (fail)
      go_wp2_with fail
      refine (HG.out _ (H1.drewN _)).mono ?_
      rintro e w2 ⟨rfl, ⟨r2, D2, H2⟩, P2⟩
      go_wp2_with fail
      rw [← HP.out]
      simp only [if_neg (show ¬ A.lim t ≤ A.cnt t by omega)]
      have a1 : Apart F w (w1.drewN nq) := Apart.drewN (Apart.of hbw1) nq
      exact ⟨rfl, ⟨r2, D2, H2.wider (fun k hk => More.step hbw1.size hk) (fun k hk => (More.lt (fun k hk => h.flt k hk) (Nat.le_trans hbw1.size P2.size) hk))⟩, a1.trans P2 fun k hk => Or.inl hk⟩

set_option maxRecDepth 20000 in
set_option maxHeartbeats 4000000 in
theorem become_new (b n t : Nat) (F : Nat → Prop) (A : Ar) (r : Raw) (D : DataW Unit) (x : Th) (w : World) (h : ArRaw w b F n A r D) (hx : x.key.Fit) (hk : x.k ≠ 0) (hmx : x.mask < 18446744073709551616) (hs : spotF A.ths x.key = none) (ht : t < 64) (hlen : A.ths.length < 1000000) (hn : n < 1000000000)
    (hcnt : 0 ≤ A.cnt t ∧ A.cnt t < 4611686018427387904) (hlf : (A.fresh t).length < 10000000) (hfree : A.free = []) (hroom : (A.ths.length : Int) < A.room) :
    Calls Tryz.prog 47 #[.pointer (some ⟨b, 0, none⟩), .int .i64 t, x.val] w fun e w' => if A.lim t ≤ A.cnt t then e = .returned (.tuple #[.int .i64 0, .int .i64 9]) ∧ Below w.heap.size w w' else e = .returned (.tuple #[.int .i64 ((A.ths.length : Int) + 2), .int .i64 0]) ∧ ArAt w' b (More F w w') (n + 1) (({ A with ths := A.ths ++ [x] } : Ar).give t A.ths.length x) ∧ Apart F w w' := by
  have hblt := h.raw.lt
  have hbx : Below w.heap.size w (w.alloc (.cells #[.int .i64 x.k, .int .i64 x.p0, .int .i64 x.p1, .int .i64 x.p2, .int .i64 x.p3, .int .i64 x.lv, .int .i64 x.va, .int .u64 x.mask] 100)) := (Below.refl _ _).alloc (Nat.le_refl _) _
  have hX : (w.alloc (.cells #[.int .i64 x.k, .int .i64 x.p0, .int .i64 x.p1, .int .i64 x.p2, .int .i64 x.p3, .int .i64 x.lv, .int .i64 x.va, .int .u64 x.mask] 100)).heap[w.heap.size]? = some (.cells #[.int .i64 x.k, .int .i64 x.p0, .int .i64 x.p1, .int .i64 x.p2, .int .i64 x.p3, .int .i64 x.lv, .int .i64 x.va, .int .u64 x.mask] 100 (0, 0)) := heap_alloc_new w _
  have HL : Hid (∀ W, ArRaw W b F n A r D → _) := fun W hW => lay_any b n F A r D x W hW hfree hx hs hn hlen
  have HG : Hid (∀ W F' r' D', ArRaw W b F' (n + 1) { A with ths := A.ths ++ [x] } r' D' → _) := fun W F' r' D' hW => give_any b t A.ths.length (n + 1) F' ((A.ths.length : Int) + 2) { A with ths := A.ths ++ [x] } r' D' x W hW (by simp) rfl ht hmx (by simp; omega) hcnt hlf
  generalize hP : (fun (e : Ending) (w' : World) => if A.lim t ≤ A.cnt t then e = .returned (.tuple #[.int .i64 0, .int .i64 9]) ∧ Below w.heap.size w w' else e = .returned (.tuple #[.int .i64 ((A.ths.length : Int) + 2), .int .i64 0]) ∧ ArAt w' b (More F w w') (n + 1) (({ A with ths := A.ths ++ [x] } : Ar).give t A.ths.length x) ∧ Apart F w w') = Post
  have HP : Hid (_ = Post) := hP
  clear hP
  have hv0 := h.ths.shape
  have hf0 := h.free.shape
  rw [hfree] at hf0
  have hlive := fun W (hW : RawAt W b r) => live_any b A.ths.length 0 r W hW hv0 (by simpa using hf0) (by omega) (by omega)
  have hroom' : (decide (A.room ≤ (A.ths.length : Int) - ((0 : Nat) : Int))) = false := by simp; omega
  unfold Th.val
  go_enter Tryz.func47, Tryz.ntmps47
  go_wp2_with fail
  generalize hW0 : w.alloc (.cells #[.int .i64 x.k, .int .i64 x.p0, .int .i64 x.p1, .int .i64 x.p2, .int .i64 x.p3, .int .i64 x.lv, .int .i64 x.va, .int .u64 x.mask] 100) = W0 at *
  have HSZ : Hid (W0.heap.size = w.heap.size + 1) := by show _ = _; rw [← hW0]; simp
  clear hW0
  have H0 := h.below hbx
  obtain ⟨d0, d1, d2, d3, d4, d5, d6, d7⟩ := cells8 hX
  have c2 := H0.raw.at 2 (by omega)
  rw [Raw.c2] at c2
  have hlk := look_num (w := W0.drew) H0.drew.map H0.num hx hk
  rw [hs] at hlk
  unfold Ky.val Th.key at hlk
  simp only [Option.isSome_none] at hlk
  have h0 : (0 : Int) ≤ t := by omega
  have h1 : (t : Int) < 64 := by omega
  have c0 := H0.raw.at 0 (by omega)
  rw [Raw.c0, H0.room] at c0
  have cl := H0.raw.at (4 + t * 3) (by omega)
  rw [Raw.cl, H0.lim t ht] at cl
  have cc := H0.raw.at (4 + t * 3 + 1) (by omega)
  rw [Raw.cc, H0.cnt t ht] at cc
  generalize A.ths.length = len at *
  go_region
  all_goals
    by_cases hq : A.lim t ≤ A.cnt t
    · have hq' : decide (A.lim t ≤ A.cnt t) = true := by simpa using hq
      go_wp2_with fail
      go_quiet (fail)
      go_wp2_with fail
      rw [← HP.out]
      simp only [if_pos hq]
      exact ⟨rfl, ⟨hbx.os, hbx.tape, hbx.output, hbx.size, hbx.block⟩⟩
    · have hq' : decide (A.lim t ≤ A.cnt t) = false := by simpa using hq
      go_wp2_with fail
      go_quiet (fail)
      go_wp2_with fail
      have H2 := H0.drewN (1 + nq)
      have hb2 : Below w.heap.size w (W0.drewN (1 + nq)) := ⟨hbx.os, hbx.tape, hbx.output, hbx.size, hbx.block⟩
      have hX2 : (W0.drewN (1 + nq)).heap[w.heap.size]? = some (.cells #[.int .i64 x.k, .int .i64 x.p0, .int .i64 x.p1, .int .i64 x.p2, .int .i64 x.p3, .int .i64 x.lv, .int .i64 x.va, .int .u64 x.mask] 100 (0, 0)) := hX
      clear d0 d1 d2 d3 d4 d5 d6 d7 c2 hlk c0 cl cc hX H0 hbx
      generalize W0.drewN (1 + nq) = W2 at *
      have c0 := H2.raw.at 0 (by omega)
      rw [Raw.c0, H2.room] at c0
      obtain ⟨d0, d1, d2, d3, d4, d5, d6, d7⟩ := cells8 hX2
      have hlive2 := fun q => hlive (W2.drewN q) (H2.raw.go rfl)
      go_quiet ((go_at_call 81; exact Calls.quiet_of (hlive2 _)))
      go_wp2_with fail
      have H3 := H2.drewN nq
      have hb3 : Below w.heap.size w (W2.drewN nq) := ⟨hb2.os, hb2.tape, hb2.output, hb2.size, hb2.block⟩
      have hX3 : (W2.drewN nq).heap[w.heap.size]? = some (.cells #[.int .i64 x.k, .int .i64 x.p0, .int .i64 x.p1, .int .i64 x.p2, .int .i64 x.p3, .int .i64 x.lv, .int .i64 x.va, .int .u64 x.mask] 100 (0, 0)) := hX2
      clear d0 d1 d2 d3 d4 d5 d6 d7 c0 hX2 H2 hb2 hlive2
      generalize W2.drewN nq = W3 at *
      have c0 := H3.raw.at 0 (by omega)
      rw [Raw.c0, H3.room] at c0
      obtain ⟨d0, d1, d2, d3, d4, d5, d6, d7⟩ := cells8 hX3
      have hlive3 := fun q => hlive (W3.drewN q) (H3.raw.go rfl)
      clear hlive
      go_quiet ((go_at_call 81; exact Calls.quiet_of (hlive3 _)))
      go_wp2_with fail
      refine (HL.out _ (H3.drewN _)).mono ?_
      rintro e w4 ⟨rfl, ⟨r4, D4, H4⟩, P4⟩
      go_wp2_with fail
      refine (HG.out _ _ _ _ H4).mono ?_
      rintro e w5 ⟨rfl, ⟨r5, D5, H5⟩, P5⟩
      go_wp2_with fail
      rw [← HP.out]
      simp only [if_neg (show ¬ A.lim t ≤ A.cnt t by omega)]
      have a1 : Apart F w (W3.drewN nq) := Apart.drewN (Apart.of hb3) nq
      have a2 := a1.trans P4 fun k hk => Or.inl hk
      have s4 : (W3.drewN nq).heap.size ≤ w4.heap.size := P4.size
      have s3 : w.heap.size ≤ (W3.drewN nq).heap.size := hb3.size
      refine ⟨rfl, ⟨r5, D5, H5.wider (fun k hk => ?_) (fun k hk => More.lt (fun k hk => h.flt k hk) (Nat.le_trans a2.size P5.size) hk)⟩, a2.trans P5 fun k hk => ?_⟩
      · rcases hk with hk | hk
        · rcases hk with hk | hk
          · exact Or.inl hk
          · exact Or.inr ⟨by omega, Nat.lt_of_lt_of_le hk.2 P5.size⟩
        · exact Or.inr ⟨by omega, hk.2⟩
      · rcases hk with hk | hk
        · exact Or.inl hk
        · exact Or.inr ⟨by omega, hk.2⟩
end Go.Proofs.YtgipjplifndniaaGreatDoor.A

namespace Go.Proofs.YtgipjplifndniaaGreatDoor.A
open Go.RowKit Go.Maps

def thAt (l : List Th) (id : Int) : Th := (l[(id - 2).toNat]?).getD noTh
def Uniq (l : List Th) : Prop := ∀ (i j : Nat) (x y : Th), l[i]? = some x → l[j]? = some y → x.k ≠ 0 → x.key = y.key → i = j
def ownN (l : List Th) (u : Nat) : Nat := l.countP fun x => x.mask.testBit u
def liveN (l : List Th) : Nat := l.countP fun x => x.k != 0
theorem upd_upd {α : Type} (f : Nat → α) (t : Nat) (x y : α) : upd (upd f t x) t y = upd f t y := by
  funext u
  unfold upd
  split <;> rfl
theorem upd_self {α : Type} (f : Nat → α) (t : Nat) : upd f t (f t) = f := by
  funext u
  unfold upd
  split
  · rename_i h; rw [h]
  · rfl
theorem key_k {x y : Th} (h : x.key = y.key) : x.k = y.k := congrArg Ky.k h
theorem spot_none {l : List Th} {q : Ky} (h : spotF l q = none) : ∀ x ∈ l, x.key ≠ q := by
  unfold spotF at h
  rw [List.findIdx?_eq_none_iff] at h
  intro x hx e
  have := h x hx
  simp [e] at this
end Go.Proofs.YtgipjplifndniaaGreatDoor.A

namespace Go.Proofs.YtgipjplifndniaaGreatDoor.A
open Go.RowKit Go.Maps

def clr (m t : Nat) : Nat := m &&& (18446744073709551615 - bitN t)
theorem clr_lt (m t : Nat) (hm : m < 18446744073709551616) : clr m t < 18446744073709551616 := Nat.lt_of_le_of_lt Nat.and_le_left hm
theorem clr_bit (m t u : Nat) (hm : m < 18446744073709551616) (_ht : t < 64) : (clr m t).testBit u = (m.testBit u && !decide (u = t)) := by
  unfold clr bitN
  have e : 18446744073709551615 - 2 ^ t = 2 ^ 64 - (2 ^ t + 1) := by omega
  have h1 : 2 ^ t < 2 ^ 64 := Nat.pow_lt_pow_right (by omega) _ht
  rw [Nat.testBit_and, e, Nat.testBit_two_pow_sub_succ h1, Nat.testBit_two_pow]
  by_cases hu : u < 64
  · by_cases e2 : u = t
    · subst e2; simp
    · have : ¬ t = u := fun k => e2 k.symm
      simp [hu, e2, this]
  · have : m.testBit u = false := Nat.testBit_lt_two_pow (Nat.lt_of_lt_of_le (show m < 2 ^ 64 by simpa using hm) (Nat.pow_le_pow_right (by omega) (by omega)))
    simp [this]

def Ar.take (A : Ar) (t i : Nat) (x : Th) : Ar := { A with ths := A.ths.set i { x with mask := clr x.mask t }, cnt := upd A.cnt t (A.cnt t - 1) }

set_option maxRecDepth 20000 in
set_option maxHeartbeats 4000000 in
theorem take_any (b t i n : Nat) (F : Nat → Prop) (id : Int) (A : Ar) (r : Raw) (D : DataW Unit) (x : Th) (w : World) (h : ArRaw w b F n A r D) (hx : A.ths[i]? = some x) (hid : id = (i : Int) + 2) (ht : t < 64) (hm : x.mask < 18446744073709551616) (hn : A.ths.length < 4611686018427387904)
    (hcnt : -1000000000 ≤ A.cnt t ∧ A.cnt t < 4611686018427387904) :
    Calls Tryz.prog 67 #[.pointer (some ⟨b, 0, none⟩), .int .i64 t, .int .i64 id] w fun e w' => e = .returned (.tuple #[]) ∧ (ArRaw w' b F n (A.take t i x) (r.turn t { r.tn t with cnt := A.cnt t - 1 }) D) ∧ Apart F w w' := by
  have hi : i < A.ths.length := (List.getElem?_eq_some_iff.1 hx).1
  obtain ⟨g, c, hv⟩ := h.ths.shape' (by omega)
  have hth := h.ths
  rw [hv] at hth
  obtain ⟨_, _, _, _, _, _, _, hg⟩ := hth.cells hx
  have hz := hth.frozenAt (i * 8 + 7)
  have hF : F g := h.fv g (by rw [hv]; rfl)
  have hbne : b ≠ g := fun e => h.vb (by rw [hv, e]; rfl)
  have hb := fun W => bit_any t W ht
  have c1 := h.raw.at 1 (by omega)
  rw [Raw.c1, hv] at c1
  have h0 : (0 : Int) ≤ t := by omega
  have h1 : (t : Int) < 64 := by omega
  have hi0 : (0 : Int) ≤ i := by omega
  have hin : (i : Int) < (A.ths.length : Int) := by omega
  have hw : IntKind.i64.wrap (id - 2) = (i : Int) := by rw [IntKind.wrap_i64]; omega
  have hor : Hid (bits .andNot .u64 (x.mask : Int) (bitN t : Int) = ((clr x.mask t : Nat) : Int)) := u64_andNot_nat x.mask (bitN t) hm (bitN_lt t ht)
  have H1 := h.setMask hv hx (clr x.mask t)
  generalize hA1 : { A with ths := A.ths.set i { x with mask := clr x.mask t } } = A1 at H1
  generalize A.ths.length = len at *
  clear hid hth hn hi hv
  go_enter Tryz.func67, Tryz.ntmps67
  go_wp2_with fail
  go_cut [] from 6 to 19 (fun wc => ArRaw wc b F n A1 r D ∧ Apart F w wc)
  case first =>
    go_region_with (go_at_call 116; refine (hb _).mono ?_; rintro e w1 ⟨rfl, rfl⟩)
    all_goals
      go_wp2_with fail
      go_meet
      case rel =>
        rw [hor.out]
        exact ⟨H1.drew, (Apart.set w _ hF).drew⟩
  case rest =>
  obtain ⟨H2, P2⟩ := hcut
  clear c1 hg hz H1
  have cc := H2.raw.at (4 + t * 3 + 1) (by omega)
  rw [Raw.cc, H2.cnt t ht] at cc
  have e1 : A1.cnt t = A.cnt t := by rw [← hA1]
  rw [e1] at cc
  have z1 := H2.raw.frozen (4 + t * 3 + 1)
  have hwc : IntKind.i64.wrap (A.cnt t - 1) = A.cnt t - 1 := by rw [IntKind.wrap_i64]; omega
  have H3 := H2.setCnt ht (A.cnt t - 1)
  have hA : A.take t i x = { A1 with cnt := upd A1.cnt t (A.cnt t - 1) } := by rw [← hA1]; rfl
  rw [← hA] at H3
  go_wp2_with fail
  go_region
  all_goals
    go_wp2_with fail
    go_end0
    exact ⟨rfl, H3.drew, (P2.trans (Apart.set wc _ H2.fb) fun k hk => Or.inl hk).drew⟩

set_option maxHeartbeats 1000000 in
theorem mark_any (b t n : Nat) (F : Nat → Prop) (A : Ar) (r : Raw) (D : DataW Unit) (w : World) (h : ArRaw w b F n A r D) (ht : t < 64) :
    Calls Tryz.prog 14 #[.pointer (some ⟨b, 0, none⟩), .int .i64 t] w fun e w' => e = .returned (.int .i64 0) ∧ ArRaw w' b F n { A with fresh := upd A.fresh t [] } (r.turn t { r.tn t with fr := .slice none 0 0 }) D ∧ Apart F w w' := by
  have hi := fun W => tenant_yes t ht W
  have cf := h.raw.at (4 + t * 3 + 2) (by omega)
  rw [Raw.cf] at cf
  have z2 := h.raw.frozen (4 + t * 3 + 2)
  have h0 : (0 : Int) ≤ t := by omega
  have h1 : (t : Int) < 64 := by omega
  have H1 := h.setFresh (F' := F) ht (IntRow.nil w) (fun _ _ _ => rfl) (Nat.le_refl _) (fun k hk => by simp [Value.ownBlock] at hk) (fun _ h => h) (fun k hk => by simp [Value.ownBlock] at hk) h.flt
  go_enter Tryz.func14, Tryz.ntmps14
  go_wp2_with fail
  refine (hi _).mono ?_
  rintro e w1 ⟨rfl, rfl⟩
  go_wp2_with fail
  go_ret
  exact ⟨rfl, H1, Apart.set _ _ h.fb⟩


def Ar.takes (A : Ar) (t : Nat) (l : List Int) : Ar := l.foldl (fun B id => B.take t (id - 2).toNat (thAt B.ths id)) A
theorem takes_snoc (A : Ar) (t : Nat) (l : List Int) (id : Int) : A.takes t (l ++ [id]) = (A.takes t l).take t (id - 2).toNat (thAt (A.takes t l).ths id) := by
  unfold Ar.takes
  rw [List.foldl_append]
  rfl
theorem takes_len (A : Ar) (t : Nat) (l : List Int) : (A.takes t l).ths.length = A.ths.length := by
  unfold Ar.takes
  induction l generalizing A with
  | nil => rfl
  | cons id l ih =>
    rw [List.foldl_cons, ih]
    exact List.length_set
theorem takes_rest (A : Ar) (t : Nat) (l : List Int) : (A.takes t l).fresh = A.fresh ∧ (A.takes t l).lim = A.lim ∧ (A.takes t l).room = A.room ∧ (A.takes t l).free = A.free := by
  unfold Ar.takes
  induction l generalizing A with
  | nil => exact ⟨rfl, rfl, rfl, rfl⟩
  | cons id l ih => rw [List.foldl_cons]; exact ih _
theorem takes_cnt (A : Ar) (t : Nat) (l : List Int) : (A.takes t l).cnt = upd A.cnt t (A.cnt t - (l.length : Int)) := by
  unfold Ar.takes
  induction l generalizing A with
  | nil =>
    show A.cnt = upd A.cnt t _
    simp [upd_self]
  | cons id l ih =>
    rw [List.foldl_cons, ih]
    show upd (upd A.cnt t (A.cnt t - 1)) t (upd A.cnt t (A.cnt t - 1) t - _) = _
    rw [upd_upd, upd_same]
    congr 1
    simp; omega
theorem takes_get (t : Nat) (ht : t < 64) : ∀ (l : List Int) (A : Ar), (∀ id ∈ l, 2 ≤ id ∧ (id - 2).toNat < A.ths.length) → (∀ x ∈ A.ths, x.mask < 18446744073709551616) → ∀ (j : Nat) (x : Th), A.ths[j]? = some x →
    ∃ y, (A.takes t l).ths[j]? = some y ∧ y.key = x.key ∧ y.lv = x.lv ∧ y.va = x.va ∧ y.mask < 18446744073709551616 ∧ ∀ u, y.mask.testBit u = true ↔ x.mask.testBit u = true ∧ ¬ (u = t ∧ (j : Int) + 2 ∈ l)
  | [], A, _, hm, j, x, hx => ⟨x, hx, rfl, rfl, rfl, hm x (List.mem_of_getElem? hx), fun u => by simp⟩
  | id :: l, A, hl, hm, j, x, hx => by
    obtain ⟨h2, hlt⟩ := hl id (by simp)
    have hget : ∀ k, (A.take t (id - 2).toNat (thAt A.ths id)).ths[k]? = if (id - 2).toNat = k then some { thAt A.ths id with mask := clr (thAt A.ths id).mask t } else A.ths[k]? := fun k => by
      show (A.ths.set _ _)[k]? = _
      rw [List.getElem?_set]
      by_cases e : (id - 2).toNat = k
      · subst e; simp [hlt]
      · simp [e]
    have hth : A.ths[(id - 2).toNat]? = some (thAt A.ths id) := by unfold thAt; rw [List.getElem?_eq_getElem hlt]; rfl
    have hmt := hm _ (List.mem_of_getElem? hth)
    have hm' : ∀ z ∈ (A.take t (id - 2).toNat (thAt A.ths id)).ths, z.mask < 18446744073709551616 := fun z hz => by
      rcases List.mem_or_eq_of_mem_set (show z ∈ A.ths.set _ _ from hz) with h | h
      · exact hm z h
      · rw [h]; exact clr_lt _ _ hmt
    have ih := takes_get t ht l (A.take t (id - 2).toNat (thAt A.ths id)) (fun k hk => by
      have := hl k (by simp [hk])
      refine ⟨this.1, ?_⟩
      show _ < (A.ths.set _ _).length
      rw [List.length_set]; exact this.2) hm'
    show ∃ y, ((A.take t (id - 2).toNat (thAt A.ths id)).takes t l).ths[j]? = some y ∧ _
    by_cases e : (id - 2).toNat = j
    · subst e
      rw [hth] at hx
      obtain rfl := Option.some.inj hx
      obtain ⟨y, y1, y2, y3, y4, y5, y6⟩ := ih (id - 2).toNat _ (by rw [hget, if_pos rfl])
      refine ⟨y, y1, y2, y3, y4, y5, fun u => ?_⟩
      rw [y6 u]
      show (clr (thAt A.ths id).mask t).testBit u = true ∧ _ ↔ _
      rw [clr_bit _ _ _ hmt ht]
      have : (((id - 2).toNat : Nat) : Int) + 2 = id := by omega
      rw [this]
      by_cases eu : u = t <;> simp [eu]
    · obtain ⟨y, y1, y2, y3, y4, y5, y6⟩ := ih j x (by rw [hget, if_neg e]; exact hx)
      refine ⟨y, y1, y2, y3, y4, y5, fun u => ?_⟩
      rw [y6 u]
      have : ¬ (j : Int) + 2 = id := by omega
      simp [this]

theorem IntRow.cut0 {w : World} {g n c : Nat} {l : List Int} (h : IntRow w (.slice (some ⟨g, 0, none⟩) n c) l) : IntRow w (.slice (some ⟨g, 0, none⟩) 0 c) [] := by
  rcases h.2 with ⟨h1, _⟩ | ⟨g', cap, cur, hv, hB, hg, h1, h2, h3, h4⟩
  · simp at h1
  · simp only [Value.slice.injEq, Option.some.injEq, Addr.mk.injEq] at hv
    obtain ⟨⟨rfl, _, _⟩, _, rfl⟩ := hv
    exact ⟨by simp, Or.inr ⟨g, c, cur, rfl, hB, hg, Nat.zero_le _, h2, h3, by simp⟩⟩
theorem IntRow.get {w : World} {g n c : Nat} {l : List Int} (h : IntRow w (.slice (some ⟨g, 0, none⟩) n c) l) (j : Nat) (hj : j < l.length) : w.cell? ⟨g, j, none⟩ = some (.int .i64 l[j]!) := by
  have hn : n = l.length := by
    obtain ⟨a, c', e⟩ := h.shape
    simp only [Value.slice.injEq] at e
    exact e.2.1
  subst hn
  rw [World.ownsRow.cellAt h j (by omega), List.getElem?_map, List.getElem?_eq_getElem hj, getElem!_pos l j hj]
  rfl

def Ar.undo (A : Ar) (t : Nat) : Ar := { A.takes t (A.fresh t) with fresh := upd A.fresh t [] }

set_option maxRecDepth 20000 in
set_option maxHeartbeats 4000000 in
theorem back_any (b t n : Nat) (F : Nat → Prop) (A : Ar) (r : Raw) (D : DataW Unit) (w : World) (h : ArRaw w b F n A r D) (ht : t < 64) (hl : (A.fresh t).length < 10000000) (hid : ∀ id ∈ A.fresh t, 2 ≤ id ∧ (id - 2).toNat < A.ths.length) (hm : ∀ x ∈ A.ths, x.mask < 18446744073709551616)
    (hn : A.ths.length < 1000000) (hcnt : ((A.fresh t).length : Int) ≤ A.cnt t ∧ A.cnt t < 4611686018427387904) :
    Calls Tryz.prog 39 #[.pointer (some ⟨b, 0, none⟩), .int .i64 t, .int .i64 0] w fun e w' => e = .returned (.int .i64 ((A.fresh t).length : Int)) ∧ ArAt w' b F n (A.undo t) ∧ Apart F w w' := by
  have hi := fun W => tenant_yes t ht W
  have cf := h.raw.at (4 + t * 3 + 2) (by omega)
  rw [Raw.cf] at cf
  have HH : Hid (ArRaw w b F n A r D) := h
  have h0 : (0 : Int) ≤ t := by omega
  have h1 : (t : Int) < 64 := by omega
  obtain ⟨L, hL⟩ : ∃ L, L = A.fresh t := ⟨_, rfl⟩
  obtain ⟨a, c, hv⟩ := (h.fresh t ht).shape
  rw [hv] at cf
  rw [← hL] at hl hid hcnt hv cf ⊢
  have HL : Hid (L = A.fresh t) := hL
  obtain ⟨fl, hfl⟩ : ∃ n, n = L.length := ⟨_, rfl⟩
  rw [← hfl] at hl hcnt hv cf ⊢
  have HFL : Hid (fl = L.length) := hfl
  have HV : Hid ((r.tn t).fr = .slice a fl c) := hv
  have HA : Hid (a = none ∧ fl = 0 ∧ c = 0 ∨ ∃ g, a = some ⟨g, 0, none⟩) := by
    rcases (h.fresh t ht).2 with ⟨e1, e2⟩ | ⟨g, cap, cur, e1, _⟩
    · rw [hv] at e1
      simp only [Value.slice.injEq] at e1
      exact Or.inl ⟨e1.1, e1.2.1, e1.2.2⟩
    · rw [hv] at e1
      simp only [Value.slice.injEq] at e1
      exact Or.inr ⟨g, e1.1⟩
  have HID : Hid (∀ id ∈ L, 2 ≤ id ∧ (id - 2).toNat < A.ths.length) := hid
  have HM : Hid (∀ x ∈ A.ths, x.mask < 18446744073709551616) := hm
  clear h hv hL hfl hid hm
  go_enter Tryz.func39, Tryz.ntmps39
  go_wp2_with fail
  refine (hi _).mono ?_
  rintro e w1 ⟨rfl, rfl⟩
  clear hi
  go_wp2_with fail
  go_loopg [33] fl (fun g s33 wr => ∃ (i : Nat) (r' : Raw), i + g = fl ∧ s33 = .int .i64 i ∧ ArRaw wr b F n (A.takes t (L.take i)) r' D ∧ (r'.tn t).fr = .slice a fl c ∧ Apart F w1 wr)
  case atStart => exact ⟨0, r, by omega, rfl, HH.out, HV.out, Apart.refl _ _⟩
  case round =>
    obtain ⟨i, r', hi', rfl, hr, hfr, P⟩ := hrel
    have HI : Hid (i + gk = fl) := hi'
    have hin : i ≤ fl := by omega
    clear hi' cf
    by_cases hlt : i < fl
    · have k0 : (0 : Int) ≤ (i : Int) := by omega
      have k1 : (i : Int) < (fl : Int) := by omega
      have hiL : i < L.length := by rw [← HFL.out]; exact hlt
      obtain ⟨g, rfl⟩ : ∃ g, a = some ⟨g, 0, none⟩ := by
        rcases HA.out with ⟨_, h, _⟩ | h
        · omega
        · exact h
      have hrow := hr.fresh t ht
      rw [hfr, (takes_rest A t _).1, ← HL.out] at hrow
      have cg := hrow.get i hiL
      have hmem : L[i]! ∈ L := by rw [getElem!_pos L i hiL]; exact List.getElem_mem _
      have hti : L.take (i + 1) = L.take i ++ [L[i]!] := by rw [getElem!_pos L i hiL, List.take_add_one, List.getElem?_eq_getElem hiL]; rfl
      obtain ⟨q2, q3⟩ := HID.out _ hmem
      have HS : Hid (A.takes t (L.take (i + 1)) = (A.takes t (L.take i)).take t (L[i]! - 2).toNat (thAt (A.takes t (L.take i)).ths L[i]!)) := by rw [hti, takes_snoc]; exact Eq.refl _
      have hlen := takes_len A t (L.take i)
      have hth : (A.takes t (L.take i)).ths[(L[i]! - 2).toNat]? = some (thAt (A.takes t (L.take i)).ths L[i]!) := by
        unfold thAt
        rw [List.getElem?_eq_getElem (by rw [hlen]; exact q3)]; rfl
      have hmk : (thAt (A.takes t (L.take i)).ths L[i]!).mask < 18446744073709551616 := by
        obtain ⟨y, y1, _, _, _, y5, _⟩ := takes_get t ht (L.take i) A (fun k hk => HID.out k (List.mem_of_mem_take hk)) HM.out _ _ (List.getElem?_eq_getElem q3)
        rw [hth] at y1
        obtain rfl := Option.some.inj y1
        exact y5
      have hcn : (A.takes t (L.take i)).cnt t = A.cnt t - (i : Int) := by
        rw [takes_cnt, upd_same, List.length_take, ← HFL.out]
        congr 2
        omega
      have c7 := take_any b t (L[i]! - 2).toNat n F L[i]! _ r' D _ wr hr hth (by omega) ht hmk (by rw [hlen]; omega) (by rw [hcn]; omega)
      rw [← HS.out] at c7
      generalize L[i]! = id at *
      clear hrow hmem hti hth hmk hcn hlen
      go_wp2_with fail
      refine c7.mono ?_
      rintro e w2 ⟨rfl, hr2, P2⟩
      clear c7 cg
      go_wp2_with fail
      go_roundg (gk - 1)
      case measure => have := HI.out; omega
      case rel => exact ⟨i + 1, _, by have := HI.out; omega, by go_num, hr2, by rw [turn_same]; exact hfr, P.trans P2 fun k hk => Or.inl hk⟩
    · have k1 : ¬ (i : Int) < (fl : Int) := by omega
      have hte : L.take i = L := List.take_of_length_le (by rw [← HFL.out]; omega)
      rw [hte] at hr
      have cf2 := hr.raw.at (4 + t * 3 + 2) (by omega)
      have z2 := hr.raw.frozen (4 + t * 3 + 2)
      have hrow := hr.fresh t ht
      rw [Raw.cf, hfr] at cf2
      rw [hfr, (takes_rest A t _).1, ← HL.out] at hrow
      have hrow0 : IntRow wr (.slice a 0 c) [] := by
        rcases HA.out with ⟨rfl, _, rfl⟩ | ⟨g, rfl⟩
        · exact IntRow.nil _
        · exact hrow.cut0
      have H9 := hr.setFresh (F' := F) (l := []) ht hrow0 (fun _ _ _ => rfl) (Nat.le_refl _) (fun k hk => Or.inl (by rw [hfr]; cases a <;> exact hk)) (fun _ h => h) (fun k hk => hr.ft t ht k (by rw [hfr]; cases a <;> exact hk)) hr.flt
      have HEQ : Hid (({ A.takes t L with fresh := upd (A.takes t L).fresh t [] } : Ar) = A.undo t) := by
        unfold Ar.undo
        rw [← HL.out, (takes_rest A t L).1]
        exact Eq.refl _
      rw [HEQ.out] at H9
      have hfb := hr.fb
      clear hrow hrow0 hte
      go_wp2_with fail
      go_region
      all_goals
        go_wp2_with fail
        go_ret
        exact ⟨by go_num, ⟨_, _, H9.drew⟩, (P.trans (Apart.set wr _ hfb) fun k hk => Or.inl hk).drew⟩
end Go.Proofs.YtgipjplifndniaaGreatDoor.A
