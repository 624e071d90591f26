/- The plain store: Note. -/
import Derived.Test.YtfogedmghhacdaaRsJoin
namespace Go.Proofs.Ytfogedmghhacdaa.A
open Go.RowKit Go.Maps

/-- another value was noted -/
def twS (l : List Rt) (s r j v : Int) : Bool := l.any fun x => decide (x.isNote s r j) && (x.va != v)
theorem twS_yes {l : List Rt} {s r j v : Int} {i : Nat} {x : Rt} (hx : l[i]? = some x) (hn : x.isNote s r j) (hv : x.va ≠ v) : twS l s r j v = true := by
  unfold twS
  rw [List.any_eq_true]
  exact ⟨x, List.mem_of_getElem? hx, by simp [hn, hv]⟩
theorem twS_no {l : List Rt} {s r j v : Int} (h : ∀ (k : Nat) y, l[k]? = some y → ¬ (y.isNote s r j ∧ y.va ≠ v)) : twS l s r j v = false := by
  unfold twS
  rw [List.any_eq_false]
  intro x hx e
  obtain ⟨k, hk⟩ := List.mem_iff_getElem?.1 hx
  simp only [Bool.and_eq_true, decide_eq_true_eq, bne_iff_ne] at e
  exact h k x hk e
theorem twice_ref {l : List Th} (hU : Uniq l) (s r j v : Int) : twS (refL 0 l) s r j v = twiceF l s r j v := by
  unfold twiceF
  cases hs : spotF l (nkey s r j) with
  | none =>
    refine twS_no fun k y hy e => ?_
    obtain ⟨i, x, h1, _, h3⟩ := ref_of hy
    rw [h3] at e
    exact spot_none hs x (List.mem_of_getElem? h1) (note_ref.1 e.1)
  | some i =>
    obtain ⟨x, hx, hxk⟩ := spot_some hs
    have hk : x.k ≠ 0 := by
      have : x.k = 2 := congrArg Ky.k hxk
      omega
    simp only
    rw [get_bang hx]
    by_cases hv : x.va = v
    · rw [show (x.va != v) = false by simpa using hv]
      refine twS_no fun k y hy e => ?_
      obtain ⟨i', x', h1, h2, h3⟩ := ref_of hy
      rw [Nat.zero_add] at h3
      rw [h3] at e
      have := hU i' i x' x h1 hx h2 ((note_ref.1 e.1).trans hxk.symm)
      subst this
      rw [hx] at h1
      cases h1
      exact e.2 hv
    · rw [show (x.va != v) = true by simpa using hv]
      obtain ⟨p, hp⟩ := ref_at (i := 0) hx hk
      rw [Nat.zero_add] at hp
      exact twS_yes hp (note_ref.2 hxk) hv
def NoteSOut (A : Ar) (t : Nat) (s r j v : Int) (b : Nat) (G : Nat → Prop) (w : World) (e : Ending) (w' : World) : Prop :=
  e = .returned (.int .i64 (A.noteP t s r j v).2) ∧ LedS w b G (St.of (A.noteP t s r j v).1) w'
theorem LedS.late {w W w' : World} {b : Nat} {G : Nat → Prop} {S : St} (hb : Below w.heap.size w W) (h : LedS W b G S w') : LedS w b G S w' := by
  obtain ⟨G', g1, g2, g3⟩ := h
  exact ⟨G', fun k hk => (g1 k hk).imp id fun e => Nat.le_trans hb.size e, g2, (Apart.of hb).after (fun _ h => .inl h) g3⟩

set_option maxRecDepth 20000 in
set_option maxHeartbeats 8000000 in
theorem noteS_any (b t : Nat) (s rr j v : Int) (G : Nat → Prop) (A : Ar) (w : World) (h : StAt w b G (St.of A)) (hS : Sound A) (ht : t < 64) :
    Calls Try.prog 30 #[.pointer (some ⟨b, 0, none⟩), .int .i64 t, .int .i64 s, .int .i64 rr, .int .i64 j, .int .i64 v] w (NoteSOut A t s rr j v b G w) := by
  have hi := fun W => person_yes t ht W
  have hov := fun W (hW : StAt W b G (St.of A)) id => ownedS_any b t id G (St.of A) W hW (of_tame hS) ht
  have HZ : Hid (∀ x ∈ A.ths, x.k = 0 → x = noTh) := hS.zero
  have HGV : Hid (∀ W, StAt W b G (St.of A) → _) := fun W hW => giveA_any b t G A (noteTh s rr j v) W hW hS ht (by show (2 : Int) ≠ 0; omega) rfl
  have HTW : Hid (twS (St.of A).ths s rr j v = twiceF A.ths s rr j v) := twice_ref hS.uniq s rr j v
  have HA : Hid (StAt w b G (St.of A)) := h
  have HT : Hid (Tame (St.of A)) := of_tame hS
  generalize hPost : NoteSOut A t s rr j v b G w = Post
  have HP : Hid (NoteSOut A t s rr j v b G w = Post) := hPost
  clear hPost hS
  go_enter Try.func30, Try.ntmps30
  go_wp2_with fail
  refine (hi _).mono ?_
  rintro e w0 ⟨rfl, hw0⟩
  have hw0' := hw0.symm
  subst hw0'
  clear hw0
  go_wp2_with fail
  refine (hov _ h s).mono ?_
  rintro e w1 ⟨rfl, hb1⟩
  obtain ⟨o1, ho1⟩ : ∃ o, o = ownedF (St.of A).ths t s 0 := ⟨_, rfl⟩
  obtain ⟨o2, ho2⟩ : ∃ o, o = ownedF (St.of A).ths t v 0 := ⟨_, rfl⟩
  have HO : Hid (o1.isSome = (levelF A.ths t s).isSome ∧ o2.isSome = (levelF A.ths t v).isSome) := ⟨by rw [ho1]; exact (level_ref HZ.out t s).2, by rw [ho2]; exact (level_ref HZ.out t v).2⟩
  rw [← ho1]
  have HB1 : Hid (Below w.heap.size w (w1.alloc (.cells #[.int .i64 (o1.getD noRt).id, .int .i64 (o1.getD noRt).k, .int .i64 (o1.getD noRt).lv, .int .i64 (o1.getD noRt).va, .int .i64 (o1.getD noRt).p0, .int .i64 (o1.getD noRt).p1, .int .i64 (o1.getD noRt).p2, .int .i64 (o1.getD noRt).p3, .int .u64 (o1.getD noRt).mask] 84))) := hb1.alloc hb1.size _
  have hov2 := hov _ (h.below HB1.out) v
  rw [← ho2] at hov2
  unfold Rt.val at hov2 ⊢
  clear hov ho1 ho2 hi hb1
  generalize o1.getD noRt = x1 at *
  generalize o1.isSome = s1 at *
  generalize o2.getD noRt = x2 at *
  generalize o2.isSome = s2 at *
  go_wp2_with fail
  generalize w1.alloc (.cells #[.int .i64 x1.id, .int .i64 x1.k, .int .i64 x1.lv, .int .i64 x1.va, .int .i64 x1.p0, .int .i64 x1.p1, .int .i64 x1.p2, .int .i64 x1.p3, .int .u64 x1.mask] 84) = W1 at *
  refine hov2.mono ?_
  rintro e w2 ⟨rfl, hb2⟩
  have HB2 : Hid (Below w.heap.size w w2) := HB1.out.trans (hb2.mono HB1.out.size)
  clear hov2 hb2 HB1
  by_cases hss : s1 = true ∧ s2 = true
  rotate_left
  · have HN : Hid (A.noteP t s rr j v = (A, 6)) := if_neg fun e => hss ⟨by rw [HO.out.1]; exact e.1, by rw [HO.out.2]; exact e.2⟩
    have HFB : Hid (∀ o, Below w.heap.size w (w2.alloc o)) := fun o => HB2.out.alloc HB2.out.size o
    cases s1 with
    | false =>
      go_wp2_with fail
      rw [← HP.out]
      unfold NoteSOut
      rw [HN.out]
      exact ⟨rfl, LedS.of_below HA.out (HFB.out _)⟩
    | true =>
      cases s2 with
      | true => exact absurd ⟨rfl, rfl⟩ hss
      | false =>
        go_wp2_with fail
        rw [← HP.out]
        unfold NoteSOut
        rw [HN.out]
        exact ⟨rfl, LedS.of_below HA.out (HFB.out _)⟩
  obtain ⟨rfl, rfl⟩ := hss
  have HN : Hid (A.noteP t s rr j v = if twiceF A.ths s rr j v = true then (A, 7) else ((A.beco t (noteTh s rr j v)).1, (A.beco t (noteTh s rr j v)).2.2)) := if_pos ⟨HO.out.1.symm, HO.out.2.symm⟩
  clear HO
  obtain ⟨r, hr⟩ := h
  have c1 := hr.raw.at 1 (by omega)
  rw [Sr.c1] at c1
  obtain ⟨a, c, hv⟩ := hr.ths.shape
  rw [hv] at c1
  have HH : Hid (StRaw w b G (St.of A) r) := hr
  have HV : Hid (r.vth = .slice a (St.of A).ths.length c) := hv
  obtain ⟨n, hn⟩ : ∃ n, n = (St.of A).ths.length := ⟨_, rfl⟩
  rw [← hn] at c1
  have HNN : Hid (n = (St.of A).ths.length) := hn
  have hnb : n < 900000 := by rw [hn]; exact HT.out.len
  have c1' := (HB2.out.cell (p := ⟨b, 1, none⟩) hr.raw.lt).trans c1
  have hbl2 := Nat.lt_of_lt_of_le hr.raw.lt HB2.out.size
  clear hn hr hv c1
  go_wp2_with fail
  have HB3 : Hid (Below w.heap.size w ((w2.alloc (.cells #[.int .i64 x2.id, .int .i64 x2.k, .int .i64 x2.lv, .int .i64 x2.va, .int .i64 x2.p0, .int .i64 x2.p1, .int .i64 x2.p2, .int .i64 x2.p3, .int .u64 x2.mask] 84)).alloc (.cells #[.int .i64 s, .int .i64 rr, .int .i64 j, .int .i64 0] 35))) := (HB2.out.alloc HB2.out.size _).alloc (by have := HB2.out.size; simp; omega) _
  have HQ3 : Hid (((w2.alloc (.cells #[.int .i64 x2.id, .int .i64 x2.k, .int .i64 x2.lv, .int .i64 x2.va, .int .i64 x2.p0, .int .i64 x2.p1, .int .i64 x2.p2, .int .i64 x2.p3, .int .u64 x2.mask] 84)).alloc (.cells #[.int .i64 s, .int .i64 rr, .int .i64 j, .int .i64 0] 35)).heap[w2.heap.size + 1]? = some (.cells #[.int .i64 s, .int .i64 rr, .int .i64 j, .int .i64 0] 35 (0, 0))) := heap_alloc2_new w2 _ _
  generalize (w2.alloc (.cells #[.int .i64 x2.id, .int .i64 x2.k, .int .i64 x2.lv, .int .i64 x2.va, .int .i64 x2.p0, .int .i64 x2.p1, .int .i64 x2.p2, .int .i64 x2.p3, .int .u64 x2.mask] 84)).alloc (.cells #[.int .i64 s, .int .i64 rr, .int .i64 j, .int .i64 0] 35) = W3 at *
  have HL3 : Hid (w2.heap.size + 1 < W3.heap.size) := (Array.getElem?_eq_some_iff.1 HQ3.out).1
  clear c1'
  go_loopg [54] n (fun gh s54 wr => ∃ i : Nat, i + gh = n ∧ s54 = .int .i64 i ∧ (∀ (k : Nat) y, k < i → (St.of A).ths[k]? = some y → ¬ (y.isNote s rr j ∧ y.va ≠ v)) ∧ Below W3.heap.size W3 wr)
  case atStart => exact ⟨0, by omega, rfl, fun k y hk => by omega, Below.refl _ _⟩
  case round =>
    obtain ⟨i, hig, rfl, hno, hbr⟩ := hrel
    have HIG : Hid (i + gk = n) := hig
    have HBR : Hid (Below W3.heap.size W3 wr) := hbr
    have HNO : Hid (∀ (k : Nat) y, k < i → (St.of A).ths[k]? = some y → ¬ (y.isNote s rr j ∧ y.va ≠ v)) := hno
    clear hig hno
    have HBW : Hid (Below w.heap.size w wr) := HB3.out.trans (hbr.mono HB3.out.size)
    have hq3 := (hbr.block _ HL3.out).trans HQ3.out
    have m0 : wr.cell? ⟨w2.heap.size + 1, 0, none⟩ = some (.int .i64 s) := Lib.cell_of_heap hq3 0
    have m1 : wr.cell? ⟨w2.heap.size + 1, 1, none⟩ = some (.int .i64 rr) := Lib.cell_of_heap hq3 1
    have m2 : wr.cell? ⟨w2.heap.size + 1, 2, none⟩ = some (.int .i64 j) := Lib.cell_of_heap hq3 2
    have m3 : wr.cell? ⟨w2.heap.size + 1, 3, none⟩ = some (.int .i64 0) := Lib.cell_of_heap hq3 3
    have hl3 : w2.heap.size + 1 < wr.heap.size := Nat.lt_of_lt_of_le HL3.out hbr.size
    clear hq3
    by_cases hlt : i < n
    · obtain ⟨x, hx⟩ : ∃ x, (St.of A).ths[i]? = some x := ⟨_, List.getElem?_eq_getElem (by rw [← HNN.out]; exact hlt)⟩
      obtain ⟨g, c', hg, hgl, hcs⟩ := HH.out.elem hx
      have hgv := HV.out
      rw [hg] at hgv
      simp only [Value.slice.injEq] at hgv
      obtain ⟨rfl, _, _⟩ := hgv
      obtain ⟨d0, d1, d2, d3, d4, d5, d6, d7, d8⟩ := hcs
      have kc := fun j => HBW.out.cell (p := ⟨g, j, none⟩) hgl
      have d0 := (kc _).trans d0
      have d1 := (kc _).trans d1
      have d2 := (kc _).trans d2
      have d3 := (kc _).trans d3
      have d4 := (kc _).trans d4
      have d5 := (kc _).trans d5
      have d6 := (kc _).trans d6
      have d7 := (kc _).trans d7
      have d8 := (kc _).trans d8
      have HX : Hid ((St.of A).ths[i]? = some x) := hx
      have k0 : (0 : Int) ≤ (i : Int) := by omega
      have k1 : (i : Int) < (n : Int) := by omega
      have HNX : Hid (¬ (x.isNote s rr j ∧ x.va ≠ v) → ∀ (k : Nat) y, k < i + 1 → (St.of A).ths[k]? = some y → ¬ (y.isNote s rr j ∧ y.va ≠ v)) := fun hne k y hk hy => by
        by_cases e : k = i
        · subst e
          rw [HX.out] at hy
          cases hy
          exact hne
        · exact HNO.out k y (by omega) hy
      have HBA : Hid (∀ o, Below W3.heap.size W3 (wr.alloc o)) := fun o => hbr.alloc hbr.size o
      clear kc hx hg hbr
      by_cases hk : x.k = 1
      · have hk' : (x.k == 1) = true := by simpa using hk
        have hq := fun W => four_eq x.p0 x.p1 x.p2 x.p3 s rr j 0 W
        by_cases hp : x.p0 = s ∧ x.p1 = rr ∧ x.p2 = j ∧ x.p3 = 0
        · have HI : Hid (x.isNote s rr j) := ⟨hk, hp⟩
          rw [decide_eq_true hp] at hq
          clear hp hk
          by_cases hva : x.va = v
          · have hva' : (x.va != v) = false := by simpa using hva
            have HVA : Hid (x.va = v) := hva
            clear hva
            go_wp2_with fail
            go_roundg (gk - 1)
            case measure => have := HIG.out; omega
            case rel => exact ⟨i + 1, by have := HIG.out; omega, by go_num, HNX.out fun e => e.2 HVA.out, HBA.out _⟩
          · have hva' : (x.va != v) = true := by simpa using hva
            have HT7 : Hid (A.noteP t s rr j v = (A, 7)) := HN.out.trans (if_pos (by rw [← HTW.out]; exact twS_yes HX.out HI.out hva))
            clear hva
            go_wp2_with fail
            rw [← HP.out]
            unfold NoteSOut
            rw [HT7.out]
            exact ⟨rfl, LedS.of_below HA.out (HBW.out.alloc HBW.out.size _)⟩
        · have HI : Hid (¬ x.isNote s rr j) := fun e => hp e.2
          rw [decide_eq_false hp] at hq
          clear hp hk
          go_wp2_with fail
          go_roundg (gk - 1)
          case measure => have := HIG.out; omega
          case rel => exact ⟨i + 1, by have := HIG.out; omega, by go_num, HNX.out fun e => HI.out e.1, HBA.out _⟩
      · have hk' : (x.k == 1) = false := by simpa using hk
        have HK : Hid (¬ x.k = 1) := hk
        clear hk
        go_wp2_with fail
        go_roundg (gk - 1)
        case measure => have := HIG.out; omega
        case rel => exact ⟨i + 1, by have := HIG.out; omega, by go_num, HNX.out fun e => HK.out e.1.1, HBA.out _⟩
    · have k1 : ¬ (i : Int) < (n : Int) := by omega
      have HT8 : Hid (A.noteP t s rr j v = ((A.beco t (noteTh s rr j v)).1, (A.beco t (noteTh s rr j v)).2.2)) := HN.out.trans (if_neg (by
        rw [← HTW.out, twS_no fun k y hy => HNO.out k y (by have := (List.getElem?_eq_some_iff.1 hy).1; have := HNN.out; omega) hy]
        decide))
      have hgv := HGV.out wr (HA.out.below HBW.out)
      have hwv : (wantRt (noteTh s rr j v)).val = .agg #[.int .i64 0, .int .i64 1, .int .i64 0, .int .i64 v, .int .i64 s, .int .i64 rr, .int .i64 j, .int .i64 0, .int .u64 0] := rfl
      rw [hwv] at hgv
      clear hbr HGV
      go_wp2_with fail
      refine hgv.mono ?_
      rintro e w9 ⟨rfl, hl9⟩
      have HL9 : Hid (LedS w b G (St.of (A.beco t (noteTh s rr j v)).1) w9) := hl9.late HBW.out
      clear hl9 hgv
      go_wp2_with fail
      rw [← HP.out]
      unfold NoteSOut
      rw [HT8.out]
      exact ⟨rfl, HL9.out⟩
end Go.Proofs.Ytfogedmghhacdaa.A
