/- A page's put and draw. -/
import Derived.Test.YtpldnhlancjlnaaDoorPage
import Derived.Test.YtpldnhlancjlnaaDoorCount
namespace Go.Proofs.YtpldnhlancjlnaaDoor
open Go.Shelf Go.RowKit

theorem byte_eq {c d : UInt8} (h : c ≠ d) : ((c.toNat : Int) == (d.toNat : Int)) = false := by
  rw [beq_eq_false_iff_ne]
  intro e
  exact h (UInt8.toNat.inj (by omega))

set_option maxRecDepth 20000 in
set_option maxHeartbeats 2000000 in
theorem pagePut_any (B pb : Nat) (W H x y : Int) (cs : List (Int × Int)) (n : Int) (c : UInt8) (w : World) (h : PgAt B pb W H x y cs w) (hB : B ≤ w.heap.size) (hn : 1 ≤ n ∧ n < 1000000000000) (hx : 0 ≤ x ∧ x ≤ 100000000000000000) (hy : 0 ≤ y ∧ y ≤ 100000000000000000) (hW : W < 1000000000000) (hcs : cs.length ≤ 4096) :
    Calls Tryd.prog 60 #[.pointer (some ⟨pb, 0, none⟩), .int .i64 n, .int .u8 c.toNat] w fun e w' => e = .returned (.int .i64 (putF W H x y cs n c).1) ∧ PgAt B pb W H (putF W H x y cs n c).2.1 (putF W H x y cs n c).2.2.1 (putF W H x y cs n c).2.2.2 w' ∧ LeftP B pb w w' := by
  obtain ⟨c0, c1, c2, c3, z2, z3, z4⟩ := h.cells
  have hlt := h.lt
  have hge := h.1
  have hli := live_any B pb W H x y cs n w h hB hn hx hy hW hcs
  obtain ⟨hn1, hn2⟩ := hn
  obtain ⟨hx1, hx2⟩ := hx
  obtain ⟨hy1, hy2⟩ := hy
  by_cases hb : c = 98
  · subst hb
    rw [put_b]
    clear hli
    go_enter Tryd.func60, Tryd.ntmps60
    go_wp2_with fail
    go_ret
    exact ⟨rfl, h.setX _, (LeftP.refl _ _ _).setCell hge 2 _⟩
  · have e1 := byte_eq hb
    by_cases hd : c = 36
    · subst hd
      rw [put_d]
      clear hli hb e1
      go_enter Tryd.func60, Tryd.ntmps60
      go_wp2_with fail
      go_ret
      exact ⟨rfl, (h.setX 0).setY _, ((LeftP.refl _ _ _).setCell hge 2 _).setCell hge 3 _⟩
    · have e2 := byte_eq hd
      by_cases ho : c = 111
      · subst ho
        clear hb hd e1 e2
        go_enter Tryd.func60, Tryd.ntmps60
        go_wp2_with fail
        refine hli.mono ?_
        rintro e w1 ⟨rfl, hp1, hl1⟩
        go_wp2_with fail
        go_ret
        exact ⟨rfl, hp1, hl1⟩
      · have e3 := byte_eq ho
        have hpf : putF W H x y cs n c = (2, x, y, cs) := by simp [putF, hb, hd, ho]
        rw [hpf]
        have n1 : ((c.toNat : Int) == 98) = false := e1
        have n2 : ((c.toNat : Int) == 36) = false := e2
        have n3 : ((c.toNat : Int) == 111) = false := e3
        clear hli hb hd ho e1 e2 e3 hpf
        go_enter Tryd.func60, Tryd.ntmps60
        go_wp2_with fail
        go_ret
        exact ⟨rfl, h, LeftP.refl _ _ _⟩

theorem hasPrefix_any (s : List UInt8) (p : ByteArray) (w : World) :
    Calls Tryd.prog 24 #[.string ⟨s.toArray⟩, .string p] w fun e w' => e = .returned (.bool (Lib.hasPrefix s p.data.toList)) ∧ w' = w :=
  Any.strings_HasPrefix Tryd.hasPrefix ⟨s.toArray⟩ p w

/-- a round of a body's reading -/
theorem draw_one (W H : Int) (f : Nat) (x y : Int) (cs : List (Int × Int)) (s : List UInt8) : drawF W H (f + 1) x y cs s =
    (if Lib.hasPrefix (Lib.trimLeftS s blks) [33] = true then (0, cs)
    else if (countF (Lib.trimLeftS s blks)).2.2 = false ∨ (countF (Lib.trimLeftS s blks)).2.1 = [] then (2, [])
    else if (putF W H x y cs (countF (Lib.trimLeftS s blks)).1 ((countF (Lib.trimLeftS s blks)).2.1.headD 0)).1 ≠ 0 then ((putF W H x y cs (countF (Lib.trimLeftS s blks)).1 ((countF (Lib.trimLeftS s blks)).2.1.headD 0)).1, [])
    else drawF W H f (putF W H x y cs (countF (Lib.trimLeftS s blks)).1 ((countF (Lib.trimLeftS s blks)).2.1.headD 0)).2.1 (putF W H x y cs (countF (Lib.trimLeftS s blks)).1 ((countF (Lib.trimLeftS s blks)).2.1.headD 0)).2.2.1 (putF W H x y cs (countF (Lib.trimLeftS s blks)).1 ((countF (Lib.trimLeftS s blks)).2.1.headD 0)).2.2.2 ((countF (Lib.trimLeftS s blks)).2.1.drop 1)) := by
  rw [drawF]

/-- where the reading stands -/
structure Stand (W H x y : Int) (cs : List (Int × Int)) (s : List UInt8) (tot : Int × List (Int × Int)) : Prop where
  left : ∃ f, s.length < f ∧ tot = drawF W H f x y cs s
  x0 : 0 ≤ x ∧ x + s.length * 1000000000000 ≤ 30000000000000000
  y0 : 0 ≤ y ∧ y + s.length * 1000000000000 ≤ 30000000000000000
  few : cs.length ≤ 4096

theorem put_few (W H x y : Int) (cs : List (Int × Int)) (n : Int) (c : UInt8) (hn : 1 ≤ n) (hf : cs.length ≤ 4096) (h0 : (putF W H x y cs n c).1 = 0) : (putF W H x y cs n c).2.2.2.length ≤ 4096 := by
  unfold putF at h0 ⊢
  by_cases hb : c = 98
  · simp [hb]; exact hf
  · rw [if_neg hb] at h0 ⊢
    by_cases hd : c = 36
    · simp [hd]; exact hf
    · rw [if_neg hd] at h0 ⊢
      by_cases ho : c = 111
      · rw [if_pos ho] at h0 ⊢
        by_cases h1 : W < x + n ∨ H ≤ y
        · rw [if_pos h1] at h0; simp at h0
        · rw [if_neg h1] at h0 ⊢
          by_cases h2 : 4096 < (cs.length : Int) + n
          · rw [if_pos h2] at h0; simp at h0
          · rw [if_neg h2]
            simp only
            rw [List.length_append, cellsAt_length]
            omega
      · rw [if_neg ho] at h0; simp at h0
theorem put_move (W H x y : Int) (cs : List (Int × Int)) (n : Int) (c : UInt8) (hn : 1 ≤ n) (hx : 0 ≤ x) (hy : 0 ≤ y) : 0 ≤ (putF W H x y cs n c).2.1 ∧ (putF W H x y cs n c).2.1 ≤ x + n ∧ 0 ≤ (putF W H x y cs n c).2.2.1 ∧ (putF W H x y cs n c).2.2.1 ≤ y + n := by
  unfold putF
  by_cases hb : c = 98
  · simp [hb]; omega
  · rw [if_neg hb]
    by_cases hd : c = 36
    · simp [hd]; omega
    · rw [if_neg hd]
      by_cases ho : c = 111
      · rw [if_pos ho]
        split
        · simp only; omega
        · split
          · simp only; omega
          · simp only; omega
      · rw [if_neg ho]; simp only; omega

set_option maxRecDepth 20000 in
set_option maxHeartbeats 4000000 in
theorem draw_any (B pb : Nat) (W H : Int) (s : List UInt8) (w : World) (h : PgAt B pb W H 0 0 [] w) (hv : VarsD w) (hB8 : 8 ≤ B) (hB : B ≤ w.heap.size) (hW : W < 1000000000000) (hs : s.length ≤ 20000) :
    Calls Tryd.prog 27 #[.pointer (some ⟨pb, 0, none⟩), .string ⟨s.toArray⟩] w fun e w' => e = .returned (.int .i64 (drawF W H (s.length + 1) 0 0 [] s).1) ∧ ((drawF W H (s.length + 1) 0 0 [] s).1 = 0 → ∃ x y, PgAt B pb W H x y (drawF W H (s.length + 1) 0 0 [] s).2 w') ∧ LeftP B pb w w' := by
  have hst : Stand W H 0 0 [] s (drawF W H (s.length + 1) 0 0 [] s) := ⟨⟨s.length + 1, by omega, rfl⟩, by omega, by omega, by simp⟩
  generalize drawF W H (s.length + 1) 0 0 [] s = tot at *
  obtain ⟨N, hN⟩ : ∃ N, N = s.length := ⟨_, rfl⟩
  go_enter Tryd.func27, Tryd.ntmps27
  go_wp2_with fail
  go_loopg [1] (N + 1) (fun gk s1 wr => ∃ (t : List UInt8) (x y : Int) (cs : List (Int × Int)), t.length < gk + 1 ∧ t.length ≤ 20000 ∧ s1 = .string ⟨t.toArray⟩ ∧ Stand W H x y cs t tot ∧ PgAt B pb W H x y cs wr ∧ LeftP B pb w wr)
  case atStart => exact ⟨s, 0, 0, [], by omega, hs, rfl, hst, h, LeftP.refl _ _ _⟩
  case round =>
    obtain ⟨t, x, y, cs, hg, ht, rfl, hst, hpg, hlf⟩ := hrel
    have HG : Hid (t.length < gk + 1) := hg
    have HS : Hid (Stand W H x y cs t tot) := hst
    clear hg hst
    have hvr := hv.go hlf.1 hB8
    have hsz := hlf.1.size
    have htr := trimLeft_any t ⟨#[32, 9, 10, 13]⟩ wr (by decide) (by decide)
    have e1 : (⟨#[32, 9, 10, 13]⟩ : ByteArray).data.toList = blks := rfl
    rw [e1] at htr
    have hle : (Lib.trimLeftS t blks).length ≤ t.length := (List.dropWhile_sublist _).length_le
    obtain ⟨f, hf, htot⟩ := HS.out.left
    obtain ⟨g, rfl⟩ : ∃ g, f = g + 1 := ⟨f - 1, by omega⟩
    rw [draw_one] at htot
    have HTOT : Hid _ := htot
    clear htot e1
    generalize Lib.trimLeftS t blks = u at *
    have hhp := fun W => hasPrefix_any u ⟨#[33]⟩ W
    have e2 : (⟨#[33]⟩ : ByteArray).data.toList = [33] := rfl
    rw [e2] at hhp
    clear e2
    go_wp2_with fail
    refine htr.mono ?_
    rintro e w1 ⟨rfl, hb1⟩
    have hpg1 := hpg.go hb1
    have hlf1 : LeftP B pb w w1 := hlf.trans (LeftP.of hb1 (by omega))
    have hv1 := hvr.go hb1 hvr.room
    have hz1 := hb1.size
    cases hp : Lib.hasPrefix u [33] with
    | true =>
      have HX : Hid (tot = (0, cs)) := by
        have := HTOT.out
        rw [if_pos hp] at this
        exact this
      rw [hp] at hhp
      clear HTOT hp
      go_wp2_with fail
      refine (hhp _).mono ?_
      rintro e w2 ⟨rfl, hw⟩
      have hw2 := hw.symm
      subst hw2
      clear hw
      go_wp2_with fail
      go_ret
      rw [HX.out]
      exact ⟨rfl, fun _ => ⟨x, y, hpg1⟩, hlf1⟩
    | false =>
      have hy := HTOT.out
      rw [if_neg (by rw [hp]; simp)] at hy
      rw [hp] at hhp
      have hco := fun W hV => count_any u W (by omega) hV
      have hcb := count_bound u
      have hcl := count_len u
      clear HTOT hp
      generalize countF u = q at *
      obtain ⟨n, r, ok⟩ := q
      simp only at hco hcb hcl hy
      have HY : Hid _ := hy
      clear hy
      go_wp2_with fail
      refine (hhp _).mono ?_
      rintro e w2 ⟨rfl, hw⟩
      have hw2 := hw.symm
      subst hw2
      clear hw
      go_wp2_with fail
      refine (hco _ hv1).mono ?_
      rintro e w3 ⟨rfl, hb3⟩
      have hpg3 := hpg1.go hb3
      have hlf3 : LeftP B pb w w3 := hlf1.trans (LeftP.of hb3 (by omega))
      have hz3 := hb3.size
      cases ok with
      | false =>
        have HX : Hid (tot = (2, [])) := by
          have := HY.out
          rw [if_pos (Or.inl rfl)] at this
          exact this
        clear HY
        go_wp2_with fail
        go_ret
        rw [HX.out]
        exact ⟨rfl, fun h => by simp at h, hlf3⟩
      | true =>
        cases r with
        | nil =>
          have HX : Hid (tot = (2, [])) := by
            have := HY.out
            rw [if_pos (Or.inr rfl)] at this
            exact this
          clear HY
          go_wp2_with fail
          go_ret
          rw [HX.out]
          exact ⟨rfl, fun h => by simp at h, hlf3⟩
        | cons c r =>
          obtain ⟨hn1, hn2⟩ := hcb rfl
          have hrl : r.length + 1 ≤ t.length := by simp at hcl; omega
          have hx0 := HS.out.x0
          have hy0 := HS.out.y0
          have hfw := HS.out.few
          have hz := HY.out
          rw [if_neg (by simp)] at hz
          simp only [List.headD_cons, List.drop_succ_cons, List.drop_zero] at hz
          have hpu := pagePut_any B pb W H x y cs n c w3 hpg3 (by omega) ⟨hn1, hn2⟩ ⟨hx0.1, by omega⟩ ⟨hy0.1, by omega⟩ hW hfw
          have hpf := put_few W H x y cs n c hn1 hfw
          have hpm := put_move W H x y cs n c hn1 hx0.1 hy0.1
          clear HY
          generalize putF W H x y cs n c = qq at *
          obtain ⟨code, x', y', cs'⟩ := qq
          simp only at hpu hz hpf hpm
          have HZ : Hid _ := hz
          clear hz
          have hse : ((c :: r) == ([] : List UInt8)) = false := rfl
          have hb0 : ∀ h, ((⟨(c :: r).toArray⟩ : ByteArray)[0]'h).toNat = c.toNat := fun _ => rfl
          go_wp2_with fail
          refine hpu.mono ?_
          rintro e w4 ⟨rfl, hpg4, hl4⟩
          have hlf4 : LeftP B pb w w4 := hlf3.trans hl4
          by_cases hcode : code = 0
          · subst hcode
            have HV : Hid (tot = drawF W H g x' y' cs' r) := by
              have := HZ.out
              rw [if_neg (by simp)] at this
              exact this
            have hE : (⟨(c :: r).toArray⟩ : ByteArray).extract 1 (r.length + 1) = ⟨r.toArray⟩ := by
              apply ByteArray.ext
              simp [ByteArray.data_extract]
            clear HZ
            go_wp2_with fail
            go_roundg (gk - 1)
            case measure => have := HG.out; omega
            case rel =>
              have h5 := HG.out
              exact ⟨r, x', y', cs', by omega, by omega, by first | rfl | rw [hE], ⟨⟨g, by omega, HV.out⟩, ⟨hpm.1, by omega⟩, ⟨hpm.2.2.1, by omega⟩, hpf trivial⟩, hpg4, hlf4⟩
          · have hne : (code != 0) = true := by simpa using hcode
            have HX : Hid (tot = (code, [])) := by
              have := HZ.out
              rw [if_pos hcode] at this
              exact this
            clear HZ
            go_wp2_with fail
            go_ret
            rw [HX.out]
            exact ⟨rfl, fun h => absurd h hcode, hlf4⟩
end Go.Proofs.YtpldnhlancjlnaaDoor
