/- rle.number, numberBehind and count: numbers that texts begin with. -/
import Derived.Test.YtpldnhlancjlnaaDoorHead
import Derived.Test.YtpldnhlancjlnaaDoorRleHead
import Derived.Lib.AtoiTie
import Derived.Deep.CutRange
namespace Go.Proofs.YtpldnhlancjlnaaDoor
open Go.Shelf Go.RowKit

theorem Tryd.info137 : (Tryd.prog.info? (Tryd.trimLeft_ren.t 116)).map (fun i => (i.zero, i.size)) = some (some (.agg (Array.replicate 256 (.bool false))), 256) := by kernel_rfl
theorem trimLeft_any (s : List UInt8) (cs : ByteArray) (w : World) (hcs : cs.size ≤ 100) (ha : cs.data.toList.all (fun b => decide (b.toNat < 128)) = true) :
    Calls Tryd.prog 58 #[.string ⟨s.toArray⟩, .string cs] w fun e w' => e = .returned (.string ⟨(Lib.trimLeftS s cs.data.toList).toArray⟩) ∧ Below w.heap.size w w' :=
  Any.strings_TrimLeft_laid Tryd.trimLeft Tryd.info137 ⟨s.toArray⟩ cs w (by omega) (ascii_of_all ha)

theorem atoi_ok (s : List UInt8) (n : Int) (w : World) (hs : s.length ≤ 18) (h : Lib.atoi s = some n) :
    Calls Tryd.prog 114 #[.string ⟨s.toArray⟩] w fun e w' => e = .returned (.tuple #[.int .i64 n, .nilIface]) ∧ Below w.heap.size w w' := by
  have hz : (⟨s.toArray⟩ : ByteArray).size = s.length := by show s.toArray.size = _; simp
  refine (Any.strconv_Atoi_ok Tryd.atoi ⟨s.toArray⟩ (by omega) n (by rw [Lib.atoiAll_short _ (by exact hs)]; show Lib.NumEnd.ofOption (Lib.atoi s) = _; rw [h]; rfl) w).mono ?_
  rintro e w' ⟨rfl, rfl | ⟨t, rfl⟩⟩
  · exact ⟨rfl, Below.refl _ _⟩
  · exact ⟨rfl, rfl, rfl, rfl, by rw [Lib.bytesWorld_size]; omega, fun j hj => Lib.bytesWorld_at_old w _ t j hj⟩
theorem atoi_none (s : List UInt8) (w : World) (hs : s.length ≤ 18) (h : Lib.atoi s = none) (hv : VarsD w) :
    Calls Tryd.prog 114 #[.string ⟨s.toArray⟩] w fun e w' => ∃ N, e = .returned (.tuple #[.int .i64 0, .iface (Tryd.atoi_ren.t 168) (.pointer (some ⟨N, 0, none⟩))]) ∧ Below w.heap.size w w' := by
  obtain ⟨tp, p, he⟩ := hv.err
  have hz : (⟨s.toArray⟩ : ByteArray).size = s.length := by show s.toArray.size = _; simp
  refine (Any.strconv_Atoi_syntax_var Tryd.atoi ⟨s.toArray⟩ (by omega) (by rw [Lib.atoiAll_short _ (by exact hs)]; show Lib.NumEnd.ofOption (Lib.atoi s) = _; rw [h]; rfl) tp p w he).mono ?_
  rintro e w' ⟨N, rfl, _, _, hb⟩
  exact ⟨N, rfl, hb⟩

set_option maxRecDepth 20000 in
set_option maxHeartbeats 2000000 in
theorem number_any (s : List UInt8) (w : World) (hs : s.length ≤ 30000) (hv : VarsD w) :
    Calls Tryd.prog 83 #[.string ⟨s.toArray⟩] w fun e w' => e = .returned (.tuple #[.int .i64 (numberF s).1, .string ⟨(numberF s).2.1.toArray⟩, .bool (numberF s).2.2]) ∧ Below w.heap.size w w' := by
  have htr := trimLeft_any s ⟨#[48, 49, 50, 51, 52, 53, 54, 55, 56, 57]⟩ w (by decide) (by decide)
  have e1 : (⟨#[48, 49, 50, 51, 52, 53, 54, 55, 56, 57]⟩ : ByteArray).data.toList = digs := rfl
  rw [e1] at htr
  have hle : (Lib.trimLeftS s digs).length ≤ s.length := (List.dropWhile_sublist _).length_le
  have hf : numberF s = (if 12 < (s.take (s.length - (Lib.trimLeftS s digs).length)).length ∨ 1 < (s.take (s.length - (Lib.trimLeftS s digs).length)).length ∧ (s.take (s.length - (Lib.trimLeftS s digs).length)).head? = some 48 then (0, Lib.trimLeftS s digs, false)
    else match Lib.atoi (s.take (s.length - (Lib.trimLeftS s digs).length)) with
      | some n => (n, Lib.trimLeftS s digs, true)
      | none => (0, Lib.trimLeftS s digs, false)) := rfl
  clear e1
  generalize Lib.trimLeftS s digs = rest at *
  have hE : (⟨s.toArray⟩ : ByteArray).extract 0 (s.length - rest.length) = ⟨(s.take (s.length - rest.length)).toArray⟩ := by
    apply ByteArray.ext
    simp [ByteArray.data_extract]
  have hTl : (s.take (s.length - rest.length)).length = s.length - rest.length := by rw [List.length_take]; omega
  generalize s.take (s.length - rest.length) = T at *
  rw [← hTl] at hE
  have HF : Hid (numberF s = (if 12 < T.length ∨ 1 < T.length ∧ T.head? = some 48 then (0, rest, false)
    else match Lib.atoi T with
      | some n => (n, rest, true)
      | none => (0, rest, false))) := hf
  have hTL : s.length - rest.length = T.length := hTl.symm
  clear hf hTl
  by_cases h12 : 12 < T.length
  · have HX : Hid (numberF s = (0, rest, false)) := by show _ = _; rw [HF.out, if_pos (Or.inl h12)]
    have hd : decide ((12 : Int) < (T.length : Int)) = true := by simp; omega
    go_enter Tryd.func83, Tryd.ntmps83
    go_wp2_with fail
    refine htr.mono ?_
    rintro e w1 ⟨rfl, hb1⟩
    go_wp2_with fail
    go_ret3
    exact ⟨by rw [HX.out]; rfl, hb1⟩
  · have h12' : (T.length : Int) ≤ 12 := by omega
    have hao := fun n W h => atoi_ok T n W (by omega) h
    have han := fun W h hV => atoi_none T W (by omega) h hV
    by_cases h1 : 1 < T.length
    · have h1' : (1 : Int) < (T.length : Int) := by omega
      cases hT : T with
      | nil => rw [hT] at h1; simp at h1
      | cons c r =>
        rw [hT] at hE hTL HF h12 h12' h1 h1' hao han
        rw [List.length_cons] at hE hTL
        have h12n : ((r.length : Int) + 1) ≤ 12 := by simp at h12'; omega
        have h1n : (1 : Int) < (r.length : Int) + 1 := by simp at h1'; omega
        have hr0 : r.length + 1 ≤ s.length := by omega
        have hmin : min (r.length + 1) s.length = r.length + 1 := by omega
        have hb0 : ∀ h, ((⟨(c :: r).toArray⟩ : ByteArray)[0]'h).toNat = c.toNat := fun _ => rfl
        by_cases hc : c = 48
        · have HX : Hid (numberF s = (0, rest, false)) := by show _ = _; rw [HF.out, if_pos (Or.inr ⟨h1, by rw [hc]; rfl⟩)]
          have hcn : ((c.toNat : Int) == 48) = true := by rw [hc]; decide
          clear hc hT
          go_enter Tryd.func83, Tryd.ntmps83
          go_wp2_with fail
          refine htr.mono ?_
          rintro e w1 ⟨rfl, hb1⟩
          go_wp2_with fail
          go_ret3
          exact ⟨by rw [HX.out]; rfl, hb1⟩
        · have hcn : ((c.toNat : Int) == 48) = false := by
            rw [beq_eq_false_iff_ne]
            intro h
            exact hc (UInt8.toNat.inj (by simp; omega))
          have HY : Hid (numberF s = (match Lib.atoi (c :: r) with | some n => (n, rest, true) | none => (0, rest, false))) := by
            show _ = _
            rw [HF.out, if_neg]
            rintro (h | ⟨_, h⟩)
            · exact h12 h
            · simp at h; exact hc h
          clear hc hT
          cases ha : Lib.atoi (c :: r) with
          | some n =>
            have HX : Hid (numberF s = (n, rest, true)) := by show _ = _; rw [HY.out, ha]
            have hao' := fun W => hao n W ha
            clear hao han ha
            go_enter Tryd.func83, Tryd.ntmps83
            go_wp2_with fail
            refine htr.mono ?_
            rintro e w1 ⟨rfl, hb1⟩
            go_wp2_with fail
            refine (hao' _).mono ?_
            rintro e w2 ⟨rfl, hb2⟩
            go_wp2_with fail
            go_region
            go_wp2
            go_ret3
            exact ⟨by rw [HX.out]; rfl, (hb1.trans (hb2.mono hb1.size)).drew⟩
          | none =>
            have HX : Hid (numberF s = (0, rest, false)) := by show _ = _; rw [HY.out, ha]
            have han' := fun W hV => han W ha hV
            clear hao han ha
            go_enter Tryd.func83, Tryd.ntmps83
            go_wp2_with fail
            refine htr.mono ?_
            rintro e w1 ⟨rfl, hb1⟩
            have hv1 := hv.go hb1 hv.room
            go_wp2_with fail
            refine (han' _ hv1).mono ?_
            rintro e w2 ⟨N, rfl, hb2⟩
            go_wp2_with fail
            go_region
            go_wp2
            go_ret3
            exact ⟨by rw [HX.out]; rfl, (hb1.trans (hb2.mono hb1.size)).drew⟩
    · have h1' : (T.length : Int) ≤ 1 := by omega
      have HY : Hid (numberF s = (match Lib.atoi T with | some n => (n, rest, true) | none => (0, rest, false))) := by
        show _ = _
        rw [HF.out, if_neg]
        rintro (h | ⟨h, _⟩)
        · exact h12 h
        · exact h1 h
      cases ha : Lib.atoi T with
      | some n =>
        have HX : Hid (numberF s = (n, rest, true)) := by show _ = _; rw [HY.out, ha]
        have hao' := fun W => hao n W ha
        clear hao han ha
        go_enter Tryd.func83, Tryd.ntmps83
        go_wp2_with fail
        refine htr.mono ?_
        rintro e w1 ⟨rfl, hb1⟩
        go_wp2_with fail
        refine (hao' _).mono ?_
        rintro e w2 ⟨rfl, hb2⟩
        go_wp2_with fail
        go_region
        go_wp2
        go_ret3
        exact ⟨by rw [HX.out]; rfl, (hb1.trans (hb2.mono hb1.size)).drew⟩
      | none =>
        have HX : Hid (numberF s = (0, rest, false)) := by show _ = _; rw [HY.out, ha]
        have han' := fun W hV => han W ha hV
        clear hao han ha
        go_enter Tryd.func83, Tryd.ntmps83
        go_wp2_with fail
        refine htr.mono ?_
        rintro e w1 ⟨rfl, hb1⟩
        have hv1 := hv.go hb1 hv.room
        go_wp2_with fail
        refine (han' _ hv1).mono ?_
        rintro e w2 ⟨N, rfl, hb2⟩
        go_wp2_with fail
        go_region
        go_wp2
        go_ret3
        exact ⟨by rw [HX.out]; rfl, (hb1.trans (hb2.mono hb1.size)).drew⟩
end Go.Proofs.YtpldnhlancjlnaaDoor
