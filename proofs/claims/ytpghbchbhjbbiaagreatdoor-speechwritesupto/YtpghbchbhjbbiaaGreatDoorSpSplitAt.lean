/- The document's splitAt. -/
import Derived.Test.YtpghbchbhjbbiaaGreatDoorSpLine
import Derived.Deep.AppendLies
namespace Go.Proofs.YtpghbchbhjbbiaaGreatDoor
open Go.RowKit

/-- one byte more of a text that is parted -/
def pieceStep (sep : UInt8) (acc : List ByteArray) (c : UInt8) : List ByteArray := if c = sep then acc ++ [⟨#[]⟩] else acc.dropLast ++ [acc.getLastD ⟨#[]⟩ ++ ⟨#[c]⟩]
/-- the pieces of a text between a byte -/
def pieceL (sep : UInt8) (l : List UInt8) : List ByteArray := l.foldl (pieceStep sep) [⟨#[]⟩]
theorem pieceL_snoc (sep : UInt8) (l : List UInt8) (c : UInt8) : pieceL sep (l ++ [c]) = pieceStep sep (pieceL sep l) c := by
  unfold pieceL
  rw [List.foldl_append]
  rfl
theorem piece_form (sep : UInt8) : ∀ (l : List UInt8) (acc : List ByteArray) (k : Nat), (∃ ts t, acc = ts ++ [t] ∧ ts.length ≤ k ∧ t.size ≤ k) → ∃ ts t, l.foldl (pieceStep sep) acc = ts ++ [t] ∧ ts.length ≤ k + l.length ∧ t.size ≤ k + l.length
  | [], acc, k, h => by simpa using h
  | c :: l, acc, k, ⟨ts, t, e, h1, h2⟩ => by
    have h := piece_form sep l (pieceStep sep acc c) (k + 1) (by
      rw [e, pieceStep]
      split
      · exact ⟨ts ++ [t], ⟨#[]⟩, rfl, by simp; omega, Nat.zero_le _⟩
      · refine ⟨ts, t ++ ⟨#[c]⟩, by simp, by omega, ?_⟩
        rw [ByteArray.size_append]
        show t.size + 1 ≤ _
        omega)
    obtain ⟨ts', t', e', h3, h4⟩ := h
    rw [List.foldl_cons, List.length_cons]
    exact ⟨ts', t', e', by omega, by omega⟩
/-- a last piece, no longer than the text, and no more pieces than bytes ahead of it -/
theorem pieceL_form (sep : UInt8) (l : List UInt8) : ∃ ts t, pieceL sep l = ts ++ [t] ∧ ts.length ≤ l.length ∧ t.size ≤ l.length := by
  obtain ⟨ts, t, e, h1, h2⟩ := piece_form sep l [⟨#[]⟩] 0 ⟨[], ⟨#[]⟩, rfl, Nat.le_refl _, Nat.le_refl _⟩
  exact ⟨ts, t, e, by omega, by omega⟩

theorem World.ownsRow.ofAlloc1 (w : World) : (w.alloc (.cells #[.string ⟨#[]⟩] 9)).ownsRow w.heap.size 9 1 (.slice (some ⟨w.heap.size, 0, none⟩) 1 1) 1 [.string ⟨#[]⟩] :=
  ⟨rfl, .inr ⟨w.heap.size, 1, #[.string ⟨#[]⟩], rfl, Nat.le_refl _, heap_alloc_new w _, Nat.le_refl _, by unfold maxLen; omega, rfl, rfl⟩⟩

set_option maxRecDepth 20000 in
set_option maxHeartbeats 2000000 in
theorem splitAt_any (s : ByteArray) (sep : UInt8) (w : World) (hs : s.size ≤ 100000000) :
    Calls Tryz.prog 19 #[.string s, .int .u8 sep.toNat] w fun e w' => ∃ u, e = .returned u ∧ SRow w' w.heap.size u (pieceL sep s.data.toList) ∧ Below w.heap.size w w' := by
  obtain ⟨i0, hi, hz0, hz1, hz2⟩ := info_parts Tryz.infoStr
  obtain ⟨n, hn⟩ : ∃ n, n = s.size := ⟨_, rfl⟩
  have HN : Hid (n = s.size ∧ s.data.toList.length = n) := ⟨hn, by rw [hn]; exact ba_len s⟩
  go_enter Tryz.func19, Tryz.ntmps19
  go_wp2_with fail
  go_loopg [5, 6] n (fun gk s5 s6 wr => ∃ j : Nat, j + gk = n ∧ s6 = .int .i64 j ∧ SRow wr w.heap.size s5 (pieceL sep (s.data.toList.take j)) ∧ Below w.heap.size w wr)
  case atStart =>
    exact ⟨0, by omega, rfl, World.ownsRow.ofAlloc1 w, (Below.refl _ _).alloc (Nat.le_refl _) _⟩
  case round =>
    obtain ⟨j, hj, rfl, hrow, hbr⟩ := hrel
    have HJ : Hid (j + gk = n) := hj
    have hjn : j ≤ n := by omega
    obtain ⟨ts, t, hP, hts, htz⟩ := pieceL_form sep (s.data.toList.take j)
    rw [hP] at hrow
    have htk : (s.data.toList.take j).length = j := by rw [List.length_take]; have := HN.out; omega
    rw [htk] at hts htz
    have hown : wr.ownsRow w.heap.size 9 1 u5 (ts.length + 1) ((ts ++ [t]).map Value.string) := by unfold SRow at hrow; simpa using hrow
    obtain ⟨g, cap, rfl, hgw, hgl⟩ := hown.form (by omega)
    by_cases hlt : j < n
    · obtain ⟨c, hc⟩ : ∃ c, s.data.toList[j]? = some c := ⟨s.data.toList[j]'(by have := HN.out; omega), List.getElem?_eq_getElem _⟩
      have HP1 : Hid (pieceL sep (s.data.toList.take (j + 1)) = pieceStep sep (ts ++ [t]) c) := by
        show _ = _
        rw [List.take_add_one, hc]
        show pieceL sep (s.data.toList.take j ++ [c]) = _
        rw [pieceL_snoc, hP]
      have hi1 : (0 : Int) ≤ (j : Int) := by omega
      have hi2 : (j : Int) < (s.size : Int) := by omega
      have HOWN : Hid (wr.ownsRow w.heap.size 9 1 (.slice (some ⟨g, 0, none⟩) (ts.length + 1) cap) (ts.length + 1) ((ts ++ [t]).map Value.string)) := hown
      have hjs : j < s.size := by have := HN.out; omega
      have hcj : s[j] = c := by
        have h := (List.getElem?_eq_some_iff.1 hc).2
        rw [← h]; rfl
      have HX : Hid (s.extract j (j + 1) = ⟨#[c]⟩) := by
        show _ = _
        apply ByteArray.ext
        rw [ByteArray.data_extract]
        apply Array.ext'
        rw [Array.toList_extract, List.extract_eq_take_drop, show j + 1 - j = 1 by omega, List.take_one, List.head?_drop, hc]
        rfl
      clear hP htk hrow hj hown hc
      by_cases hcs : c = sep
      · subst hcs
        have HP2 : Hid (pieceL c (s.data.toList.take (j + 1)) = ts ++ [t] ++ [⟨#[]⟩]) := by show _ = _; rw [HP1.out, pieceStep, if_pos rfl]
        go_wp2_with (at_builtin; refine wpList_append_own _ rfl _ _ 41 rfl w.heap.size 9 i0 (.string ByteArray.empty) 1 16 Tryz.underlying41 hi hz0 hz1 hz2 rfl (by decide) _ _ _ rfl (World.ownsRow.alloc HOWN.out _) ⟨wr.heap.size, 0, none⟩ 1 1 [.string ⟨#[]⟩] rfl rfl ?c1 ?c2 ?c3 ?c4 ?c5 ?_)
        case c1 =>
          intro j u hj
          match j, hj with
          | 0, hj => simp at hj; subst hj; simp [Addr.add]
        case c2 => intro u hu; simp at hu; subst hu; rfl
        case c3 => unfold maxLen; omega
        case c4 => omega
        case c5 => have := hbr.size; simp; omega
        intro v4 w4 hown4 hgrow4 _
        have HB4 : Hid (Below w.heap.size w w4) := (hbr.alloc hbr.size _).grown hgrow4 (by have := hbr.size; simp; omega) (by intro k hk; simp only [Value.ownBlock, Option.some.injEq] at hk; omega)
        have HO4 : Hid (SRow w4 w.heap.size v4 (ts ++ [t] ++ [⟨#[]⟩])) := by
          show SRow _ _ _ _
          unfold SRow
          simpa using hown4
        clear hown4 hgrow4
        go_wp2_with fail
        go_roundg (gk - 1)
        case measure => have := HJ.out; omega
        case rel =>
          have := HJ.out
          exact ⟨j + 1, by omega, by go_num, by rw [HP2.out]; exact HO4.out, HB4.out⟩
      · have hct : (c.toNat == sep.toNat) = false := by
          rw [beq_eq_false_iff_ne]
          intro e
          exact hcs (UInt8.toNat_inj.1 e)
        have HP2 : Hid (pieceL sep (s.data.toList.take (j + 1)) = ts ++ [t ++ ⟨#[c]⟩]) := by show _ = _; rw [HP1.out, pieceStep, if_neg hcs]; simp
        have hcell := HOWN.out.cellAt ts.length (by omega)
        have hfz := HOWN.out.frozenAt ts.length
        rw [show ((ts ++ [t]).map Value.string)[ts.length]? = some (.string t) by simp] at hcell
        have HST : Hid (SRow (wr.setCell ⟨g, ts.length, none⟩ (.string (t ++ s.extract j (j + 1)))) w.heap.size (.slice (some ⟨g, 0, none⟩) (ts.length + 1) cap) (ts ++ [t ++ ⟨#[c]⟩])) := by
          show SRow _ _ _ _
          rw [HX.out]
          have h := (HOWN.out.stored ts.length (.string (t ++ ⟨#[c]⟩))).1
          unfold SRow
          simpa using h
        have HBS : Hid (Below w.heap.size w (wr.setCell ⟨g, ts.length, none⟩ (.string (t ++ s.extract j (j + 1))))) := hbr.setCell (p := ⟨g, ts.length, none⟩) hgw _
        have hk1 : ((ts.length : Int) + 1 - 1) = ts.length := by omega
        have hk2 : IntKind.i64.wrap ((ts.length : Int) + 1 - 1) = ts.length := by rw [IntKind.wrap_i64]; omega
        have hk3 : IntKind.i64.wrap ((j : Int) + 1) = (j : Int) + 1 := by rw [IntKind.wrap_i64]; omega
        have hk4 : (0 : Int) ≤ (ts.length : Int) := by omega
        have hk5 : (ts.length : Int) < (ts.length : Int) + 1 := by omega
        have hk6 : (j : Int) + 1 ≤ (s.size : Int) := by omega
        have hc1 : ¬ 9223372036854775807 < t.size + (s.extract j (j + 1)).size := by rw [HX.out]; show ¬ 9223372036854775807 < t.size + 1; omega
        go_wp2_with fail
        go_region
        go_wp2_with fail
        go_roundg (gk - 1)
        case measure => have := HJ.out; omega
        case rel =>
          have := HJ.out
          exact ⟨j + 1, by omega, by go_num, by rw [HP2.out]; exact HST.out, HBS.out.drew⟩
    · have HE : Hid (pieceL sep (s.data.toList.take j) = pieceL sep s.data.toList) := by
        show _ = _
        rw [List.take_of_length_le (by have := HN.out; omega)]
      have hn2 : ¬ (j : Int) < (s.size : Int) := by omega
      have HROW : Hid (SRow wr w.heap.size (.slice (some ⟨g, 0, none⟩) (ts.length + 1) cap) (pieceL sep s.data.toList)) := by show SRow _ _ _ _; rw [← HE.out, hP]; exact hrow
      clear hrow hown hP
      go_wp2_with fail
      go_ret
      exact ⟨_, rfl, HROW.out, hbr⟩
end Go.Proofs.YtpghbchbhjbbiaaGreatDoor
