/- lineOf: what would be a request's line. -/
import Derived.Test.YtpghbchbhjbbiaaGreatDoorSpLine
namespace Go.Proofs.YtpghbchbhjbbiaaGreatDoor
open Go.RowKit

def ruleT (b l : Int) : ByteArray := if goodB b l = true then ⟨(textL b l).toArray⟩ else ⟨#[]⟩
/-- the words of what would be a request's line -/
def lineWords (q : Rq) : List ByteArray :=
  verbL.getD q.verb.toNat ⟨#[]⟩ :: (if q.verb = 1 then [q.name, ruleT q.born q.live] else if q.verb = 2 then q.name :: (q.cells.take 6000).map cellW
    else if q.verb = 3 ∨ q.verb = 5 ∨ q.verb = 6 ∨ q.verb = 7 then [q.name] else if q.verb = 4 ∨ q.verb = 9 then [q.name, ⟨(Lib.itoa q.n).toArray⟩] else if q.verb = 8 then [q.name, q.other] else [])
def lineF (q : Rq) : ByteArray := ⟨(Lib.join ((lineWords q).map (·.data.toList)) [32]).toArray⟩

theorem textV_eq (b l : Int) : textV b l = .tuple #[.string (ruleT b l), .int .i64 (if goodB b l = true then 0 else 3)] := by
  unfold textV ruleT
  by_cases h : goodB b l = true
  · rw [if_pos h, if_pos h, if_pos h]
  · rw [if_neg h, if_neg h, if_neg h]
theorem ruleT_size (b l : Int) : (ruleT b l).size ≤ 1000 := by
  unfold ruleT
  split
  · rw [ba_size]
    have h1 := digitsL_length b 9
    have h2 := digitsL_length l 9
    simp only [textL, List.length_append, List.length_cons]
    omega
  · exact Nat.zero_le _
theorem SRow.at_ {w : World} {B g n cap : Nat} {ts : List ByteArray} (h : SRow w B (.slice (some ⟨g, 0, none⟩) n cap) ts) (j : Nat) (u : Value) (hj : (ts.map Value.string)[j]? = some u) : w.cell? ((⟨g, 0, none⟩ : Addr).add j) = some u := by
  rcases h.2 with ⟨h0, _⟩ | ⟨g', cap', cur, hv, _, hg, h1, _, hs, ht⟩
  · cases h0
  · cases hv
    have hl : j < ts.length := by have := (List.getElem?_eq_some_iff.1 hj).1; simpa using this
    rw [← ht, List.getElem?_take, if_pos (by omega)] at hj
    have e : (⟨g, 0, none⟩ : Addr).add j = ⟨g, j, none⟩ := by
      unfold Addr.add
      split
      · rename_i h; rw [h]
      · simp
    rw [e, Lib.cell_of_heap hg]
    simpa using hj
theorem crow_low {w0 w1 : World} {v : Value} {cs : List (Int × Int)} (h : CRow w0 0 v cs) (h1 : Below w0.heap.size w0 w1) (W : World) (hW : Below w0.heap.size w1 W) : CRow W 0 v cs := by
  refine ⟨h.1, ?_⟩
  rcases h.2 with hn | ⟨g, cap, cur, rfl, hb, hgg, rest⟩
  · exact .inl hn
  · have hlt := (Array.getElem?_eq_some_iff.1 hgg).1
    exact .inr ⟨g, cap, cur, rfl, hb, by rw [hW.block g hlt, h1.block g hlt]; exact hgg, rest⟩
theorem srow_one (w : World) (x : ByteArray) : SRow (w.alloc (.cells #[.string x] 9)) w.heap.size (.slice (some ⟨w.heap.size, 0, none⟩) 1 1) [x] := by
  refine ⟨rfl, Or.inr ⟨w.heap.size, 1, #[.string x], rfl, Nat.le_refl _, ?_, Nat.le_refl _, by unfold maxLen; omega, rfl, rfl⟩⟩
  rw [← World.alloc_eq]
  simp
theorem joined_len : ∀ (ts : List ByteArray) (B : Nat), (∀ t ∈ ts, t.size ≤ B) → (Lib.join (ts.map (·.data.toList)) [32]).length ≤ ts.length * (B + 1)
  | [], _, _ => by simp [Lib.join_nil]
  | t :: r, B, h => by
    rw [List.map_cons, Lib.join_cons, List.length_append, ba_len]
    have h1 := h t List.mem_cons_self
    have h2 : ∀ (r : List ByteArray), (∀ t ∈ r, t.size ≤ B) → (Lib.joinTail [32] (r.map (·.data.toList))).length ≤ r.length * (B + 1) := by
      intro r
      induction r with
      | nil => intro _; simp [Lib.joinTail]
      | cons a r ih =>
        intro hr
        have h3 := ih (fun t ht => hr t (List.mem_cons_of_mem _ ht))
        have h4 := hr a List.mem_cons_self
        have e : Lib.joinTail [32] ((a :: r).map (·.data.toList)) = ([32] ++ a.data.toList) ++ Lib.joinTail [32] (r.map (·.data.toList)) := by simp [Lib.joinTail]
        have e2 : (a :: r).length * (B + 1) = r.length * (B + 1) + (B + 1) := by rw [List.length_cons, Nat.succ_mul]
        rw [e, e2, List.length_append, List.length_append, ba_len]
        simp only [List.length_cons, List.length_nil]
        omega
    have h5 := h2 r (fun t ht => h t (List.mem_cons_of_mem _ ht))
    rw [List.length_cons, Nat.succ_mul]
    omega
theorem join_call (ts : List ByteArray) (v : Value) (B : Nat) (w : World) (h : SRow w B v ts) (h0 : ts ≠ []) (hN : ts.length ≤ 7000) (hs : ∀ t ∈ ts, t.size ≤ 1000000000) :
    Calls Tryz.prog 49 #[v, .string ⟨#[32]⟩] w fun e w' => e = .returned (.string ⟨(Lib.join (ts.map (·.data.toList)) [32]).toArray⟩) ∧ Below w.heap.size w w' := by
  have hjl := joined_len ts 1000000000 hs
  rcases h.2 with ⟨_, h1⟩ | ⟨g, cap, cur, rfl, _, hg, hnc, _, hsz, ht⟩
  · exact absurd (List.eq_nil_of_length_eq_zero h1) h0
  · refine Tryz.strings_Join g 0 cap ts ⟨#[32]⟩ w (fun j x hj => ?_) (Array.getElem?_eq_some_iff.1 hg).1 (by omega) hnc (by
      show (Lib.join (ts.map (·.data.toList)) [32]).length ≤ _
      have : ts.length * 1000000001 ≤ 7000 * 1000000001 := Nat.mul_le_mul_right _ hN
      omega)
    rw [Lib.cell_of_heap hg]
    have hl : j < ts.length := (List.getElem?_eq_some_iff.1 hj).1
    have h2 : (ts.map Value.string)[j]? = some (.string x) := by rw [List.getElem?_map, hj]; rfl
    rw [← ht, List.getElem?_take, if_pos (by omega)] at h2
    simpa using h2
set_option maxRecDepth 20000 in
set_option maxHeartbeats 2000000 in
theorem lineOf_10 (nm ot : ByteArray) (bo li n : Int) (cs : List (Int × Int)) (v : Value) (w : World) (hrow : CRow w 0 v cs) (hv : Vars w) (hh : In64 n ∧ (∀ c ∈ cs, In64 c.1 ∧ In64 c.2) ∧ nm.size ≤ 1000000000 ∧ ot.size ≤ 1000000000) :
    Calls Tryz.prog 26 #[Rq.val ⟨10, nm, ot, bo, li, n, cs⟩ v] w fun e w' => e = .returned (.string (lineF ⟨10, nm, ot, bo, li, n, cs⟩)) ∧ Below w.heap.size w w' := by
  have hn := hh.1
  have hcs := hh.2.1
  have hnm := hh.2.2.1
  have hot := hh.2.2.2
  have HL : Hid (lineF ⟨10, nm, ot, bo, li, n, cs⟩ = ⟨(Lib.join (([verbL.getD 10 ⟨#[]⟩]).map (·.data.toList)) [32]).toArray⟩) := rfl
  obtain ⟨va, vn, vc, rfl⟩ := crow_slice hrow
  have hb0 : Below w.heap.size w (w.alloc (.cells #[.int .i64 10, .string nm, .string ot, .int .i64 bo, .int .i64 li, .int .i64 n, .slice va vn vc] 26)) := (Below.refl _ _).alloc (Nat.le_refl _) _
  have P0 := SevIn.born w (.int .i64 10) (.string nm) (.string ot) (.int .i64 bo) (.int .i64 li) (.int .i64 n) (.slice va vn vc)
  have hv0 := hv.below hb0
  have hrow0 := hrow.below hb0
  have hvb := hv0.verbs 10 (by omega)
  obtain ⟨i0, hi, hz0, hz1, hz2⟩ := info_parts Tryz.infoStr
  generalize hw0 : w.alloc (.cells #[.int .i64 10, .string nm, .string ot, .int .i64 bo, .int .i64 li, .int .i64 n, .slice va vn vc] 26) = w0 at *
  obtain ⟨WD, hWD⟩ : ∃ WD, WD = verbL.getD 10 ⟨#[]⟩ := ⟨_, rfl⟩
  have hWs : WD.size ≤ 1000000000 := by rw [hWD]; decide
  rw [← hWD] at hvb HL
  clear hWD
  have hb1 : Below w0.heap.size w0 (w0.alloc (.cells #[.string WD] 9)) := (Below.refl _ _).alloc (Nat.le_refl _) _
  have s1 := srow_one w0 WD
  have P1 := P0.go hb1
  have hv1 := hv0.below hb1
  have hrow1 := hrow0.below hb1
  have hs1 : w0.heap.size ≤ (w0.alloc (.cells #[.string WD] 9)).heap.size := hb1.size
  generalize hw1 : w0.alloc (.cells #[.string WD] 9) = w1 at *
  have HB0 : Hid (Below w.heap.size w w0) := hb0
  have HP0 : Hid (w.heap.size < w0.heap.size) := P0.lt
  have HB1 : Hid (Below w.heap.size w w1) := hb0.trans (hb1.mono hb0.size)
  have HV1 : Hid (Vars w1) := hv1
  have HC1 : Hid (CRow w1 0 (.slice va vn vc) cs) := hrow1
  obtain ⟨a0, a1, a2, a3, a4, a5, a6⟩ := P0.cells
  obtain ⟨b0, b1, b2, b3, b4, b5, b6⟩ := P1.cells
  have HP1 : Hid (SevIn w.heap.size (.int .i64 10) (.string nm) (.string ot) (.int .i64 bo) (.int .i64 li) (.int .i64 n) (.slice va vn vc) w1) := P1
  unfold Rq.val
  clear hb0 hrow hv hrow0 hv0 hv1 hrow1 hb1 P0 P1
  go_enter Tryz.func26, Tryz.ntmps26
  go_wp2_with (go_at_call 49; refine (join_call [WD] _ _ _ s1 (by simp) (by simp) (by intro t ht; simp at ht; subst ht; exact hWs)).mono ?_; rintro e w9 ⟨rfl, hb9⟩)
  go_ret
  rw [HL.out]
  exact ⟨rfl, HB1.out.trans (hb9.mono HB1.out.size)⟩

set_option maxRecDepth 20000 in
set_option maxHeartbeats 2000000 in
theorem lineOf_3 (nm ot : ByteArray) (bo li n : Int) (cs : List (Int × Int)) (v : Value) (w : World) (hrow : CRow w 0 v cs) (hv : Vars w) (hh : In64 n ∧ (∀ c ∈ cs, In64 c.1 ∧ In64 c.2) ∧ nm.size ≤ 1000000000 ∧ ot.size ≤ 1000000000) :
    Calls Tryz.prog 26 #[Rq.val ⟨3, nm, ot, bo, li, n, cs⟩ v] w fun e w' => e = .returned (.string (lineF ⟨3, nm, ot, bo, li, n, cs⟩)) ∧ Below w.heap.size w w' := by
  have hn := hh.1
  have hcs := hh.2.1
  have hnm := hh.2.2.1
  have hot := hh.2.2.2
  have HL : Hid (lineF ⟨3, nm, ot, bo, li, n, cs⟩ = ⟨(Lib.join (([verbL.getD 3 ⟨#[]⟩, nm]).map (·.data.toList)) [32]).toArray⟩) := rfl
  obtain ⟨va, vn, vc, rfl⟩ := crow_slice hrow
  have hb0 : Below w.heap.size w (w.alloc (.cells #[.int .i64 3, .string nm, .string ot, .int .i64 bo, .int .i64 li, .int .i64 n, .slice va vn vc] 26)) := (Below.refl _ _).alloc (Nat.le_refl _) _
  have P0 := SevIn.born w (.int .i64 3) (.string nm) (.string ot) (.int .i64 bo) (.int .i64 li) (.int .i64 n) (.slice va vn vc)
  have hv0 := hv.below hb0
  have hrow0 := hrow.below hb0
  have hvb := hv0.verbs 3 (by omega)
  obtain ⟨i0, hi, hz0, hz1, hz2⟩ := info_parts Tryz.infoStr
  generalize hw0 : w.alloc (.cells #[.int .i64 3, .string nm, .string ot, .int .i64 bo, .int .i64 li, .int .i64 n, .slice va vn vc] 26) = w0 at *
  obtain ⟨WD, hWD⟩ : ∃ WD, WD = verbL.getD 3 ⟨#[]⟩ := ⟨_, rfl⟩
  have hWs : WD.size ≤ 1000000000 := by rw [hWD]; decide
  rw [← hWD] at hvb HL
  clear hWD
  have hb1 : Below w0.heap.size w0 (w0.alloc (.cells #[.string WD] 9)) := (Below.refl _ _).alloc (Nat.le_refl _) _
  have s1 := srow_one w0 WD
  have P1 := P0.go hb1
  have hv1 := hv0.below hb1
  have hrow1 := hrow0.below hb1
  have hs1 : w0.heap.size ≤ (w0.alloc (.cells #[.string WD] 9)).heap.size := hb1.size
  generalize hw1 : w0.alloc (.cells #[.string WD] 9) = w1 at *
  have HB0 : Hid (Below w.heap.size w w0) := hb0
  have HP0 : Hid (w.heap.size < w0.heap.size) := P0.lt
  have HB1 : Hid (Below w.heap.size w w1) := hb0.trans (hb1.mono hb0.size)
  have HV1 : Hid (Vars w1) := hv1
  have HC1 : Hid (CRow w1 0 (.slice va vn vc) cs) := hrow1
  obtain ⟨a0, a1, a2, a3, a4, a5, a6⟩ := P0.cells
  obtain ⟨b0, b1, b2, b3, b4, b5, b6⟩ := P1.cells
  have HP1 : Hid (SevIn w.heap.size (.int .i64 3) (.string nm) (.string ot) (.int .i64 bo) (.int .i64 li) (.int .i64 n) (.slice va vn vc) w1) := P1
  unfold Rq.val
  clear hb0 hrow hv hrow0 hv0 hv1 hrow1 hb1 P0 P1
  go_enter Tryz.func26, Tryz.ntmps26
  go_wp2_with (at_builtin; refine wpList_append_own _ rfl _ _ 41 rfl w0.heap.size 9 i0 (.string ByteArray.empty) 1 16 Tryz.underlying41 hi hz0 hz1 hz2 rfl (by decide) _ _ _ rfl (World.ownsRow.alloc s1 _) ⟨w1.heap.size, 0, none⟩ 1 1 [.string (nm)] rfl rfl ?c1 ?c2 ?c3 ?c4 ?c5 ?_)
  case c1 =>
    intro j u hj
    match j, hj with
    | 0, hj => simp at hj; subst hj; simp [Addr.add]
  case c2 => intro u hu; simp at hu; subst hu; rfl
  case c3 => unfold maxLen; simp
  case c4 => simp
  case c5 => have := hs1; simp; omega
  intro v4 w4 hown4 hgrow4 _
  have hr4 : SRow w4 w0.heap.size v4 [WD, nm] := hown4
  have hb4 : Below w.heap.size w w4 := (HB1.out.alloc HB1.out.size _).trans ((grown_below hgrow4 (World.ownsRow.alloc s1 _) (by have := hs1; simp; omega)).mono (Nat.le_of_lt HP0.out))
  clear hown4 hgrow4
  go_wp2_with (go_at_call 49; refine (join_call [WD, nm] _ _ _ hr4 (by simp) (by simp) (by intro t ht; simp at ht; rcases ht with rfl | rfl <;> assumption)).mono ?_; rintro e w9 ⟨rfl, hb9⟩)
  go_ret
  rw [HL.out]
  exact ⟨rfl, hb4.trans (hb9.mono hb4.size)⟩

set_option maxRecDepth 20000 in
set_option maxHeartbeats 2000000 in
theorem lineOf_5 (nm ot : ByteArray) (bo li n : Int) (cs : List (Int × Int)) (v : Value) (w : World) (hrow : CRow w 0 v cs) (hv : Vars w) (hh : In64 n ∧ (∀ c ∈ cs, In64 c.1 ∧ In64 c.2) ∧ nm.size ≤ 1000000000 ∧ ot.size ≤ 1000000000) :
    Calls Tryz.prog 26 #[Rq.val ⟨5, nm, ot, bo, li, n, cs⟩ v] w fun e w' => e = .returned (.string (lineF ⟨5, nm, ot, bo, li, n, cs⟩)) ∧ Below w.heap.size w w' := by
  have hn := hh.1
  have hcs := hh.2.1
  have hnm := hh.2.2.1
  have hot := hh.2.2.2
  have HL : Hid (lineF ⟨5, nm, ot, bo, li, n, cs⟩ = ⟨(Lib.join (([verbL.getD 5 ⟨#[]⟩, nm]).map (·.data.toList)) [32]).toArray⟩) := rfl
  obtain ⟨va, vn, vc, rfl⟩ := crow_slice hrow
  have hb0 : Below w.heap.size w (w.alloc (.cells #[.int .i64 5, .string nm, .string ot, .int .i64 bo, .int .i64 li, .int .i64 n, .slice va vn vc] 26)) := (Below.refl _ _).alloc (Nat.le_refl _) _
  have P0 := SevIn.born w (.int .i64 5) (.string nm) (.string ot) (.int .i64 bo) (.int .i64 li) (.int .i64 n) (.slice va vn vc)
  have hv0 := hv.below hb0
  have hrow0 := hrow.below hb0
  have hvb := hv0.verbs 5 (by omega)
  obtain ⟨i0, hi, hz0, hz1, hz2⟩ := info_parts Tryz.infoStr
  generalize hw0 : w.alloc (.cells #[.int .i64 5, .string nm, .string ot, .int .i64 bo, .int .i64 li, .int .i64 n, .slice va vn vc] 26) = w0 at *
  obtain ⟨WD, hWD⟩ : ∃ WD, WD = verbL.getD 5 ⟨#[]⟩ := ⟨_, rfl⟩
  have hWs : WD.size ≤ 1000000000 := by rw [hWD]; decide
  rw [← hWD] at hvb HL
  clear hWD
  have hb1 : Below w0.heap.size w0 (w0.alloc (.cells #[.string WD] 9)) := (Below.refl _ _).alloc (Nat.le_refl _) _
  have s1 := srow_one w0 WD
  have P1 := P0.go hb1
  have hv1 := hv0.below hb1
  have hrow1 := hrow0.below hb1
  have hs1 : w0.heap.size ≤ (w0.alloc (.cells #[.string WD] 9)).heap.size := hb1.size
  generalize hw1 : w0.alloc (.cells #[.string WD] 9) = w1 at *
  have HB0 : Hid (Below w.heap.size w w0) := hb0
  have HP0 : Hid (w.heap.size < w0.heap.size) := P0.lt
  have HB1 : Hid (Below w.heap.size w w1) := hb0.trans (hb1.mono hb0.size)
  have HV1 : Hid (Vars w1) := hv1
  have HC1 : Hid (CRow w1 0 (.slice va vn vc) cs) := hrow1
  obtain ⟨a0, a1, a2, a3, a4, a5, a6⟩ := P0.cells
  obtain ⟨b0, b1, b2, b3, b4, b5, b6⟩ := P1.cells
  have HP1 : Hid (SevIn w.heap.size (.int .i64 5) (.string nm) (.string ot) (.int .i64 bo) (.int .i64 li) (.int .i64 n) (.slice va vn vc) w1) := P1
  unfold Rq.val
  clear hb0 hrow hv hrow0 hv0 hv1 hrow1 hb1 P0 P1
  go_enter Tryz.func26, Tryz.ntmps26
  go_wp2_with (at_builtin; refine wpList_append_own _ rfl _ _ 41 rfl w0.heap.size 9 i0 (.string ByteArray.empty) 1 16 Tryz.underlying41 hi hz0 hz1 hz2 rfl (by decide) _ _ _ rfl (World.ownsRow.alloc s1 _) ⟨w1.heap.size, 0, none⟩ 1 1 [.string (nm)] rfl rfl ?c1 ?c2 ?c3 ?c4 ?c5 ?_)
  case c1 =>
    intro j u hj
    match j, hj with
    | 0, hj => simp at hj; subst hj; simp [Addr.add]
  case c2 => intro u hu; simp at hu; subst hu; rfl
  case c3 => unfold maxLen; simp
  case c4 => simp
  case c5 => have := hs1; simp; omega
  intro v4 w4 hown4 hgrow4 _
  have hr4 : SRow w4 w0.heap.size v4 [WD, nm] := hown4
  have hb4 : Below w.heap.size w w4 := (HB1.out.alloc HB1.out.size _).trans ((grown_below hgrow4 (World.ownsRow.alloc s1 _) (by have := hs1; simp; omega)).mono (Nat.le_of_lt HP0.out))
  clear hown4 hgrow4
  go_wp2_with (go_at_call 49; refine (join_call [WD, nm] _ _ _ hr4 (by simp) (by simp) (by intro t ht; simp at ht; rcases ht with rfl | rfl <;> assumption)).mono ?_; rintro e w9 ⟨rfl, hb9⟩)
  go_ret
  rw [HL.out]
  exact ⟨rfl, hb4.trans (hb9.mono hb4.size)⟩

set_option maxRecDepth 20000 in
set_option maxHeartbeats 2000000 in
theorem lineOf_6 (nm ot : ByteArray) (bo li n : Int) (cs : List (Int × Int)) (v : Value) (w : World) (hrow : CRow w 0 v cs) (hv : Vars w) (hh : In64 n ∧ (∀ c ∈ cs, In64 c.1 ∧ In64 c.2) ∧ nm.size ≤ 1000000000 ∧ ot.size ≤ 1000000000) :
    Calls Tryz.prog 26 #[Rq.val ⟨6, nm, ot, bo, li, n, cs⟩ v] w fun e w' => e = .returned (.string (lineF ⟨6, nm, ot, bo, li, n, cs⟩)) ∧ Below w.heap.size w w' := by
  have hn := hh.1
  have hcs := hh.2.1
  have hnm := hh.2.2.1
  have hot := hh.2.2.2
  have HL : Hid (lineF ⟨6, nm, ot, bo, li, n, cs⟩ = ⟨(Lib.join (([verbL.getD 6 ⟨#[]⟩, nm]).map (·.data.toList)) [32]).toArray⟩) := rfl
  obtain ⟨va, vn, vc, rfl⟩ := crow_slice hrow
  have hb0 : Below w.heap.size w (w.alloc (.cells #[.int .i64 6, .string nm, .string ot, .int .i64 bo, .int .i64 li, .int .i64 n, .slice va vn vc] 26)) := (Below.refl _ _).alloc (Nat.le_refl _) _
  have P0 := SevIn.born w (.int .i64 6) (.string nm) (.string ot) (.int .i64 bo) (.int .i64 li) (.int .i64 n) (.slice va vn vc)
  have hv0 := hv.below hb0
  have hrow0 := hrow.below hb0
  have hvb := hv0.verbs 6 (by omega)
  obtain ⟨i0, hi, hz0, hz1, hz2⟩ := info_parts Tryz.infoStr
  generalize hw0 : w.alloc (.cells #[.int .i64 6, .string nm, .string ot, .int .i64 bo, .int .i64 li, .int .i64 n, .slice va vn vc] 26) = w0 at *
  obtain ⟨WD, hWD⟩ : ∃ WD, WD = verbL.getD 6 ⟨#[]⟩ := ⟨_, rfl⟩
  have hWs : WD.size ≤ 1000000000 := by rw [hWD]; decide
  rw [← hWD] at hvb HL
  clear hWD
  have hb1 : Below w0.heap.size w0 (w0.alloc (.cells #[.string WD] 9)) := (Below.refl _ _).alloc (Nat.le_refl _) _
  have s1 := srow_one w0 WD
  have P1 := P0.go hb1
  have hv1 := hv0.below hb1
  have hrow1 := hrow0.below hb1
  have hs1 : w0.heap.size ≤ (w0.alloc (.cells #[.string WD] 9)).heap.size := hb1.size
  generalize hw1 : w0.alloc (.cells #[.string WD] 9) = w1 at *
  have HB0 : Hid (Below w.heap.size w w0) := hb0
  have HP0 : Hid (w.heap.size < w0.heap.size) := P0.lt
  have HB1 : Hid (Below w.heap.size w w1) := hb0.trans (hb1.mono hb0.size)
  have HV1 : Hid (Vars w1) := hv1
  have HC1 : Hid (CRow w1 0 (.slice va vn vc) cs) := hrow1
  obtain ⟨a0, a1, a2, a3, a4, a5, a6⟩ := P0.cells
  obtain ⟨b0, b1, b2, b3, b4, b5, b6⟩ := P1.cells
  have HP1 : Hid (SevIn w.heap.size (.int .i64 6) (.string nm) (.string ot) (.int .i64 bo) (.int .i64 li) (.int .i64 n) (.slice va vn vc) w1) := P1
  unfold Rq.val
  clear hb0 hrow hv hrow0 hv0 hv1 hrow1 hb1 P0 P1
  go_enter Tryz.func26, Tryz.ntmps26
  go_wp2_with (at_builtin; refine wpList_append_own _ rfl _ _ 41 rfl w0.heap.size 9 i0 (.string ByteArray.empty) 1 16 Tryz.underlying41 hi hz0 hz1 hz2 rfl (by decide) _ _ _ rfl (World.ownsRow.alloc s1 _) ⟨w1.heap.size, 0, none⟩ 1 1 [.string (nm)] rfl rfl ?c1 ?c2 ?c3 ?c4 ?c5 ?_)
  case c1 =>
    intro j u hj
    match j, hj with
    | 0, hj => simp at hj; subst hj; simp [Addr.add]
  case c2 => intro u hu; simp at hu; subst hu; rfl
  case c3 => unfold maxLen; simp
  case c4 => simp
  case c5 => have := hs1; simp; omega
  intro v4 w4 hown4 hgrow4 _
  have hr4 : SRow w4 w0.heap.size v4 [WD, nm] := hown4
  have hb4 : Below w.heap.size w w4 := (HB1.out.alloc HB1.out.size _).trans ((grown_below hgrow4 (World.ownsRow.alloc s1 _) (by have := hs1; simp; omega)).mono (Nat.le_of_lt HP0.out))
  clear hown4 hgrow4
  go_wp2_with (go_at_call 49; refine (join_call [WD, nm] _ _ _ hr4 (by simp) (by simp) (by intro t ht; simp at ht; rcases ht with rfl | rfl <;> assumption)).mono ?_; rintro e w9 ⟨rfl, hb9⟩)
  go_ret
  rw [HL.out]
  exact ⟨rfl, hb4.trans (hb9.mono hb4.size)⟩

set_option maxRecDepth 20000 in
set_option maxHeartbeats 2000000 in
theorem lineOf_7 (nm ot : ByteArray) (bo li n : Int) (cs : List (Int × Int)) (v : Value) (w : World) (hrow : CRow w 0 v cs) (hv : Vars w) (hh : In64 n ∧ (∀ c ∈ cs, In64 c.1 ∧ In64 c.2) ∧ nm.size ≤ 1000000000 ∧ ot.size ≤ 1000000000) :
    Calls Tryz.prog 26 #[Rq.val ⟨7, nm, ot, bo, li, n, cs⟩ v] w fun e w' => e = .returned (.string (lineF ⟨7, nm, ot, bo, li, n, cs⟩)) ∧ Below w.heap.size w w' := by
  have hn := hh.1
  have hcs := hh.2.1
  have hnm := hh.2.2.1
  have hot := hh.2.2.2
  have HL : Hid (lineF ⟨7, nm, ot, bo, li, n, cs⟩ = ⟨(Lib.join (([verbL.getD 7 ⟨#[]⟩, nm]).map (·.data.toList)) [32]).toArray⟩) := rfl
  obtain ⟨va, vn, vc, rfl⟩ := crow_slice hrow
  have hb0 : Below w.heap.size w (w.alloc (.cells #[.int .i64 7, .string nm, .string ot, .int .i64 bo, .int .i64 li, .int .i64 n, .slice va vn vc] 26)) := (Below.refl _ _).alloc (Nat.le_refl _) _
  have P0 := SevIn.born w (.int .i64 7) (.string nm) (.string ot) (.int .i64 bo) (.int .i64 li) (.int .i64 n) (.slice va vn vc)
  have hv0 := hv.below hb0
  have hrow0 := hrow.below hb0
  have hvb := hv0.verbs 7 (by omega)
  obtain ⟨i0, hi, hz0, hz1, hz2⟩ := info_parts Tryz.infoStr
  generalize hw0 : w.alloc (.cells #[.int .i64 7, .string nm, .string ot, .int .i64 bo, .int .i64 li, .int .i64 n, .slice va vn vc] 26) = w0 at *
  obtain ⟨WD, hWD⟩ : ∃ WD, WD = verbL.getD 7 ⟨#[]⟩ := ⟨_, rfl⟩
  have hWs : WD.size ≤ 1000000000 := by rw [hWD]; decide
  rw [← hWD] at hvb HL
  clear hWD
  have hb1 : Below w0.heap.size w0 (w0.alloc (.cells #[.string WD] 9)) := (Below.refl _ _).alloc (Nat.le_refl _) _
  have s1 := srow_one w0 WD
  have P1 := P0.go hb1
  have hv1 := hv0.below hb1
  have hrow1 := hrow0.below hb1
  have hs1 : w0.heap.size ≤ (w0.alloc (.cells #[.string WD] 9)).heap.size := hb1.size
  generalize hw1 : w0.alloc (.cells #[.string WD] 9) = w1 at *
  have HB0 : Hid (Below w.heap.size w w0) := hb0
  have HP0 : Hid (w.heap.size < w0.heap.size) := P0.lt
  have HB1 : Hid (Below w.heap.size w w1) := hb0.trans (hb1.mono hb0.size)
  have HV1 : Hid (Vars w1) := hv1
  have HC1 : Hid (CRow w1 0 (.slice va vn vc) cs) := hrow1
  obtain ⟨a0, a1, a2, a3, a4, a5, a6⟩ := P0.cells
  obtain ⟨b0, b1, b2, b3, b4, b5, b6⟩ := P1.cells
  have HP1 : Hid (SevIn w.heap.size (.int .i64 7) (.string nm) (.string ot) (.int .i64 bo) (.int .i64 li) (.int .i64 n) (.slice va vn vc) w1) := P1
  unfold Rq.val
  clear hb0 hrow hv hrow0 hv0 hv1 hrow1 hb1 P0 P1
  go_enter Tryz.func26, Tryz.ntmps26
  go_wp2_with (at_builtin; refine wpList_append_own _ rfl _ _ 41 rfl w0.heap.size 9 i0 (.string ByteArray.empty) 1 16 Tryz.underlying41 hi hz0 hz1 hz2 rfl (by decide) _ _ _ rfl (World.ownsRow.alloc s1 _) ⟨w1.heap.size, 0, none⟩ 1 1 [.string (nm)] rfl rfl ?c1 ?c2 ?c3 ?c4 ?c5 ?_)
  case c1 =>
    intro j u hj
    match j, hj with
    | 0, hj => simp at hj; subst hj; simp [Addr.add]
  case c2 => intro u hu; simp at hu; subst hu; rfl
  case c3 => unfold maxLen; simp
  case c4 => simp
  case c5 => have := hs1; simp; omega
  intro v4 w4 hown4 hgrow4 _
  have hr4 : SRow w4 w0.heap.size v4 [WD, nm] := hown4
  have hb4 : Below w.heap.size w w4 := (HB1.out.alloc HB1.out.size _).trans ((grown_below hgrow4 (World.ownsRow.alloc s1 _) (by have := hs1; simp; omega)).mono (Nat.le_of_lt HP0.out))
  clear hown4 hgrow4
  go_wp2_with (go_at_call 49; refine (join_call [WD, nm] _ _ _ hr4 (by simp) (by simp) (by intro t ht; simp at ht; rcases ht with rfl | rfl <;> assumption)).mono ?_; rintro e w9 ⟨rfl, hb9⟩)
  go_ret
  rw [HL.out]
  exact ⟨rfl, hb4.trans (hb9.mono hb4.size)⟩

set_option maxRecDepth 20000 in
set_option maxHeartbeats 2000000 in
theorem lineOf_1 (nm ot : ByteArray) (bo li n : Int) (cs : List (Int × Int)) (v : Value) (w : World) (hrow : CRow w 0 v cs) (hv : Vars w) (hh : In64 n ∧ (∀ c ∈ cs, In64 c.1 ∧ In64 c.2) ∧ nm.size ≤ 1000000000 ∧ ot.size ≤ 1000000000) :
    Calls Tryz.prog 26 #[Rq.val ⟨1, nm, ot, bo, li, n, cs⟩ v] w fun e w' => e = .returned (.string (lineF ⟨1, nm, ot, bo, li, n, cs⟩)) ∧ Below w.heap.size w w' := by
  have hn := hh.1
  have hcs := hh.2.1
  have hnm := hh.2.2.1
  have hot := hh.2.2.2
  have HL : Hid (lineF ⟨1, nm, ot, bo, li, n, cs⟩ = ⟨(Lib.join (([verbL.getD 1 ⟨#[]⟩, nm, ruleT bo li]).map (·.data.toList)) [32]).toArray⟩) := rfl
  obtain ⟨va, vn, vc, rfl⟩ := crow_slice hrow
  have hb0 : Below w.heap.size w (w.alloc (.cells #[.int .i64 1, .string nm, .string ot, .int .i64 bo, .int .i64 li, .int .i64 n, .slice va vn vc] 26)) := (Below.refl _ _).alloc (Nat.le_refl _) _
  have P0 := SevIn.born w (.int .i64 1) (.string nm) (.string ot) (.int .i64 bo) (.int .i64 li) (.int .i64 n) (.slice va vn vc)
  have hv0 := hv.below hb0
  have hrow0 := hrow.below hb0
  have hvb := hv0.verbs 1 (by omega)
  obtain ⟨i0, hi, hz0, hz1, hz2⟩ := info_parts Tryz.infoStr
  generalize hw0 : w.alloc (.cells #[.int .i64 1, .string nm, .string ot, .int .i64 bo, .int .i64 li, .int .i64 n, .slice va vn vc] 26) = w0 at *
  obtain ⟨WD, hWD⟩ : ∃ WD, WD = verbL.getD 1 ⟨#[]⟩ := ⟨_, rfl⟩
  have hWs : WD.size ≤ 1000000000 := by rw [hWD]; decide
  rw [← hWD] at hvb HL
  clear hWD
  have hb1 : Below w0.heap.size w0 (w0.alloc (.cells #[.string WD] 9)) := (Below.refl _ _).alloc (Nat.le_refl _) _
  have s1 := srow_one w0 WD
  have P1 := P0.go hb1
  have hv1 := hv0.below hb1
  have hrow1 := hrow0.below hb1
  have hs1 : w0.heap.size ≤ (w0.alloc (.cells #[.string WD] 9)).heap.size := hb1.size
  generalize hw1 : w0.alloc (.cells #[.string WD] 9) = w1 at *
  have HB0 : Hid (Below w.heap.size w w0) := hb0
  have HP0 : Hid (w.heap.size < w0.heap.size) := P0.lt
  have HB1 : Hid (Below w.heap.size w w1) := hb0.trans (hb1.mono hb0.size)
  have HV1 : Hid (Vars w1) := hv1
  have HC1 : Hid (CRow w1 0 (.slice va vn vc) cs) := hrow1
  obtain ⟨a0, a1, a2, a3, a4, a5, a6⟩ := P0.cells
  obtain ⟨b0, b1, b2, b3, b4, b5, b6⟩ := P1.cells
  have HP1 : Hid (SevIn w.heap.size (.int .i64 1) (.string nm) (.string ot) (.int .i64 bo) (.int .i64 li) (.int .i64 n) (.slice va vn vc) w1) := P1
  unfold Rq.val
  clear hb0 hrow hv hrow0 hv0 hv1 hrow1 hb1 P0 P1
  go_enter Tryz.func26, Tryz.ntmps26
  have ct := text_any bo li w1
  rw [textV_eq] at ct
  have hrs : (ruleT bo li).size ≤ 1000000000 := by have := ruleT_size bo li; omega
  generalize ruleT bo li = RT at *
  generalize (if goodB bo li = true then (0 : Int) else 3) = te at *
  go_wp2_with fail
  refine ct.mono ?_
  rintro e w2 ⟨rfl, hb2⟩
  have s2 := SRow.below s1 hb2
  obtain ⟨d0, d1, d2, d3, d4, d5, d6⟩ := (HP1.out.go hb2).cells
  have hs2 : w0.heap.size ≤ w2.heap.size := Nat.le_trans hs1 hb2.size
  have HB2 : Hid (Below w.heap.size w w2) := HB1.out.trans (hb2.mono HB1.out.size)
  clear ct hb2 a0 a1 a2 a3 a4 a5 a6 b0 b1 b2 b3 b4 b5 b6 hw1
  go_wp2_with (at_builtin; refine wpList_append_own _ rfl _ _ 41 rfl w0.heap.size 9 i0 (.string ByteArray.empty) 1 16 Tryz.underlying41 hi hz0 hz1 hz2 rfl (by decide) _ _ _ rfl (World.ownsRow.alloc s2 _) ⟨w2.heap.size, 0, none⟩ 2 2 [.string (nm), .string (RT)] rfl rfl ?c1 ?c2 ?c3 ?c4 ?c5 ?_)
  case c1 =>
    intro j u hj
    match j, hj with
    | 0, hj => simp at hj; subst hj; simp [Addr.add]
    | 1, hj => simp at hj; subst hj; simp [Addr.add]
  case c2 => intro u hu; simp at hu; rcases hu with rfl | rfl <;> rfl
  case c3 => unfold maxLen; simp
  case c4 => simp
  case c5 => have := hs2; simp; omega
  intro v4 w4 hown4 hgrow4 _
  have hr4 : SRow w4 w0.heap.size v4 [WD, nm, RT] := hown4
  have hb4 : Below w.heap.size w w4 := (HB2.out.alloc HB2.out.size _).trans ((grown_below hgrow4 (World.ownsRow.alloc s2 _) (by have := hs2; simp; omega)).mono (Nat.le_of_lt HP0.out))
  clear hown4 hgrow4
  go_wp2_with (go_at_call 49; refine (join_call [WD, nm, RT] _ _ _ hr4 (by simp) (by simp) (by intro t ht; simp at ht; rcases ht with rfl | rfl | rfl <;> assumption)).mono ?_; rintro e w9 ⟨rfl, hb9⟩)
  go_ret
  rw [HL.out]
  exact ⟨rfl, hb4.trans (hb9.mono hb4.size)⟩

set_option maxRecDepth 20000 in
set_option maxHeartbeats 2000000 in
theorem lineOf_8 (nm ot : ByteArray) (bo li n : Int) (cs : List (Int × Int)) (v : Value) (w : World) (hrow : CRow w 0 v cs) (hv : Vars w) (hh : In64 n ∧ (∀ c ∈ cs, In64 c.1 ∧ In64 c.2) ∧ nm.size ≤ 1000000000 ∧ ot.size ≤ 1000000000) :
    Calls Tryz.prog 26 #[Rq.val ⟨8, nm, ot, bo, li, n, cs⟩ v] w fun e w' => e = .returned (.string (lineF ⟨8, nm, ot, bo, li, n, cs⟩)) ∧ Below w.heap.size w w' := by
  have hn := hh.1
  have hcs := hh.2.1
  have hnm := hh.2.2.1
  have hot := hh.2.2.2
  have HL : Hid (lineF ⟨8, nm, ot, bo, li, n, cs⟩ = ⟨(Lib.join (([verbL.getD 8 ⟨#[]⟩, nm, ot]).map (·.data.toList)) [32]).toArray⟩) := rfl
  obtain ⟨va, vn, vc, rfl⟩ := crow_slice hrow
  have hb0 : Below w.heap.size w (w.alloc (.cells #[.int .i64 8, .string nm, .string ot, .int .i64 bo, .int .i64 li, .int .i64 n, .slice va vn vc] 26)) := (Below.refl _ _).alloc (Nat.le_refl _) _
  have P0 := SevIn.born w (.int .i64 8) (.string nm) (.string ot) (.int .i64 bo) (.int .i64 li) (.int .i64 n) (.slice va vn vc)
  have hv0 := hv.below hb0
  have hrow0 := hrow.below hb0
  have hvb := hv0.verbs 8 (by omega)
  obtain ⟨i0, hi, hz0, hz1, hz2⟩ := info_parts Tryz.infoStr
  generalize hw0 : w.alloc (.cells #[.int .i64 8, .string nm, .string ot, .int .i64 bo, .int .i64 li, .int .i64 n, .slice va vn vc] 26) = w0 at *
  obtain ⟨WD, hWD⟩ : ∃ WD, WD = verbL.getD 8 ⟨#[]⟩ := ⟨_, rfl⟩
  have hWs : WD.size ≤ 1000000000 := by rw [hWD]; decide
  rw [← hWD] at hvb HL
  clear hWD
  have hb1 : Below w0.heap.size w0 (w0.alloc (.cells #[.string WD] 9)) := (Below.refl _ _).alloc (Nat.le_refl _) _
  have s1 := srow_one w0 WD
  have P1 := P0.go hb1
  have hv1 := hv0.below hb1
  have hrow1 := hrow0.below hb1
  have hs1 : w0.heap.size ≤ (w0.alloc (.cells #[.string WD] 9)).heap.size := hb1.size
  generalize hw1 : w0.alloc (.cells #[.string WD] 9) = w1 at *
  have HB0 : Hid (Below w.heap.size w w0) := hb0
  have HP0 : Hid (w.heap.size < w0.heap.size) := P0.lt
  have HB1 : Hid (Below w.heap.size w w1) := hb0.trans (hb1.mono hb0.size)
  have HV1 : Hid (Vars w1) := hv1
  have HC1 : Hid (CRow w1 0 (.slice va vn vc) cs) := hrow1
  obtain ⟨a0, a1, a2, a3, a4, a5, a6⟩ := P0.cells
  obtain ⟨b0, b1, b2, b3, b4, b5, b6⟩ := P1.cells
  have HP1 : Hid (SevIn w.heap.size (.int .i64 8) (.string nm) (.string ot) (.int .i64 bo) (.int .i64 li) (.int .i64 n) (.slice va vn vc) w1) := P1
  unfold Rq.val
  clear hb0 hrow hv hrow0 hv0 hv1 hrow1 hb1 P0 P1
  go_enter Tryz.func26, Tryz.ntmps26
  go_wp2_with (at_builtin; refine wpList_append_own _ rfl _ _ 41 rfl w0.heap.size 9 i0 (.string ByteArray.empty) 1 16 Tryz.underlying41 hi hz0 hz1 hz2 rfl (by decide) _ _ _ rfl (World.ownsRow.alloc s1 _) ⟨w1.heap.size, 0, none⟩ 2 2 [.string (nm), .string (ot)] rfl rfl ?c1 ?c2 ?c3 ?c4 ?c5 ?_)
  case c1 =>
    intro j u hj
    match j, hj with
    | 0, hj => simp at hj; subst hj; simp [Addr.add]
    | 1, hj => simp at hj; subst hj; simp [Addr.add]
  case c2 => intro u hu; simp at hu; rcases hu with rfl | rfl <;> rfl
  case c3 => unfold maxLen; simp
  case c4 => simp
  case c5 => have := hs1; simp; omega
  intro v4 w4 hown4 hgrow4 _
  have hr4 : SRow w4 w0.heap.size v4 [WD, nm, ot] := hown4
  have hb4 : Below w.heap.size w w4 := (HB1.out.alloc HB1.out.size _).trans ((grown_below hgrow4 (World.ownsRow.alloc s1 _) (by have := hs1; simp; omega)).mono (Nat.le_of_lt HP0.out))
  clear hown4 hgrow4
  go_wp2_with (go_at_call 49; refine (join_call [WD, nm, ot] _ _ _ hr4 (by simp) (by simp) (by intro t ht; simp at ht; rcases ht with rfl | rfl | rfl <;> assumption)).mono ?_; rintro e w9 ⟨rfl, hb9⟩)
  go_ret
  rw [HL.out]
  exact ⟨rfl, hb4.trans (hb9.mono hb4.size)⟩

set_option maxRecDepth 20000 in
set_option maxHeartbeats 2000000 in
theorem lineOf_4 (nm ot : ByteArray) (bo li n : Int) (cs : List (Int × Int)) (v : Value) (w : World) (hrow : CRow w 0 v cs) (hv : Vars w) (hh : In64 n ∧ (∀ c ∈ cs, In64 c.1 ∧ In64 c.2) ∧ nm.size ≤ 1000000000 ∧ ot.size ≤ 1000000000) :
    Calls Tryz.prog 26 #[Rq.val ⟨4, nm, ot, bo, li, n, cs⟩ v] w fun e w' => e = .returned (.string (lineF ⟨4, nm, ot, bo, li, n, cs⟩)) ∧ Below w.heap.size w w' := by
  have hn := hh.1
  have hcs := hh.2.1
  have hnm := hh.2.2.1
  have hot := hh.2.2.2
  have HL : Hid (lineF ⟨4, nm, ot, bo, li, n, cs⟩ = ⟨(Lib.join (([verbL.getD 4 ⟨#[]⟩, nm, ⟨(Lib.itoa n).toArray⟩]).map (·.data.toList)) [32]).toArray⟩) := rfl
  obtain ⟨va, vn, vc, rfl⟩ := crow_slice hrow
  have hb0 : Below w.heap.size w (w.alloc (.cells #[.int .i64 4, .string nm, .string ot, .int .i64 bo, .int .i64 li, .int .i64 n, .slice va vn vc] 26)) := (Below.refl _ _).alloc (Nat.le_refl _) _
  have P0 := SevIn.born w (.int .i64 4) (.string nm) (.string ot) (.int .i64 bo) (.int .i64 li) (.int .i64 n) (.slice va vn vc)
  have hroom := hv.room
  have hv0 := hv.below hb0
  have hrow0 := hrow.below hb0
  have hvb := hv0.verbs 4 (by omega)
  obtain ⟨i0, hi, hz0, hz1, hz2⟩ := info_parts Tryz.infoStr
  generalize hw0 : w.alloc (.cells #[.int .i64 4, .string nm, .string ot, .int .i64 bo, .int .i64 li, .int .i64 n, .slice va vn vc] 26) = w0 at *
  obtain ⟨WD, hWD⟩ : ∃ WD, WD = verbL.getD 4 ⟨#[]⟩ := ⟨_, rfl⟩
  have hWs : WD.size ≤ 1000000000 := by rw [hWD]; decide
  rw [← hWD] at hvb HL
  clear hWD
  have hb1 : Below w0.heap.size w0 (w0.alloc (.cells #[.string WD] 9)) := (Below.refl _ _).alloc (Nat.le_refl _) _
  have s1 := srow_one w0 WD
  have P1 := P0.go hb1
  have hv1 := hv0.below hb1
  have hrow1 := hrow0.below hb1
  have hs1 : w0.heap.size ≤ (w0.alloc (.cells #[.string WD] 9)).heap.size := hb1.size
  generalize hw1 : w0.alloc (.cells #[.string WD] 9) = w1 at *
  have HB0 : Hid (Below w.heap.size w w0) := hb0
  have HP0 : Hid (w.heap.size < w0.heap.size) := P0.lt
  have HB1 : Hid (Below w.heap.size w w1) := hb0.trans (hb1.mono hb0.size)
  have HV1 : Hid (Vars w1) := hv1
  have HC1 : Hid (CRow w1 0 (.slice va vn vc) cs) := hrow1
  obtain ⟨a0, a1, a2, a3, a4, a5, a6⟩ := P0.cells
  obtain ⟨b0, b1, b2, b3, b4, b5, b6⟩ := P1.cells
  have HP1 : Hid (SevIn w.heap.size (.int .i64 4) (.string nm) (.string ot) (.int .i64 bo) (.int .i64 li) (.int .i64 n) (.slice va vn vc) w1) := P1
  unfold Rq.val
  clear hb0 hrow hv hrow0 hv0 hv1 hrow1 hb1 P0 P1
  go_enter Tryz.func26, Tryz.ntmps26
  obtain ⟨hn0, hn1⟩ := hn
  have lx : (⟨(Lib.itoa n).toArray⟩ : ByteArray).size ≤ 1000000000 := by rw [ba_size]; have := Lib.itoa_length_le n hn0 hn1; omega
  have cx : ∀ W, (W.cell? ⟨w.heap.size, 1, none⟩ = some (.string nm) ∧ W.cell? ⟨w.heap.size, 5, none⟩ = some (.int .i64 n) ∧ w.heap.size < W.heap.size ∧ Vars W) → Calls Tryz.prog 48 #[.int .i64 n] W fun e w' => e = .returned (.string ⟨(Lib.itoa n).toArray⟩) ∧ Below W.heap.size W w' := fun W h => itoa_any n W hn0 hn1 h.2.2.2
  generalize (⟨(Lib.itoa n).toArray⟩ : ByteArray) = bx at *
  have h0 : w1.drew.cell? ⟨w.heap.size, 1, none⟩ = some (.string nm) ∧ w1.drew.cell? ⟨w.heap.size, 5, none⟩ = some (.int .i64 n) ∧ w.heap.size < w1.drew.heap.size ∧ Vars w1.drew := ⟨b1, b5, Nat.lt_of_lt_of_le HP0.out hs1, HV1.out.drew⟩
  have kp : ∀ W W', (W.cell? ⟨w.heap.size, 1, none⟩ = some (.string nm) ∧ W.cell? ⟨w.heap.size, 5, none⟩ = some (.int .i64 n) ∧ w.heap.size < W.heap.size ∧ Vars W) → Below W.heap.size W W' → (W'.cell? ⟨w.heap.size, 1, none⟩ = some (.string nm) ∧ W'.cell? ⟨w.heap.size, 5, none⟩ = some (.int .i64 n) ∧ w.heap.size < W'.heap.size ∧ Vars W') := fun W W' h hb => ⟨(hb.cell (p := ⟨w.heap.size, 1, none⟩) h.2.2.1).trans h.1, (hb.cell (p := ⟨w.heap.size, 5, none⟩) h.2.2.1).trans h.2.1, Nat.lt_of_lt_of_le h.2.2.1 hb.size, h.2.2.2.below hb⟩
  have kg : ∀ W W', (W.cell? ⟨w.heap.size, 1, none⟩ = some (.string nm) ∧ W.cell? ⟨w.heap.size, 5, none⟩ = some (.int .i64 n) ∧ w.heap.size < W.heap.size ∧ Vars W) → W.grownBy W' (Value.slice (some ⟨w0.heap.size, 0, none⟩) 1 1).ownBlock → (W'.cell? ⟨w.heap.size, 1, none⟩ = some (.string nm) ∧ W'.cell? ⟨w.heap.size, 5, none⟩ = some (.int .i64 n) ∧ w.heap.size < W'.heap.size ∧ Vars W') := fun W W' h hg => by
    have hbl : W'.heap[w.heap.size]? = W.heap[w.heap.size]? := hg.block _ h.2.2.1 (fun e => by simp only [Value.ownBlock, Option.some.injEq] at e; have := HP0.out; omega)
    have hrm := h.2.2.2.room
    have hw0r : 11 ≤ w.heap.size := hroom
    exact ⟨(cell_heap (a := ⟨w.heap.size, 1, none⟩) hbl).trans h.1, (cell_heap (a := ⟨w.heap.size, 5, none⟩) hbl).trans h.2.1, Nat.lt_of_lt_of_le h.2.2.1 hg.size, h.2.2.2.keep (fun q hq => hg.block q (by omega) (fun e => by simp only [Value.ownBlock, Option.some.injEq] at e; have := HP0.out; omega)) hg.size⟩
  have s1d : SRow w1.drew w0.heap.size (.slice (some ⟨w0.heap.size, 0, none⟩) 1 1) [WD] := s1
  go_wp2_with fail
  go_region_held3 (fun W => W.cell? ⟨w.heap.size, 1, none⟩ = some (.string nm) ∧ W.cell? ⟨w.heap.size, 5, none⟩ = some (.int .i64 n) ∧ w.heap.size < W.heap.size ∧ Vars W) (first | exact h0 | exact kp _ _ (by assumption) hb2 | exact kp _ _ (by assumption) ((Below.refl _ _).alloc (Nat.le_refl _) _) | exact kg _ _ (by assumption) hgrow4)
    (first | (go_at_call_of 48 n; refine (cx _ (by first | assumption | exact h0)).mono ?_; rintro e w2 ⟨rfl, hb2⟩) | (refine step_append_own _ (by rfl) _ _ 41 (by rfl) w0.heap.size 9 i0 (.string ByteArray.empty) 1 16 Tryz.underlying41 hi hz0 hz1 hz2 rfl (by decide) (.slice (some ⟨w0.heap.size, 0, none⟩) 1 1) 1 [.string WD] (by rfl) (World.ownsRow.alloc (SRow.below s1d hb2) _) ⟨w2.heap.size, 0, none⟩ 2 2 [.string nm, .string bx] (by rfl) rfl (by intro q u hq; match q, hq with | 0, hq => simp at hq; subst hq; simp [Addr.add] | 1, hq => simp at hq; subst hq; simp [Addr.add]) (by intro u hu; simp at hu; rcases hu with rfl | rfl <;> rfl) (by unfold maxLen; omega) (by omega) (by have h1 := hb2.size; have h2 := hs1; simp at h1 ⊢; omega) ?_; intro v4 w4 hown4 hgrow4 hnil4))
  have hr4 : SRow w4 w0.heap.size v4 [WD, nm, bx] := hown4
  have HB2 : Hid (Below w.heap.size w w2) := HB1.out.drew.trans (hb2.mono HB1.out.size)
  have hb4 : Below w.heap.size w w4 := (HB2.out.alloc HB2.out.size _).trans ((grown_below hgrow4 (World.ownsRow.alloc (SRow.below s1d hb2) _) (by have h1 := hb2.size; have h2 := hs1; simp at h1 ⊢; omega)).mono (Nat.le_of_lt HP0.out))
  clear hown4 hgrow4 hnil4 hb2 cx kp kg h0
  go_wp2_with (go_at_call 49; refine (join_call [WD, nm, bx] _ _ _ hr4 (by simp) (by simp) (by intro t ht; simp at ht; rcases ht with rfl | rfl | rfl <;> assumption)).mono ?_; rintro e w9 ⟨rfl, hb9⟩)
  go_ret
  rw [HL.out]
  exact ⟨rfl, hb4.trans (hb9.mono hb4.size)⟩

set_option maxRecDepth 20000 in
set_option maxHeartbeats 2000000 in
theorem lineOf_9 (nm ot : ByteArray) (bo li n : Int) (cs : List (Int × Int)) (v : Value) (w : World) (hrow : CRow w 0 v cs) (hv : Vars w) (hh : In64 n ∧ (∀ c ∈ cs, In64 c.1 ∧ In64 c.2) ∧ nm.size ≤ 1000000000 ∧ ot.size ≤ 1000000000) :
    Calls Tryz.prog 26 #[Rq.val ⟨9, nm, ot, bo, li, n, cs⟩ v] w fun e w' => e = .returned (.string (lineF ⟨9, nm, ot, bo, li, n, cs⟩)) ∧ Below w.heap.size w w' := by
  have hn := hh.1
  have hcs := hh.2.1
  have hnm := hh.2.2.1
  have hot := hh.2.2.2
  have HL : Hid (lineF ⟨9, nm, ot, bo, li, n, cs⟩ = ⟨(Lib.join (([verbL.getD 9 ⟨#[]⟩, nm, ⟨(Lib.itoa n).toArray⟩]).map (·.data.toList)) [32]).toArray⟩) := rfl
  obtain ⟨va, vn, vc, rfl⟩ := crow_slice hrow
  have hb0 : Below w.heap.size w (w.alloc (.cells #[.int .i64 9, .string nm, .string ot, .int .i64 bo, .int .i64 li, .int .i64 n, .slice va vn vc] 26)) := (Below.refl _ _).alloc (Nat.le_refl _) _
  have P0 := SevIn.born w (.int .i64 9) (.string nm) (.string ot) (.int .i64 bo) (.int .i64 li) (.int .i64 n) (.slice va vn vc)
  have hroom := hv.room
  have hv0 := hv.below hb0
  have hrow0 := hrow.below hb0
  have hvb := hv0.verbs 9 (by omega)
  obtain ⟨i0, hi, hz0, hz1, hz2⟩ := info_parts Tryz.infoStr
  generalize hw0 : w.alloc (.cells #[.int .i64 9, .string nm, .string ot, .int .i64 bo, .int .i64 li, .int .i64 n, .slice va vn vc] 26) = w0 at *
  obtain ⟨WD, hWD⟩ : ∃ WD, WD = verbL.getD 9 ⟨#[]⟩ := ⟨_, rfl⟩
  have hWs : WD.size ≤ 1000000000 := by rw [hWD]; decide
  rw [← hWD] at hvb HL
  clear hWD
  have hb1 : Below w0.heap.size w0 (w0.alloc (.cells #[.string WD] 9)) := (Below.refl _ _).alloc (Nat.le_refl _) _
  have s1 := srow_one w0 WD
  have P1 := P0.go hb1
  have hv1 := hv0.below hb1
  have hrow1 := hrow0.below hb1
  have hs1 : w0.heap.size ≤ (w0.alloc (.cells #[.string WD] 9)).heap.size := hb1.size
  generalize hw1 : w0.alloc (.cells #[.string WD] 9) = w1 at *
  have HB0 : Hid (Below w.heap.size w w0) := hb0
  have HP0 : Hid (w.heap.size < w0.heap.size) := P0.lt
  have HB1 : Hid (Below w.heap.size w w1) := hb0.trans (hb1.mono hb0.size)
  have HV1 : Hid (Vars w1) := hv1
  have HC1 : Hid (CRow w1 0 (.slice va vn vc) cs) := hrow1
  obtain ⟨a0, a1, a2, a3, a4, a5, a6⟩ := P0.cells
  obtain ⟨b0, b1, b2, b3, b4, b5, b6⟩ := P1.cells
  have HP1 : Hid (SevIn w.heap.size (.int .i64 9) (.string nm) (.string ot) (.int .i64 bo) (.int .i64 li) (.int .i64 n) (.slice va vn vc) w1) := P1
  unfold Rq.val
  clear hb0 hrow hv hrow0 hv0 hv1 hrow1 hb1 P0 P1
  go_enter Tryz.func26, Tryz.ntmps26
  obtain ⟨hn0, hn1⟩ := hn
  have lx : (⟨(Lib.itoa n).toArray⟩ : ByteArray).size ≤ 1000000000 := by rw [ba_size]; have := Lib.itoa_length_le n hn0 hn1; omega
  have cx : ∀ W, (W.cell? ⟨w.heap.size, 1, none⟩ = some (.string nm) ∧ W.cell? ⟨w.heap.size, 5, none⟩ = some (.int .i64 n) ∧ w.heap.size < W.heap.size ∧ Vars W) → Calls Tryz.prog 48 #[.int .i64 n] W fun e w' => e = .returned (.string ⟨(Lib.itoa n).toArray⟩) ∧ Below W.heap.size W w' := fun W h => itoa_any n W hn0 hn1 h.2.2.2
  generalize (⟨(Lib.itoa n).toArray⟩ : ByteArray) = bx at *
  have h0 : w1.drew.cell? ⟨w.heap.size, 1, none⟩ = some (.string nm) ∧ w1.drew.cell? ⟨w.heap.size, 5, none⟩ = some (.int .i64 n) ∧ w.heap.size < w1.drew.heap.size ∧ Vars w1.drew := ⟨b1, b5, Nat.lt_of_lt_of_le HP0.out hs1, HV1.out.drew⟩
  have kp : ∀ W W', (W.cell? ⟨w.heap.size, 1, none⟩ = some (.string nm) ∧ W.cell? ⟨w.heap.size, 5, none⟩ = some (.int .i64 n) ∧ w.heap.size < W.heap.size ∧ Vars W) → Below W.heap.size W W' → (W'.cell? ⟨w.heap.size, 1, none⟩ = some (.string nm) ∧ W'.cell? ⟨w.heap.size, 5, none⟩ = some (.int .i64 n) ∧ w.heap.size < W'.heap.size ∧ Vars W') := fun W W' h hb => ⟨(hb.cell (p := ⟨w.heap.size, 1, none⟩) h.2.2.1).trans h.1, (hb.cell (p := ⟨w.heap.size, 5, none⟩) h.2.2.1).trans h.2.1, Nat.lt_of_lt_of_le h.2.2.1 hb.size, h.2.2.2.below hb⟩
  have kg : ∀ W W', (W.cell? ⟨w.heap.size, 1, none⟩ = some (.string nm) ∧ W.cell? ⟨w.heap.size, 5, none⟩ = some (.int .i64 n) ∧ w.heap.size < W.heap.size ∧ Vars W) → W.grownBy W' (Value.slice (some ⟨w0.heap.size, 0, none⟩) 1 1).ownBlock → (W'.cell? ⟨w.heap.size, 1, none⟩ = some (.string nm) ∧ W'.cell? ⟨w.heap.size, 5, none⟩ = some (.int .i64 n) ∧ w.heap.size < W'.heap.size ∧ Vars W') := fun W W' h hg => by
    have hbl : W'.heap[w.heap.size]? = W.heap[w.heap.size]? := hg.block _ h.2.2.1 (fun e => by simp only [Value.ownBlock, Option.some.injEq] at e; have := HP0.out; omega)
    have hrm := h.2.2.2.room
    have hw0r : 11 ≤ w.heap.size := hroom
    exact ⟨(cell_heap (a := ⟨w.heap.size, 1, none⟩) hbl).trans h.1, (cell_heap (a := ⟨w.heap.size, 5, none⟩) hbl).trans h.2.1, Nat.lt_of_lt_of_le h.2.2.1 hg.size, h.2.2.2.keep (fun q hq => hg.block q (by omega) (fun e => by simp only [Value.ownBlock, Option.some.injEq] at e; have := HP0.out; omega)) hg.size⟩
  have s1d : SRow w1.drew w0.heap.size (.slice (some ⟨w0.heap.size, 0, none⟩) 1 1) [WD] := s1
  go_wp2_with fail
  go_region_held3 (fun W => W.cell? ⟨w.heap.size, 1, none⟩ = some (.string nm) ∧ W.cell? ⟨w.heap.size, 5, none⟩ = some (.int .i64 n) ∧ w.heap.size < W.heap.size ∧ Vars W) (first | exact h0 | exact kp _ _ (by assumption) hb2 | exact kp _ _ (by assumption) ((Below.refl _ _).alloc (Nat.le_refl _) _) | exact kg _ _ (by assumption) hgrow4)
    (first | (go_at_call_of 48 n; refine (cx _ (by first | assumption | exact h0)).mono ?_; rintro e w2 ⟨rfl, hb2⟩) | (refine step_append_own _ (by rfl) _ _ 41 (by rfl) w0.heap.size 9 i0 (.string ByteArray.empty) 1 16 Tryz.underlying41 hi hz0 hz1 hz2 rfl (by decide) (.slice (some ⟨w0.heap.size, 0, none⟩) 1 1) 1 [.string WD] (by rfl) (World.ownsRow.alloc (SRow.below s1d hb2) _) ⟨w2.heap.size, 0, none⟩ 2 2 [.string nm, .string bx] (by rfl) rfl (by intro q u hq; match q, hq with | 0, hq => simp at hq; subst hq; simp [Addr.add] | 1, hq => simp at hq; subst hq; simp [Addr.add]) (by intro u hu; simp at hu; rcases hu with rfl | rfl <;> rfl) (by unfold maxLen; omega) (by omega) (by have h1 := hb2.size; have h2 := hs1; simp at h1 ⊢; omega) ?_; intro v4 w4 hown4 hgrow4 hnil4))
  have hr4 : SRow w4 w0.heap.size v4 [WD, nm, bx] := hown4
  have HB2 : Hid (Below w.heap.size w w2) := HB1.out.drew.trans (hb2.mono HB1.out.size)
  have hb4 : Below w.heap.size w w4 := (HB2.out.alloc HB2.out.size _).trans ((grown_below hgrow4 (World.ownsRow.alloc (SRow.below s1d hb2) _) (by have h1 := hb2.size; have h2 := hs1; simp at h1 ⊢; omega)).mono (Nat.le_of_lt HP0.out))
  clear hown4 hgrow4 hnil4 hb2 cx kp kg h0
  go_wp2_with (go_at_call 49; refine (join_call [WD, nm, bx] _ _ _ hr4 (by simp) (by simp) (by intro t ht; simp at ht; rcases ht with rfl | rfl | rfl <;> assumption)).mono ?_; rintro e w9 ⟨rfl, hb9⟩)
  go_ret
  rw [HL.out]
  exact ⟨rfl, hb4.trans (hb9.mono hb4.size)⟩

set_option maxRecDepth 20000 in
set_option maxHeartbeats 2000000 in
theorem lineOf_2 (nm ot : ByteArray) (bo li n : Int) (cs : List (Int × Int)) (v : Value) (w : World) (hrow : CRow w 0 v cs) (hv : Vars w) (hh : In64 n ∧ (∀ c ∈ cs, In64 c.1 ∧ In64 c.2) ∧ nm.size ≤ 1000000000 ∧ ot.size ≤ 1000000000) :
    Calls Tryz.prog 26 #[Rq.val ⟨2, nm, ot, bo, li, n, cs⟩ v] w fun e w' => e = .returned (.string (lineF ⟨2, nm, ot, bo, li, n, cs⟩)) ∧ Below w.heap.size w w' := by
  have hn := hh.1
  have hcs := hh.2.1
  have hnm := hh.2.2.1
  have hot := hh.2.2.2
  have HL : Hid (lineF ⟨2, nm, ot, bo, li, n, cs⟩ = ⟨(Lib.join ((verbL.getD 2 ⟨#[]⟩ :: nm :: (cs.take 6000).map cellW).map (·.data.toList)) [32]).toArray⟩) := rfl
  obtain ⟨va, vn, vc, rfl⟩ := crow_slice hrow
  have hroom := hv.room
  have hb0 : Below w.heap.size w (w.alloc (.cells #[.int .i64 2, .string nm, .string ot, .int .i64 bo, .int .i64 li, .int .i64 n, .slice va vn vc] 26)) := (Below.refl _ _).alloc (Nat.le_refl _) _
  have P0 := SevIn.born w (.int .i64 2) (.string nm) (.string ot) (.int .i64 bo) (.int .i64 li) (.int .i64 n) (.slice va vn vc)
  have hv0 := hv.below hb0
  have hrow0 := hrow.below hb0
  have hvb := hv0.verbs 2 (by omega)
  obtain ⟨i0, hi, hz0, hz1, hz2⟩ := info_parts Tryz.infoStr
  generalize hw0 : w.alloc (.cells #[.int .i64 2, .string nm, .string ot, .int .i64 bo, .int .i64 li, .int .i64 n, .slice va vn vc] 26) = w0 at *
  obtain ⟨WD, hWD⟩ : ∃ WD, WD = verbL.getD 2 ⟨#[]⟩ := ⟨_, rfl⟩
  have hWs : WD.size ≤ 1000000000 := by rw [hWD]; decide
  rw [← hWD] at hvb HL
  clear hWD
  have hb1 : Below w0.heap.size w0 (w0.alloc (.cells #[.string WD] 9)) := (Below.refl _ _).alloc (Nat.le_refl _) _
  have s1 := srow_one w0 WD
  have P1 := P0.go hb1
  have hv1 := hv0.below hb1
  have hrow1 := hrow0.below hb1
  have hs1 : w0.heap.size ≤ (w0.alloc (.cells #[.string WD] 9)).heap.size := hb1.size
  generalize hw1 : w0.alloc (.cells #[.string WD] 9) = w1 at *
  have HB0 : Hid (Below w.heap.size w w0) := hb0
  have HB01 : Hid (Below w0.heap.size w0 w1) := hb1
  have HP0 : Hid (w.heap.size < w0.heap.size) := P0.lt
  have HB1 : Hid (Below w.heap.size w w1) := hb0.trans (hb1.mono hb0.size)
  have HV1 : Hid (Vars w1) := hv1
  have HC1 : Hid (CRow w1 0 (.slice va vn vc) cs) := hrow1
  have HC4 : Hid (∀ W, Below w0.heap.size w1 W → CRow W 0 (.slice va vn vc) cs) := fun W hW => crow_low hrow0 HB01.out W hW
  obtain ⟨a0, a1, a2, a3, a4, a5, a6⟩ := P0.cells
  obtain ⟨b0, b1, b2, b3, b4, b5, b6⟩ := P1.cells
  have HP1 : Hid (SevIn w.heap.size (.int .i64 2) (.string nm) (.string ot) (.int .i64 bo) (.int .i64 li) (.int .i64 n) (.slice va vn vc) w1) := P1
  unfold Rq.val
  clear hb0 hrow hv hrow0 hv0 hv1 hrow1 hb1 P0 P1
  go_enter Tryz.func26, Tryz.ntmps26
  go_wp2_with (at_builtin; refine wpList_append_own _ rfl _ _ 41 rfl w0.heap.size 9 i0 (.string ByteArray.empty) 1 16 Tryz.underlying41 hi hz0 hz1 hz2 rfl (by decide) _ _ _ rfl (World.ownsRow.alloc s1 _) ⟨w1.heap.size, 0, none⟩ 1 1 [.string (nm)] rfl rfl ?c1 ?c2 ?c3 ?c4 ?c5 ?_)
  case c1 =>
    intro j u hj
    match j, hj with
    | 0, hj => simp at hj; subst hj; simp [Addr.add]
  case c2 => intro u hu; simp at hu; subst hu; rfl
  case c3 => unfold maxLen; simp
  case c4 => simp
  case c5 => have := hs1; simp; omega
  intro v4 w4 hown4 hgrow4 _
  have hr4 : SRow w4 w0.heap.size v4 [WD, nm] := hown4
  have hba : Below w1.heap.size w1 (w1.alloc (.cells #[.string nm] 9)) := (Below.refl _ _).alloc (Nat.le_refl _) _
  have hbg : Below w0.heap.size (w1.alloc (.cells #[.string nm] 9)) w4 := grown_below hgrow4 (World.ownsRow.alloc s1 _) (by have := hs1; simp; omega)
  have hb14 : Below w0.heap.size w1 w4 := (hba.mono hs1).trans hbg
  have hb4 : Below w.heap.size w w4 := HB1.out.trans (hb14.mono (Nat.le_of_lt HP0.out))
  have hv4 : Vars w4 := HV1.out.go hb14 (by have := HP0.out; omega)
  have P4 : SevIn w.heap.size (.int .i64 2) (.string nm) (.string ot) (.int .i64 bo) (.int .i64 li) (.int .i64 n) (.slice va vn vc) w4 := (hb14.block w.heap.size HP0.out).trans HP1.out
  have hc4 : CRow w4 0 (.slice va vn vc) cs := HC4.out w4 hb14
  obtain ⟨d0, d1, d2, d3, d4, d5, d6⟩ := P4.cells
  have cw := cellWords_any _ cs w4 hc4 hv4 hcs
  have hs4 : w0.heap.size ≤ w4.heap.size := Nat.le_trans hs1 hb14.size
  have HB4 : Hid (Below w.heap.size w w4) := hb4
  clear hown4 hgrow4 hba hbg hb14 hb4 hv4 P4 hc4 a0 a1 a2 a3 a4 a5 a6 b0 b1 b2 b3 b4 b5 b6 hw1 s1
  go_wp2_with fail
  refine cw.mono ?_
  rintro e w5 ⟨u, rfl, hu5, hb5, hnn⟩
  have s5 := hr4.below hb5
  obtain ⟨ug, uc, rfl⟩ : ∃ g cap, u = .slice (some ⟨g, 0, none⟩) ((cs.take 6000).map cellW).length cap := by
    rcases hu5.2 with ⟨h0, _⟩ | ⟨g, cap, cur, h1, _⟩
    · exact absurd h0 hnn
    · exact ⟨g, cap, h1⟩
  have hat := hu5.at_
  have hlen : ((cs.take 6000).map cellW).length ≤ 6000 := by rw [List.length_map, List.length_take]; omega
  have hmem : ∀ t ∈ (cs.take 6000).map cellW, t.size ≤ 1000000000 := by
    intro t ht
    obtain ⟨c, hc, rfl⟩ := List.mem_map.1 ht
    have hc2 := hcs c (List.mem_of_mem_take hc)
    have h1 := Lib.itoa_length_le c.1 hc2.1.1 hc2.1.2
    have h2 := Lib.itoa_length_le c.2 hc2.2.1 hc2.2.2
    unfold cellW
    rw [ByteArray.size_append, ByteArray.size_append, ba_size (Lib.itoa c.1), ba_size (Lib.itoa c.2)]
    show _ + 1 + _ ≤ _
    omega
  have hs5 : w0.heap.size ≤ w5.heap.size := Nat.le_trans hs4 hb5.size
  have HB5 : Hid (Below w.heap.size w w5) := HB4.out.trans (hb5.mono HB4.out.size)
  clear cw hnn hu5 hb5 d0 d1 d2 d3 d4 d5 d6
  generalize (cs.take 6000).map cellW = ts at *
  go_wp2_with (at_builtin; refine wpList_append_own _ rfl _ _ 41 rfl w0.heap.size 9 i0 (.string ByteArray.empty) 1 16 Tryz.underlying41 hi hz0 hz1 hz2 rfl (by decide) _ _ _ rfl s5 ⟨ug, 0, none⟩ ts.length uc (ts.map Value.string) rfl (by simp) hat ?c2 ?c3 ?c4 ?c5 ?_)
  case c2 => intro u hu; obtain ⟨x, _, rfl⟩ := List.mem_map.1 hu; rfl
  case c3 => unfold maxLen; simp; omega
  case c4 => simp; omega
  case c5 => exact hs5
  intro v6 w6 hown6 hgrow6 _
  have hr6 : SRow w6 w0.heap.size v6 (WD :: nm :: ts) := by
    have e : (WD :: nm :: ts).length = [WD, nm].length + ts.length := by simp; omega
    rw [SRow, e]
    exact hown6
  have hb6 : Below w.heap.size w w6 := HB5.out.trans ((grown_below hgrow6 s5 hs5).mono (Nat.le_of_lt HP0.out))
  clear hown6 hgrow6
  have hall : ∀ t ∈ WD :: nm :: ts, t.size ≤ 1000000000 := by
    intro t ht
    rcases List.mem_cons.1 ht with rfl | ht
    · exact hWs
    · rcases List.mem_cons.1 ht with rfl | ht
      · exact hnm
      · exact hmem t ht
  go_wp2_with (go_at_call 49; refine (join_call (WD :: nm :: ts) _ _ _ hr6 (by simp) (by simp; omega) hall).mono ?_; rintro e w9 ⟨rfl, hb9⟩)
  go_ret
  rw [HL.out]
  exact ⟨rfl, hb6.trans (hb9.mono hb6.size)⟩

theorem lineOf_any (q : Rq) (v : Value) (w : World) (hrow : CRow w 0 v q.cells) (hv : Vars w) (hq : 1 ≤ q.verb ∧ q.verb ≤ 10) (hh : In64 q.n ∧ (∀ c ∈ q.cells, In64 c.1 ∧ In64 c.2) ∧ q.name.size ≤ 1000000000 ∧ q.other.size ≤ 1000000000) :
    Calls Tryz.prog 26 #[q.val v] w fun e w' => e = .returned (.string (lineF q)) ∧ Below w.heap.size w w' := by
  obtain ⟨vb, nm, ot, bo, li, n, cs⟩ := q
  simp only at hq hh hrow
  have hc : vb = 1 ∨ vb = 2 ∨ vb = 3 ∨ vb = 4 ∨ vb = 5 ∨ vb = 6 ∨ vb = 7 ∨ vb = 8 ∨ vb = 9 ∨ vb = 10 := by omega
  rcases hc with rfl | rfl | rfl | rfl | rfl | rfl | rfl | rfl | rfl | rfl
  · exact lineOf_1 nm ot bo li n cs v w hrow hv hh
  · exact lineOf_2 nm ot bo li n cs v w hrow hv hh
  · exact lineOf_3 nm ot bo li n cs v w hrow hv hh
  · exact lineOf_4 nm ot bo li n cs v w hrow hv hh
  · exact lineOf_5 nm ot bo li n cs v w hrow hv hh
  · exact lineOf_6 nm ot bo li n cs v w hrow hv hh
  · exact lineOf_7 nm ot bo li n cs v w hrow hv hh
  · exact lineOf_8 nm ot bo li n cs v w hrow hv hh
  · exact lineOf_9 nm ot bo li n cs v w hrow hv hh
  · exact lineOf_10 nm ot bo li n cs v w hrow hv hh
end Go.Proofs.YtpghbchbhjbbiaaGreatDoor
