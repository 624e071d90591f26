/- SpeechWrites: the two writings are one; the law. -/
import Derived.Test.YtpghbchbhjbbiaaGreatDoorWqMain
import Derived.Test.YtpghbchbhjbbiaaGreatDoorSpBack
namespace Go.Proofs.YtpghbchbhjbbiaaGreatDoor
open Go.RowKit

theorem join_flat (x : List UInt8) (ws : List (List UInt8)) : Lib.join (x :: ws) [32] = x ++ ws.flatMap fun w => 32 :: w := by
  rw [Lib.join_cons]
  congr 1
theorem cellW_list (c : Int × Int) : 32 :: (cellW c).data.toList = cellL c := by
  unfold cellW cellL
  simp [ByteArray.data_append]
theorem cells_flat (cs : List (Int × Int)) : ((cs.map cellW).map (·.data.toList)).flatMap (fun w => 32 :: w) = cs.flatMap cellL := by
  induction cs with
  | nil => rfl
  | cons c r ih =>
    rw [List.map_cons, List.map_cons, List.flatMap_cons, List.flatMap_cons, ih, cellW_list]
/-- where no more cells are asked for than a line may have, the lines are one -/
theorem doc_line (q : Rq) (h1 : 1 ≤ q.verb) (h2 : q.verb ≤ 10) (hc : q.verb = 2 → q.cells.length ≤ 6000) : docL q = (lineF q).data.toList := by
  unfold lineF lineWords docL
  have hv : q.verb = 1 ∨ q.verb = 2 ∨ q.verb = 3 ∨ q.verb = 4 ∨ q.verb = 5 ∨ q.verb = 6 ∨ q.verb = 7 ∨ q.verb = 8 ∨ q.verb = 9 ∨ q.verb = 10 := by omega
  show _ = Lib.join _ [32]
  rw [List.map_cons, join_flat]
  rcases hv with hv | hv | hv | hv | hv | hv | hv | hv | hv | hv
  · rw [hv]; simp [docFrom, wPiece, formL]
  · have hl := hc hv
    rw [hv, if_neg (by decide), if_pos rfl, List.take_of_length_le hl, List.map_cons, List.flatMap_cons, cells_flat]
    simp [docFrom, wPiece, formL]
    rfl
  all_goals (rw [hv]; simp [docFrom, wPiece, formL])
theorem doc_long (q : Rq) (hv : q.verb = 2) (hc : 6000 < q.cells.length) : 6000 < (docL q).length ∧ 6000 < (lineF q).size := by
  constructor
  · unfold docL
    rw [hv]
    show 6000 < (List.length (_ ++ docFrom q [112, 99] 0))
    have h2 : wPiece q 99 1 = q.cells.flatMap cellL := rfl
    rw [List.length_append, docFrom, List.length_append, docFrom, List.length_append, show (0 + 1) = 1 from rfl, h2]
    have := flat_len q.cells
    omega
  · unfold lineF lineWords
    rw [ba_size, List.map_cons, join_flat, hv, if_neg (by decide), if_pos rfl, List.map_cons, List.flatMap_cons, cells_flat, List.length_append, List.length_append, List.length_cons]
    have := flat_len (q.cells.take 6000)
    rw [List.length_take] at this
    omega
theorem doc_is (q : Rq) : docW q = writeRq q := by
  unfold docW writeRq
  by_cases h : 1 ≤ q.verb ∧ q.verb ≤ 10
  · rw [if_pos h, if_pos h]
    unfold docB
    by_cases hc : q.verb = 2 → q.cells.length ≤ 6000
    · have hl := doc_line q h.1 h.2 hc
      have e : (⟨(docL q).toArray⟩ : ByteArray) = lineF q := by rw [hl, ← ba_list]
      rw [e]
    · have hv : q.verb = 2 := Classical.byContradiction fun hn => hc fun h => absurd h hn
      have hl : 6000 < q.cells.length := Nat.lt_of_not_le fun hn => hc fun _ => hn
      obtain ⟨a, b⟩ := doc_long q hv hl
      rw [read_long ⟨(docL q).toArray⟩ (by rw [ba_size]; exact a), read_long (lineF q) b]
      rfl
  · rw [if_neg h, if_neg h]
/-- how long the document's line may be -/
theorem doc_len (q : Rq) (B : Nat) (hq : q.name.size + q.other.size + q.cells.length ≤ B) (hn : In64 q.n) (hcs : ∀ c ∈ q.cells, In64 c.1 ∧ In64 c.2) : (docL q).length ≤ 5000 + 100 * B := by
  have hfl : ∀ cs : List (Int × Int), (∀ c ∈ cs, In64 c.1 ∧ In64 c.2) → (cs.flatMap cellL).length ≤ 44 * cs.length := by
    intro cs
    induction cs with
    | nil => intro _; exact Nat.le_refl _
    | cons c r ih =>
      intro h
      have h1 := ih fun x hx => h x (List.mem_cons_of_mem _ hx)
      obtain ⟨⟨a, b⟩, ⟨c', d⟩⟩ := h c List.mem_cons_self
      have h2 := Lib.itoa_length_le c.1 a b
      have h3 := Lib.itoa_length_le c.2 c' d
      rw [List.flatMap_cons, List.length_append, List.length_cons]
      simp only [cellL, List.length_cons, List.length_append]
      omega
  have hpc : ∀ f i, (wPiece q f i).length ≤ 1100 + 44 * B := by
    intro f i
    have e1 := ruleT_size q.born q.live
    have e2 := Lib.itoa_length_le q.n hn.1 hn.2
    have e3 := hfl q.cells hcs
    have e4 : (q.cells.flatMap fun c => 32 :: (Lib.itoa c.1 ++ 44 :: Lib.itoa c.2)) = q.cells.flatMap cellL := rfl
    unfold wPiece
    split
    · rw [List.length_cons, ba_len]; omega
    · split
      · rw [List.length_cons]; omega
      · split
        · rw [e4]; omega
        · split <;> (rw [List.length_cons, ba_len]; omega)
  have hv : (verbL.getD q.verb.toNat ⟨#[]⟩).data.toList.length ≤ 5 := by
    have hall : ∀ x ∈ verbL, x.data.toList.length ≤ 5 := by decide
    by_cases h : q.verb.toNat < verbL.length
    · rw [List.getD_eq_getElem?_getD, List.getElem?_eq_getElem h]
      exact hall _ (List.getElem_mem h)
    · rw [List.getD_eq_getElem?_getD, List.getElem?_eq_none (by omega)]
      exact Nat.zero_le _
  have hF : (formL.getD q.verb.toNat []).length ≤ 2 := by
    have hall : ∀ x ∈ formL, x.length ≤ 2 := by decide
    by_cases h : q.verb.toNat < formL.length
    · rw [List.getD_eq_getElem?_getD, List.getElem?_eq_getElem h]
      exact hall _ (List.getElem_mem h)
    · rw [List.getD_eq_getElem?_getD, List.getElem?_eq_none (by omega)]
      exact Nat.zero_le _
  unfold docL
  rw [List.length_append]
  generalize formL.getD q.verb.toNat [] = F at *
  match F, hF with
  | [], _ => simp only [docFrom, List.length_nil]; omega
  | [a], _ =>
    have := hpc a 0
    simp only [docFrom, List.append_nil]
    omega
  | [a, b], _ =>
    have h1 := hpc a 0
    have h2 := hpc b (0 + 1)
    simp only [docFrom, List.append_nil, List.length_append]
    omega

set_option maxHeartbeats 1000000 in
theorem lawCells_any (v : Value) (cs : List (Int × Int)) (w : World) (hn : cs.length * 16 ≤ 140737488355328) (h : HR w v cs) (hnil : ∀ n c, v = .slice none n c → c = 0) :
    Calls Tryz.prog 28 #[v] w fun e w' => ∃ u, e = .returned u ∧ Below w.heap.size w w' ∧ CRow w' w.heap.size u cs := by
  obtain ⟨a, c, rfl, _, h⟩ := h
  obtain ⟨i0, hi, hz0, hz1, hz2⟩ := info_parts Tryz.infoCell
  cases a with
  | none =>
    have hc := hnil _ c rfl
    subst hc
    rcases h with rfl | ⟨g, o, h1, _⟩
    · go_enter Tryz.func28, Tryz.ntmps28
      go_wp2
      go_ret
      exact ⟨_, rfl, Below.refl _ _, crow_nil _ _⟩
    · cases h1
  | some ad =>
    have hcells : ∀ (j : Nat) u, (cellsL cs)[j]? = some u → w.cell? (ad.add j) = some u := by
      intro j u hu
      rcases h with rfl | ⟨g, o, h1, _, h3⟩
      · simp [cellsL] at hu
      · cases h1
        have hj : j < cs.length * 2 := by rw [← cellsL_length]; exact (List.getElem?_eq_some_iff.1 hu).1
        have hjj : j / 2 < cs.length := by omega
        obtain ⟨e0, e1⟩ := cellsL_at cs (j / 2) _ _ (show cs[j / 2]? = some ((cs[j / 2]).1, (cs[j / 2]).2) by rw [List.getElem?_eq_getElem hjj])
        obtain ⟨c0, c1⟩ := h3 (j / 2) _ _ (show cs[j / 2]? = some ((cs[j / 2]).1, (cs[j / 2]).2) by rw [List.getElem?_eq_getElem hjj])
        rw [addr_add]
        by_cases hm2 : j % 2 = 0
        · rw [show j / 2 * 2 = j by omega] at e0 c0
          rw [c0]
          rw [e0] at hu
          exact hu
        · rw [show j / 2 * 2 + 1 = j by omega] at e1
          rw [show o + j / 2 * 2 + 1 = o + j by omega] at c1
          rw [c1]
          rw [e1] at hu
          exact hu
    clear h
    go_enter Tryz.func28, Tryz.ntmps28
    go_wp2_with (at_builtin; refine wpList_append_own _ rfl _ _ 24 rfl w.heap.size 51 i0 (.agg #[.int .i64 0, .int .i64 0]) 2 16 Tryz.underlying24 hi hz0 hz1 hz2 rfl (by decide) (.slice none 0 0) 0 [] rfl (World.ownsRow_nil _ _ _ _) ad cs.length c (cellsL cs) rfl (cellsL_length cs) hcells (cellsL_one cs) (by unfold maxLen; omega) (by omega) (Nat.le_refl _) ?_; intro v' w1 hown hgrow hnil)
    go_ret
    rw [Nat.zero_add, List.nil_append] at hown
    exact ⟨v', rfl, (Below.refl _ _).grown hgrow (Nat.le_refl _) (by intro k hk; simp [Value.ownBlock] at hk), hown⟩

set_option linter.unusedSimpArgs false in
set_option maxRecDepth 20000 in
set_option maxHeartbeats 2000000 in
/-- request: the same, with cells of its own -/
theorem lawRequest_any (q : Rq) (v : Value) (w : World) (hrow : HR w v q.cells) (hnil : ∀ n c, v = .slice none n c → c = 0) (hlen : q.cells.length * 16 ≤ 140737488355328) :
    Calls Tryz.prog 11 #[q.val v] w fun e w' => ∃ a n c, e = .returned (q.val (.slice a n c)) ∧ Below w.heap.size w w' ∧ CRow w' 0 (.slice a n c) q.cells := by
  obtain ⟨va, vn, vc, rfl⟩ : ∃ a n c, v = .slice a n c := by obtain ⟨a, c, rfl, _⟩ := hrow; exact ⟨_, _, _, rfl⟩
  have hb0 : Below w.heap.size w (w.alloc (.cells #[.int .i64 q.verb, .string q.name, .string q.other, .int .i64 q.born, .int .i64 q.live, .int .i64 q.n, .slice va vn vc] 26)) := (Below.refl _ _).alloc (Nat.le_refl _) _
  have P0 := SevIn.born w (.int .i64 q.verb) (.string q.name) (.string q.other) (.int .i64 q.born) (.int .i64 q.live) (.int .i64 q.n) (.slice va vn vc)
  have hrow0 := hrow.below hb0
  generalize hw0 : w.alloc (.cells #[.int .i64 q.verb, .string q.name, .string q.other, .int .i64 q.born, .int .i64 q.live, .int .i64 q.n, .slice va vn vc] 26) = w0 at *
  have hb1 : Below w0.heap.size w0 (w0.alloc (.cells #[.int .i64 0, .string ⟨#[]⟩, .string ⟨#[]⟩, .int .i64 0, .int .i64 0, .int .i64 0, .slice none 0 0] 26)) := (Below.refl _ _).alloc (Nat.le_refl _) _
  have C1 := SevIn.born w0 (.int .i64 0) (.string ⟨#[]⟩) (.string ⟨#[]⟩) (.int .i64 0) (.int .i64 0) (.int .i64 0) (.slice none 0 0)
  have P1 := P0.go hb1
  have hrow1 := hrow0.below hb1
  have HLT : Hid (w.heap.size < w0.heap.size) := P0.lt
  generalize hw1 : w0.alloc (.cells #[.int .i64 0, .string ⟨#[]⟩, .string ⟨#[]⟩, .int .i64 0, .int .i64 0, .int .i64 0, .slice none 0 0] 26) = w1 at *
  have ck := lawCells_any (.slice va vn vc) q.cells w1 hlen hrow1 hnil
  have HB1 : Hid (Below w.heap.size w w1) := hb0.trans (hb1.mono hb0.size)
  have HP1 : Hid (SevIn w.heap.size (.int .i64 q.verb) (.string q.name) (.string q.other) (.int .i64 q.born) (.int .i64 q.live) (.int .i64 q.n) (.slice va vn vc) w1) := P1
  have HC1 : Hid (SevIn w0.heap.size (.int .i64 0) (.string ⟨#[]⟩) (.string ⟨#[]⟩) (.int .i64 0) (.int .i64 0) (.int .i64 0) (.slice none 0 0) w1) := C1
  obtain ⟨a0, a1, a2, a3, a4, a5, a6⟩ := P1.cells
  have hne : w.heap.size ≠ w0.heap.size := Nat.ne_of_lt P0.lt
  unfold Rq.val
  clear hrow hrow0 hrow1 hb0 hb1 P0 P1 C1 hnil hlen
  go_enter Tryz.func11, Tryz.ntmps11
  go_wp2_with fail
  refine ck.mono ?_
  rintro e w2 ⟨u, rfl, hb2, hu⟩
  obtain ⟨ua, un, uc, rfl⟩ := crow_slice hu
  have hP2 := HP1.out.go hb2
  have hC2 := HC1.out.go hb2
  have HB2 : Hid (Below w.heap.size w w2) := HB1.out.trans (hb2.mono HB1.out.size)
  obtain ⟨c0, c1, c2, c3, c4, c5, c6⟩ := hP2.cells
  obtain ⟨s0, s1, s2, s3, s4, s5, s6⟩ := hC2.cells
  have z6 := hP2.frozen 6
  have y0 := hC2.frozen 0
  have y1 := hC2.frozen 1
  have y2 := hC2.frozen 2
  have y3 := hC2.frozen 3
  have y4 := hC2.frozen 4
  have y5 := hC2.frozen 5
  have y6 := hC2.frozen 6
  have HU : Hid (CRow w2 w1.heap.size (.slice ua un uc) q.cells) := hu
  have HW1 : Hid (w0.heap.size < w1.heap.size) := HC1.out.lt
  clear ck a0 a1 a2 a3 a4 a5 a6 hw0 hw1 hb2 hu hP2 hC2
  go_wp2_with fail
  refine bodyPost_ret (v := .agg #[.int .i64 q.verb, .string q.name, .string q.other, .int .i64 q.born, .int .i64 q.live, .int .i64 q.n, .slice ua un uc]) ?_ rfl ⟨ua, un, uc, rfl, ?_, ?_⟩
  · simp [results, Tryz.results11, go_sem, c0, c1, c2, c3, c4, c5, c6, s0, s1, s2, s3, s4, s5, s6, hne, hne.symm]
  · refine below_mid (R := w.heap.size) (Q := w0.heap.size) HB2.out ?_ (Nat.le_refl _) (Nat.le_of_lt HLT.out)
    repeat (first | refine Mid.set ?_ (Or.inl rfl) | refine Mid.set ?_ (Or.inr rfl) | refine Mid.drew ?_ | exact Mid.refl _ _ _)
  · refine CRow.mid (R := w.heap.size) (Q := w0.heap.size) HU.out ?_ (by have h3 := HLT.out; have h4 := HW1.out; omega) HW1.out (Nat.zero_le _)
    repeat (first | refine Mid.set ?_ (Or.inl rfl) | refine Mid.set ?_ (Or.inr rfl) | refine Mid.drew ?_ | exact Mid.refl _ _ _)

/-- the document's WriteRequest writes what Write writes -/
theorem refWrite_any (q : Rq) (v : Value) (w : World) (gv ov cv gf of cf : Nat) (hV : RVars w gv ov cv gf of cf) (hrow : HR w v q.cells) (hA : (docL q).length ≤ 1000000000000) (hn : In64 q.n) (hcs : ∀ c ∈ q.cells, In64 c.1 ∧ In64 c.2) :
    Calls Tryz.prog 12 #[q.val v] w fun e w' => e = .returned (.tuple #[.string (writeRq q).1, .int .i64 (writeRq q).2]) ∧ Below w.heap.size w w' := by
  rw [← doc_is]
  unfold docW
  by_cases h : 1 ≤ q.verb ∧ q.verb ≤ 10
  · rw [if_pos h]
    exact wq_good q v w gv ov cv gf of cf hV hrow h.1 h.2 hA hn hcs
  · rw [if_neg h]
    obtain ⟨va, vn, vc, rfl⟩ : ∃ a n c, v = .slice a n c := by obtain ⟨a, c, rfl, _⟩ := hrow; exact ⟨_, _, _, rfl⟩
    exact wq_bad q va vn vc w h
def cleanRq : Rq := ⟨10, ⟨#[]⟩, ⟨#[]⟩, 0, 0, 0, []⟩
theorem clean_write : writeRq cleanRq = (⟨#[99, 108, 101, 97, 110]⟩, 0) := by
  have h1 : lineF cleanRq = ⟨#[99, 108, 101, 97, 110]⟩ := rfl
  unfold writeRq
  rw [if_pos ⟨by decide, by decide⟩, h1, clean_read, if_pos rfl]
  exact if_pos (same_self cleanRq)
set_option maxRecDepth 20000 in
set_option maxHeartbeats 4000000 in
theorem writes_any (q : Rq) (v : Value) (w : World) (gv ov cv gf of cf : Nat) (hv : Vars w) (hV : RVars w gv ov cv gf of cf) (hrow : HR w v q.cells) (hnil : ∀ n c, v = .slice none n c → c = 0) (hlen : q.cells.length * 16 ≤ 140737488355328) (hA : (docL q).length ≤ 1000000000000) (hh : In64 q.n ∧ (∀ c ∈ q.cells, In64 c.1 ∧ In64 c.2) ∧ q.name.size ≤ 1000000000 ∧ q.other.size ≤ 1000000000) :
    Calls Tryz.prog 4 #[q.val v] w fun e w' => e = .returned (.bool true) ∧ Below w.heap.size w w' := by
  obtain ⟨va, vn, vc, rfl⟩ : ∃ a n c, v = .slice a n c := by obtain ⟨a, c, rfl, _⟩ := hrow; exact ⟨_, _, _, rfl⟩
  have c1 := fun W h => lawRequest_any q (.slice va vn vc) W h hnil hlen
  have c2 := fun u W h hW => Write_any q u W h hW hh
  have c3 := fun W hW h => refWrite_any q (.slice va vn vc) W gv ov cv gf of cf hW h hA hh.1 hh.2.1
  have c4 := fun W hW => Write_any cleanRq (.slice none 0 0) W (crow_nil W 0) hW ⟨in64_0, (fun c hc => by cases hc), by decide, by decide⟩
  rw [clean_write] at c4
  generalize writeRq q = R at *
  obtain ⟨L, re⟩ := R
  have HV : Hid (Vars w ∧ RVars w gv ov cv gf of cf ∧ HR w (.slice va vn vc) q.cells) := ⟨hv, hV, hrow⟩
  have hb0 : Below w.heap.size w (w.alloc (.cells #[.int .i64 q.verb, .string q.name, .string q.other, .int .i64 q.born, .int .i64 q.live, .int .i64 q.n, .slice va vn vc] 26)) := (Below.refl _ _).alloc (Nat.le_refl _) _
  have P0 := SevIn.born w (.int .i64 q.verb) (.string q.name) (.string q.other) (.int .i64 q.born) (.int .i64 q.live) (.int .i64 q.n) (.slice va vn vc)
  generalize hw0 : w.alloc (.cells #[.int .i64 q.verb, .string q.name, .string q.other, .int .i64 q.born, .int .i64 q.live, .int .i64 q.n, .slice va vn vc] 26) = w0 at *
  have d1 := c1 w0 (hrow.below hb0)
  have HB0 : Hid (Below w.heap.size w w0) := hb0
  have HP0 : Hid (SevIn w.heap.size (.int .i64 q.verb) (.string q.name) (.string q.other) (.int .i64 q.born) (.int .i64 q.live) (.int .i64 q.n) (.slice va vn vc) w0) := P0
  obtain ⟨a0, a1, a2, a3, a4, a5, a6⟩ := P0.cells
  have hss : (L.toList == L.toList) = true := by simp
  have hre : (re == re) = true := by simp
  unfold Rq.val at d1 c2 c3 c4 ⊢
  unfold cleanRq at c4
  simp only at d1 c2 c3 c4
  clear hb0 P0 hv hV hrow hnil hlen hA hh c1
  go_enter Tryz.func4, Tryz.ntmps4
  go_wp2_with fail
  refine d1.mono ?_
  rintro e w1 ⟨ua, un, uc, rfl, hb1, hu⟩
  have HB1 : Hid (Below w.heap.size w w1) := HB0.out.trans (hb1.mono HB0.out.size)
  have HP1 : Hid (SevIn w.heap.size (.int .i64 q.verb) (.string q.name) (.string q.other) (.int .i64 q.born) (.int .i64 q.live) (.int .i64 q.n) (.slice va vn vc) w1) := HP0.out.go hb1
  have d2 := c2 (.slice ua un uc) w1 hu (HV.out.1.below HB1.out)
  clear hb1 hu d1 c2 hw0 a0 a1 a2 a3 a4 a5 a6
  go_wp2_with fail
  refine d2.mono ?_
  rintro e w2 ⟨rfl, hb2⟩
  have HB2 : Hid (Below w.heap.size w w2) := HB1.out.trans (hb2.mono HB1.out.size)
  obtain ⟨a0, a1, a2, a3, a4, a5, a6⟩ := (HP1.out.go hb2).cells
  have d3 := c3 w2 (HV.out.2.1.go HB2.out (Nat.le_refl _)) (HV.out.2.2.below HB2.out)
  clear hb2 d2 c3
  go_wp2_with fail
  refine d3.mono ?_
  rintro e w3 ⟨rfl, hb3⟩
  have HB3 : Hid (Below w.heap.size w w3) := HB2.out.trans (hb3.mono HB2.out.size)
  have d4 := c4 w3 (HV.out.1.below HB3.out)
  clear hb3 d3 c4 a0 a1 a2 a3 a4 a5 a6
  go_wp2_with fail
  refine d4.mono ?_
  rintro e w4 ⟨rfl, hb4⟩
  go_wp2_with fail
  go_ret
  exact ⟨rfl, HB3.out.trans (hb4.mono HB3.out.size)⟩
end Go.Proofs.YtpghbchbhjbbiaaGreatDoor
