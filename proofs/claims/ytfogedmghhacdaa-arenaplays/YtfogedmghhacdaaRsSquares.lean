/- Squares, of both. -/
import Derived.Test.YtfogedmghhacdaaRsArNo
namespace Go.Proofs.Ytfogedmghhacdaa.A
open Go.RowKit Go.Maps

theorem Try.info78 : (Try.prog.info? 78).map (fun i => (i.zero, i.size, i.bytes)) = some (some (.agg #[.int .i64 0, .int .i64 0, .int .i64 0, .int .i64 0, .int .i64 0, .int .i64 0, .int .u64 0]), 7, 56) := by kernel_rfl
def Rt.sq (x : Rt) : List Value := [.int .i64 x.id, .int .i64 x.lv, .int .i64 x.p0, .int .i64 x.p1, .int .i64 x.p2, .int .i64 x.p3, .int .u64 x.mask]
def sqL (l : List Rt) : List Value := l.flatMap Rt.sq
theorem sqL_one (x : Rt) : sqL [x] = x.sq := by simp [sqL]
theorem sqL_append (a b : List Rt) : sqL (a ++ b) = sqL a ++ sqL b := by simp [sqL]
theorem sqL_at : ∀ (l : List Rt) (i : Nat) (x : Rt) (j : Nat), l[i]? = some x → j < 7 → (sqL l)[i * 7 + j]? = x.sq[j]?
  | [], i, x, j, h, _ => by simp at h
  | y :: r, 0, x, j, h, hj => by
    simp at h; subst h
    have : (sqL (y :: r)) = y.sq ++ sqL r := by simp [sqL]
    rw [this, List.getElem?_append_left (by simp [Rt.sq]; omega)]
    simp
  | y :: r, i + 1, x, j, h, hj => by
    have : (sqL (y :: r)) = y.sq ++ sqL r := by simp [sqL]
    rw [this, List.getElem?_append_right (by simp [Rt.sq]; omega)]
    rw [← sqL_at r i x j (by simpa using h) hj]
    congr 1
    simp [Rt.sq]; omega
/-- the squares among things -/
def onlySq (l : List Rt) : List Rt := l.filter fun x => x.k == 0
theorem only_succ {l : List Rt} {i : Nat} {x : Rt} (h : l[i]? = some x) : onlySq (l.take (i + 1)) = onlySq (l.take i) ++ (if (x.k == 0) = true then [x] else []) := by
  unfold onlySq
  rw [List.take_add_one, h, Option.toList_some, List.filter_append]
  congr 1
  cases hl : (x.k == 0) <;> simp [hl]
theorem only_le (l : List Rt) (i : Nat) : (onlySq (l.take i)).length ≤ i := Nat.le_trans (List.length_filter_le _ _) (List.length_take_le _ _)
theorem sq_news (w : World) (x : Rt) : ∀ j u, x.sq[j]? = some u → (w.alloc (.cells #[.int .i64 x.id, .int .i64 x.lv, .int .i64 x.p0, .int .i64 x.p1, .int .i64 x.p2, .int .i64 x.p3, .int .u64 x.mask] 78)).cell? ((⟨w.heap.size, 0, none⟩ : Addr).add j) = some u :=
  World.news_of_block (heap_alloc_new w (.cells #[.int .i64 x.id, .int .i64 x.lv, .int .i64 x.p0, .int .i64 x.p1, .int .i64 x.p2, .int .i64 x.p3, .int .u64 x.mask] 78))
theorem sq_ones (x : Rt) : ∀ u ∈ x.sq, u.oneCell' = true := by
  intro u hu
  simp only [Rt.sq, List.mem_cons, List.not_mem_nil, or_false] at hu
  rcases hu with rfl | rfl | rfl | rfl | rfl | rfl | rfl <;> rfl

set_option maxRecDepth 20000 in
set_option maxHeartbeats 4000000 in
theorem squaresS_any (b : Nat) (G : Nat → Prop) (S : St) (w : World) (h : StAt w b G S) (hT : Tame S) :
    Calls Try.prog 12 #[.pointer (some ⟨b, 0, none⟩)] w fun e w' => ∃ sv, e = .returned sv ∧ w'.ownsRow w.heap.size 78 7 sv (onlySq S.ths).length (sqL (onlySq S.ths)) ∧ Below w.heap.size w w' := by
  obtain ⟨r, h⟩ := h
  have c1 := h.raw.at 1 (by omega)
  have hblt := h.raw.lt
  rw [Sr.c1] at c1
  obtain ⟨a, c, hv⟩ := h.ths.shape
  rw [hv] at c1
  have HH : Hid (StRaw w b G S r) := h
  have HV : Hid (r.vth = .slice a S.ths.length c) := hv
  obtain ⟨n, hn⟩ : ∃ n, n = S.ths.length := ⟨_, rfl⟩
  rw [← hn] at c1
  have HN : Hid (n = S.ths.length) := hn
  have hnb : n < 900000 := by rw [hn]; exact hT.len
  obtain ⟨i0, hi, hz0, hz1, hz2⟩ := info_parts Try.info78
  clear hn h hv hT
  go_enter Try.func12, Try.ntmps12
  go_wp2_with fail
  go_loopg [11, 3] n (fun gh s11 s3 wr => ∃ (i : Nat) (sv : Value), i + gh = n ∧ s11 = .int .i64 i ∧ sv = s3 ∧ wr.ownsRow w.heap.size 78 7 sv (onlySq (S.ths.take i)).length (sqL (onlySq (S.ths.take i))) ∧ Below w.heap.size w wr)
  case atStart => exact ⟨0, _, by omega, rfl, rfl, by rw [List.take_zero]; exact World.ownsRow_nil _ _ _ _, Below.refl _ _⟩
  case round =>
    obtain ⟨i, sv, hig, rfl, rfl, hown, hbr⟩ := hrel
    have HIG : Hid (i + gk = n) := hig
    have HBR : Hid (Below w.heap.size w wr) := hbr
    have HOWN : Hid (wr.ownsRow w.heap.size 78 7 sv (onlySq (S.ths.take i)).length (sqL (onlySq (S.ths.take i)))) := hown
    clear hig hown
    by_cases hlt : i < n
    · obtain ⟨x, hx⟩ : ∃ x, S.ths[i]? = some x := ⟨_, List.getElem?_eq_getElem (by rw [← HN.out]; exact hlt)⟩
      obtain ⟨g, c', hg, hgl, hcs⟩ := HH.out.elem hx
      have hgv := HV.out
      rw [hg] at hgv
      simp only [Value.slice.injEq] at hgv
      obtain ⟨rfl, _, _⟩ := hgv
      obtain ⟨d0, d1, d2, d3, d4, d5, d6, d7, d8⟩ := hcs
      have kc := fun j => hbr.cell (p := ⟨g, j, none⟩) hgl
      have d0 := (kc _).trans d0
      have d1 := (kc _).trans d1
      have d2 := (kc _).trans d2
      have d3 := (kc _).trans d3
      have d4 := (kc _).trans d4
      have d5 := (kc _).trans d5
      have d6 := (kc _).trans d6
      have d7 := (kc _).trans d7
      have d8 := (kc _).trans d8
      have HS := only_succ hx
      have HS' : Hid (onlySq (S.ths.take (i + 1)) = _) := HS
      have HLB : Hid ((onlySq (S.ths.take i)).length ≤ i ∧ i < 900000 ∧ w.heap.size ≤ wr.heap.size) := ⟨only_le _ _, by omega, hbr.size⟩
      have k0 : (0 : Int) ≤ (i : Int) := by omega
      have k1 : (i : Int) < (n : Int) := by omega
      clear kc hx hg hbr HS
      by_cases hm : x.k = 0
      · have hm' : (x.k == 0) = true := by simpa using hm
        have HM : Hid ((x.k == 0) = true) := hm'
        clear hm
        go_wp2_with (at_builtin; refine wpList_append_own _ rfl _ _ 45 rfl w.heap.size 78 i0 (.agg #[.int .i64 0, .int .i64 0, .int .i64 0, .int .i64 0, .int .i64 0, .int .i64 0, .int .u64 0]) 7 56 Try.underlying45 hi hz0 hz1 hz2 rfl (by decide) _ _ _ rfl ((HOWN.out.alloc _).alloc _) ⟨wr.heap.size + 1, 0, none⟩ 1 1 x.sq rfl rfl ?c1 ?c2 ?c3 ?c4 ?c5 ?_)
        case c1 => simpa using sq_news (wr.alloc _) x
        case c2 => exact sq_ones x
        case c3 => unfold maxLen; have := HLB.out; omega
        case c4 => have := HLB.out; omega
        case c5 => have := HLB.out; simp; omega
        intro v' w9 hown' hgrow _
        go_wp2_with fail
        go_roundg (gk - 1)
        case measure => have := HIG.out; omega
        case rel => exact ⟨i + 1, v', by have := HIG.out; omega, by go_num, rfl, by rw [HS'.out, if_pos HM.out, sqL_append, sqL_one, List.length_append]; exact hown', ((HBR.out.alloc HBR.out.size _).alloc (by have := HBR.out.size; simp; omega) _).grown hgrow (by have := HBR.out.size; simp; omega) (fun g hg => (HOWN.out.lt g hg).1)⟩
      · have hm' : (x.k == 0) = false := by simpa using hm
        have HM : Hid ((x.k == 0) = false) := hm'
        clear hm
        go_wp2_with fail
        go_roundg (gk - 1)
        case measure => have := HIG.out; omega
        case rel => exact ⟨i + 1, sv, by have := HIG.out; omega, by go_num, rfl, by rw [HS'.out, if_neg (by rw [HM.out]; decide), List.append_nil]; exact HOWN.out.alloc _, HBR.out.alloc HBR.out.size _⟩
    · have k1 : ¬ (i : Int) < (n : Int) := by omega
      have HOW : Hid (wr.ownsRow w.heap.size 78 7 sv (onlySq S.ths).length (sqL (onlySq S.ths))) := by
        have h := HOWN.out
        rw [List.take_of_length_le (by rw [← HN.out]; omega)] at h
        exact h
      clear hbr
      go_wp2_with fail
      go_ret
      exact ⟨sv, rfl, HOW.out, HBR.out⟩
theorem ref_take {l : List Th} {i : Nat} {x : Th} (h : l[i]? = some x) : refL 0 (l.take (i + 1)) = refL 0 (l.take i) ++ (if x.k = 0 then [] else [toRt i x]) := by
  have hlt := (List.getElem?_eq_some_iff.1 h).1
  rw [ref_split (l.take (i + 1)) 0 i, List.take_take, Nat.min_eq_left (by omega), Nat.zero_add]
  congr 1
  have : (l.take (i + 1)).drop i = [x] := by
    rw [List.take_add_one, h, Option.toList_some, List.drop_left' (by rw [List.length_take]; omega)]
  rw [this]
  by_cases hk : x.k = 0
  · rw [ref_zero hk, if_pos hk]; rfl
  · rw [ref_one hk, if_neg hk]; rfl
theorem only_ref {l : List Th} {i : Nat} {x : Th} (h : l[i]? = some x) : onlySq (refL 0 (l.take (i + 1))) = onlySq (refL 0 (l.take i)) ++ (if (x.k == 1) = true then [toRt i x] else []) := by
  rw [ref_take h]
  unfold onlySq
  rw [List.filter_append]
  congr 1
  by_cases hk : x.k = 0
  · rw [if_pos hk, if_neg (by rw [hk]; decide)]; rfl
  · rw [if_neg hk]
    by_cases h1 : x.k = 1
    · rw [if_pos (by simpa using h1), List.filter_cons_of_pos (by simp [toRt, h1])]; rfl
    · rw [if_neg (by simpa using h1), List.filter_cons_of_neg (by simp [toRt]; omega)]; rfl
theorem only_ref_le (l : List Th) (i : Nat) : (onlySq (refL 0 (l.take i))).length ≤ i := by
  refine Nat.le_trans (List.length_filter_le _ _) ?_
  rw [ref_len]
  exact Nat.le_trans (live_le _) (List.length_take_le _ _)
set_option maxRecDepth 20000 in
set_option maxHeartbeats 4000000 in
theorem squaresP_any (b : Nat) (F : Nat → Prop) (A : Ar) (w : World) (h : AtP w b F A) (hS : Sound A) :
    Calls Try.prog 11 #[.pointer (some ⟨b, 0, none⟩)] w fun e w' => ∃ sv, e = .returned sv ∧ w'.ownsRow w.heap.size 78 7 sv (onlySq (refL 0 A.ths)).length (sqL (onlySq (refL 0 A.ths))) ∧ Below w.heap.size w w' := by
  obtain ⟨L, r, D, h, _, _⟩ := h
  have c1 := h.raw.at 1 (by omega)
  have hblt := h.raw.lt
  rw [Raw.c1] at c1
  have hth := h.ths
  simp only at hth
  obtain ⟨a, c, hv⟩ := hth.shape
  rw [hv] at c1
  have HTH : Hid (ThRow w 0 r.vth A.ths) := hth
  have HV : Hid (r.vth = .slice a A.ths.length c) := hv
  obtain ⟨n, hn⟩ : ∃ n, n = A.ths.length := ⟨_, rfl⟩
  rw [← hn] at c1
  have HN : Hid (n = A.ths.length) := hn
  have hnb : n < 900000 := by rw [hn]; have := hS.len; have := hS.room1; omega
  obtain ⟨i0, hi, hz0, hz1, hz2⟩ := info_parts Try.info78
  clear hn h hv hth
  go_enter Try.func11, Try.ntmps11
  go_wp2_with fail
  go_loopg [13, 3] n (fun gh s13 s3 wr => ∃ (i : Nat) (sv : Value), i + gh = n ∧ s13 = .int .i64 i ∧ sv = s3 ∧ wr.ownsRow w.heap.size 78 7 sv (onlySq (refL 0 (A.ths.take i))).length (sqL (onlySq (refL 0 (A.ths.take i)))) ∧ Below w.heap.size w wr)
  case atStart => exact ⟨0, _, by omega, rfl, rfl, by rw [List.take_zero]; exact World.ownsRow_nil _ _ _ _, Below.refl _ _⟩
  case round =>
    obtain ⟨i, sv, hig, rfl, rfl, hown, hbr⟩ := hrel
    have HIG : Hid (i + gk = n) := hig
    have HBR : Hid (Below w.heap.size w wr) := hbr
    have HOWN : Hid (wr.ownsRow w.heap.size 78 7 sv (onlySq (refL 0 (A.ths.take i))).length (sqL (onlySq (refL 0 (A.ths.take i))))) := hown
    clear hig hown
    by_cases hlt : i < n
    · obtain ⟨x, hx⟩ : ∃ x, A.ths[i]? = some x := ⟨_, List.getElem?_eq_getElem (by rw [← HN.out]; exact hlt)⟩
      obtain ⟨g, c', hg⟩ := HTH.out.shape' (by rw [← HN.out]; omega)
      have hth2 := HTH.out
      rw [hg] at hth2
      have hgl := (hth2.lt g rfl).2
      have hgv := HV.out
      rw [hg] at hgv
      simp only [Value.slice.injEq] at hgv
      obtain ⟨rfl, _, _⟩ := hgv
      obtain ⟨d0, d1, d2, d3, d4, d5, d6, d7⟩ := hth2.cells hx
      have kc := fun j => hbr.cell (p := ⟨g, j, none⟩) hgl
      have d0 := (kc _).trans d0
      have d1 := (kc _).trans d1
      have d2 := (kc _).trans d2
      have d3 := (kc _).trans d3
      have d4 := (kc _).trans d4
      have d5 := (kc _).trans d5
      have d6 := (kc _).trans d6
      have d7 := (kc _).trans d7
      have HS := only_ref hx
      have HS' : Hid (onlySq (refL 0 (A.ths.take (i + 1))) = _) := HS
      have HLB : Hid ((onlySq (refL 0 (A.ths.take i))).length ≤ i ∧ i < 900000 ∧ w.heap.size ≤ wr.heap.size) := ⟨only_ref_le _ _, by omega, hbr.size⟩
      have k0 : (0 : Int) ≤ (i : Int) := by omega
      have k1 : (i : Int) < (n : Int) := by omega
      clear kc hx hg hbr HS hth2
      by_cases hm : x.k = 1
      · have hm' : (x.k == 1) = true := by simpa using hm
        have HM : Hid ((x.k == 1) = true) := hm'
        clear hm
        go_wp2_with (at_builtin; refine wpList_append_own _ rfl _ _ 45 rfl w.heap.size 78 i0 (.agg #[.int .i64 0, .int .i64 0, .int .i64 0, .int .i64 0, .int .i64 0, .int .i64 0, .int .u64 0]) 7 56 Try.underlying45 hi hz0 hz1 hz2 rfl (by decide) _ _ _ rfl ((HOWN.out.alloc _).alloc _) ⟨wr.heap.size + 1, 0, none⟩ 1 1 (toRt i x).sq rfl rfl ?c1 ?c2 ?c3 ?c4 ?c5 ?_)
        case c1 =>
          intro jj u hj
          have h := sq_news (wr.alloc (.cells #[.int .i64 x.k, .int .i64 x.p0, .int .i64 x.p1, .int .i64 x.p2, .int .i64 x.p3, .int .i64 x.lv, .int .i64 x.va, .int .u64 x.mask] 82)) (toRt i x) jj u hj
          rw [show (wr.alloc (.cells #[.int .i64 x.k, .int .i64 x.p0, .int .i64 x.p1, .int .i64 x.p2, .int .i64 x.p3, .int .i64 x.lv, .int .i64 x.va, .int .u64 x.mask] 82)).heap.size = wr.heap.size + 1 by simp] at h
          exact h
        case c2 => exact sq_ones _
        case c3 => unfold maxLen; have := HLB.out; omega
        case c4 => have := HLB.out; omega
        case c5 => have := HLB.out; simp; omega
        intro v' w9 hown' hgrow _
        go_wp2_with fail
        go_roundg (gk - 1)
        case measure => have := HIG.out; omega
        case rel => exact ⟨i + 1, v', by have := HIG.out; omega, by go_num, rfl, by rw [HS'.out, if_pos HM.out, sqL_append, sqL_one, List.length_append]; exact hown', ((HBR.out.alloc HBR.out.size _).alloc (by have := HBR.out.size; simp; omega) _).grown hgrow (by have := HBR.out.size; simp; omega) (fun g hg => (HOWN.out.lt g hg).1)⟩
      · have hm' : (x.k == 1) = false := by simpa using hm
        have HM : Hid ((x.k == 1) = false) := hm'
        clear hm
        go_wp2_with fail
        go_roundg (gk - 1)
        case measure => have := HIG.out; omega
        case rel => exact ⟨i + 1, sv, by have := HIG.out; omega, by go_num, rfl, by rw [HS'.out, if_neg (by rw [HM.out]; decide), List.append_nil]; exact HOWN.out.alloc _, HBR.out.alloc HBR.out.size _⟩
    · have k1 : ¬ (i : Int) < (n : Int) := by omega
      have HOW : Hid (wr.ownsRow w.heap.size 78 7 sv (onlySq (refL 0 A.ths)).length (sqL (onlySq (refL 0 A.ths)))) := by
        have h := HOWN.out
        rw [List.take_of_length_le (by rw [← HN.out]; omega)] at h
        exact h
      clear hbr
      go_wp2_with fail
      go_ret
      exact ⟨sv, rfl, HOW.out, HBR.out⟩
end Go.Proofs.Ytfogedmghhacdaa.A
