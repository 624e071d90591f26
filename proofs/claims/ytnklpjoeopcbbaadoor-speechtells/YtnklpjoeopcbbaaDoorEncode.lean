/- rle.Encode: what it answers. -/
import Derived.Test.YtnklpjoeopcbbaaDoorBody2
import Derived.Test.YtnklpjoeopcbbaaDoorEncPure
namespace Go.Proofs.YtnklpjoeopcbbaaDoor
open Go.Shelf Go.RowKit

set_option maxRecDepth 20000 in
set_option maxHeartbeats 2000000 in
theorem body_none (B b : Nat) (a : Option Addr) (c : Nat) (x0 y0 x1 y1 : Int) (l0 : List UInt8) (w : World) (h : IsW B b l0 0 w) (hv : Vars w) (hB : B ≤ w.heap.size) (hl0 : l0.length ≤ 2000) :
    Calls Tryd.prog 44 #[.pointer (some ⟨b, 0, none⟩), .slice a 0 c, .agg #[.int .i64 x0, .int .i64 y0, .int .i64 x1, .int .i64 y1]] w fun e w' => e = .returned (.tuple #[]) ∧ IsW B b (l0 ++ bodyT x0 y0 []) 1 w' ∧ Left B b w w' := by
  have hb0 : Below w.heap.size w (w.alloc (.cells #[.int .i64 x0, .int .i64 y0, .int .i64 x1, .int .i64 y1] 25)).drew := ((Below.refl _ _).alloc (Nat.le_refl _) _).drew
  have g0 : IsW B b (soFar l0 []) (lineOf []) (w.alloc (.cells #[.int .i64 x0, .int .i64 y0, .int .i64 x1, .int .i64 y1] 25)).drew := by
    have := h.go hb0
    simpa [soFar, lineOf, lay, layK] using this
  have hgo := piece_more B b l0 [] 1 33 _ g0 (hv.go hb0 hv.room) (Nat.le_trans hB hb0.size) (by omega) (by intro p hp; simp at hp) (by simp) (by omega)
  have hpt : pieceT (1, 33) = [33] := by simp [pieceT]
  have e0 : soFar l0 ([] ++ [(1, 33)]) = l0 ++ [33] := by simp [soFar, hpt, lay]
  have e1 : lineOf ([] ++ [(1, 33)]) = 1 := by simp [lineOf, hpt, layK]
  have e2 : l0 ++ bodyT x0 y0 [] = l0 ++ [33] ++ [10] := by simp [bodyT, pieces, lay]
  rw [e0, e1] at hgo
  rw [e2]
  clear e0 e1 e2 hpt
  have hf0 : Left B b w (w.alloc (.cells #[.int .i64 x0, .int .i64 y0, .int .i64 x1, .int .i64 y1] 25)).drew := Left.of hb0 hB
  have hz := hb0.size
  clear g0 hb0
  go_enter Tryd.func44, Tryd.ntmps44
  go_wp2_with fail
  go_region
  go_wp2_with fail
  refine wp_loop_rounds 1 ?_
  rw [rounds_succ]
  go_wp2_with fail
  refine hgo.mono ?_
  rintro e w2 ⟨rfl, g2, l2⟩
  have hwb := wByte_any B b (l0 ++ [33]) 1 10 w2 g2 (by simp; omega) (Nat.le_trans (Nat.le_trans hB hz) l2.1.size)
  go_wp2_with fail
  refine hwb.mono ?_
  rintro e w3 ⟨rfl, g3, l3⟩
  go_wp2_with fail
  go_end0
  exact ⟨rfl, g3, (hf0.trans l2).trans l3⟩

/-- what Encode answers -/
def EncOut (zs : List (Int × Int)) (b l : Int) (w : World) (e : Ending) (w' : World) : Prop :=
  ∃ ys, Tidied zs ys ∧ e = .returned (.tuple #[.string ⟨(encF ys (tcode zs) b l).1.toArray⟩, .int .i64 (encF ys (tcode zs) b l).2]) ∧ Below w.heap.size w w'

set_option maxRecDepth 20000 in
set_option maxHeartbeats 2000000 in
theorem encode_bad (v : Value) (zs : List (Int × Int)) (b l : Int) (w : World) (h : Row w v zs) (hc : tcode zs ≠ 0 ∨ goodB b l = false) :
    Calls Tryd.prog 25 #[v, .agg #[.int .i64 b, .int .i64 l]] w (EncOut zs b l w) := by
  have q0 := RuleIn.born w b l 27
  have hb0 : Below w.heap.size w (w.alloc (.cells #[.int .i64 b, .int .i64 l] 27)) := q0.2.2.2.2.2
  have htd := tidy_told v zs _ (h.below hb0)
  have htx := fun W => text_any b l W
  go_enter Tryd.func25, Tryd.ntmps25
  go_wp2_with fail
  refine htd.mono ?_
  rintro e w1 ⟨u, ys, rfl, c1, ht, ho⟩
  have q1 := q0.go c1
  by_cases htc : tcode zs = 0
  · have hg : goodB b l = false := hc.elim (fun h => absurd htc h) id
    have he : encF ys (tcode zs) b l = ([], 3) := by simp [encF, htc, hg]
    have hv : textV b l = .tuple #[.string ⟨#[]⟩, .int .i64 3] := by rw [textV, if_neg (by rw [hg]; simp)]
    rw [hv] at htx
    have HE : Hid (encF ys (tcode zs) b l = ([], 3)) := he
    obtain ⟨r0, r1, _⟩ := id q1
    rw [htc]
    clear he hv hg hc
    go_wp2_with fail
    refine (htx _).mono ?_
    rintro e w2 ⟨rfl, c2⟩
    have q2 := q1.go c2
    go_wp2_with fail
    go_ret2
    exact ⟨ys, ht, by rw [HE.out]; rfl, q2.2.2.2.2.2⟩
  · have he : encF ys (tcode zs) b l = ([], tcode zs) := by simp [encF, htc]
    have HE : Hid (encF ys (tcode zs) b l = ([], tcode zs)) := he
    have hne : (tcode zs != 0) = true := by simpa using htc
    clear he hc
    go_wp2_with fail
    go_ret2
    exact ⟨ys, ht, by rw [HE.out]; rfl, q1.2.2.2.2.2⟩

set_option maxRecDepth 20000 in
set_option maxHeartbeats 4000000 in
theorem encode_good (v : Value) (zs : List (Int × Int)) (b l : Int) (w : World) (h : Row w v zs) (hv : Vars w) (htc : tcode zs = 0) (hg : goodB b l = true) :
    Calls Tryd.prog 25 #[v, .agg #[.int .i64 b, .int .i64 l]] w (EncOut zs b l w) := by
  have q0 := RuleIn.born w b l 27
  have hb0 : Below w.heap.size w (w.alloc (.cells #[.int .i64 b, .int .i64 l] 27)) := q0.2.2.2.2.2
  have htd := tidy_told v zs _ (h.below hb0)
  have htx := fun W => text_any b l W
  have hvt : textV b l = .tuple #[.string ⟨(textL b l).toArray⟩, .int .i64 0] := by rw [textV, if_pos hg]
  rw [hvt] at htx
  have hr8 := hv.room
  rw [htc] at htd
  have HC : Hid (tcode zs = 0 ∧ goodB b l = true) := ⟨htc, hg⟩
  clear hvt htc hg
  go_enter Tryd.func25, Tryd.ntmps25
  go_wp2_with fail
  refine htd.mono ?_
  rintro e w1 ⟨u, ys, rfl, c1, ht, ho⟩
  have q1 := q0.go c1
  obtain ⟨r0, r1, _⟩ := id q1
  go_wp2_with fail
  refine (htx _).mono ?_
  rintro e w2 ⟨rfl, c2⟩
  have q2 := q1.go c2
  have ho2 := (ho.below c2).read
  have hv2 : Vars w2 := hv.go q2.2.2.2.2.2 hr8
  clear htd htx r0 r1 q0 q1 hb0
  have HT : Hid (Tidied zs ys) := ht
  have hnear := tidied_near ht
  have hlen := tidied_short ht HC.out.1
  have htidy := ht.1
  -- the writer
  have g3 := IsW.born w2
  have hb3 : Below w2.heap.size w2 (w2.alloc (.cells #[.pointer none, .slice none 0 0, .int .i64 0] 72)) := (Below.refl _ _).alloc (Nat.le_refl _) _
  have ho3 := ho2.below hb3
  have hob := ho2
  have hbd := bounds_any u ys.length (fun j => (ys[j]!).1) (fun j => (ys[j]!).2) _ ho3.isRow
  have HN : Hid (ys.any farP = false) := hnear
  clear hnear
  go_wp2_with fail
  refine hbd.mono ?_
  rintro e w4 ⟨rfl, c4⟩
  have hz4 : w2.heap.size + 1 ≤ w4.heap.size := by have := c4.size; simpa using this
  have hv4 : Vars w4 := (hv2.go hb3 hv2.room).go c4 (by have := hv2.room; simp; omega)
  have g4 := g3.go c4
  have F4 : Below w2.heap.size w2 w4 := hb3.trans (c4.mono (by simp))
  have ho4 := ho3.below c4
  have hbn := box_near ys HN.out
  have hw0 := wOf_nonneg ys
  have hw1 := wOf_le ys HN.out
  have htl := textL_length b l
  have hrsz : (⟨(textL b l).toArray⟩ : ByteArray).size ≤ 1000 := by show (textL b l).toArray.size ≤ 1000; rw [List.size_toArray]; omega
  have hrdl : (⟨(textL b l).toArray⟩ : ByteArray).data.toList = textL b l := rfl
  obtain ⟨rt, hrt⟩ : ∃ rt : ByteArray, rt = ⟨(textL b l).toArray⟩ := ⟨_, rfl⟩
  rw [← hrt] at hrsz hrdl ⊢
  have HR : Hid (rt.data.toList = textL b l) := hrdl
  clear hrdl hrt hbd g3 hb3 ho3 ho2 c4 ho
  have hbox : boxOf (fun j => (ys[j]!).1) (fun j => (ys[j]!).2) ys.length = .tuple #[.agg #[.int .i64 (loX ys), .int .i64 (loY ys), .int .i64 (hiX ys), .int .i64 (hiY ys)], .bool (decide (0 < ys.length))] := rfl
  rw [hbox]
  clear hbox
  have hb5 : Below w4.heap.size w4 (w4.alloc (.cells #[.int .i64 (loX ys), .int .i64 (loY ys), .int .i64 (hiX ys), .int .i64 (hiY ys)] 25)) := (Below.refl _ _).alloc (Nat.le_refl _) _
  have hbx5 : (w4.alloc (.cells #[.int .i64 (loX ys), .int .i64 (loY ys), .int .i64 (hiX ys), .int .i64 (hiY ys)] 25)).heap[w4.heap.size]? = some (.cells #[.int .i64 (loX ys), .int .i64 (loY ys), .int .i64 (hiX ys), .int .i64 (hiY ys)] 25 (0, 0)) := heap_alloc_new w4 _
  have g5 := g4.go hb5
  have hv5 := hv4.go hb5 hv4.room
  have hr2 := hv2.room
  by_cases hn0 : ys.length = 0
  · have hys : ys = [] := List.length_eq_zero_iff.1 hn0
    have hhd := head_any w2.heap.size w2.heap.size 0 0 rt _ g5 hv5 (by have := hb5.size; omega) hr2 (by omega) (by omega) hrsz
    have hd : decide (0 < ys.length) = false := by simp [hn0]
    have hu : u = .slice none 0 0 := by
      rcases ho4 with ⟨_, h⟩ | ⟨h, _⟩
      · exact h
      · exact absurd hys h
    subst hu
    have HE : Hid (encT ys b l = headT 0 0 (textL b l) ++ bodyT (loX ys) (loY ys) []) := by
      show _ = _
      unfold encT wOf hOf
      rw [if_pos hn0, if_pos hn0, hys]
    rw [hd]
    clear hd ho4 hys hn0 hlen
    generalize hX0 : loX ys = X0 at *
    generalize hY0 : loY ys = Y0 at *
    generalize hX1 : hiX ys = X1 at *
    generalize hY1 : hiY ys = Y1 at *
    clear hX0 hY0 hX1 hY1
    go_wp2_with fail
    refine hhd.mono ?_
    rintro e w6 ⟨rfl, g6, l6⟩
    have hbx6 := l6.2 _ _ hbx5 (by intro e; have := Option.some.inj e; omega) (by intro c fz e; cases e)
    have c0 : w6.cell? ⟨w4.heap.size, 0, none⟩ = some (.int .i64 X0) := by rw [Lib.cell_of_heap hbx6]; rfl
    have c1' : w6.cell? ⟨w4.heap.size, 1, none⟩ = some (.int .i64 Y0) := by rw [Lib.cell_of_heap hbx6]; rfl
    have c2' : w6.cell? ⟨w4.heap.size, 2, none⟩ = some (.int .i64 X1) := by rw [Lib.cell_of_heap hbx6]; rfl
    have c3' : w6.cell? ⟨w4.heap.size, 3, none⟩ = some (.int .i64 Y1) := by rw [Lib.cell_of_heap hbx6]; rfl
    have hbo := body_none w2.heap.size w2.heap.size none 0 X0 Y0 X1 Y1 (headT 0 0 rt.data.toList) w6 g6 (hv5.go l6.1 hr2) (by have := hb5.size; have := l6.1.size; omega) (by
      rw [HR.out]
      simp [headT, Lib.itoa, Lib.decDigits]
      omega)
    clear hbx6 hbx5
    go_wp2_with fail
    refine hbo.mono ?_
    rintro e w7 ⟨rfl, g7, l7⟩
    have hst := wText_any w2.heap.size w2.heap.size _ _ w7 g7 (by simp [headT])
    have HX : Hid (encF ys (tcode zs) b l = (headT 0 0 rt.data.toList ++ bodyT X0 Y0 [], 0)) := by
      show _ = _
      rw [encF, if_neg (by rw [HC.out.1]; simp), if_pos HC.out.2, HE.out, HR.out]
    clear hbo g7
    generalize headT 0 0 rt.data.toList ++ bodyT X0 Y0 [] = tx at *
    go_wp2_with fail
    refine hst.mono ?_
    rintro e w8 ⟨rfl, c8⟩
    go_wp2_with fail
    go_ret2
    refine ⟨ys, HT.out, ?_, ?_⟩
    · rw [HX.out]; rfl
    · have q3 : Below w2.heap.size w2 w8 := ((F4.trans (hb5.mono (by omega))).trans l6.1).trans (l7.1.trans c8)
      exact (q2.go q3).2.2.2.2.2
  · have hW : wOf ys = hiX ys - loX ys + 1 := by rw [wOf, if_neg hn0]
    have hH : hOf ys = hiY ys - loY ys + 1 := by rw [hOf, if_neg hn0]
    have hhd := head_any w2.heap.size w2.heap.size (wOf ys) (hOf ys) rt _ g5 hv5 (by have := hb5.size; omega) hr2 (by omega) (by omega) hrsz
    have hd : decide (0 < ys.length) = true := by simp; omega
    have HE : Hid (encT ys b l = headT (wOf ys) (hOf ys) (textL b l) ++ bodyT (loX ys) (loY ys) ys) := rfl
    have hbo' := fun W lh (gW : IsW w2.heap.size w2.heap.size lh 0 W) (vW : Vars W) (zW : w2.heap.size ≤ W.heap.size) (hlh : lh.length ≤ 2000) lb off c (h1 : lb < w2.heap.size) (h2 : ys.length ≤ c) (h3 : c ≤ maxLen) (h4 : HoldsR W lb off ys) =>
      body_some w2.heap.size w2.heap.size lb off ys.length c (loX ys) (loY ys) (hiX ys) (hiY ys) lh ys W gW vW zW hr2 hlh h1 rfl hlen h2 h3 h4 HN.out
        (told_box ys htidy _ _ (fun p hp => by have := mem_box ys p hp; omega) (fun p hp => by have := mem_box ys p hp; omega)) (by omega)
    obtain ⟨lb, off, c, rfl, hlb, hlc, hcm, hhr⟩ : ∃ lb off c, u = .slice (some ⟨lb, off, none⟩) ys.length c ∧ lb < w2.heap.size ∧ ys.length ≤ c ∧ c ≤ maxLen ∧ HoldsR w2 lb off ys := by
      rcases hob with ⟨h, _⟩ | ⟨_, lb, off, c, h1, h2, h3, h4, h5⟩
      · exact absurd (List.length_eq_zero_iff.2 h) hn0
      · exact ⟨lb, off, c, h1, h2, h3, h4, h5⟩
    have hll : (headT (wOf ys) (hOf ys) rt.data.toList).length ≤ 2000 := by
      have h1 := Lib.itoa_length_le (wOf ys) (by omega) (by omega)
      have h2 := Lib.itoa_length_le (hOf ys) (by omega) (by omega)
      rw [HR.out]
      simp [headT]
      omega
    have hww : IntKind.i64.wrap (hiX ys - loX ys) = hiX ys - loX ys := by rw [IntKind.wrap_i64]; omega
    have hwh : IntKind.i64.wrap (hiY ys - loY ys) = hiY ys - loY ys := by rw [IntKind.wrap_i64]; omega
    rw [hd]
    rw [hW, hH] at hhd
    have HWH : Hid (wOf ys = hiX ys - loX ys + 1 ∧ hOf ys = hiY ys - loY ys + 1) := ⟨hW, hH⟩
    clear hd ho4 hn0 hW hH hw0 hw1
    generalize hX0 : loX ys = X0 at *
    generalize hY0 : loY ys = Y0 at *
    generalize hX1 : hiX ys = X1 at *
    generalize hY1 : hiY ys = Y1 at *
    clear hX0 hY0 hX1 hY1
    obtain ⟨n1, n2, n3, n4, n5, n6, n7, n8⟩ := hbn
    go_wp2_with fail
    refine hhd.mono ?_
    rintro e w6 ⟨rfl, g6, l6⟩
    have hbx6 := l6.2 _ _ hbx5 (by intro e; have := Option.some.inj e; omega) (by intro c fz e; cases e)
    have c0 : w6.cell? ⟨w4.heap.size, 0, none⟩ = some (.int .i64 X0) := by rw [Lib.cell_of_heap hbx6]; rfl
    have c1' : w6.cell? ⟨w4.heap.size, 1, none⟩ = some (.int .i64 Y0) := by rw [Lib.cell_of_heap hbx6]; rfl
    have c2' : w6.cell? ⟨w4.heap.size, 2, none⟩ = some (.int .i64 X1) := by rw [Lib.cell_of_heap hbx6]; rfl
    have c3' : w6.cell? ⟨w4.heap.size, 3, none⟩ = some (.int .i64 Y1) := by rw [Lib.cell_of_heap hbx6]; rfl
    have F6 : Below w2.heap.size w2 w6 := (F4.trans (hb5.mono (by omega))).trans l6.1
    have hbo := hbo' w6 (headT (X1 - X0 + 1) (Y1 - Y0 + 1) rt.data.toList) g6 (hv5.go l6.1 hr2) (by have := F6.size; omega) (by rw [← HWH.out.1, ← HWH.out.2]; exact hll) lb off c hlb hlc hcm (hhr.below F6 hlb)
    clear hbx6 hbx5 hbo'
    go_wp2_with fail
    refine hbo.mono ?_
    rintro e w7 ⟨rfl, g7, l7⟩
    have hst := wText_any w2.heap.size w2.heap.size _ _ w7 g7 (by simp [headT])
    have HX : Hid (encF ys (tcode zs) b l = (headT (X1 - X0 + 1) (Y1 - Y0 + 1) rt.data.toList ++ bodyT X0 Y0 ys, 0)) := by
      show _ = _
      rw [encF, if_neg (by rw [HC.out.1]; simp), if_pos HC.out.2, HE.out, HR.out, HWH.out.1, HWH.out.2]
    clear hbo g7
    generalize headT (X1 - X0 + 1) (Y1 - Y0 + 1) rt.data.toList ++ bodyT X0 Y0 ys = tx at *
    go_wp2_with fail
    refine hst.mono ?_
    rintro e w8 ⟨rfl, c8⟩
    go_wp2_with fail
    go_ret2
    refine ⟨ys, HT.out, ?_, ?_⟩
    · rw [HX.out]; rfl
    · have q3 : Below w2.heap.size w2 w8 := F6.trans (l7.1.trans c8)
      exact (q2.go q3).2.2.2.2.2

theorem encode_any (v : Value) (zs : List (Int × Int)) (b l : Int) (w : World) (h : Row w v zs) (hv : Vars w) :
    Calls Tryd.prog 25 #[v, .agg #[.int .i64 b, .int .i64 l]] w (EncOut zs b l w) := by
  by_cases htc : tcode zs = 0
  · cases hg : goodB b l with
    | true => exact encode_good v zs b l w h hv htc hg
    | false => exact encode_bad v zs b l w h (Or.inr hg)
  · exact encode_bad v zs b l w h (Or.inl htc)
end Go.Proofs.YtnklpjoeopcbbaaDoor
