/- frame.Cut and what it calls. -/
import Derived.Test.YtpldaghhledjlaaGreatDoorFrKit
import Derived.Test.YtpldaghhledjlaaGreatDoorFrShelf
import Derived.Test.YtpldaghhledjlaaGreatDoorFrLines
import Derived.Lib.MinMax
namespace Go.Proofs.YtpldaghhledjlaaGreatDoor
open Go.RowKit

set_option maxHeartbeats 400000 in
theorem clone_any (s : ByteArray) (w : World) (hs : s.size ≤ 281474976710656) : Calls Tryz.prog 49 #[.string s] w fun e w' => e = .returned (.string s) ∧ Below w.heap.size w w' := by
  have c := Tryz.stringslite_Clone s w hs
  clear hs
  go_enter Tryz.func49, Tryz.ntmps49
  go_wp2_with fail
  refine c.mono ?_
  rintro e w1 ⟨rfl, hb⟩
  go_wp2_with fail
  go_ret
  exact ⟨rfl, hb⟩

set_option maxHeartbeats 400000 in
theorem told_any (l : List UInt8) (w : World) (hs : l.length ≤ 281474976710656) : Calls Tryz.prog 31 #[.string ⟨l.toArray⟩] w fun e w' => e = .returned (.string ⟨(toldL l).toArray⟩) ∧ Below w.heap.size w w' := by
  have c := clone_any ⟨l.toArray⟩ w (by rw [ba_size]; exact hs)
  obtain ⟨B, hB⟩ : ∃ B, B = (⟨l.toArray⟩ : ByteArray) := ⟨_, rfl⟩
  have hsz : B.size = l.length := by rw [hB]; exact ba_size l
  rw [← hB] at c ⊢
  have HB : Hid (B = ⟨l.toArray⟩) := hB
  clear hB
  obtain ⟨n, hn⟩ : ∃ n, n = l.length := ⟨_, rfl⟩
  rw [← hn] at hsz hs
  have HN : Hid (n = l.length) := hn
  clear hn
  go_enter Tryz.func31, Tryz.ntmps31
  by_cases h : 6000 < n
  · have h1 : (6000 : Int) < (n : Int) := by omega
    go_wp2_with fail
    go_ret
    exact ⟨by rw [toldL, if_pos (by rw [← HN.out]; exact h)]; rfl, Below.refl _ _⟩
  · have h1 : ¬ (6000 : Int) < (n : Int) := by omega
    go_wp2_with fail
    refine c.mono ?_
    rintro e w1 ⟨rfl, hb⟩
    go_wp2_with fail
    go_ret
    exact ⟨by rw [toldL, if_neg (by rw [← HN.out]; exact h), HB.out]; rfl, hb⟩

set_option maxHeartbeats 400000 in
theorem begin_any (l : List UInt8) (w : World) (hs : l.length ≤ 281474976710656) : Calls Tryz.prog 33 #[.string ⟨l.toArray⟩] w fun e w' => e = .returned (.string ⟨(l.take 6001).toArray⟩) ∧ Below w.heap.size w w' := by
  obtain ⟨k, hk⟩ : ∃ k, k = min l.length 6001 := ⟨_, rfl⟩
  have hx : (⟨l.toArray⟩ : ByteArray).extract 0 k = ⟨(l.take 6001).toArray⟩ := by
    rw [ba_take, hk]
    congr 2
    rw [List.take_eq_take_iff]
    omega
  have c := fun W => clone_any ⟨(l.take 6001).toArray⟩ W (by rw [ba_size, List.length_take]; omega)
  rw [← hx] at c
  have HX : Hid ((⟨l.toArray⟩ : ByteArray).extract 0 k = ⟨(l.take 6001).toArray⟩) := hx
  obtain ⟨B, hB⟩ : ∃ B, B = (⟨l.toArray⟩ : ByteArray) := ⟨_, rfl⟩
  have hsz : B.size = l.length := by rw [hB]; exact ba_size l
  rw [← hB] at c HX ⊢
  clear hx hB
  obtain ⟨n, hn⟩ : ∃ n, n = l.length := ⟨_, rfl⟩
  rw [← hn] at hsz hs hk
  clear hn
  have hk1 : k ≤ n := by omega
  have hkk : min (n : Int) 6001 = (k : Int) := by omega
  clear hk
  go_enter Tryz.func33, Tryz.ntmps33
  go_wp2_with fail
  refine (c _).mono ?_
  rintro e w1 ⟨rfl, hb⟩
  go_wp2_with fail
  go_ret
  exact ⟨by rw [HX.out]; rfl, hb⟩

/-- strings.SplitAfter at a line's end -/
def piecesOf (s : List UInt8) : List (List UInt8) := (linesA [] s).1.map (fun l => l ++ [10]) ++ [(linesA [] s).2]
theorem nlB_count (s : List UInt8) : Lib.countB ⟨s.toArray⟩ nlB + 1 = (piecesOf s).length := by
  have h := Lib.splitB_all nlB (by decide) 1 _ (⟨s.toArray⟩ : ByteArray) rfl
  rw [split_lines _ _ rfl] at h
  rw [piecesOf, ← h]
  simp
theorem pieces_cells (s : List UInt8) : Lib.cellsOf (Lib.splitB nlB 1 (Lib.countB ⟨s.toArray⟩ nlB) ⟨s.toArray⟩) ((piecesOf s).length) = ((piecesOf s).map fun l => Value.string ⟨l.toArray⟩).toArray := by
  rw [split_lines _ _ rfl, piecesOf]
  have : ((linesA [] s).1.map (fun l => (⟨(l ++ [10]).toArray⟩ : ByteArray)) ++ [(⟨(linesA [] s).2.toArray⟩ : ByteArray)]).length = ((linesA [] s).1.map (fun l => l ++ [10]) ++ [(linesA [] s).2]).length := by simp
  rw [← this, Lib.cellsOf_full]
  simp
theorem pieces_le (s : List UInt8) : (piecesOf s).length ≤ s.length + 1 := by
  have h := Lib.countB_le nlB (by decide) _ (⟨s.toArray⟩ : ByteArray) (Nat.le_refl _)
  rw [ba_size] at h
  rw [← nlB_count]
  omega
set_option maxHeartbeats 400000 in
theorem split_any (s : List UInt8) (m : Int) (w : World) (hs : s.length < 4294967281) (hm : w.cell? ⟨1, 0, none⟩ = some (.int .i64 m)) :
    Calls Tryz.prog 30 #[.string ⟨s.toArray⟩, .string ⟨#[10]⟩] w fun e w' => e = .returned (.slice (some ⟨w.heap.size, 0, none⟩) (piecesOf s).length (piecesOf s).length) ∧ w' = w.alloc (.cells ((piecesOf s).map fun l => Value.string ⟨l.toArray⟩).toArray 9) := by
  have c := Tryz.strings_genSplit ⟨s.toArray⟩ nlB 1 (-1) (piecesOf s).length m w (by rw [ba_size]; exact hs) hm (by decide) (by decide) (by decide) (by decide) (by
    rw [if_pos (by decide), ← nlB_count]
    have h := Lib.countB_le nlB (by decide) _ (⟨s.toArray⟩ : ByteArray) (Nat.le_refl _)
    have h2 : ((⟨s.toArray⟩ : ByteArray).size : Int) = (s.length : Int) := by rw [ba_size]
    rw [ba_size] at h
    omega)
  have h1 : (piecesOf s).length - 1 = Lib.countB ⟨s.toArray⟩ nlB := by rw [← nlB_count]; omega
  rw [h1, pieces_cells, Lib.splitB_all nlB (by decide) 1 _ (⟨s.toArray⟩ : ByteArray) rfl, nlB_count] at c
  generalize ((piecesOf s).map fun l => Value.string ⟨l.toArray⟩).toArray = cs at *
  generalize (piecesOf s).length = n at *
  generalize (⟨s.toArray⟩ : ByteArray) = B at *
  have c2 : Calls Tryz.prog 48 #[.string B, .string ⟨#[10]⟩, .int .i64 1, .int .i64 (-1)] w _ := c
  clear c h1 hs hm
  go_enter Tryz.func30, Tryz.ntmps30
  go_wp2_with fail
  refine c2.mono ?_
  rintro e w1 ⟨rfl, rfl⟩
  go_wp2_with fail
  go_ret
  exact ⟨rfl, rfl⟩

/-- a block of texts -/
def PBlock (w : World) (g : Nat) (fs : List (List UInt8)) : Prop := w.heap[g]? = some (.cells (fs.map fun l => Value.string ⟨l.toArray⟩).toArray 9 (0, 0))
theorem trim_line (l : List UInt8) : Lib.trimSuffix (l ++ [10]) [10] = l := by
  have h : Lib.hasSuffix (l ++ [10]) [10] = true := by
    rw [Lib.hasSuffix, List.isSuffixOf_iff_suffix]
    exact ⟨l, rfl⟩
  rw [Lib.trimSuffix, if_pos h]
  simp
theorem trim_any (l : List UInt8) (w : World) (hs : l.length < 4294967281) : Calls Tryz.prog 32 #[.string ⟨(l ++ [10]).toArray⟩, .string ⟨#[10]⟩] w fun e w' => e = .returned (.string ⟨l.toArray⟩) ∧ w' = w := by
  have c := Tryz.strings_TrimSuffix ⟨(l ++ [10]).toArray⟩ ⟨#[10]⟩ w (by rw [ba_size]; simp; omega)
  have e : Lib.trimSuffix (⟨(l ++ [10]).toArray⟩ : ByteArray).data.toList (⟨#[10]⟩ : ByteArray).data.toList = l := trim_line l
  rw [e] at c
  exact c

/-- the pieces, the first i of them told already -/
def curF (L : List (List UInt8)) (k : List UInt8) (i : Nat) : List (List UInt8) := (L.take i).map toldL ++ ((L.drop i).map (fun l => l ++ [10]) ++ [k])
theorem curF_zero (s : List UInt8) : curF (linesA [] s).1 (linesA [] s).2 0 = piecesOf s := rfl
theorem curF_len (L : List (List UInt8)) (k : List UInt8) (i : Nat) : (curF L k i).length = L.length + 1 := by
  simp only [curF, List.length_append, List.length_map, List.length_take, List.length_drop, List.length_cons, List.length_nil]
  omega
theorem curF_at {L : List (List UInt8)} {k : List UInt8} {i : Nat} (h : i < L.length) : (curF L k i)[i]? = some (L[i] ++ [10]) := by
  have hl : ((L.take i).map toldL).length = i := by rw [List.length_map, List.length_take]; omega
  rw [curF, List.getElem?_append_right (by omega), hl, Nat.sub_self, List.drop_eq_getElem_cons h]
  rfl
theorem curF_set {L : List (List UInt8)} {k : List UInt8} {i : Nat} (h : i < L.length) : (curF L k i).set i (toldL L[i]) = curF L k (i + 1) := by
  have hl : ((L.take i).map toldL).length = i := by rw [List.length_map, List.length_take]; omega
  have h2 : (curF L k i).set i (toldL L[i]) = (L.take i).map toldL ++ (((L.drop i).map (fun l => l ++ [10]) ++ [k]).set 0 (toldL L[i])) := by
    rw [curF, List.set_append_right _ _ (by omega), hl, Nat.sub_self]
  rw [h2, List.drop_eq_getElem_cons h, curF, List.take_succ_eq_append_getElem h, List.map_append, List.append_assoc]
  rfl
theorem PBlock.cell {w : World} {g : Nat} {fs : List (List UInt8)} (h : PBlock w g fs) {i : Nat} {l : List UInt8} (hi : fs[i]? = some l) : w.cell? ⟨g, i, none⟩ = some (.string ⟨l.toArray⟩) := by
  rw [Lib.cell_of_heap h, List.getElem?_toArray, List.getElem?_map, hi]
  rfl
theorem PBlock.free {w : World} {g : Nat} {fs : List (List UInt8)} (h : PBlock w g fs) (i : Nat) : w.frozen? ⟨g, i, none⟩ = false := by
  have h' : w.heap[g]? = some (.cells (fs.map fun l => Value.string ⟨l.toArray⟩).toArray 9 (0, 0)) := h
  simp [World.frozen?, h']
theorem PBlock.set {w : World} {g : Nat} {fs : List (List UInt8)} (h : PBlock w g fs) (i : Nat) (l : List UInt8) : PBlock (w.setCell ⟨g, i, none⟩ (.string ⟨l.toArray⟩)) g (fs.set i l) := by
  have h' : w.heap[g]? = some (.cells (fs.map fun l => Value.string ⟨l.toArray⟩).toArray 9 (0, 0)) := h
  have hlt : g < w.heap.size := by
    rcases Nat.lt_or_ge g w.heap.size with hx | hx
    · exact hx
    · rw [Array.getElem?_eq_none hx] at h'
      cases h'
  rw [Array.getElem?_eq_getElem hlt, Option.some.injEq] at h'
  show (w.heap.modify g _)[g]? = _
  rw [Array.getElem?_eq_getElem (by simpa using hlt), Array.getElem_modify_self, h']
  simp [List.map_set]
theorem PBlock.below {w w' : World} {g : Nat} {fs : List (List UInt8)} (h : PBlock w g fs) (hb : Below w.heap.size w w') : PBlock w' g fs := by
  have : g < w.heap.size := by
    rcases Nat.lt_or_ge g w.heap.size with h' | h'
    · exact h'
    · rw [PBlock, Array.getElem?_eq_none h'] at h
      cases h
  rw [PBlock, hb.block g this]
  exact h

theorem linesA_len : ∀ (s cur : List UInt8), (∀ l ∈ (linesA cur s).1, l.length ≤ cur.length + s.length) ∧ (linesA cur s).2.length ≤ cur.length + s.length
  | [], cur => ⟨fun l hl => by simp [linesA] at hl, by simp [linesA]⟩
  | c :: s, cur => by
    by_cases hc : c = 10
    · simp only [linesA, if_pos hc]
      obtain ⟨h1, h2⟩ := linesA_len s []
      simp only [List.length_nil, Nat.zero_add] at h1 h2
      refine ⟨fun l hl => ?_, by simp only [List.length_cons]; omega⟩
      rcases List.mem_cons.1 hl with rfl | hl
      · omega
      · have := h1 l hl
        simp only [List.length_cons]
        omega
    · simp only [linesA, if_neg hc]
      obtain ⟨h1, h2⟩ := linesA_len s (cur ++ [c])
      simp only [List.length_append, List.length_cons, List.length_nil] at h1 h2 ⊢
      exact ⟨fun l hl => by have := h1 l hl; omega, by omega⟩
theorem curF_end (s : List UInt8) : curF (linesA [] s).1 (linesA [] s).2 (linesA [] s).1.length = (linesA [] s).1.map toldL ++ [(linesA [] s).2] := by
  rw [curF, List.take_length, List.drop_length]
  rfl

/-- what Cut answers -/
def CutOut (s : List UInt8) (w : World) (e : Ending) (w' : World) : Prop :=
  Below w.heap.size w w' ∧ ∃ g rest, w.heap.size ≤ g ∧ e = .returned (.tuple #[.slice (some ⟨g, 0, none⟩) (cutA [] s).1.length (cutA [] s).1.length, .string ⟨(cutA [] s).2.toArray⟩]) ∧ PBlock w' g ((cutA [] s).1 ++ rest)

set_option maxRecDepth 20000 in
set_option maxHeartbeats 2000000 in
theorem cut_any (kept come : List UInt8) (m : Int) (w : World) (hs : (kept ++ come).length < 4294967281) (hm : w.cell? ⟨1, 0, none⟩ = some (.int .i64 m)) :
    Calls Tryz.prog 21 #[.string ⟨kept.toArray⟩, .string ⟨come.toArray⟩] w (CutOut (kept ++ come) w) := by
  have c1 := split_any (kept ++ come) m w hs hm
  have hcat := ba_app kept come
  have hk1 := ba_size kept
  have hk2 := ba_size come
  obtain ⟨s, hsd⟩ : ∃ s, s = kept ++ come := ⟨_, rfl⟩
  have hkl : kept.length + come.length < 4294967281 := by rw [← List.length_append]; exact hs
  rw [← hsd] at c1 hs hcat ⊢
  have hpl := pieces_le s
  obtain ⟨n, hn⟩ : ∃ n, n = (linesA [] s).1.length := ⟨_, rfl⟩
  have hpn : (piecesOf s).length = n + 1 := by rw [piecesOf, hn]; simp
  have HP : Hid (n = (linesA [] s).1.length ∧ s.length < 4294967281) := ⟨hn, hs⟩
  rw [hpn] at c1 hpl
  generalize (⟨s.toArray⟩ : ByteArray) = SB at *
  generalize (⟨kept.toArray⟩ : ByteArray) = KB at *
  generalize (⟨come.toArray⟩ : ByteArray) = CB at *
  have hn2 : n < 4294967281 := by omega
  clear hsd hn hpn hpl hm hs
  go_enter Tryz.func21, Tryz.ntmps21
  go_wp2_with fail
  refine c1.mono ?_
  rintro e w1 ⟨rfl, rfl⟩
  clear c1
  go_wp2_with fail
  have hb0 : Below w.heap.size w (w.alloc (.cells ((piecesOf s).map fun l => Value.string ⟨l.toArray⟩).toArray 9)) := (Below.refl _ _).alloc (Nat.le_refl _) _
  go_loopg [21] n (fun g s21 wr => ∃ i : Nat, i + g = n ∧ s21 = .int .i64 i ∧ PBlock wr w.heap.size (curF (linesA [] s).1 (linesA [] s).2 i) ∧ Below w.heap.size w wr)
  case atStart => exact ⟨0, by omega, rfl, heap_alloc_new w _, hb0⟩
  case round =>
    obtain ⟨i, hi, rfl, hp, hb⟩ := hrel
    have HI : Hid (i + gk = n) := hi
    have hin : i ≤ n := by omega
    clear hi
    by_cases hlt : i < n
    · have h0 : (0 : Int) ≤ (i : Int) := by omega
      have h1 : (i : Int) < (n : Int) := by omega
      have h2 : (i : Int) < (n : Int) + 1 := by omega
      have hL : i < (linesA [] s).1.length := by rw [← HP.out.1]; exact hlt
      have e1 := hp.cell (curF_at hL)
      have c2 := fun W => trim_any (linesA [] s).1[i] W (by have := (linesA_len s []).1 _ (List.getElem_mem hL); have := HP.out.2; simp only [List.length_nil] at *; omega)
      have c3 := fun W => told_any (linesA [] s).1[i] W (by have := (linesA_len s []).1 _ (List.getElem_mem hL); have := HP.out.2; simp only [List.length_nil] at *; omega)
      have HPB : Hid (PBlock wr w.heap.size (curF (linesA [] s).1 (linesA [] s).2 i)) := hp
      have HSET : Hid (∀ W, PBlock W w.heap.size (curF (linesA [] s).1 (linesA [] s).2 i) → PBlock (W.setCell ⟨w.heap.size, i, none⟩ (.string ⟨(toldL (linesA [] s).1[i]).toArray⟩)) w.heap.size (curF (linesA [] s).1 (linesA [] s).2 (i + 1))) := fun W h => by
        have := h.set i (toldL (linesA [] s).1[i])
        rwa [curF_set hL] at this
      generalize (⟨((linesA [] s).1[i] ++ [10]).toArray⟩ : ByteArray) = XB at *
      generalize (⟨((linesA [] s).1[i]).toArray⟩ : ByteArray) = YB at *
      generalize (⟨(toldL (linesA [] s).1[i]).toArray⟩ : ByteArray) = ZB at *
      clear hp hL
      go_wp2_with fail
      refine (c2 _).mono ?_
      rintro e w2 ⟨rfl, hw2⟩
      subst hw2
      clear c2
      go_wp2_with fail
      refine (c3 _).mono ?_
      rintro e w3 ⟨rfl, hb3⟩
      have hp3 := HPB.out.below hb3
      have e3 : w3.cell? ⟨w.heap.size, i, none⟩ = some (.string XB) := (World.cell?_of_block (a := ⟨w.heap.size, i, none⟩) (hb3.block _ (World.block_lt_of_cell? _ _ e1))).trans e1
      have f3 := hp3.free i
      have HP3 : Hid (PBlock w3 w.heap.size (curF (linesA [] s).1 (linesA [] s).2 i)) := hp3
      clear c3 hp3
      go_wp2_with fail
      go_roundg (gk - 1)
      case measure => have := HI.out; omega
      case rel =>
        refine ⟨i + 1, by have := HI.out; omega, by go_num, HSET.out _ HP3.out, ?_⟩
        exact (hb.trans (hb3.mono hb.size)).setCell (p := ⟨w.heap.size, i, none⟩) (Nat.le_refl _) _
    · have h1 : ¬ (i : Int) < (n : Int) := by omega
      have hiL : i = (linesA [] s).1.length := by rw [← HP.out.1]; omega
      have h0 : (0 : Int) ≤ (n : Int) := by omega
      have h2 : (n : Int) < (n : Int) + 1 := by omega
      rw [hiL, curF_end] at hp
      have hat : ((linesA [] s).1.map toldL ++ [(linesA [] s).2])[n]? = some (linesA [] s).2 := by
        rw [HP.out.1, List.getElem?_append_right (by simp), List.length_map, Nat.sub_self]
        rfl
      have e1 := hp.cell hat
      have c2 := fun W => begin_any (linesA [] s).2 W (by have := (linesA_len s []).2; have := HP.out.2; simp only [List.length_nil] at *; omega)
      have hset : ((linesA [] s).1.map toldL ++ [(linesA [] s).2]).set n ((linesA [] s).2.take 6001) = (linesA [] s).1.map toldL ++ [(linesA [] s).2.take 6001] := by
        rw [HP.out.1, List.set_append_right _ _ (by simp), List.length_map, Nat.sub_self]
        rfl
      have HSET : Hid (∀ W, PBlock W w.heap.size ((linesA [] s).1.map toldL ++ [(linesA [] s).2]) → PBlock (W.setCell ⟨w.heap.size, n, none⟩ (.string ⟨((linesA [] s).2.take 6001).toArray⟩)) w.heap.size ((linesA [] s).1.map toldL ++ [(linesA [] s).2.take 6001])) := fun W h => by
        have := h.set n ((linesA [] s).2.take 6001)
        rwa [hset] at this
      have HPB : Hid (PBlock wr w.heap.size ((linesA [] s).1.map toldL ++ [(linesA [] s).2])) := hp
      obtain ⟨ZB, hZB⟩ : ∃ Z, Z = (⟨((linesA [] s).2.take 6001).toArray⟩ : ByteArray) := ⟨_, rfl⟩
      have HZB : Hid (ZB = ⟨((linesA [] s).2.take 6001).toArray⟩) := hZB
      rw [← hZB] at c2 HSET
      generalize (⟨((linesA [] s).2).toArray⟩ : ByteArray) = YB at *
      clear hp hat hset hiL hin hZB
      go_wp2_with fail
      refine (c2 _).mono ?_
      rintro e w3 ⟨rfl, hb3⟩
      have hp3 := HPB.out.below hb3
      have e3 : w3.cell? ⟨w.heap.size, n, none⟩ = some (.string YB) := (World.cell?_of_block (a := ⟨w.heap.size, n, none⟩) (hb3.block _ (World.block_lt_of_cell? _ _ e1))).trans e1
      have f3 := hp3.free n
      have HP3 : Hid (PBlock w3 w.heap.size ((linesA [] s).1.map toldL ++ [(linesA [] s).2])) := hp3
      clear c2 hp3
      go_wp2_with fail
      have hp4 := HSET.out _ HP3.out
      have e4 : (w3.setCell ⟨w.heap.size, n, none⟩ (.string ZB)).drew.cell? ⟨w.heap.size, n, none⟩ = some (.string ZB) := by
        have h := hp4.cell (i := n) (l := (linesA [] s).2.take 6001) (by
          rw [HP.out.1, List.getElem?_append_right (by simp), List.length_map, Nat.sub_self]
          rfl)
        rw [← HZB.out] at h
        exact h
      have HP4 : Hid (PBlock (w3.setCell ⟨w.heap.size, n, none⟩ (.string ZB)) w.heap.size ((linesA [] s).1.map toldL ++ [(linesA [] s).2.take 6001])) := hp4
      clear hp4
      go_region
      go_wp2_with fail
      go_ret2
      refine ⟨((hb.trans (hb3.mono hb.size)).setCell (p := ⟨w.heap.size, n, none⟩) (Nat.le_refl _) _).drew, w.heap.size, [(linesA [] s).2.take 6001], Nat.le_refl _, ?_, HP4.out⟩
      have hl : (cutA [] s).1.length = n := by rw [cutA, List.length_map, HP.out.1]
      rw [hl, HZB.out]
      rfl
end Go.Proofs.YtpldaghhledjlaaGreatDoor
