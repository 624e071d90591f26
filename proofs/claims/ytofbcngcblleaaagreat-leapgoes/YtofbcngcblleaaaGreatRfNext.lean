/- The document's Next. -/
import Derived.Test.YtofbcngcblleaaaGreatQuCount
import Derived.Test.YtofbcngcblleaaaGreatRfPure
import Derived.Deep.LoopGhost
import Derived.Deep.RegionHeld3
import Derived.Deep.AppendLies
namespace Go.Proofs.YtofbcngcblleaaaGreat.A
open Go.RowKit Go.Lib Go.Sort
def TidyOutK (zs : List (Int × Int)) (w : World) (e : Ending) (w' : World) : Prop :=
  ∃ u code, e = .returned (.tuple #[u, .int .i64 code]) ∧ Below w.heap.size w w' ∧
    ((4096 < zs.length ∧ code = 5 ∧ u = .slice none 0 0) ∨ (zs.length ≤ 4096 ∧ zs.any farP = true ∧ code = 3 ∧ u = .slice none 0 0) ∨
    (zs.length ≤ 4096 ∧ zs.any farP = false ∧ code = 0 ∧ ∃ ys, Tidy ys ∧ (∀ p, p ∈ ys ↔ p ∈ zs) ∧ Kept w' w.heap.size u ys))
set_option maxHeartbeats 2000000 in
theorem refTidyK_many (a : Option Addr) (c : Nat) (zs : List (Int × Int)) (w : World) (hbig : 4096 < zs.length) (hm : zs.length ≤ 9223372036854775807) :
    Calls Tryz.prog 32 #[.slice a zs.length c] w fun e w' => TidyOutK zs w e w' := by
  have hd : (4096 : Int) < (zs.length : Int) := by omega
  go_enter Tryz.func32, Tryz.ntmps32
  go_wp2
  go_ret2
  exact ⟨_, _, rfl, Below.refl _ _, Or.inl ⟨hbig, rfl, rfl⟩⟩
set_option maxHeartbeats 2000000 in
theorem refTidyK_none (a : Option Addr) (c : Nat) (w : World) :
    Calls Tryz.prog 32 #[.slice a 0 c] w fun e w' => TidyOutK [] w e w' := by
  go_enter Tryz.func32, Tryz.ntmps32
  go_wp2
  refine wp_loop_rounds 1 ?_
  rw [rounds_succ]
  go_wp2
  refine wp_loop_rounds 1 ?_
  rw [rounds_succ]
  go_wp2
  go_ret2
  exact ⟨_, _, rfl, Below.refl _ _, Or.inr (Or.inr ⟨by simp, rfl, rfl, [], List.Pairwise.nil, fun p => Iff.rfl, Or.inl ⟨rfl, rfl⟩⟩)⟩
set_option maxHeartbeats 2000000 in
theorem refTidyK_some (b off c : Nat) (zs : List (Int × Int)) (w : World) (hb : b < w.heap.size) (hn : zs.length ≤ 4096) (hH : HoldsR w b off zs) :
    Calls Tryz.prog 32 #[.slice (some ⟨b, off, none⟩) zs.length c] w fun e w' => TidyOutK zs w e w' := by
  have HH : Hid (HoldsR w b off zs) := hH
  clear hH
  generalize hl : zs.length = n at *
  have HL : Hid (zs.length = n) := hl
  clear hl
  have hd : ¬ (4096 : Int) < (n : Int) := by omega
  go_enter Tryz.func32, Tryz.ntmps32
  go_wp2
  go_loopg [13] n (fun g s wr => ∃ k : Nat, k + g = n ∧ s = .int .i64 k ∧ wr = w ∧ ∀ j, j < k → farP zs[j]! = false)
  case atStart => exact ⟨0, by omega, rfl, rfl, fun j hj => by omega⟩
  case round =>
    obtain ⟨k, hk, rfl, hw, hfar⟩ := hrel
    have hw' := hw.symm
    subst hw'
    clear hw
    have HK : Hid (k + gk = n) := hk
    have HF : Hid (∀ j, j < k → farP zs[j]! = false) := hfar
    have hkn : k ≤ n := by omega
    clear hk hfar
    by_cases hlt : k < n
    · obtain ⟨c0, c1⟩ := HH.out k (by rw [HL.out]; exact hlt)
      generalize hz : zs[k]! = z at c0 c1
      have HZ : Hid (zs[k]! = z) := hz
      clear hz
      obtain ⟨x, y⟩ := z
      have hcx := far_any x
      have hcy := far_any y
      have hi2 : (k : Int) < (n : Int) := by omega
      cases hx : farI x
      · rw [hx] at hcx
        cases hy : farI y
        · rw [hy] at hcy
          have HXY : Hid (farI x = false ∧ farI y = false) := ⟨hx, hy⟩
          clear hx hy
          go_wp2_with (first | (go_at_call_of 62 x; refine (hcx _).mono ?_; rintro e w' ⟨rfl, rfl⟩) | (go_at_call_of 62 y; refine (hcy _).mono ?_; rintro e w' ⟨rfl, rfl⟩))
          go_roundg (gk - 1)
          case measure => have := HK.out; omega
          case rel =>
            have := HK.out
            refine ⟨k + 1, by omega, by go_num, rfl, fun j hj => ?_⟩
            by_cases e : j = k
            · rw [e, HZ.out]; simp [farP, HXY.out.1, HXY.out.2]
            · exact HF.out j (by omega)
        · rw [hy] at hcy
          have HXY : Hid (farI y = true) := hy
          clear hx hy
          go_wp2_with (first | (go_at_call_of 62 x; refine (hcx _).mono ?_; rintro e w' ⟨rfl, rfl⟩) | (go_at_call_of 62 y; refine (hcy _).mono ?_; rintro e w' ⟨rfl, rfl⟩))
          go_ret2
          exact ⟨_, _, rfl, Below.refl _ _, Or.inr (Or.inl ⟨by rw [HL.out]; exact hn, any_true_of (k := k) (by rw [HL.out]; exact hlt) (by rw [HZ.out]; simp [farP, HXY.out]), rfl, rfl⟩)⟩
      · rw [hx] at hcx
        have HXY : Hid (farI x = true) := hx
        clear hx
        go_wp2_with (first | (go_at_call_of 62 x; refine (hcx _).mono ?_; rintro e w' ⟨rfl, rfl⟩))
        go_ret2
        exact ⟨_, _, rfl, Below.refl _ _, Or.inr (Or.inl ⟨by rw [HL.out]; exact hn, any_true_of (k := k) (by rw [HL.out]; exact hlt) (by rw [HZ.out]; simp [farP, HXY.out]), rfl, rfl⟩)⟩
    · have hke : k = n := by omega
      subst hke
      go_wp2
      go_loopg [5, 33] k (fun g s5 s33 wq => ∃ (m : Nat) (ys : List (Int × Int)), m + g = k ∧ s33 = .int .i64 m ∧ Kept wq w.heap.size s5 ys ∧ Tidy ys ∧ (∀ p, p ∈ ys ↔ ∃ j, j < m ∧ zs[j]! = p) ∧ ys.length ≤ m ∧ Below w.heap.size w wq)
      case atStart => exact ⟨0, [], by omega, rfl, Or.inl ⟨rfl, rfl⟩, List.Pairwise.nil, fun p => by simp, Nat.le_refl _, Below.refl _ _⟩
      case round =>
        obtain ⟨m, ys, hm, rfl, hkept, hty, hmem, hyl, hbel⟩ := hrel
        have HM : Hid (m + gk = k) := hm
        have HQ : Hid (Tidy ys ∧ (∀ p, p ∈ ys ↔ ∃ j, j < m ∧ zs[j]! = p) ∧ ys.length ≤ m) := ⟨hty, hmem, hyl⟩
        have KP : Hid (Kept wr w.heap.size u5 ys) := hkept
        have hmk : m ≤ k := by omega
        have hsz := hbel.size
        clear hm hty hmem hyl hkept
        by_cases hlt2 : m < k
        · obtain ⟨c0, c1⟩ := HH.out m (by rw [HL.out]; exact hlt2)
          rw [← hbel.cell (p := ⟨b, off + m * 2, none⟩) hb] at c0
          rw [← hbel.cell (p := ⟨b, off + m * 2 + 1, none⟩) hb] at c1
          generalize hz : zs[m]! = z at c0 c1
          have HZ : Hid (zs[m]! = z) := hz
          clear hz
          have hi2 : (m : Int) < (k : Int) := by omega
          go_wp2_with fail
          refine (put_any u5 w.heap.size ys z _ (by simp; omega) (KP.out.block (fun g hg => Below.heap_alloc _ _ _ hg)) HQ.out.1 (by have := HQ.out.2.2; omega)).mono ?_
          rintro e w1 ⟨u, ts, rfl, ht1, ht2, ht3, ht4, ht5, ht6⟩
          have hb1 : Below w.heap.size w w1 := (hbel.alloc hsz _).trans ht6
          have HN : Hid (Tidy ts ∧ (∀ p, p ∈ ts ↔ p = z ∨ p ∈ ys) ∧ ts ≠ [] ∧ ts.length ≤ ys.length + 1 ∧ w1.ownsRow w.heap.size 52 2 u ts.length (cellsL ts)) := ⟨ht1, ht2, ht3, ht4, ht5⟩
          clear ht1 ht2 ht3 ht4 ht5 ht6
          go_wp2
          go_roundg (gk - 1)
          case measure => have := HM.out; omega
          case rel =>
            have h1 := HM.out
            obtain ⟨q1, q2, q3⟩ := HQ.out
            obtain ⟨n1, n2, n3, n4, n5⟩ := HN.out
            refine ⟨m + 1, ts, by omega, by go_num, Or.inr ⟨n3, n5⟩, n1, fun p => ?_, by omega, hb1⟩
            rw [n2 p, q2 p]
            constructor
            · rintro (h | ⟨j, hj, e⟩)
              · exact ⟨m, by omega, by rw [HZ.out]; exact h.symm⟩
              · exact ⟨j, by omega, e⟩
            · rintro ⟨j, hj, e⟩
              by_cases h : j = m
              · left; rw [← e, h]; exact HZ.out
              · right; exact ⟨j, by omega, e⟩
        · go_wp2
          go_ret2
          obtain ⟨q1, q2, q3⟩ := HQ.out
          have hme : m = k := by omega
          refine ⟨_, _, rfl, hbel, Or.inr (Or.inr ⟨by rw [HL.out]; exact hn, any_false_of (fun j hj => HF.out j (by rw [HL.out] at hj; exact hj)), rfl, ys, q1, fun p => ?_, KP.out⟩)⟩
          rw [q2 p, hme]
          constructor
          · rintro ⟨j, hj, e⟩
            rw [← e, getElem!_pos zs j (by rw [HL.out]; exact hj)]
            exact List.getElem_mem _
          · intro hp
            obtain ⟨j, hj, e⟩ := List.getElem_of_mem hp
            exact ⟨j, by rw [← HL.out]; exact hj, by rw [getElem!_pos zs j hj]; exact e⟩
theorem refTidyK_any (v : Value) (zs : List (Int × Int)) (w : World) (h : RRow w v zs) : Calls Tryz.prog 32 #[v] w fun e w' => TidyOutK zs w e w' := by
  obtain ⟨a, c, rfl, hc, hm, _, h⟩ := h
  unfold maxLen at hm
  by_cases hbig : 4096 < zs.length
  · exact refTidyK_many a c zs w hbig (by omega)
  · rcases h with h | ⟨b, off, rfl, hb, hp⟩
    · have hz := List.length_eq_zero_iff.1 h
      subst hz
      exact refTidyK_none a c w
    · exact refTidyK_some b off c zs w hb (by omega) hp
theorem refTidy_own (v : Value) (zs : List (Int × Int)) (w : World) (h : RRow w v zs) :
    Calls Tryz.prog 32 #[v] w fun e w' => ∃ u ys, e = .returned (.tuple #[u, .int .i64 (tcode zs)]) ∧ Below w.heap.size w w' ∧ Tidied zs ys ∧ Kept w' w.heap.size u ys :=
  (refTidyK_any v zs w h).mono fun e w' ho => by
    obtain ⟨u, code, he, hb, h⟩ := ho
    rcases h with ⟨h1, rfl, rfl⟩ | ⟨h1, h2, rfl, rfl⟩ | ⟨h1, h2, rfl, ys, h3, h4, h5⟩
    · have e : tcode zs = 5 := by simp [tcode, h1]
      exact ⟨_, [], by rw [he, e], hb, ⟨List.Pairwise.nil, fun p => by simp [e]⟩, Or.inl ⟨rfl, rfl⟩⟩
    · have e : tcode zs = 3 := by rw [tcode, if_neg (by omega), if_pos h2]
      exact ⟨_, [], by rw [he, e], hb, ⟨List.Pairwise.nil, fun p => by simp [e]⟩, Or.inl ⟨rfl, rfl⟩⟩
    · have e : tcode zs = 0 := by rw [tcode, if_neg (by omega), if_neg (by rw [h2]; simp)]
      exact ⟨_, ys, by rw [he, e], hb, ⟨h3, fun p => by rw [h4 p, e]; simp⟩, h5⟩
end Go.Proofs.YtofbcngcblleaaaGreat.A

namespace Go.Proofs.YtofbcngcblleaaaGreat.F
open Go.RowKit Go.Maps Go.Proofs.YtofbcngcblleaaaGreat.L Go.Proofs.YtofbcngcblleaaaGreat.A
def NextIs (b l : Int) (zs : List (Int × Int)) (c : Int) (ts : List (Int × Int)) : Prop :=
  (goodB b l = false ∧ c = 4 ∧ ts = []) ∨ (goodB b l = true ∧ tcode zs ≠ 0 ∧ c = tcode zs ∧ ts = []) ∨
  (goodB b l = true ∧ tcode zs = 0 ∧ ∃ ys out, Tidied zs ys ∧ NextSet b l ys out ∧ c = tcode out ∧ Tidied out ts)
def OwnR (w : World) (base : Nat) (u : Value) (ts : List (Int × Int)) : Prop := Row w u ts ∧ ∀ g, u.ownBlock = some g → base ≤ g
theorem OwnR.nil (w : World) (base : Nat) : OwnR w base (.slice none 0 0) [] := ⟨Or.inl ⟨rfl, rfl⟩, fun g hg => by cases hg⟩
theorem OwnR.of {w : World} {base : Nat} {u : Value} {ts : List (Int × Int)} (h : Kept w base u ts) : OwnR w base u ts := ⟨h.row, fun g hg => by
  rcases h with ⟨_, rfl⟩ | ⟨_, h⟩
  · cases hg
  · exact (h.lt g hg).1⟩
theorem OwnR.low {w : World} {base b2 : Nat} {u : Value} {ts : List (Int × Int)} (h : OwnR w base u ts) (hb : b2 ≤ base) : OwnR w b2 u ts := ⟨h.1, fun g hg => Nat.le_trans hb (h.2 g hg)⟩
def SaysN (b l : Int) (zs : List (Int × Int)) (w : World) (e : Ending) (w' : World) : Prop :=
  ∃ u c ts, e = .returned (.tuple #[u, .int .i64 c]) ∧ Below w.heap.size w w' ∧ OwnR w' w.heap.size u ts ∧ NextIs b l zs c ts
set_option maxHeartbeats 1000000 in
theorem refNext_bad (b l : Int) (v : Value) (zs : List (Int × Int)) (w : World) (hg : goodB b l = false) :
    Calls Tryz.prog 33 #[.agg #[.int .i64 b, .int .i64 l], v] w fun e w' => SaysN b l zs w e w' := by
  have hgd := fun W => refGood_any b l W
  have q0 := RuleIn.born w b l 23
  rw [hg] at hgd
  have HGD : Hid (goodB b l = false) := hg
  clear hg
  go_enter Tryz.func33, Tryz.ntmps33
  go_wp2_with fail
  refine (hgd _).mono ?_
  rintro e w1 ⟨rfl, c1⟩
  have b1 := (q0.go c1).2.2.2.2.2
  go_wp2_with fail
  go_ret2
  exact ⟨_, _, [], rfl, b1, OwnR.nil _ _, Or.inl ⟨HGD.out, rfl, rfl⟩⟩
set_option maxHeartbeats 1000000 in
theorem refNext_err (b l : Int) (v : Value) (zs : List (Int × Int)) (w : World) (h : RRow w v zs) (hg : goodB b l = true) (htc : tcode zs ≠ 0) :
    Calls Tryz.prog 33 #[.agg #[.int .i64 b, .int .i64 l], v] w fun e w' => SaysN b l zs w e w' := by
  have hgd := fun W => refGood_any b l W
  have q0 := RuleIn.born w b l 23
  have HV : Hid (RRow w v zs) := h
  rw [hg] at hgd
  have HGD : Hid (goodB b l = true) := hg
  have HC : Hid (tcode zs ≠ 0) := htc
  have hne : (tcode zs != 0) = true := by simpa using htc
  clear htc hg h
  go_enter Tryz.func33, Tryz.ntmps33
  go_wp2_with fail
  refine (hgd _).mono ?_
  rintro e w1 ⟨rfl, c1⟩
  have q1 := q0.go c1
  have b1 := q1.2.2.2.2.2
  have hTa := refTidy_told v zs w1 (HV.out.below b1)
  generalize hc : tcode zs = code at *
  have HE : Hid (tcode zs = code) := hc
  clear q0 hgd hc
  go_wp2_with fail
  refine hTa.mono ?_
  rintro e w2 ⟨va, ys, rfl, c2, ht2, hr2⟩
  have b2 := (q1.go c2).2.2.2.2.2
  clear hTa
  go_wp2_with fail
  go_ret2
  exact ⟨_, _, [], rfl, b2, OwnR.nil _ _, Or.inr (Or.inl ⟨HGD.out, by rw [HE.out]; exact HC.out, HE.out.symm, rfl⟩)⟩
def St (w2 : World) (B0 B1 base n N : Nat) (ys S : List (Int × Int)) (v : Value) (rs : List (Int × Int)) (wr : World) : Prop :=
  Below w2.heap.size w2 wr ∧ Flag B0 n ys wr ∧ Flag B1 N S wr ∧ Kept wr base v rs ∧ base ≤ wr.heap.size
theorem St.alloc {w2 wr : World} {B0 B1 base n N : Nat} {ys S rs : List (Int × Int)} {v : Value} (h : St w2 B0 B1 base n N ys S v rs wr) (o : Obj) : St w2 B0 B1 base n N ys S v rs (wr.alloc o) := by
  obtain ⟨h1, h2, h3, h4, h5⟩ := h
  exact ⟨h1.alloc h1.size o, h2.alloc o, h3.alloc o, h4.block (fun g hg => Below.heap_alloc _ _ g hg), by simp; omega⟩
theorem St.below {w2 wr w' : World} {B0 B1 base n N : Nat} {ys S rs : List (Int × Int)} {v : Value} (h : St w2 B0 B1 base n N ys S v rs wr) (hb : Below wr.heap.size wr w') : St w2 B0 B1 base n N ys S v rs w' := by
  obtain ⟨h1, h2, h3, h4, h5⟩ := h
  exact ⟨h1.trans (hb.mono h1.size), h2.below hb h2.lt, h3.below hb h3.lt, h4.block (fun g hg => hb.block g hg), Nat.le_trans h5 hb.size⟩
theorem St.set {w2 wr : World} {B0 B1 base n N : Nat} {ys S rs : List (Int × Int)} {v : Value} (h : St w2 B0 B1 base n N ys S v rs wr) (hB : w2.heap.size ≤ B0 ∧ B0 < B1 ∧ B1 < base) (hN : N < 1000000) (x y : Int) (hp : FitsP (x, y)) :
    ∃ w', (Instr.mapUpdate 105 (.map (some B1)) (.agg #[.int .i64 x, .int .i64 y]) (.bool true)).run Tryz.prog wr = .ok () w' ∧ St w2 B0 B1 base n (N + 1) ys (S ++ [(x, y)]) v rs w' ∧ wr.grownBy w' (some B1) := by
  obtain ⟨h1, h2, h3, h4, h5⟩ := h
  obtain ⟨w', hrun, hf, hg⟩ := h3.set hN x y hp
  refine ⟨w', hrun, ⟨h1.grown hg h1.size (fun j hj => by cases hj; omega), h2.block (hg.block B0 h2.lt (by simp; omega)), hf, h4.but hg hB.2.2, Nat.le_trans h5 hg.size⟩, hg⟩
def OutTo (b l : Int) (ys S rs : List (Int × Int)) (N : Nat) : Prop := rs.Nodup ∧ rs.length ≤ N ∧ ∀ p, p ∈ rs ↔ p ∈ S ∧ lvB b l ys p = true
theorem OutTo.none {b l : Int} {ys S rs : List (Int × Int)} {N : Nat} {q : Int × Int} (h : OutTo b l ys S rs N) (hq : lvB b l ys q = false) : OutTo b l ys (S ++ [q]) rs (N + 1) := by
  refine ⟨h.1, by have := h.2.1; omega, fun p => ?_⟩
  rw [h.2.2 p, List.mem_append, List.mem_singleton]
  constructor
  · rintro ⟨k1, k2⟩; exact ⟨Or.inl k1, k2⟩
  · rintro ⟨k1 | rfl, k2⟩
    · exact ⟨k1, k2⟩
    · rw [hq] at k2; cases k2
theorem OutTo.one {b l : Int} {ys S rs : List (Int × Int)} {N : Nat} {q : Int × Int} (h : OutTo b l ys S rs N) (hs : ¬ q ∈ S) (hq : lvB b l ys q = true) : OutTo b l ys (S ++ [q]) (rs ++ [q]) (N + 1) := by
  refine ⟨?_, by have := h.2.1; simp; omega, fun p => ?_⟩
  · rw [List.nodup_append]
    refine ⟨h.1, by simp, fun a ha c hc e => ?_⟩
    rw [List.mem_singleton] at hc
    subst hc e
    exact hs ((h.2.2 _).1 ha).1
  · rw [List.mem_append, List.mem_append, List.mem_singleton, h.2.2 p]
    constructor
    · rintro (⟨k1, k2⟩ | rfl)
      · exact ⟨Or.inl k1, k2⟩
      · exact ⟨Or.inr rfl, hq⟩
    · rintro ⟨k1 | rfl, k2⟩
      · exact Or.inl ⟨k1, k2⟩
      · exact Or.inr rfl
def SeenTo (ys S : List (Int × Int)) (i k : Nat) : Prop := ∀ p, p ∈ S ↔ p ∈ (ys.take i).flatMap nine ++ (nine ys[i]!).take k
theorem SeenTo.again {ys S : List (Int × Int)} {i k : Nat} {q : Int × Int} (h : SeenTo ys S i k) (hq : (nine ys[i]!)[k]? = some q) (hs : q ∈ S) : SeenTo ys S i (k + 1) := by
  intro p
  obtain ⟨hm, he⟩ := List.getElem?_eq_some_iff.1 hq
  rw [List.take_succ_eq_append_getElem hm, he, ← List.append_assoc, List.mem_append, ← h p, List.mem_singleton]
  constructor
  · exact Or.inl
  · rintro (k | rfl)
    · exact k
    · exact hs
theorem SeenTo.more {ys S : List (Int × Int)} {i k : Nat} {q : Int × Int} (h : SeenTo ys S i k) (hq : (nine ys[i]!)[k]? = some q) : SeenTo ys (S ++ [q]) i (k + 1) := by
  intro p
  obtain ⟨hm, he⟩ := List.getElem?_eq_some_iff.1 hq
  rw [List.take_succ_eq_append_getElem hm, he, ← List.append_assoc, List.mem_append, List.mem_append, ← h p]
theorem SeenTo.next {ys S : List (Int × Int)} {i : Nat} (h : SeenTo ys S i 9) (hi : i < ys.length) : SeenTo ys S (i + 1) 0 := by
  intro p
  have e : (nine ys[i]!).take 9 = nine ys[i]! := rfl
  rw [h p, e, List.take_succ_eq_append_getElem hi, List.flatMap_append, getElem!_pos ys i hi, List.take_zero, List.append_nil, List.flatMap_singleton]
theorem SeenTo.all {b l : Int} {ys S rs : List (Int × Int)} {N : Nat} (h : SeenTo ys S ys.length 0) (hg : goodB b l = true) (ho : OutTo b l ys S rs N) : NextSet b l ys rs := by
  refine ⟨ho.1, fun p => ?_⟩
  rw [ho.2.2 p]
  constructor
  · exact fun k => k.2
  · intro k
    refine ⟨?_, k⟩
    rw [h p]
    obtain ⟨c, hc, h1, h2, h3, h4⟩ := lv_key hg k
    simp only [List.take_length, List.take_zero, List.append_nil, List.mem_flatMap]
    refine ⟨c, hc, ?_⟩
    obtain ⟨px, py⟩ := p
    obtain ⟨cx, cy⟩ := c
    simp only at h1 h2 h3 h4
    rcases (show px = cx - 1 ∨ px = cx ∨ px = cx + 1 by omega) with rfl | rfl | rfl <;> rcases (show py = cy - 1 ∨ py = cy ∨ py = cy + 1 by omega) with rfl | rfl | rfl <;> simp [nine]
end Go.Proofs.YtofbcngcblleaaaGreat.F

namespace Go.Proofs.YtofbcngcblleaaaGreat.F
open Go.RowKit Go.Maps Go.Proofs.YtofbcngcblleaaaGreat.L Go.Proofs.YtofbcngcblleaaaGreat.A
set_option maxRecDepth 4000 in
set_option maxHeartbeats 8000000 in
theorem refNext_good (b l : Int) (v : Value) (zs : List (Int × Int)) (w : World) (h : RRow w v zs) (hg : goodB b l = true) (htc : tcode zs = 0) :
    Calls Tryz.prog 33 #[.agg #[.int .i64 b, .int .i64 l], v] w fun e w' => SaysN b l zs w e w' := by
  have hgd := fun W => refGood_any b l W
  obtain ⟨i0, hi0, hz0, hz1, hz2⟩ := info_parts Tryz.info52
  have q0 := RuleIn.born w b l 23
  have HV : Hid (RRow w v zs) := h
  rw [hg] at hgd
  have HGD : Hid (goodB b l = true ∧ tcode zs = 0) := ⟨hg, htc⟩
  clear h hg htc
  go_enter Tryz.func33, Tryz.ntmps33
  go_wp2_with fail
  refine (hgd _).mono ?_
  rintro e w1 ⟨rfl, c1⟩
  have q1 := q0.go c1
  have b1 := q1.2.2.2.2.2
  have hTa := refTidy_told v zs w1 (HV.out.below b1)
  rw [HGD.out.2] at hTa
  clear q0 hgd
  go_wp2_with fail
  refine hTa.mono ?_
  rintro e w2 ⟨va, ys, rfl, c2, ht2, hr2⟩
  have q2 := q1.go c2
  have hmm := makeFlags
  have hs2 := tidied_short ht2 HGD.out.2
  have hnear := tidied_near ht2
  have HT : Hid (Tidied zs ys ∧ ys.any farP = false) := ⟨ht2, hnear⟩
  obtain ⟨aa, ca, rfl, ra1⟩ := hr2.shape
  have HQ : Hid (RuleIn w b l w2) := q2
  have HR : Hid (Row w2 (.slice aa ys.length ca) ys) := hr2
  clear hTa ht2 hr2 c1 c2 q1 b1 hnear q2
  obtain ⟨n, hn⟩ : ∃ n, n = ys.length := ⟨_, rfl⟩
  have HL : Hid (n = ys.length) := hn
  rw [← hn] at hs2 ra1 HR ⊢
  clear hn
  go_wp2_with fail
  go_loopg [33] n (fun gk s33 wr => ∃ (k : Nat), k ≤ n ∧ n - k ≤ gk ∧ s33 = .int .i64 k ∧ Flag w2.heap.size k (ys.take k) wr ∧ Below w2.heap.size w2 wr)
  case atStart => exact ⟨0, by omega, by omega, rfl, Flag.made w2, (Below.refl _ _).alloc (Nat.le_refl _) _⟩
  case round =>
    obtain ⟨k, hk, hgk, rfl, hfl, hbr⟩ := hrel
    have HG : Hid (n - k ≤ gk) := hgk
    have HF : Hid (Flag w2.heap.size k (ys.take k) wr) := hfl
    clear hgk hfl
    have hsz := hbr.size
    by_cases hlt : k < n
    · obtain ⟨bl, off, ⟨cq, hae⟩, hblt, c0, c1, hfit⟩ := row_at (by have h := HR.out; rw [HL.out] at h; exact h) HT.out.2 k (by rw [← HL.out]; exact hlt)
      simp only [Value.slice.injEq] at hae
      obtain ⟨hv1, hv2, hv3⟩ := hae
      clear hv2 hv3
      subst hv1
      rw [← hbr.cell (p := ⟨bl, off + k * 2, none⟩) hblt] at c0
      rw [← hbr.cell (p := ⟨bl, off + k * 2 + 1, none⟩) hblt] at c1
      generalize hz : ys[k]! = z at c0 c1 hfit
      have HZ : Hid (ys[k]! = z) := hz
      clear hz
      obtain ⟨x, y⟩ := z
      simp only at c0 c1
      obtain ⟨w', hup, hfl', hgr⟩ := (HF.out.alloc (.cells #[.int .i64 x, .int .i64 y] 52)).set (by omega) x y hfit
      have HF2 : Hid (Flag w2.heap.size (k + 1) (ys.take k ++ [(x, y)]) w' ∧ Below w2.heap.size w2 w') := ⟨hfl', (hbr.alloc hbr.size _).grown hgr (by simp; omega) (fun j hj => by cases hj; exact Nat.le_refl _)⟩
      clear hfl' hgr
      have hi1 : (0 : Int) ≤ (k : Int) := by omega
      have hi2 : (k : Int) < (n : Int) := by omega
      have hbw : bl < wr.heap.size := Nat.lt_of_lt_of_le hblt hsz
      go_wp2_with fail
      go_roundg (gk - 1)
      case measure => have := HG.out; omega
      case rel =>
        have := HG.out
        refine ⟨k + 1, by omega, by omega, by go_num, ?_, HF2.out.2⟩
        rw [List.take_succ_eq_append_getElem (by rw [← HL.out]; exact hlt), ← getElem!_pos ys k (by rw [← HL.out]; exact hlt), HZ.out]
        exact HF2.out.1
    · have hkn : k = n := by omega
      subst hkn
      have HF1 : Hid (Flag w2.heap.size k ys wr) := by
        show Flag w2.heap.size k ys wr
        have := HF.out
        rw [List.take_of_length_le (by rw [← HL.out]; exact Nat.le_refl _)] at this
        exact this
      have hnlt : ¬ (k : Int) < (k : Int) := by omega
      go_wp2_with fail
      obtain ⟨w3, hw3⟩ : ∃ a, a = wr := ⟨wr, rfl⟩
      subst hw3
      obtain ⟨B0, hB0⟩ : ∃ a, a = w2.heap.size := ⟨_, rfl⟩
      obtain ⟨B1, hB1⟩ : ∃ a, a = w3.heap.size := ⟨_, rfl⟩
      obtain ⟨W5, hW5⟩ : ∃ a, a = w3.alloc (.map #[] 0) := ⟨_, rfl⟩
      obtain ⟨base, hbase⟩ : ∃ a, a = W5.heap.size := ⟨_, rfl⟩
      have hBB : w2.heap.size ≤ B0 ∧ B0 < B1 ∧ B1 < base := ⟨by omega, by rw [hB0, hB1]; exact HF1.out.lt, by rw [hB1, hbase, hW5]; simp⟩
      have HS0 : Hid (St w2 B0 B1 base k 0 ys [] (.slice none 0 0) [] W5) := by
        show St w2 B0 B1 base k 0 ys [] (.slice none 0 0) [] W5
        rw [hbase, hB0, hB1, hW5]
        exact ⟨hbr.alloc hbr.size _, HF1.out.alloc _, Flag.made w3, Or.inl ⟨rfl, rfl⟩, Nat.le_refl _⟩
      rw [← hB1, ← hB0, ← hW5]
      clear hB1 hW5 hbase HF HF1 hbr hsz hB0 HG hnlt hmm
      have HBB : Hid (w2.heap.size ≤ B0 ∧ B0 < B1 ∧ B1 < base) := hBB
      clear hBB
      go_loopg [12, 43] k (fun gk s12 s43 wr => ∃ (i N : Nat) (S rs : List (Int × Int)), i ≤ k ∧ k - i ≤ gk ∧ s43 = .int .i64 i ∧ N ≤ 9 * i ∧ St w2 B0 B1 base k N ys S s12 rs wr ∧ SeenTo ys S i 0 ∧ OutTo b l ys S rs N)
      case atStart => exact ⟨0, 0, [], [], by omega, by omega, rfl, by omega, HS0.out, fun p => by simp, ⟨List.nodup_nil, by simp, fun p => by simp⟩⟩
      case round =>
        obtain ⟨i, N, S, rs, hi, hgi, rfl, hN, hst, hseen, hout⟩ := hrel
        obtain ⟨gI, hgI⟩ : ∃ a, a = gk := ⟨gk, rfl⟩
        subst hgI
        obtain ⟨wi, hwi⟩ : ∃ a, a = wr := ⟨wr, rfl⟩
        subst hwi
        have HG : Hid (k - i ≤ gI) := hgi
        have HS : Hid (St w2 B0 B1 base k N ys S u12 rs wi ∧ SeenTo ys S i 0 ∧ OutTo b l ys S rs N) := ⟨hst, hseen, hout⟩
        have hbr := hst.1
        clear hgi hst hseen hout HS0
        have hsz := hbr.size
        by_cases hlt : i < k
        · obtain ⟨bl, off, ⟨cq, hae⟩, hblt, c0, c1, hfit⟩ := row_at (by have h := HR.out; rw [HL.out] at h; exact h) HT.out.2 i (by rw [← HL.out]; exact hlt)
          simp only [Value.slice.injEq] at hae
          obtain ⟨hv1, hv2, hv3⟩ := hae
          clear hv2 hv3
          subst hv1
          rw [← hbr.cell (p := ⟨bl, off + i * 2, none⟩) hblt] at c0
          rw [← hbr.cell (p := ⟨bl, off + i * 2 + 1, none⟩) hblt] at c1
          have hnear : farP ys[i]! = false := by
            have h1 := HT.out.2
            rw [List.any_eq_false] at h1
            have h2 := h1 ys[i]! (by rw [getElem!_pos ys i (by rw [← HL.out]; exact hlt)]; exact List.getElem_mem _)
            simpa using h2
          generalize hz : ys[i]! = z at c0 c1 hfit hnear
          have HZ : Hid (ys[i]! = z) := hz
          clear hz hfit
          obtain ⟨x, y⟩ := z
          simp only at c0 c1
          have hxy : -1099511627776 < x ∧ x < 1099511627776 ∧ -1099511627776 < y ∧ y < 1099511627776 := by
            simp [farP, farI] at hnear
            omega
          clear hnear
          obtain ⟨x0, x1, y0, y1⟩ := hxy
          have hi1 : (0 : Int) ≤ (i : Int) := by omega
          have hi2 : (i : Int) < (k : Int) := by omega
          have hbw : bl < wi.heap.size := Nat.lt_of_lt_of_le hblt hsz
          obtain ⟨gC, hgC⟩ : ∃ a, a = wi.heap.size := ⟨_, rfl⟩
          have HM0 : Hid (St w2 B0 B1 base k N ys S u12 rs (wi.alloc (.cells #[.int .i64 x, .int .i64 y] 52)) ∧ (wi.alloc (.cells #[.int .i64 x, .int .i64 y] 52)).cell? ⟨gC, 0, none⟩ = some (.int .i64 x) ∧ (wi.alloc (.cells #[.int .i64 x, .int .i64 y] 52)).cell? ⟨gC, 1, none⟩ = some (.int .i64 y) ∧ gC < (wi.alloc (.cells #[.int .i64 x, .int .i64 y] 52)).heap.size ∧ ∀ g, u12.ownBlock = some g → g ≠ gC) := by
            refine ⟨HS.out.1.alloc _, by rw [hgC, World.cell?_alloc_new]; rfl, by rw [hgC, World.cell?_alloc_new]; rfl, by rw [hgC]; simp, fun g hg => ?_⟩
            have := (HS.out.1.2.2.2.1.owns.lt g hg).2
            omega
          have hgC1 : B1 < gC := by rw [hgC]; exact HS.out.1.2.2.1.lt
          go_wp2_with fail
          rw [← hgC]
          clear hgC
          go_loopg [12, 15] 9 (fun gk s12 s15 wr => ∃ (t N : Nat) (S rs : List (Int × Int)), t ≤ 9 ∧ 9 - t ≤ gk ∧ s15 = .int .i64 t ∧ N ≤ 9 * i + t ∧ St w2 B0 B1 base k N ys S s12 rs wr ∧ SeenTo ys S i t ∧ OutTo b l ys S rs N ∧ wr.cell? ⟨gC, 0, none⟩ = some (.int .i64 x) ∧ wr.cell? ⟨gC, 1, none⟩ = some (.int .i64 y) ∧ gC < wr.heap.size ∧ ∀ g, s12.ownBlock = some g → g ≠ gC)
          case atStart => exact ⟨0, N, S, rs, by omega, by omega, rfl, by omega, HM0.out.1, HS.out.2.1, HS.out.2.2, HM0.out.2⟩
          case round =>
            clear HM0
            obtain ⟨t, N, S, rs, ht, hgt, rfl, hN, hst, hseen, hout, m0, m1, mg, mo⟩ := hrel
            have HGT : Hid (9 - t ≤ gk) := hgt
            have HS2 : Hid (St w2 B0 B1 base k N ys S u12 rs wr ∧ SeenTo ys S i t ∧ OutTo b l ys S rs N ∧ ∀ g, u12.ownBlock = some g → g ≠ gC) := ⟨hst, hseen, hout, mo⟩
            clear hgt hst hseen hout mo HS
            by_cases ht9 : t < 9
            · obtain ⟨km, kd, hkm, hkd, hk3, hk4, hk5⟩ : ∃ km kd : Nat, Int.tmod (t : Int) 3 = (km : Int) ∧ Int.tdiv (t : Int) 3 = (kd : Int) ∧ km < 3 ∧ kd < 3 ∧ t = 3 * kd + km := by
                refine ⟨t % 3, t / 3, ?_, ?_, by omega, by omega, by omega⟩
                · rw [Int.tmod_eq_emod_of_nonneg (by omega)]; omega
                · rw [Int.tdiv_eq_ediv_of_nonneg (by omega)]; omega
              have hq : (nine ys[i]!)[t]? = some (x + km - 1, y + kd - 1) := by
                rw [HZ.out, hk5, nine_at (x, y) km kd hk3 hk4]
                simp
                omega
              have HQ9 : Hid ((nine ys[i]!)[t]? = some (x + km - 1, y + kd - 1) ∧ t = 3 * kd + km) := ⟨hq, hk5⟩
              clear hq hk5
              have ht1 : (t : Int) < 9 := by omega
              have hpf : FitsP (x + km - 1, y + kd - 1) := ⟨⟨by omega, by omega⟩, ⟨by omega, by omega⟩⟩
              have hpb : -1099511627778 < x + km - 1 ∧ x + km - 1 < 1099511627778 ∧ -1099511627778 < y + kd - 1 ∧ y + kd - 1 < 1099511627778 := by omega
              have hlook := (HS2.out.1.2.2.1.alloc (.cells #[.int .i64 (x + km - 1), .int .i64 (y + kd - 1)] 52)).look _ _ hpf
              have hgCa : ∀ o, gC < (wr.alloc o).heap.size := fun o => by simp; omega
              have hca : ∀ o, (wr.alloc o).cell? ⟨gC, 0, none⟩ = some (.int .i64 x) ∧ (wr.alloc o).cell? ⟨gC, 1, none⟩ = some (.int .i64 y) := fun o => ⟨by rw [World.cell?_alloc_past _ _ _ mg]; exact m0, by rw [World.cell?_alloc_past _ _ _ mg]; exact m1⟩
              have HCA : Hid ((∀ o, gC < (wr.alloc o).heap.size) ∧ ∀ o, (wr.alloc o).cell? ⟨gC, 0, none⟩ = some (.int .i64 x) ∧ (wr.alloc o).cell? ⟨gC, 1, none⟩ = some (.int .i64 y)) := ⟨hgCa, hca⟩
              clear hgCa hca
              by_cases hs : (x + km - 1, y + kd - 1) ∈ S
              · rw [decide_eq_true hs] at hlook
                have HSS : Hid ((x + km - 1, y + kd - 1) ∈ S) := hs
                clear hs
                go_wp2_with fail
                go_roundg (gk - 1)
                case measure => have := HGT.out; omega
                case rel =>
                  have := HGT.out
                  exact ⟨t + 1, N, S, rs, by omega, by omega, by go_num, by omega, HS2.out.1.alloc _, HS2.out.2.1.again HQ9.out.1 HSS.out, HS2.out.2.2.1, (HCA.out.2 _).1, (HCA.out.2 _).2, HCA.out.1 _, HS2.out.2.2.2⟩
              · rw [decide_eq_false hs] at hlook
                have HSS : Hid (¬ (x + km - 1, y + kd - 1) ∈ S) := hs
                clear hs
                obtain ⟨w', hup, hst', hgr⟩ := (HS2.out.1.alloc (.cells #[.int .i64 (x + km - 1), .int .i64 (y + kd - 1)] 52)).set HBB.out (by omega) _ _ hpf
                obtain ⟨gD, hgD⟩ : ∃ a, a = wr.heap.size := ⟨_, rfl⟩
                have hB1D : B1 < gD := by rw [hgD]; exact HS2.out.1.2.2.1.lt
                have hcellD : ∀ o, w'.cell? ⟨gD, o, none⟩ = (wr.alloc (.cells #[.int .i64 (x + km - 1), .int .i64 (y + kd - 1)] 52)).cell? ⟨gD, o, none⟩ := fun o => by
                  have hblk := hgr.block gD (by rw [hgD]; simp) (by simp; omega)
                  simp [World.cell?, hblk]
                have hcellC : ∀ o, w'.cell? ⟨gC, o, none⟩ = (wr.alloc (.cells #[.int .i64 (x + km - 1), .int .i64 (y + kd - 1)] 52)).cell? ⟨gC, o, none⟩ := fun o => by
                  have hblk := hgr.block gC (HCA.out.1 _) (by simp; omega)
                  simp [World.cell?, hblk]
                have d0 : w'.cell? ⟨gD, 0, none⟩ = some (.int .i64 (x + km - 1)) := by rw [hcellD, hgD, World.cell?_alloc_new]; rfl
                have d1 : w'.cell? ⟨gD, 1, none⟩ = some (.int .i64 (y + kd - 1)) := by rw [hcellD, hgD, World.cell?_alloc_new]; rfl
                have HW : Hid (St w2 B0 B1 base k (N + 1) ys (S ++ [(x + km - 1, y + kd - 1)]) u12 rs w' ∧ w'.cell? ⟨gC, 0, none⟩ = some (.int .i64 x) ∧ w'.cell? ⟨gC, 1, none⟩ = some (.int .i64 y) ∧ gC < w'.heap.size ∧ gD < w'.heap.size ∧ gC < gD) :=
                  ⟨hst', by rw [hcellC]; exact (HCA.out.2 _).1, by rw [hcellC]; exact (HCA.out.2 _).2, Nat.lt_of_lt_of_le (HCA.out.1 _) hgr.size, Nat.lt_of_lt_of_le (by rw [hgD]; simp) hgr.size, by omega⟩
                clear hst' hgr hcellD hcellC hpf
                go_wp2_with fail
                rw [← hgD]
                clear hgD hup hlook m0 m1 mg HCA
                obtain ⟨X, hX⟩ : ∃ X : Int, X = x + km - 1 := ⟨_, rfl⟩
                obtain ⟨Y, hY⟩ : ∃ Y : Int, Y = y + kd - 1 := ⟨_, rfl⟩
                rw [← hX] at d0 HW HSS HQ9 hpb ⊢
                rw [← hY] at d1 HW HSS HQ9 hpb ⊢
                clear hX hY
                obtain ⟨gT, hgT⟩ : ∃ a, a = gk := ⟨gk, rfl⟩
                subst hgT
                go_loopg [17, 18] 9 (fun gk s17 s18 wr => ∃ (j : Nat), j ≤ 9 ∧ 9 - j ≤ gk ∧ s18 = .int .i64 j ∧ s17 = .int .i64 (eightTo ys (X, Y) j : Nat) ∧ wr = w')
                case atStart => exact ⟨0, by omega, by omega, rfl, by rw [eightTo_zero]; rfl, rfl⟩
                case round =>
                  obtain ⟨j, hj, hgj, rfl, rfl, hwr⟩ := hrel
                  subst hwr
                  have HGJ : Hid (9 - j ≤ gk) := hgj
                  clear hgj
                  have hel := eightTo_le ys (X, Y) j
                  obtain ⟨cn, hcn⟩ : ∃ cn, cn = eightTo ys (X, Y) j := ⟨_, rfl⟩
                  rw [← hcn] at hel ⊢
                  have HCN : Hid (cn = eightTo ys (X, Y) j) := hcn
                  clear hcn
                  by_cases hj9 : j < 9
                  · obtain ⟨jm, jd, hjm, hjd, hj3, hj4, hj5⟩ : ∃ jm jd : Nat, Int.tmod (j : Int) 3 = (jm : Int) ∧ Int.tdiv (j : Int) 3 = (jd : Int) ∧ jm < 3 ∧ jd < 3 ∧ j = 3 * jd + jm := by
                      refine ⟨j % 3, j / 3, ?_, ?_, by omega, by omega, by omega⟩
                      · rw [Int.tmod_eq_emod_of_nonneg (by omega)]; omega
                      · rw [Int.tdiv_eq_ediv_of_nonneg (by omega)]; omega
                    have hqj : (nine (X, Y))[j]? = some (X + jm - 1, Y + jd - 1) := by
                      rw [hj5, nine_at (X, Y) jm jd hj3 hj4]
                      simp
                      omega
                    have hsucc := eightTo_succ ys (X, Y) _ j hqj
                    have hj1 : (j : Int) < 9 := by omega
                    by_cases hj44 : j = 4
                    · have hself : (X + (jm : Int) - 1, Y + (jd : Int) - 1) = (X, Y) := by
                        have h1 : jm = 1 := by omega
                        have h2 : jd = 1 := by omega
                        rw [h1, h2]; simp
                      have HN : Hid (eightTo ys (X, Y) (j + 1) = cn) := by
                        show _ = _
                        rw [hsucc, hself, ← HCN.out]; simp
                      have hj4i : (j : Int) = 4 := by omega
                      clear hsucc hqj hself hj5
                      go_wp2_with fail
                      go_roundg (gk - 1)
                      case measure => have := HGJ.out; omega
                      case rel =>
                        have := HGJ.out
                        exact ⟨j + 1, by omega, by omega, by go_num, by rw [HN.out], rfl⟩
                    · have hself : ¬ (X + (jm : Int) - 1, Y + (jd : Int) - 1) = (X, Y) := by
                        simp only [Prod.mk.injEq]
                        omega
                      have hj4i : ¬ (j : Int) = 4 := by omega
                      have hpfj : FitsP (X + jm - 1, Y + jd - 1) := ⟨⟨by omega, by omega⟩, ⟨by omega, by omega⟩⟩
                      have hlook := HW.out.1.2.1.look _ _ hpfj
                      generalize hmb : decide ((X + (jm : Int) - 1, Y + (jd : Int) - 1) ∈ ys) = mb at hlook
                      have HN : Hid (eightTo ys (X, Y) (j + 1) = cn + if mb then 1 else 0) := by
                        show _ = _
                        rw [hsucc, ← HCN.out, ← hmb]
                        simp [hself]
                      clear hsucc hqj hself hpfj hmb hj5
                      cases mb
                      · go_wp2_with fail
                        go_roundg (gk - 1)
                        case measure => have := HGJ.out; omega
                        case rel =>
                          have := HGJ.out
                          exact ⟨j + 1, by omega, by omega, by go_num, by rw [HN.out]; simp, rfl⟩
                      · go_wp2_with fail
                        go_roundg (gk - 1)
                        case measure => have := HGJ.out; omega
                        case rel =>
                          have := HGJ.out
                          exact ⟨j + 1, by omega, by omega, by go_num, by rw [HN.out]; simp, rfl⟩
                  · have hje : j = 9 := by omega
                    subst hje
                    have q3 := HQ.out.go HW.out.1.1
                    have hpf : FitsP (X, Y) := ⟨⟨by omega, by omega⟩, ⟨by omega, by omega⟩⟩
                    obtain ⟨mb, hmb⟩ : ∃ mb, mb = decide ((X, Y) ∈ ys) := ⟨_, rfl⟩
                    have hlv := fun W => refLives_any b l mb (cn : Int) W
                    have hlvb : livesB b l mb (cn : Int) = lvB b l ys (X, Y) := by
                      rw [lv_around, hmb, HCN.out, eight_is ys (X, Y) (tidy_nodup HT.out.1.1)]
                    rw [hlvb] at hlv
                    have hK : ∀ w', Below wr.heap.size wr w' → w'.cell? ⟨w.heap.size, 0, none⟩ = some (.int .i64 b) ∧ w'.cell? ⟨w.heap.size, 1, none⟩ = some (.int .i64 l) ∧ w'.cell? ⟨gD, 0, none⟩ = some (.int .i64 X) ∧ w'.cell? ⟨gD, 1, none⟩ = some (.int .i64 Y) ∧ (Instr.lookup 105 (.map (some B0)) (.agg #[.int .i64 X, .int .i64 Y]) false).run Tryz.prog w' = .ok (.bool mb) w' ∧ Below wr.heap.size wr w' := fun w' hb => by
                      obtain ⟨r0, r1, _⟩ := q3.go hb
                      exact ⟨r0, r1, (hb.cell (p := ⟨gD, 0, none⟩) HW.out.2.2.2.2.1).trans d0, (hb.cell (p := ⟨gD, 1, none⟩) HW.out.2.2.2.2.1).trans d1, by rw [hmb]; exact (HW.out.1.2.1.below hb HW.out.1.2.1.lt).look X Y hpf, hb⟩
                    have HV2 : Hid (¬ (X, Y) ∈ S) := HSS.out
                    clear hlvb hpf hmb q3 hel
                    have hKd := hK _ (below_drewN' wr 1)
                    go_wp2_with fail
                    go_region_held3 (fun w' => w'.cell? ⟨w.heap.size, 0, none⟩ = some (.int .i64 b) ∧ w'.cell? ⟨w.heap.size, 1, none⟩ = some (.int .i64 l) ∧ w'.cell? ⟨gD, 0, none⟩ = some (.int .i64 X) ∧ w'.cell? ⟨gD, 1, none⟩ = some (.int .i64 Y) ∧ (Instr.lookup 105 (.map (some B0)) (.agg #[.int .i64 X, .int .i64 Y]) false).run Tryz.prog w' = .ok (.bool mb) w' ∧ Below wr.heap.size wr w') (first | exact hKd | exact hK _ ((below_drewN' wr 1).trans c7))
                      (first | (go_at_call 64; refine (hlv _).mono ?_; rintro e w7 ⟨rfl, c7⟩))
                    all_goals
                      rename_i hH
                      have HB7 : Hid (Below wr.heap.size wr w7) := hH.2.2.2.2.2
                      have e0 := hH.2.2.1
                      have e1 := hH.2.2.2.1
                      clear hH hK hKd hlv
                      have HST : Hid (St w2 B0 B1 base k (N + 1) ys (S ++ [(X, Y)]) u12 rs w7 ∧ w7.cell? ⟨gC, 0, none⟩ = some (.int .i64 x) ∧ w7.cell? ⟨gC, 1, none⟩ = some (.int .i64 y) ∧ gC < w7.heap.size) :=
                        ⟨HW.out.1.below HB7.out, (HB7.out.cell (p := ⟨gC, 0, none⟩) HW.out.2.2.2.1).trans HW.out.2.1, (HB7.out.cell (p := ⟨gC, 1, none⟩) HW.out.2.2.2.1).trans HW.out.2.2.1, Nat.lt_of_lt_of_le HW.out.2.2.2.1 HB7.out.size⟩
                      have hgD7 : gD < w7.heap.size := Nat.lt_of_lt_of_le HW.out.2.2.2.2.1 HB7.out.size
                      cases hlb : lvB b l ys (X, Y)
                      · have HLV : Hid (lvB b l ys (X, Y) = false) := hlb
                        clear hlb
                        go_wp2_with fail
                        go_roundg (gT - 1)
                        case measure => have := HGT.out; omega
                        case rel =>
                          have := HGT.out
                          exact ⟨t + 1, N + 1, S ++ [(X, Y)], rs, by omega, by omega, by go_num, by omega, HST.out.1, HS2.out.2.1.more HQ9.out.1, HS2.out.2.2.1.none HLV.out, HST.out.2.1, HST.out.2.2.1, HST.out.2.2.2, HS2.out.2.2.2⟩
                      · have HLV : Hid (lvB b l ys (X, Y) = true) := hlb
                        clear hlb
                        have hol : rs.length ≤ 40960 := by have := HS2.out.2.2.1.2.1; omega
                        have OW : Hid (∀ o, (w7.alloc o).ownsRow base 52 2 u12 rs.length (cellsL rs)) := fun o => HST.out.1.2.2.2.1.owns.alloc o
                        have hb7 : base ≤ w7.heap.size := HST.out.1.2.2.2.2
                        go_wp2_with (at_builtin; refine wpList_append_lies _ rfl _ _ 24 rfl base 52 i0 (.agg #[.int .i64 0, .int .i64 0]) 2 16 Tryz.underlying24 hi0 hz0 hz1 hz2 rfl (by decide) u12 rs.length (cellsL rs) rfl (by exact OW.out _) ⟨w7.heap.size, 0, none⟩ 1 1 [.int .i64 X, .int .i64 Y] rfl rfl (by exact one_first _ _ _ _) (by intro u hu; simp at hu; rcases hu with rfl | rfl <;> rfl) (by omega) (by unfold maxLen; omega) (by omega) (by simp; omega) _ rfl ?_; intro g9 c9 w8 hown8 hgrow8 hat8 hlt8)
                        go_roundg (gT - 1)
                        case measure => have := HGT.out; omega
                        case rel =>
                          have := HGT.out
                          obtain ⟨s1, s2, s3, s4, s5⟩ := HST.out.1.alloc (.cells #[.int .i64 X, .int .i64 Y] 52)
                          have hown7 := s4.owns
                          have hne : ∀ g, u12.ownBlock = some g → base ≤ g := fun g hg => (hown7.lt g hg).1
                          have hblk : ∀ B, B < base → w8.heap[B]? = (w7.alloc (.cells #[.int .i64 X, .int .i64 Y] 52)).heap[B]? := fun B hB => hgrow8.block B (by simp; omega) (fun e => by have := hne B e.symm; omega)
                          have hblC : w8.heap[gC]? = (w7.alloc (.cells #[.int .i64 X, .int .i64 Y] 52)).heap[gC]? := hgrow8.block gC (by have := HST.out.2.2.2; simp; omega) (fun e => HS2.out.2.2.2 gC e.symm rfl)
                          have hcC : ∀ o, w8.cell? ⟨gC, o, none⟩ = w7.cell? ⟨gC, o, none⟩ := fun o => by
                            have h7 : (w7.alloc (.cells #[.int .i64 X, .int .i64 Y] 52)).cell? ⟨gC, o, none⟩ = w7.cell? ⟨gC, o, none⟩ := World.cell?_alloc_past _ _ _ HST.out.2.2.2
                            rw [← h7]
                            simp [World.cell?, hblC]
                          refine ⟨t + 1, N + 1, S ++ [(X, Y)], rs ++ [(X, Y)], by omega, by omega, by go_num, by omega, ⟨s1.grown hgrow8 s1.size (fun j hj => by have := hne j hj; have := HBB.out; omega), s2.block (hblk B0 (by have := HBB.out; omega)), s3.block (hblk B1 (by have := HBB.out; omega)), Or.inr ⟨by simp, ?_⟩, Nat.le_trans s5 hgrow8.size⟩, HS2.out.2.1.more HQ9.out.1, HS2.out.2.2.1.one HSS.out HLV.out, (hcC 0).trans HST.out.2.1, (hcC 1).trans HST.out.2.2.1, Nat.lt_of_lt_of_le (by have := HST.out.2.2.2; simp; omega) hgrow8.size, fun g hg => ?_⟩
                          · rw [cellsL_append, List.length_append]
                            exact hown8
                          · have hgg : g9 = g := by simpa [Value.ownBlock] using hg
                            subst hgg
                            rcases hat8 with h | h
                            · exact HS2.out.2.2.2 _ h
                            · have := HST.out.2.2.2
                              simp at h
                              omega
            · have hte : t = 9 := by omega
              subst hte
              go_wp2_with fail
              go_roundg (gI - 1)
              case measure => have := HG.out; omega
              case rel =>
                have := HG.out
                exact ⟨i + 1, N, S, rs, by omega, by omega, by go_num, by omega, HS2.out.1, HS2.out.2.1.next (by rw [← HL.out]; exact hlt), HS2.out.2.2.1⟩
        · have hie : i = k := by omega
          subst hie
          have hbF : Below w.heap.size w wi := (HQ.out.go hbr).2.2.2.2.2
          have hTo := refTidy_own u12 rs wi HS.out.1.2.2.2.1.row.isRow
          go_wp2_with fail
          refine hTo.mono ?_
          rintro e w9 ⟨vo, ts, rfl, c9, t9, r9⟩
          have HT9 : Hid (Tidied rs ts ∧ OwnR w9 w.heap.size vo ts) := ⟨t9, (OwnR.of r9).low hbF.size⟩
          clear t9 r9 hTo
          go_wp2_with fail
          go_ret2
          exact ⟨vo, _, ts, rfl, hbF.trans (c9.mono hbF.size), HT9.out.2, Or.inr (Or.inr ⟨HGD.out.1, HGD.out.2, ys, rs, HT.out.1, SeenTo.all (by have h := HS.out.2.1; rw [HL.out] at h; exact h) HGD.out.1 HS.out.2.2, rfl, HT9.out.1⟩)⟩
theorem refNext_says (b l : Int) (v : Value) (zs : List (Int × Int)) (w : World) (h : RRow w v zs) :
    Calls Tryz.prog 33 #[.agg #[.int .i64 b, .int .i64 l], v] w fun e w' => SaysN b l zs w e w' := by
  by_cases hg : goodB b l = true
  · by_cases ht : tcode zs = 0
    · exact refNext_good b l v zs w h hg ht
    · exact refNext_err b l v zs w h hg ht
  · exact refNext_bad b l v zs w (by simpa using hg)
end Go.Proofs.YtofbcngcblleaaaGreat.F
