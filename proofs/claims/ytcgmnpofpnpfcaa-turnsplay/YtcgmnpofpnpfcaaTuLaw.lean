/- TurnsPlay: the law. -/
import Derived.Test.YtcgmnpofpnpfcaaTuSt
namespace Go.Proofs.Ytcgmnpofpnpfcaa
open Go.RowKit

set_option maxRecDepth 20000 in
set_option maxHeartbeats 2000000 in
theorem play_law (n : Int) (v : Value) (ps : List Ps) (w : World) (h : HP w v ps) (hs : ∀ p ∈ ps, p.text.size ≤ 281474976710656) :
    Calls Try.prog 3 #[.int .i64 n, v] w fun e w' => e = .returned (.bool true) ∧ Below w.heap.size w w' := by
  obtain ⟨p, cap, rfl, hcap, hcm, hrow⟩ := h
  obtain ⟨m, hm⟩ : ∃ m, m = ps.length := ⟨_, rfl⟩
  rw [← hm] at hcap hrow ⊢
  have HM : Hid (m = ps.length) := hm
  have HROW : Hid (m = 0 ∨ ∃ b off, p = some ⟨b, off, none⟩ ∧ b < w.heap.size ∧ ∀ (k : Nat) x, ps[k]? = some x → w.cell? ⟨b, off + k * 3, none⟩ = some (.int .i64 x.kind) ∧ w.cell? ⟨b, off + k * 3 + 1, none⟩ = some (.int .i64 x.tenant) ∧ w.cell? ⟨b, off + k * 3 + 2, none⟩ = some (.string x.text)) := hrow
  have HSZ : Hid (∀ p ∈ ps, p.text.size ≤ 281474976710656) := hs
  clear hm hrow hs
  by_cases hn : n < 1 ∨ 64 < n
  · have a1 := New_bad n w hn
    have a2 := NewQueue_bad n w hn
    clear hn
    go_enter Try.func3, Try.ntmps3
    go_wp2_with fail
    refine a1.mono ?_
    rintro e w1 ⟨rfl, rfl⟩
    go_wp2_with fail
    refine a2.mono ?_
    rintro e w1 ⟨rfl, rfl⟩
    go_wp2_with fail
    go_ret
    exact ⟨rfl, Below.refl _ _⟩
  · obtain ⟨N, rfl⟩ : ∃ N : Nat, n = N := ⟨n.toNat, by omega⟩
    have hN1 : 1 ≤ N := by omega
    have hN2 : N ≤ 64 := by omega
    have a1 := New_any N w hN1 hN2
    have a2 := fun W (hW : w.heap.size ≤ W.heap.size) => NewQueue_any N w.heap.size W hN1 hN2 hW
    clear hn
    go_enter Try.func3, Try.ntmps3
    go_wp2_with fail
    refine a1.mono ?_
    rintro e w1 ⟨rfl, t1, hb1⟩
    go_wp2_with fail
    refine (a2 w1 hb1.size).mono ?_
    rintro e w2 ⟨rfl, q1, hb2⟩
    have ST : Hid (St w w2 (w.heap.size + 1) w.heap.size w1.heap.size (List.replicate N (.slice none 0 0)) (.slice none 0 0) ⟨N, 0, List.replicate N []⟩ ⟨N, 0, []⟩) := by
      refine ⟨t1.below hb2, q1, fun k hk hq => ?_, hb1.trans (hb2.mono hb1.size)⟩
      have := (t1.lt k hk).2
      rcases hq with h | h
      · omega
      · cases h
    have RL : Hid (Rel ⟨N, 0, List.replicate N []⟩ ⟨N, 0, []⟩) := by
      refine ⟨rfl, rfl, hN1, hN1, (fun l hl => by cases hl), by simp, fun t ht => ?_⟩
      show (List.replicate N [])[t]? = some (ofT t [])
      have ht' : t < N := ht
      rw [List.getElem?_replicate, if_pos ht']
      rfl
    clear a1 a2 t1 q1 hb1 hb2
    generalize w.heap.size + 1 = b at *
    generalize w1.heap.size = qb at *
    go_wp2_with fail
    go_loopg [9] 300 (fun gk s9 wr => ∃ (j : Nat) (vs : List Value) (v : Value) (T : Tu) (Q : Qu), j + gk = 300 ∧ j ≤ m ∧ s9 = .int .i64 j ∧ St w wr b w.heap.size qb vs v T Q ∧ Rel T Q ∧ Q.wait.length ≤ j)
    case atStart => exact ⟨0, _, _, _, _, rfl, Nat.zero_le _, rfl, ST.out, RL.out, Nat.zero_le _⟩
    case round =>
      obtain ⟨j, vs, v, T, Q, hj, hjm, rfl, hst, hrl, hql⟩ := hrel
      have HJ : Hid (j + gk = 300) := hj
      have HST : Hid (St w wr b w.heap.size qb vs v T Q) := hst
      have HRL : Hid (Rel T Q ∧ Q.wait.length ≤ j) := ⟨hrl, hql⟩
      have hj300 : j ≤ 300 := by omega
      clear hj hst hrl hql ST RL
      by_cases hlt : j < m
      · by_cases hlt3 : j < 300
        · obtain ⟨B, off, rfl, hBl, hc⟩ : ∃ b off, p = some ⟨b, off, none⟩ ∧ b < w.heap.size ∧ ∀ (k : Nat) x, ps[k]? = some x → w.cell? ⟨b, off + k * 3, none⟩ = some (.int .i64 x.kind) ∧ w.cell? ⟨b, off + k * 3 + 1, none⟩ = some (.int .i64 x.tenant) ∧ w.cell? ⟨b, off + k * 3 + 2, none⟩ = some (.string x.text) := by
            rcases HROW.out with h | h
            · omega
            · exact h
          have hjk : j < ps.length := by have := HM.out; omega
          obtain ⟨x, hx⟩ : ∃ x, x = ps[j] := ⟨_, rfl⟩
          have hxg : ps[j]? = some x := by rw [hx]; exact List.getElem?_eq_getElem hjk
          have d0 := (HST.out.bel.cell (p := ⟨B, off + j * 3, none⟩) hBl).trans (hc j x hxg).1
          have d1 := (HST.out.bel.cell (p := ⟨B, off + j * 3 + 1, none⟩) hBl).trans (hc j x hxg).2.1
          have d2 := (HST.out.bel.cell (p := ⟨B, off + j * 3 + 2, none⟩) hBl).trans (hc j x hxg).2.2
          have hsz := HSZ.out x (List.mem_of_getElem? hxg)
          obtain ⟨kd, t, s⟩ := x
          simp only at d0 d1 d2 hsz
          clear hc hxg hx hjk
          have hi0 : (0 : Int) ≤ (j : Int) := by omega
          have hi1 : (j : Int) < (m : Int) := by omega
          have hi2 : (j : Int) < (300 : Int) := by omega
          -- the deed in a block of its own
          have hba : Below wr.heap.size wr (wr.alloc (.cells #[.int .i64 kd, .int .i64 t, .string s] 31)) := (Below.refl _ _).alloc (Nat.le_refl _) _
          have HSA : Hid (St w (wr.alloc (.cells #[.int .i64 kd, .int .i64 t, .string s] 31)) b w.heap.size qb vs v T Q) := HST.out.below hba
          have HPP : Hid ((wr.alloc (.cells #[.int .i64 kd, .int .i64 t, .string s] 31)).heap[wr.heap.size]? = some (.cells #[.int .i64 kd, .int .i64 t, .string s] 31 (0, 0)) ∧ Free b w.heap.size qb vs v wr.heap.size ∧ wr.heap.size < (wr.alloc (.cells #[.int .i64 kd, .int .i64 t, .string s] 31)).heap.size) := ⟨heap_alloc_new _ _, HST.out.free, by simp⟩
          have a1 : (wr.alloc (.cells #[.int .i64 kd, .int .i64 t, .string s] 31)).cell? ⟨wr.heap.size, 0, none⟩ = some (.int .i64 kd) := by rw [Lib.cell_of_heap HPP.out.1]; rfl
          have a2 : (wr.alloc (.cells #[.int .i64 kd, .int .i64 t, .string s] 31)).cell? ⟨wr.heap.size, 1, none⟩ = some (.int .i64 t) := by rw [Lib.cell_of_heap HPP.out.1]; rfl
          have a3 : (wr.alloc (.cells #[.int .i64 kd, .int .i64 t, .string s] 31)).cell? ⟨wr.heap.size, 2, none⟩ = some (.string s) := by rw [Lib.cell_of_heap HPP.out.1]; rfl
          clear hba
          by_cases hk1 : kd = 1
          · subst hk1
            obtain ⟨ec, hrl2, hln2⟩ := HRL.out.1.push t s
            have cT := Push_any w.heap.size b w.heap.size vs T t s (wr.alloc (.cells #[.int .i64 1, .int .i64 t, .string s] 31)).drew (HSA.out.tu.keep fun _ _ => rfl) hsz HSA.out.bel.size
            rw [ec] at cT
            have cQ := fun W (hW : QuAt W w.heap.size qb v Q) (hB : w.heap.size ≤ W.heap.size) => RefPush_any w.heap.size qb v Q t s W hW (by have := HRL.out.2; omega) hB
            have HR2 : Hid (Rel (T.push t s).2 (Q.push t s).2 ∧ (Q.push t s).2.wait.length ≤ j + 1) := ⟨hrl2, by have := HRL.out.2; omega⟩
            generalize (Q.push t s).1 = C at *
            generalize (Q.push t s).2 = Q2 at *
            generalize (T.push t s).2 = T2 at *
            have hcc : (C == C) = true := by simp
            have SD : Hid (St w (wr.alloc (.cells #[.int .i64 1, .int .i64 t, .string s] 31)).drew b w.heap.size qb vs v T Q) := HSA.out.below (Below.refl _ _).drew
            have K0 : (wr.alloc (.cells #[.int .i64 1, .int .i64 t, .string s] 31)).drew.cell? ⟨wr.heap.size, 1, none⟩ = some (.int .i64 t) ∧ (wr.alloc (.cells #[.int .i64 1, .int .i64 t, .string s] 31)).drew.cell? ⟨wr.heap.size, 2, none⟩ = some (.string s) := ⟨a2, a3⟩
            have KT : Hid (∀ W, OnlyF (TuOwn b w.heap.size vs) (wr.alloc (.cells #[.int .i64 1, .int .i64 t, .string s] 31)).drew W → W.cell? ⟨wr.heap.size, 1, none⟩ = some (.int .i64 t) ∧ W.cell? ⟨wr.heap.size, 2, none⟩ = some (.string s)) := fun W ho => by
              have e := ho.block wr.heap.size HPP.out.2.2 HPP.out.2.1.1
              exact ⟨(World.cell?_of_block (a := ⟨wr.heap.size, 1, none⟩) e).trans a2, (World.cell?_of_block (a := ⟨wr.heap.size, 2, none⟩) e).trans a3⟩
            have KQ : Hid (∀ W W', (W.cell? ⟨wr.heap.size, 1, none⟩ = some (.int .i64 t) ∧ W.cell? ⟨wr.heap.size, 2, none⟩ = some (.string s)) → OnlyF (QuOwn qb v) W W' → W'.cell? ⟨wr.heap.size, 1, none⟩ = some (.int .i64 t) ∧ W'.cell? ⟨wr.heap.size, 2, none⟩ = some (.string s)) := fun W W' hh ho => by
              have hl := World.block_lt_of_cell? W _ hh.1
              have e := ho.block wr.heap.size hl HPP.out.2.1.2
              exact ⟨(World.cell?_of_block (a := ⟨wr.heap.size, 1, none⟩) e).trans hh.1, (World.cell?_of_block (a := ⟨wr.heap.size, 2, none⟩) e).trans hh.2⟩
            clear ec hrl2 hln2
            go_wp2_with fail
            go_region_held3 (fun W => W.cell? ⟨wr.heap.size, 1, none⟩ = some (.int .i64 t) ∧ W.cell? ⟨wr.heap.size, 2, none⟩ = some (.string s)) (first | exact K0 | exact KT.out _ o1 | exact KQ.out _ _ (by assumption) o2)
              (first | (go_at_call 8; refine cT.mono ?_; rintro e W1 ⟨rfl, vs1, t1, o1, w1'⟩; have S1 := SD.out.afterT t1 o1 w1') | (go_at_call 9; refine (cQ _ S1.qu S1.bel.size).mono ?_; rintro e W2 ⟨rfl, v2, t2, o2, w2'⟩; have S2 := S1.afterQ t2 o2 w2'))
            go_wp2_with fail
            go_roundg (gk - 1)
            case measure => have := HJ.out; omega
            case rel => exact ⟨j + 1, vs1, v2, T2, Q2, by have := HJ.out; omega, by omega, by go_num, S2, HR2.out.1, HR2.out.2⟩
          · have hk1b : (kd == 1) = false := by simpa using hk1
            by_cases hk2 : kd = 2
            · subst hk2
              clear hk1 hk1b
              have SD : Hid (St w (wr.alloc (.cells #[.int .i64 2, .int .i64 t, .string s] 31)) b w.heap.size qb vs v T Q) := HSA.out
              have cT := Pop_any w.heap.size b w.heap.size vs T _ SD.out.tu
              have cQ := fun W (hW : QuAt W w.heap.size qb v Q) (hB : w.heap.size ≤ W.heap.size) => RefPop_any w.heap.size qb v Q W hW (by have := HRL.out.2; omega) hB
              go_wp2_with fail
              refine cT.mono ?_
              rintro e W1 hp
              rcases hp with ⟨hall, rfl, hb1⟩ | ⟨i, z, r, hi, hl, hr, rfl, vs1, t1, o1, w1'⟩
              · have S1 : Hid (St w W1 b w.heap.size qb vs v T Q) := SD.out.below hb1
                have HALL : Hid (∀ i, i < T.n → T.rows[(T.next + i) % T.n]? = some []) := hall
                clear hall hb1
                go_wp2_with fail
                refine (cQ W1 S1.out.qu S1.out.bel.size).mono ?_
                rintro e W2 hp
                rcases hp with ⟨hq0, rfl, hb2⟩ | ⟨k, x, hbest, rfl, _⟩
                · go_wp2_with fail
                  go_roundg (gk - 1)
                  case measure => have := HJ.out; omega
                  case rel => exact ⟨j + 1, vs, v, T, Q, by have := HJ.out; omega, by omega, by go_num, S1.out.below hb2, HRL.out.1, by have := HRL.out.2; omega⟩
                · exfalso
                  obtain ⟨h1, h2, h3, h4⟩ := HRL.out.1.full hbest.1
                  have := HALL.out _ h2
                  rw [h3, HRL.out.1.rows _ h1] at this
                  exact h4 (by simpa using this)
              · have S1 : Hid (St w W1 b w.heap.size qb vs1 v ⟨T.n, ((T.next + i) % T.n + 1) % T.n, T.rows.set ((T.next + i) % T.n) r⟩ Q) := SD.out.afterT t1 o1 w1'
                have HP1 : Hid (i < T.n ∧ (∀ j, j < i → T.rows[(T.next + j) % T.n]? = some []) ∧ T.rows[(T.next + i) % T.n]? = some (z :: r)) := ⟨hi, hl, hr⟩
                clear hi hl hr t1 o1 w1'
                obtain ⟨t0, ht0⟩ : ∃ t0, t0 = (T.next + i) % T.n := ⟨_, rfl⟩
                rw [← ht0]
                have HT0 : Hid (t0 = (T.next + i) % T.n) := ht0
                clear ht0
                go_wp2_with fail
                refine (cQ W1 S1.out.qu S1.out.bel.size).mono ?_
                rintro e W2 hp
                rcases hp with ⟨hq0, rfl, hb2⟩ | ⟨k, x, hbest, rfl, v2, t2, o2, w2'⟩
                · exfalso
                  have := HRL.out.1.empty hq0 i
                  rw [HP1.out.2.2] at this
                  cases this
                · obtain ⟨e1, e2, hrl2⟩ := HRL.out.1.best hbest HP1.out.1 HP1.out.2.1 HP1.out.2.2
                  have S2 : Hid (St w W2 b w.heap.size qb vs1 v2 ⟨T.n, ((T.next + i) % T.n + 1) % T.n, T.rows.set ((T.next + i) % T.n) r⟩ ⟨Q.n, (x.1 + 1) % Q.n, Q.wait.take k ++ Q.wait.drop (k + 1)⟩) := S1.out.afterQ t2 o2 w2'
                  have HR2 : Hid (Rel ⟨T.n, ((T.next + i) % T.n + 1) % T.n, T.rows.set ((T.next + i) % T.n) r⟩ ⟨Q.n, (x.1 + 1) % Q.n, Q.wait.take k ++ Q.wait.drop (k + 1)⟩) := hrl2
                  have HLEN : Hid ((Q.wait.take k ++ Q.wait.drop (k + 1)).length ≤ j + 1) := by
                    show List.length _ ≤ _
                    rw [List.length_append, List.length_take, List.length_drop]
                    have := HRL.out.2
                    omega
                  clear hrl2 t2 o2 w2' hbest
                  generalize (Tu.mk T.n (((T.next + i) % T.n + 1) % T.n) (T.rows.set ((T.next + i) % T.n) r)) = T2 at *
                  have HL2 : Hid ((Qu.mk Q.n ((x.1 + 1) % Q.n) (Q.wait.take k ++ Q.wait.drop (k + 1))).wait.length ≤ j + 1) := HLEN.out
                  generalize (Qu.mk Q.n ((x.1 + 1) % Q.n) (Q.wait.take k ++ Q.wait.drop (k + 1))) = Q2 at *
                  obtain ⟨y, u⟩ := x
                  simp only at e1 e2
                  have e3 : t0 = y := HT0.out.trans e1
                  subst e2 e3
                  clear e1 HP1 cT cQ HT0
                  have hs1 : (z.toList == z.toList) = true := by simp
                  have hy1 : ((t0 : Int) == (t0 : Int)) = true := by simp
                  go_wp2_with fail
                  go_roundg (gk - 1)
                  case measure => have := HJ.out; omega
                  case rel => exact ⟨j + 1, vs1, v2, T2, Q2, by have := HJ.out; omega, by omega, by go_num, S2.out, HR2.out, HL2.out⟩
            · have hk2b : (kd == 2) = false := by simpa using hk2
              have cT := Waits_any w.heap.size b w.heap.size vs T t (wr.alloc (.cells #[.int .i64 kd, .int .i64 t, .string s] 31)).drew (HSA.out.tu.keep fun _ _ => rfl)
              rw [HRL.out.1.waits t] at cT
              have cQ := RefWaits_any w.heap.size qb v Q t (wr.alloc (.cells #[.int .i64 kd, .int .i64 t, .string s] 31)).drew (HSA.out.qu.keep fun _ _ => rfl) (by have := HRL.out.2; omega)
              generalize cntL t Q.wait = C at *
              have hcc : ((C : Int) == (C : Int)) = true := by simp
              have K0 : (wr.alloc (.cells #[.int .i64 kd, .int .i64 t, .string s] 31)).drew.cell? ⟨wr.heap.size, 1, none⟩ = some (.int .i64 t) := a2
              have KQ : Hid (∀ W, Below (wr.alloc (.cells #[.int .i64 kd, .int .i64 t, .string s] 31)).drew.heap.size (wr.alloc (.cells #[.int .i64 kd, .int .i64 t, .string s] 31)).drew W → W.cell? ⟨wr.heap.size, 1, none⟩ = some (.int .i64 t)) := fun W hb => (hb.cell (p := ⟨wr.heap.size, 1, none⟩) HPP.out.2.2).trans a2
              have SD : Hid (St w (wr.alloc (.cells #[.int .i64 kd, .int .i64 t, .string s] 31)).drew b w.heap.size qb vs v T Q) := HSA.out.below (Below.refl _ _).drew
              go_wp2_with fail
              go_region_held3 (fun W => W.cell? ⟨wr.heap.size, 1, none⟩ = some (.int .i64 t)) (first | exact K0 | exact KQ.out _ hb2)
                (first | (go_at_call 12; refine cT.mono ?_; rintro e W1 ⟨rfl, rfl⟩) | (go_at_call 13; refine cQ.mono ?_; rintro e W2 ⟨rfl, hb2⟩))
              go_wp2_with fail
              go_roundg (gk - 1)
              case measure => have := HJ.out; omega
              case rel => exact ⟨j + 1, vs, v, T, Q, by have := HJ.out; omega, by omega, by go_num, SD.out.below hb2, HRL.out.1, by have := HRL.out.2; omega⟩
        · have hq : ¬ (j : Int) < (300 : Int) := by omega
          have hq2 : (j : Int) < (m : Int) := by omega
          go_wp2_with fail
          go_ret
          exact ⟨rfl, HST.out.bel⟩
      · have hq : ¬ (j : Int) < (m : Int) := by omega
        go_wp2_with fail
        go_ret
        exact ⟨rfl, HST.out.bel⟩
end Go.Proofs.Ytcgmnpofpnpfcaa
