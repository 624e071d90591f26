/- HouseLogs: what holds from deed to deed. -/
import Derived.Test.YtpldaghhledjlaaGreatDoorHoTick
import Derived.Test.YtpldaghhledjlaaGreatDoorHoFeed
import Derived.Test.YtpldaghhledjlaaGreatDoorHoTurn
import Derived.Test.YtpldaghhledjlaaGreatDoorHoBoot2
import Derived.Test.YtpldaghhledjlaaGreatDoorHoShift
import Derived.Test.YtpldaghhledjlaaGreatDoorBigText
namespace Go.Proofs.YtpldaghhledjlaaGreatDoor.H
open Go.RowKit

/-- where all of it lies -/
structure Lm where
  hb : Nat
  c : Hm
  cbx : Nat
  qbx : Nat
  C : Nat
  qb : Nat
  N : Nat
/-- what holds from deed to deed -/
structure Lw (w wr : World) (o : Nat → Nat) (m : Lm) (S : Hs) (Q : Qu) (M i : Nat) : Prop where
  ho : HoAt wr o m.hb m.c S M
  dc : DoAt wr o m.cbx m.qbx m.C m.qb m.N Q S.ds
  rel : Rel S.T Q
  qm : ∀ l ∈ Q.wait, l.2 = qm
  tn : S.T.n = m.N
  tot : Q.wait.length + S.ds.sum ≤ i
  tick : S.ticks ≤ i
  log : S.log.length ≤ 200 * i
  told : M ≤ 128 * i
  o0 : ∀ k, k < w.heap.size → o k = 0
  bel : Below w.heap.size w wr
theorem sum_set : ∀ (cs : List Nat) (t d d' : Nat), cs[t]? = some d → (cs.set t d').sum + d = cs.sum + d'
  | [], t, d, d', h => by simp at h
  | c :: cs, 0, d, d', h => by simp at h; subst h; simp; omega
  | c :: cs, t + 1, d, d', h => by
    have := sum_set cs t d d' (by simpa using h)
    rw [List.set_cons_succ, List.sum_cons, List.sum_cons]
    omega
theorem le_sum : ∀ (cs : List Nat) (t d : Nat), cs[t]? = some d → d ≤ cs.sum
  | [], t, d, h => by simp at h
  | c :: cs, 0, d, h => by simp at h; subst h; simp
  | c :: cs, t + 1, d, h => by
    have := le_sum cs t d (by simpa using h)
    rw [List.sum_cons]
    omega
theorem below_ch {L : Nat → Prop} {w wr w' : World} {o o' : Nat → Nat} (hb : Below w.heap.size w wr) (h0 : ∀ k, k < w.heap.size → o k = 0) (k : Ch L o wr o' w') (hL : ¬ L 0) : Below w.heap.size w w' ∧ ∀ i, i < w.heap.size → o' i = 0 :=
  ⟨hb.trans (k.below hb.size fun i hi => by rw [h0 i hi]; exact hL), fun i hi => (k.lab i (Nat.lt_of_lt_of_le hi hb.size)).trans (h0 i hi)⟩
theorem HL0 : ¬ HL 0 := by unfold HL; omega
theorem DL0 : ¬ DL 0 := by unfold DL; omega
variable {w wr w' : World} {o o' : Nat → Nat} {m : Lm} {S : Hs} {Q : Qu} {M i : Nat}
theorem Lw.vars (h : Lw w wr o m S Q M i) (hv : Vars w) : Vars wr := hv.below h.bel
theorem Lw.h0 (h : Lw w wr o m S Q M i) (hv : Vars w) : ∀ k, k < 9 → o k = 0 := fun k hk => h.o0 k (by have := hv.room; omega)
theorem Lw.qms (h : Lw w wr o m S Q M i) : ∀ r ∈ S.T.rows, ∀ x ∈ r, x = H.qm := by
  intro r hr x hx
  obtain ⟨t, ht⟩ := List.mem_iff_getElem?.1 hr
  have htn : t < S.T.n := by rw [← h.rel.len]; exact (List.getElem?_eq_some_iff.1 ht).1
  rw [h.rel.rows t htn] at ht
  cases ht
  unfold ofT at hx
  obtain ⟨l, hl, rfl⟩ := List.mem_map.1 hx
  exact h.qm l (List.mem_filter.1 hl).1
theorem Lw.drew (h : Lw w wr o m S Q M i) : Lw w wr.drew o m S Q M i := ⟨h.ho.drew, h.dc.drew, h.rel, h.qm, h.tn, h.tot, h.tick, h.log, h.told, h.o0, h.bel.drew⟩
/-- new blocks alone -/
theorem Lw.more (h : Lw w wr o m S Q M i) (hb : Below wr.heap.size wr w') : Lw w w' (ext o wr.heap.size 0) m S Q M i := by
  have k : Ch (fun _ => False) o wr (ext o wr.heap.size 0) w' := Ch.ofBelow hb 0
  obtain ⟨b1, b2⟩ := below_ch h.bel h.o0 k fun h => h
  exact ⟨h.ho.ch k (fun _ h => h.elim), h.dc.ch k (fun _ h => h.elim), h.rel, h.qm, h.tn, h.tot, h.tick, h.log, h.told, b2, b1⟩
theorem Lw.next (h : Lw w wr o m S Q M i) : Lw w wr o m S Q M (i + 1) := ⟨h.ho, h.dc, h.rel, h.qm, h.tn, by have := h.tot; omega, by have := h.tick; omega, by have := h.log; omega, by have := h.told; omega, h.o0, h.bel⟩
/-- behind a tick -/
theorem Lw.ticked (h : Lw w wr o m S Q M i) (hN : m.N ≤ 5) (hi : i < 60) (h1 : HoAt w' o' m.hb m.c ⟨S.T, S.ds, S.ticks + 1, S.log ++ numL (S.ticks + 1) ++ wL S.T S.T.n ++ [10]⟩ M) (k : Ch HL o wr o' w') : Lw w w' o' m ⟨S.T, S.ds, S.ticks + 1, S.log ++ numL (S.ticks + 1) ++ wL S.T S.T.n ++ [10]⟩ Q M (i + 1) := by
  obtain ⟨b1, b2⟩ := below_ch h.bel h.o0 k HL0
  refine ⟨h1, h.dc.ch k HL_DL, h.rel, h.qm, h.tn, by have := h.tot; simp only; omega, by have := h.tick; simp only; omega, ?_, by have := h.told; omega, b2, b1⟩
  have h2 := wL_len S.T S.T.n (fun t ht => waits_small h.ho t ht) S.T.n (Nat.le_refl _)
  have h3 := numL_len (S.ticks + 1) (by have := h.tick; omega)
  have h4 := h.tn
  have h5 := h.log
  simp only [List.length_append, List.length_cons, List.length_nil]
  omega
/-- behind a feed -/
theorem Lw.fed (h : Lw w wr o m S Q M i) {t d : Nat} (hd : S.ds[t]? = some d) (h1 : HoAt w' o' m.hb m.c ⟨(moveF t (d + 1) S.T).1, S.ds.set t (moveF t (d + 1) S.T).2, S.ticks, S.log⟩ M) (h2 : DoAt w' o' m.cbx m.qbx m.C m.qb m.N (moveQ t (d + 1) Q).1 (S.ds.set t (moveQ t (d + 1) Q).2)) (b1 : Below w.heap.size w w') (b2 : ∀ k, k < w.heap.size → o' k = 0) :
    Lw w w' o' m ⟨(moveF t (d + 1) S.T).1, S.ds.set t (moveF t (d + 1) S.T).2, S.ticks, S.log⟩ (moveQ t (d + 1) Q).1 M (i + 1) := by
  obtain ⟨r1, r2⟩ := move_rel t (d + 1) S.T Q h.rel
  have h3 := moveQ_len t (d + 1) Q
  have h4 := sum_set S.ds t d (moveF t (d + 1) S.T).2 hd
  refine ⟨h1, ?_, r1, move_qm t (d + 1) Q h.qm, by simp only; rw [moveF_n]; exact h.tn, ?_, by have := h.tick; simp only; omega, by have := h.log; simp only; omega, by have := h.told; omega, b2, b1⟩
  · simp only
    rw [r2]
    exact h2
  · have := h.tot
    simp only
    omega
/-- behind a turn of a line -/
theorem Lw.turned (h : Lw w wr o m S Q M i) {j k u d : Nat} {r : List ByteArray} {x : Nat × ByteArray} (hj : j < S.T.n) (hu : u = (S.T.next + j) % S.T.n) (hl : ∀ i, i < j → S.T.rows[(S.T.next + i) % S.T.n]? = some []) (hr : S.T.rows[u]? = some (H.qm :: r)) (hd : S.ds[u]? = some d) (hb : Q.Best Q.wait.length k x)
    (h1 : HoAt w' o' m.hb m.c ⟨(moveF u d ⟨S.T.n, (u + 1) % S.T.n, S.T.rows.set u r⟩).1, S.ds.set u (moveF u d ⟨S.T.n, (u + 1) % S.T.n, S.T.rows.set u r⟩).2, S.ticks, S.log⟩ (M + 128))
    (h2 : DoAt w' o' m.cbx m.qbx m.C m.qb m.N (moveQ u d ⟨Q.n, (x.1 + 1) % Q.n, Q.wait.take k ++ Q.wait.drop (k + 1)⟩).1 (S.ds.set u (moveQ u d ⟨Q.n, (x.1 + 1) % Q.n, Q.wait.take k ++ Q.wait.drop (k + 1)⟩).2)) (b1 : Below w.heap.size w w') (b2 : ∀ k, k < w.heap.size → o' k = 0) :
    Lw w w' o' m ⟨(moveF u d ⟨S.T.n, (u + 1) % S.T.n, S.T.rows.set u r⟩).1, S.ds.set u (moveF u d ⟨S.T.n, (u + 1) % S.T.n, S.T.rows.set u r⟩).2, S.ticks, S.log⟩ (moveQ u d ⟨Q.n, (x.1 + 1) % Q.n, Q.wait.take k ++ Q.wait.drop (k + 1)⟩).1 (M + 128) (i + 1) := by
  subst hu
  obtain ⟨_, _, r0⟩ := h.rel.best hb hj hl hr
  obtain ⟨r1, r2⟩ := move_rel ((S.T.next + j) % S.T.n) d _ _ r0
  have h3 := moveQ_len ((S.T.next + j) % S.T.n) d ⟨Q.n, (x.1 + 1) % Q.n, Q.wait.take k ++ Q.wait.drop (k + 1)⟩
  have h4 := sum_set S.ds _ d (moveF ((S.T.next + j) % S.T.n) d ⟨S.T.n, ((S.T.next + j) % S.T.n + 1) % S.T.n, S.T.rows.set ((S.T.next + j) % S.T.n) r⟩).2 hd
  refine ⟨h1, ?_, r1, move_qm _ d _ (fun l hl => ?_), by simp only; rw [moveF_n]; exact h.tn, ?_, by have := h.tick; simp only; omega, by have := h.log; simp only; omega, by have := h.told; omega, b2, b1⟩
  · simp only
    rw [r2]
    exact h2
  · rcases List.mem_append.1 hl with h5 | h5
    · exact h.qm l (List.mem_of_mem_take h5)
    · exact h.qm l (List.mem_of_mem_drop h5)
  · have := h.tot
    simp only [List.length_append, List.length_take, List.length_drop] at h3 ⊢
    omega
theorem made_list (v : Value) (N : Nat) : madeCells #[v] N = (List.replicate N v).toArray := by
  apply Array.ext'
  rw [toList_madeCells_one]
theorem rel_zero (N : Nat) (h1 : 1 ≤ N) : Rel ⟨N, 0, List.replicate N []⟩ ⟨N, 0, []⟩ := by
  refine ⟨rfl, rfl, h1, h1, (fun l hl => by cases hl), by simp, fun t ht => ?_⟩
  have ht' : t < N := ht
  show (List.replicate N [])[t]? = some (ofT t [])
  rw [List.getElem?_replicate, if_pos ht']
  rfl
/-- it begins -/
theorem law_start {wc w1 : World} {hb N qb : Nat} {c : Hm} (h1 : 1 ≤ N) (hh : HoAt wc o hb c ⟨⟨N, 0, List.replicate N []⟩, List.replicate N 0, 0, []⟩ 0) (h0 : ∀ k, k < w.heap.size → o k = 0) (hb0 : Below w.heap.size w wc) (hqb : qb = wc.heap.size) (hq : QuAt w1 0 qb (.slice none 0 0) ⟨N, 0, []⟩) (hb1 : Below wc.heap.size wc w1) :
    ∃ o', Lw w (((w1.alloc (.cells #[.pointer (some ⟨qb, 0, none⟩)] 30)).alloc (.cells (madeCells #[.slice none 0 0] N) 34)).alloc (.cells #[.slice (some ⟨w1.heap.size + 1, 0, none⟩) N N] 33)) o' ⟨hb, c, w1.heap.size + 1 + 1, w1.heap.size, w1.heap.size + 1, qb, N⟩ ⟨⟨N, 0, List.replicate N []⟩, List.replicate N 0, 0, []⟩ ⟨N, 0, []⟩ 0 0 := by
  have hqlt := (hq.lt qb (.inl rfl)).2
  have hs1 := hb1.size
  have hsw := hb0.size
  obtain ⟨W0, hW0⟩ : ∃ W, W = ((w1.alloc (.cells #[.pointer (some ⟨qb, 0, none⟩)] 30)).alloc (.cells (madeCells #[.slice none 0 0] N) 34)).alloc (.cells #[.slice (some ⟨w1.heap.size + 1, 0, none⟩) N N] 33) := ⟨_, rfl⟩
  have hz1 : (w1.alloc (.cells #[.pointer (some ⟨qb, 0, none⟩)] 30)).heap.size = w1.heap.size + 1 := by simp
  have hz2 : ((w1.alloc (.cells #[.pointer (some ⟨qb, 0, none⟩)] 30)).alloc (.cells (madeCells #[.slice none 0 0] N) 34)).heap.size = w1.heap.size + 1 + 1 := by simp
  have hbW : Below w1.heap.size w1 W0 := by rw [hW0]; exact (((Below.refl _ _).alloc (Nat.le_refl _) _).alloc (by rw [hz1]; omega) _).alloc (by rw [hz2]; omega) _
  have hbc : Below wc.heap.size wc W0 := hb1.trans (hbW.mono hs1)
  have e1 : W0.heap[w1.heap.size]? = some (.cells #[.pointer (some ⟨qb, 0, none⟩)] 30 (0, 0)) := by
    rw [hW0, Below.heap_alloc _ _ _ (by rw [hz2]; omega), Below.heap_alloc _ _ _ (by rw [hz1]; omega)]
    exact heap_alloc_new w1 _
  have e2 : W0.heap[w1.heap.size + 1]? = some (.cells (List.replicate N (.slice none 0 0)).toArray 34 (0, 0)) := by
    rw [hW0, Below.heap_alloc _ _ _ (by rw [hz2]; omega), ← made_list]
    have := heap_alloc_new (w1.alloc (.cells #[.pointer (some ⟨qb, 0, none⟩)] 30)) (.cells (madeCells #[.slice none 0 0] N) 34)
    rw [hz1] at this
    exact this
  have e3 : W0.heap[w1.heap.size + 1 + 1]? = some (.cells #[.slice (some ⟨w1.heap.size + 1, 0, none⟩) N N] 33 (0, 0)) := by
    have := heap_alloc_new ((w1.alloc (.cells #[.pointer (some ⟨qb, 0, none⟩)] 30)).alloc (.cells (madeCells #[.slice none 0 0] N) 34)) (.cells #[.slice (some ⟨w1.heap.size + 1, 0, none⟩) N N] 33)
    rw [hz2, ← hW0] at this
    exact this
  rw [← hW0]
  let o2 : Nat → Nat := fun k => if k < wc.heap.size then o k else if k = qb then 5 else if k = w1.heap.size + 1 then 6 else 8
  have ho2 : ∀ k, k < wc.heap.size → o2 k = o k := fun k hk => if_pos hk
  have hbig : ∀ k, wc.heap.size ≤ k → o2 k = if k = qb then 5 else if k = w1.heap.size + 1 then 6 else 8 := fun k hk => if_neg (by omega)
  have k : Ch (fun _ => False) o wc o2 W0 := ⟨hbc.os, hbc.tape, hbc.output, hbc.size, ho2, fun k hk _ => hbc.block k hk⟩
  refine ⟨o2, hh.ch k (fun _ h => h.elim), ⟨e3, ?_, e1, ?_, ⟨_, hq.below hbW, ?_⟩, by simp, ?_, _, e2, by simp, ?_⟩, rel_zero N h1, (fun l hl => by cases hl), rfl, by simp, Nat.le_refl _, by simp, Nat.le_refl _, fun k hk => by rw [ho2 k (by omega)]; exact h0 k hk, hb0.trans (hbc.mono hsw)⟩
  · show o2 (w1.heap.size + 1 + 1) = 8
    rw [hbig _ (by omega), if_neg (by omega), if_neg (by omega)]
  · show o2 w1.heap.size = 8
    rw [hbig _ (by omega), if_neg (by omega), if_neg (by omega)]
  · intro i hi
    rcases hi with hi | hi
    · have hi' : i = qb := hi
      rw [hbig i (by omega), if_pos hi']
    · cases hi
  · show o2 (w1.heap.size + 1) = 6
    rw [hbig _ (by omega), if_neg (by omega), if_pos rfl]
  · intro t v d hv hd
    rw [List.getElem?_replicate] at hv
    change (List.replicate N 0)[t]? = some d at hd
    rw [List.getElem?_replicate] at hd
    split at hv
    · rename_i ht
      rw [if_pos ht] at hd
      cases hv
      cases hd
      exact ⟨Qs.nil _, fun k hk => (by obtain ⟨_, _, _, e, _⟩ := hk; cases e)⟩
    · cases hv
theorem Tryz.infoInt : (Tryz.prog.info? 3).map (fun i => (i.zero, i.size, i.bytes)) = some (some (.int .i64 0), 1, 8) := by kernel_rfl
theorem make_ints (n : Nat) (hn : n ≤ 64) (W : World) : (Instr.makeSlice 23 (.int .i64 (n : Int)) (.int .i64 (n : Int))).run Tryz.prog W = .ok (.slice (some ⟨W.heap.size, 0, none⟩) n n) (W.alloc (.cells (madeCells #[.int .i64 0] n) 3)) := by
  obtain ⟨i0, hi, hz0, hz1, hz2⟩ := info_parts Tryz.infoInt
  have hr := run_make (P := Tryz.prog) W 23 3 i0 (.int .i64 0) Tryz.underlying23 hi hz0 .i64 .i64 n n (by omega) (Int.le_refl _) (by rw [hz2]; omega) (by omega)
  rw [hz1] at hr
  simp only [Int.toNat_natCast, Nat.mul_one] at hr
  exact hr
end Go.Proofs.YtpldaghhledjlaaGreatDoor.H
