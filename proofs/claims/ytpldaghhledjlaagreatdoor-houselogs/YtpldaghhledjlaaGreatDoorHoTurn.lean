/- Turn, where all lines are '?'. -/
import Derived.Test.YtpldaghhledjlaaGreatDoorHoMove
import Derived.Test.YtpldaghhledjlaaGreatDoorHoPut
import Derived.Test.YtpldaghhledjlaaGreatDoorHoAns
import Derived.Test.YtpldaghhledjlaaGreatDoorFrWrap
import Derived.Test.YtpldaghhledjlaaGreatDoorTuPop
namespace Go.Proofs.YtpldaghhledjlaaGreatDoor.H
open Go.RowKit

theorem step_append_str (w : World) {ops : Array Oper} {op : Oper} {a : Act} {K : Act → World → Prop} {Q : Exit → Act → World → Prop} {E : Prop} (hgd : op.guard = none) (sl x : Operand)
    (ho : op.op = .call { callee := .builtin .append, args := #[sl, x], argTypes := #[50, 9] })
    (B : Nat) (v : Value) (n : Nat) (xs : List Value) (hs : a.eval sl = v) (hown : w.ownsRow B 5 1 v n xs) (s : ByteArray) (hx : a.eval x = .string s) (hlim : n + s.size ≤ 140737488355328) (hB : B ≤ w.heap.size)
    (h : ∀ v' w', w'.ownsRow B 5 1 v' (n + s.size) (xs ++ Lib.strCells s) → w.grownBy w' v.ownBlock → (∀ k, v'.ownBlock = some k → v.ownBlock = some k ∨ w.heap.size ≤ k) → K (a.put op.dst v') w') :
    if Region.wanted op (yielded ops a.tmps) = true then Oper.wp Tryz.prog op a w K Q else E := by
  have hw : Region.wanted op (yielded ops a.tmps) = true := by simp [Region.wanted, hgd]
  rw [if_pos hw]
  obtain ⟨v', w', hrun, r1, r2, r3⟩ := run_append_str B op.type v n xs w hown s hlim hB
  unfold Oper.wp execOp
  simp only [ho, resolve, invoke, builtin, Sem.run_bind, Sem.run_pure, Result.andThen_ok, List.map_toArray, List.map_cons, List.map_nil, hs, hx, hrun]
  exact h v' w' r1 r2 r3
/-- more is told -/
theorem PoAt.setTold {w w1 w5 : World} {o : Nat → Nat} {t pb d M N : Nat} (h : PoAt w o t pb d M) {hv bv tv v' : Value} {l' : List UInt8} (k1 : PoB w pb hv ⟨#[]⟩ bv tv) (k2 : Qs w bv d) (k3 : ∀ k, QsOwn bv k → o k = 11 + 3 * t) (k5 : ∀ k, tv.ownBlock = some k → o k = 12 + 3 * t) (hN : l'.length ≤ N)
    (hbel : Below w.heap.size w w1) (hg : w1.grownBy w5 tv.ownBlock) (h1 : w5.ownsRow 0 5 1 v' l'.length (Lib.byteCells l')) (hat : ∀ k, v'.ownBlock = some k → tv.ownBlock = some k ∨ w1.heap.size ≤ k) :
    PoAt (w5.setCell ⟨pb, 3, none⟩ v') (ext o w.heap.size (12 + 3 * t)) t pb d N ∧ Ch (portL t) o w (ext o w.heap.size (12 + 3 * t)) (w5.setCell ⟨pb, 3, none⟩ v') := by
  have hlt := h.lt
  have hlab := h.lab
  have hsz := hbel.size
  have hkeep : ∀ k, k < w.heap.size → tv.ownBlock ≠ some k → w5.heap[k]? = w.heap[k]? := fun k hk hn => (hg.block k (by omega) (fun e => hn e.symm)).trans (hbel.block k hk)
  have hne : tv.ownBlock ≠ some pb := fun e => by have := k5 pb e; omega
  have hl : ∀ k, v'.ownBlock = some k → ext o w.heap.size (12 + 3 * t) k = 12 + 3 * t := fun k hk => by
    rcases hat k hk with h2 | h2
    · exact ext_is (k5 k h2)
    · exact ext_new (by omega)
  refine ⟨⟨by rw [ext_old hlt]; exact hlab, hv, bv, v', l', block_set ((hkeep pb hlt hne).trans k1) 3 v', k2.keep fun k hk => ?_, fun k hk => ?_, ownsRow_keepB h1 fun k hk => Below.heap_setCell _ _ _ _ fun e => ?_, hl, hN⟩, ?_⟩
  · have h5 := k3 k hk
    rw [Below.heap_setCell _ _ _ _ (by intro e; change k = pb at e; rw [e, hlab] at h5; omega)]
    exact hkeep k (k2.lt hk) fun e => by have := k5 k e; omega
  · rw [ext_old (k2.lt hk)]; exact k3 k hk
  · change k = pb at e
    have := hl k hk
    rw [e, ext_old hlt, hlab] at this
    omega
  · have h3 : OnlyF (fun k => tv.ownBlock = some k ∨ k = pb) w (w5.setCell ⟨pb, 3, none⟩ v') := OnlyF.trans (F := fun k => tv.ownBlock = some k ∨ k = pb) (OnlyF.of hbel) ((OnlyF.grown (F := fun k => tv.ownBlock = some k ∨ k = pb) hg fun k e => .inl e).trans (OnlyF.set (F := fun k => tv.ownBlock = some k ∨ k = pb) w5 ⟨pb, 3, none⟩ v' (.inr rfl)) fun k hk => .inl hk) fun k hk => .inl hk
    exact Ch.of h3 _ fun k hk _ => by
      rcases hk with h4 | h4
      · rw [k5 k h4]; unfold portL; omega
      · rw [h4, hlab]; unfold portL; omega
theorem vars_ch {o o1 : Nat → Nat} {w w1 : World} (hv : Vars w) (h : Ch HL o w o1 w1) (h0 : ∀ k, k < 9 → o k = 0) : Vars w1 :=
  hv.keep (fun k hk => h.block k (by have := hv.room; omega) (by rw [h0 k hk]; unfold HL; omega)) h.size
/-- a pop -/
def HPop (o : Nat → Nat) (hb : Nat) (c : Hm) (S : Hs) (M : Nat) (w : World) (e : Ending) (w' : World) : Prop :=
  ((∀ i, i < S.T.n → S.T.rows[(S.T.next + i) % S.T.n]? = some []) ∧ e = .returned (.tuple #[.int .i64 0, .string ⟨#[]⟩, .bool false]) ∧ ∃ o', HoAt w' o' hb c S M ∧ Ch HL o w o' w') ∨
  ∃ i r u, i < S.T.n ∧ u = (S.T.next + i) % S.T.n ∧ u < S.T.n ∧ (∀ j, j < i → S.T.rows[(S.T.next + j) % S.T.n]? = some []) ∧ S.T.rows[u]? = some (qm :: r) ∧ e = .returned (.tuple #[.int .i64 u, .string qm, .bool true]) ∧
    ∃ o', HoAt w' o' hb c ⟨⟨S.T.n, (u + 1) % S.T.n, S.T.rows.set u r⟩, S.ds, S.ticks, S.log⟩ M ∧ Ch HL o w o' w'
theorem HoAt.pop {w : World} {o : Nat → Nat} {hb : Nat} {c : Hm} {S : Hs} {M : Nat} (h : HoAt w o hb c S M) (hq : ∀ r ∈ S.T.rows, ∀ x ∈ r, x = qm) :
    Calls Tryz.prog 23 #[.pointer (some ⟨c.tb, 0, none⟩)] w (HPop o hb c S M w) := by
  obtain ⟨vs, t1, t2⟩ := h.turns
  refine (Pop_any 0 c.tb c.R vs S.T w t1).mono ?_
  rintro e w' (⟨h1, rfl, h2⟩ | ⟨i, s, r, hi, h1, h2, rfl, vs', h3, h4, h5⟩)
  · have hc : Ch (fun _ => False) o w (ext o w.heap.size 0) w' := Ch.ofBelow h2 0
    exact .inl ⟨h1, rfl, _, h.ch hc (fun _ h => h.elim), hc.mono fun _ h => h.elim⟩
  · have hs : s = qm := hq _ (List.mem_of_getElem? h2) s List.mem_cons_self
    subst hs
    have hc : Ch (fun l => l = 2) o w (ext o w.heap.size 2) w' := Ch.of h4 2 fun k hk _ => t2 k hk
    exact .inr ⟨i, r, _, hi, rfl, Nat.mod_lt _ t1.pos, h1, h2, rfl, _, h.setT hc h3 (fun k hk => by
      rcases h5 k hk with h6 | h6
      · exact ext_is (t2 k h6)
      · exact ext_new h6) rfl, hc.mono two_HL⟩
/-- what Turn answers, and what it leaves -/
def TurnOut (o : Nat → Nat) (hb : Nat) (c : Hm) (S : Hs) (M : Nat) (w : World) (e : Ending) (w' : World) : Prop :=
  ((∀ i, i < S.T.n → S.T.rows[(S.T.next + i) % S.T.n]? = some []) ∧ e = .returned (.bool false) ∧ ∃ o', HoAt w' o' hb c S M ∧ Ch HL o w o' w') ∨
  ∃ i r u d, i < S.T.n ∧ u = (S.T.next + i) % S.T.n ∧ u < S.T.n ∧ (∀ j, j < i → S.T.rows[(S.T.next + j) % S.T.n]? = some []) ∧ S.T.rows[u]? = some (qm :: r) ∧ S.ds[u]? = some d ∧ e = .returned (.bool true) ∧
    ∃ o', HoAt w' o' hb c ⟨(moveF u d ⟨S.T.n, (u + 1) % S.T.n, S.T.rows.set u r⟩).1, S.ds.set u (moveF u d ⟨S.T.n, (u + 1) % S.T.n, S.T.rows.set u r⟩).2, S.ticks, S.log⟩ (M + 128) ∧ Ch HL o w o' w'
theorem wrap_q (s : ByteArray) (W : World) (hs : s.size ≤ 60) : Calls Tryz.prog 24 #[.string s] W fun e w' => ∃ x : List UInt8, e = .returned (.string ⟨x.toArray⟩) ∧ x.length = 128 ∧ Below W.heap.size W w' := by
  obtain ⟨l, rfl⟩ : ∃ l : List UInt8, s = ⟨l.toArray⟩ := ⟨s.data.toList, by simp⟩
  have hl : l.length ≤ 60 := by
    have : (⟨l.toArray⟩ : ByteArray).size = l.length := by show l.toArray.size = _; rw [List.size_toArray]
    omega
  have hw : (wrapL l).length = 128 := by rw [wrapL_short (by omega), frameOf_len 0 (by omega)]
  refine (wrap_any l W (by omega)).mono ?_
  rintro e w' ⟨rfl, hb⟩
  exact ⟨_, rfl, hw, hb⟩
set_option maxRecDepth 20000 in
set_option maxHeartbeats 1000000 in
theorem turn_any {w : World} {o : Nat → Nat} {hb : Nat} {c : Hm} {S : Hs} {M : Nat} (h : HoAt w o hb c S M) (hv : Vars w) (h0 : ∀ k, k < 9 → o k = 0) (hq : ∀ r ∈ S.T.rows, ∀ x ∈ r, x = qm) (hM : M ≤ 100000) :
    Calls Tryz.prog 10 #[.pointer (some ⟨hb, 0, none⟩)] w (TurnOut o hb c S M w) := by
  obtain ⟨lv, l1, _, _⟩ := h.log
  have c1 : w.cell? ⟨hb, 1, none⟩ = some (.pointer (some ⟨c.tb, 0, none⟩)) := Lib.cell_of_heap l1 1
  have hpop := h.pop hq
  have HV : Hid (Vars w ∧ ∀ k, k < 9 → o k = 0) := ⟨hv, h0⟩
  have HLE : Hid (S.ds.length = S.T.n ∧ c.pbs.length = S.T.n ∧ S.T.n ≤ 64) := ⟨h.dlen, h.plen, h.n64.2⟩
  clear h hv h0 hq l1
  go_enter Tryz.func10, Tryz.ntmps10
  go_wp2_with fail
  refine hpop.mono ?_
  rintro e w1 (⟨h1, rfl, o1, h2, h3⟩ | ⟨i, r, u, hi, hu, hun, h1, h2, rfl, o1, h4, h5⟩)
  · have HE : Hid (TurnOut o hb c S M w (.returned (.bool false)) w1) := .inl ⟨h1, rfl, o1, h2, h3⟩
    clear h1 h2 h3 hpop
    go_wp2_with fail
    go_ret
    exact HE.out
  · obtain ⟨d, hd⟩ : ∃ d, S.ds[u]? = some d := ⟨S.ds[u]'(by have := HLE.out.1; omega), List.getElem?_eq_getElem _⟩
    have hmv := moveUp_any h4 u d hun hd
    have HH : Hid (i < S.T.n ∧ u = (S.T.next + i) % S.T.n ∧ u < S.T.n ∧ (∀ j, j < i → S.T.rows[(S.T.next + j) % S.T.n]? = some []) ∧ S.T.rows[u]? = some (qm :: r) ∧ S.ds[u]? = some d) := ⟨hi, hu, hun, h1, h2, hd⟩
    have HC : Hid (Ch HL o w o1 w1) := h5
    have hun2 : u < S.T.n := hun
    clear h1 h2 h4 h5 hu hd hpop hi hun c1
    go_wp2_with fail
    refine hmv.mono ?_
    rintro e w2 ⟨rfl, o2, h6, hc6⟩
    obtain ⟨P, hP⟩ : ∃ P, P = moveF u d ⟨S.T.n, (u + 1) % S.T.n, S.T.rows.set u r⟩ := ⟨_, rfl⟩
    rw [← hP] at h6
    have hPn : P.1.n = S.T.n := by rw [hP, moveF_n]
    have HP : Hid (P = moveF u d ⟨S.T.n, (u + 1) % S.T.n, S.T.rows.set u r⟩) := hP
    obtain ⟨T2, d2⟩ := P
    simp only at h6 hPn
    have HC2 : Hid (Ch HL o w o2 w2) := HC.out.trans hc6
    have hv2 : Vars w2 := vars_ch HV.out.1 HC2.out HV.out.2
    obtain ⟨lv2, l1, _, _⟩ := h6.log
    have c2 : w2.cell? ⟨hb, 2, none⟩ = some (.slice (some ⟨c.pr, 0, none⟩) S.T.n c.cp) := by rw [← hPn]; exact Lib.cell_of_heap l1 2
    obtain ⟨pb, hpb⟩ : ∃ pb, c.pbs[u]? = some pb := ⟨c.pbs[u]'(by have := HLE.out.2.1; omega), List.getElem?_eq_getElem _⟩
    have cp := h6.ports u pb hpb
    have hpo := h6.port u pb d2 hpb (by show (S.ds.set u d2)[u]? = _; rw [List.getElem?_set, if_pos rfl, if_pos (by have := HLE.out.1; omega)])
    have HPO : Hid (PoAt w2 o2 u pb d2 M) := hpo
    have H6 : Hid (HoAt w2 o2 hb c ⟨T2, S.ds.set u d2, S.ticks, S.log⟩ M) := h6
    have HPB : Hid (c.pbs[u]? = some pb) := hpb
    obtain ⟨hv, bv, tv, l, k1, k2, k3, k4, k5, k6⟩ := hpo.ex
    have HK : Hid (PoB w2 pb hv ⟨#[]⟩ bv tv ∧ Qs w2 bv d2 ∧ (∀ k, QsOwn bv k → o2 k = 11 + 3 * u) ∧ w2.ownsRow 0 5 1 tv l.length (Lib.byteCells l) ∧ (∀ k, tv.ownBlock = some k → o2 k = 12 + 3 * u) ∧ l.length ≤ M) := ⟨k1, k2, k3, k4, k5, k6⟩
    have KC : Hid (∀ W, Below w2.heap.size w2 W → W.cell? ⟨pb, 3, none⟩ = some tv) := fun W hW => (hW.cell (p := ⟨pb, 3, none⟩) HPO.out.lt).trans (Lib.cell_of_heap HK.out.1 3)
    have KE : Hid (∀ W w5, Below w2.heap.size w2 W → W.grownBy w5 tv.ownBlock → w5.cell? ⟨pb, 3, none⟩ = some tv ∧ w5.frozen? ⟨pb, 3, none⟩ = false) := fun W w5 hW hg => by
      have hlt := HPO.out.lt
      have e : w5.heap[pb]? = w2.heap[pb]? := (hg.block pb (Nat.lt_of_lt_of_le hlt hW.size) (fun e => by have h1 := HK.out.2.2.2.2.1 pb e.symm; have h2 := HPO.out.lab; omega)).trans (hW.block pb hlt)
      exact ⟨(World.cell?_of_block (a := ⟨pb, 3, none⟩) e).trans (Lib.cell_of_heap HK.out.1 3), (World.frozen?_of_block (a := ⟨pb, 3, none⟩) e).trans (Lib.frozen_of_heap HK.out.1 3)⟩
    have OW : Hid (∀ W, Below w2.heap.size w2 W → W.ownsRow 0 5 1 tv l.length (Lib.byteCells l)) := fun W hW => ownsRow_keepB HK.out.2.2.2.1 fun k hk => hW.block k (HK.out.2.2.2.1.lt k hk).2
    have e3 := KC.out w2.drew (Below.refl _ _).drew
    have hans := answer_q (.pointer (some ⟨pb, 0, none⟩)) w2.drew (hv2.drew)
    have hi0 : (0 : Int) ≤ (u : Int) := by omega
    have hi1 : (u : Int) < (S.T.n : Int) := by omega
    obtain ⟨ta, tn, tc, htv⟩ := own_sl k4
    subst htv
    clear h6 hc6 l1 hpb hpo k1 k2 k3 k4 k5 k6 hP hmv hv2 HC
    go_wp2_with fail
    go_region_law (first
      | (refine step_append_str _ (by rfl) _ _ (by rfl) 0 (.slice ta tn tc) l.length (Lib.byteCells l) (by rfl) (OW.out _ hbB) ⟨x.toArray⟩ (by rfl) (by have := HK.out.2.2.2.2.2; have := HX.out; omega) (Nat.zero_le _) ?_; intro v' w5 hown5 hgrow5 hat5; obtain ⟨q4, q5⟩ := KE.out _ w5 hbB hgrow5; obtain ⟨va, vn, vc, hv'⟩ := own_sl hown5; subst hv')
      | (go_simp; go_wp2_with (first | (go_at_call 25; refine hans.mono ?_; rintro e wA ⟨s, rfl, hs, hbA'⟩; have hbA : Below w2.heap.size w2 wA := Below.trans (Below.refl w2.heap.size w2).drew hbA'; have g3 := KC.out wA hbA) | (go_at_call 24; refine (wrap_q _ _ hs).mono ?_; rintro e wB ⟨x, rfl, hx, hbB'⟩; have hbB : Below w2.heap.size w2 wB := hbA.trans (hbB'.mono hbA.size); have g4 := KC.out wB hbB; have HX : Hid ((⟨x.toArray⟩ : ByteArray).size = 128) := (by show x.toArray.size = 128; rw [List.size_toArray]; exact hx)))))
    all_goals
      obtain ⟨hp5, hc5⟩ := HPO.out.setTold (N := M + 128) (l' := l ++ x) HK.out.1 HK.out.2.1 HK.out.2.2.1 HK.out.2.2.2.2.1 (by rw [List.length_append]; have := HK.out.2.2.2.2.2; omega) hbB hgrow5 (by
        have h9 : (⟨x.toArray⟩ : ByteArray).size = x.length := by show x.toArray.size = _; rw [List.size_toArray]
        rw [List.length_append, ← bytes_add, ← str_bytes x, ← h9]
        exact hown5) hat5
      have h7 := H6.out.setP hc5 (Nat.le_add_right M 128) (fun pb' hpb' => by
        have := HPB.out
        rw [hpb'] at this
        cases this
        exact hp5)
      simp only [List.set_set] at h7
      have HE : Hid (TurnOut o hb c S M w (.returned (.bool true)) (w5.setCell ⟨pb, 3, none⟩ (.slice va vn vc))) := by
        obtain ⟨a1, a2, a3, a4, a5, a6⟩ := HH.out
        refine .inr ⟨i, r, u, d, a1, a2, a3, a4, a5, a6, rfl, _, ?_, HC2.out.trans (hc5.mono (portL_HL (by have := HLE.out.2.2; omega)))⟩
        rw [← HP.out]
        exact h7
      clear hp5 hc5 h7 hown5 hgrow5 hat5
      go_wp2_with fail
      go_ret
      exact HE.out
end Go.Proofs.YtpldaghhledjlaaGreatDoor.H
