/- The law's requests behind its set. -/
import Derived.Test.YtgipjplifndniaaGreatDoorHaAns
import Derived.Test.YtgipjplifndniaaGreatDoorHaAt
import Derived.Test.YtgipjplifndniaaGreatDoorHaSet
import Derived.Test.YtgipjplifndniaaGreatDoorHaGet
import Derived.Test.YtgipjplifndniaaGreatDoorHaDrop
import Derived.Test.YtgipjplifndniaaGreatDoorHaFound
import Derived.Test.YtgipjplifndniaaGreatDoorHaBare
import Derived.Test.YtgipjplifndniaaGreatDoorLpOpenA
namespace Go.Proofs.YtgipjplifndniaaGreatDoor.U
open Go.RowKit Go.Maps Go.Proofs.YtgipjplifndniaaGreatDoor.L Go.Proofs.YtgipjplifndniaaGreatDoor.A Go.Proofs.YtgipjplifndniaaGreatDoor.K

variable {w w1 w2 : World} {o o1 o2 : Nat → Nat} {hb b t i k m : Nat} {draw : Int} {S : Hl} {ids : List Nat} {wv kv : Value} {A A' : Ar} {PR : (Bool → Nat → Bool) → Int → Prop} {q : Nat → Int} {name : ByteArray} {g : Gr} {x : Wd}
theorem vars_ch {M : Nat → Prop} (hv : K.Vars w) (hl : ∀ k, k < 5 + 1 → o k = 0) (c : Ch M o w o1 w1) (hM : ¬ M 0) : K.Vars w1 := hv.keep (fun k hk => c.block k (Nat.lt_of_lt_of_le hk hv.room) (by rw [hl k hk]; exact hM)) c.size
theorem do_new (h : HlAt w o 5 hb b t draw S ids wv kv) (hA : ArL w o b A) (hst : NxSt PR t q A) (ht : t < 64) (name other : ByteArray) (born live n : Int) (v : Value) (hs : name.size ≤ 140737488355328) (hn : namedB name = true) (hg : goodB born live = true) (hno : atN S.ws name = none) (hlt : S.ws.length < 16) (hq : A.cnt t + 100 < q t) (hl : A.cnt t + 100 < A.lim t) :
    Calls Tryz.prog 7 #[.pointer (some ⟨hb, 0, none⟩), reqV 1 name other born live n v] w fun r w' => r = .returned (codeV 0) ∧ ∃ A' o' ids' v' id', ArL w' o' b A' ∧ Ch (fun l => l = 1 ∨ l = 5) o w o' w' ∧ NxSt PR t q A' ∧ HlAt w' o' 5 hb b t draw { S with ws := S.ws ++ [⟨name, born, live, id'⟩] } ids' v' kv ∧ Rt A' t 1 id' (cellsG []) ∧ A'.cnt t ≤ A.cnt t + 100 ∧ A'.lim t = A.lim t := by
  let Z : Array Value → Int → Ar → (Nat → Nat) → World → Prop := fun vs e A' o' w' => vs = #[.int .i64 0, .int .i64 0, .int .i64 0, .int .i64 0, .int .i64 0, .int .i64 0, .int .i64 0, .int .i64 0, .string ⟨#[]⟩, .slice none 0 0] ∧ e = 0 ∧ NxSt PR t q A' ∧ ∃ id', FromR t (mk A t) A' [] id' 0 ∧ ∃ ids' v', HlAt w' o' 5 hb b t draw { S with ws := S.ws ++ [⟨name, born, live, id'⟩] } ids' v' kv
  have hZ : Stable Z := fun vs e A1 o1 w1 o2 w2 ⟨z1, z2, z3, id', z4, i2, v2, z5⟩ c => ⟨z1, z2, z3, id', z4, i2, v2, z5.ch c (by decide)⟩
  have hcm := mk_cnt hst.s ht
  refine (do_any (Z := Z) h hA hst ht 1 name other born live n v (fun W oo hW c hAW hHW => answer_new hZ name other born live n v fun W2 o2 c2 => ?_) hZ fun vs e A1 o1 w1 z he => absurd z.2.1 he).mono ?_
  · have hst2 := mk_st hst ht
    refine (found_new (hHW.ch c2 (by decide)) (hAW.ch c2 (by decide)) hst2 ht name born live hs hn hg hno hlt).mono ?_
    rintro r w3 ⟨e', rfl, A3, o3, id', h1, h2, h3, h4, h5⟩
    have he : e' = 0 := by
      obtain ⟨N, k1, k2, k3, k4, k5⟩ := h4
      have k6 := from_count k4 h3 ht (by omega)
      have k7 := gx_fine k4 h3 (by simp at k6; omega) (by
        have := k4.lim
        rw [show (mk A t).lim t = A.lim t by rw [mk_lim]] at this
        simp at k6
        omega)
      rcases k5 with k5 | k5
      · exact absurd k5.1 k7
      · exact k5.1
    subst he
    obtain ⟨i3, v3, h6⟩ := h5 rfl
    exact ⟨⟨0, 0, 0, 0, 0, 0, 0, 0, ⟨#[]⟩, none, 0, 0, 0, A3, o3, rfl, h1, h2, rfl, rfl, h3, id', h4, i3, v3, h6⟩⟩
  · rintro r w' ⟨vs, e, A3, o3, hC, ⟨_, rfl, hA3, z1, z2, z3, id', h4, i3, v3, h6⟩ | ⟨he, _, ⟨_, _, z⟩, _⟩⟩
    · subst z1
      refine ⟨rfl, A3, o3, i3, v3, id', hA3, hC, z3, h6, ?_⟩
      obtain ⟨N, k1, k2, k3, k4, k5⟩ := h4
      have k6 := from_count k4 z3 ht (by omega)
      have hN : N = 1 := by
        have h1 := k1.two
        by_cases h2 : 2 < N + 1
        · exact absurd (fun p hp => by cases hp) (k1.least 2 (by omega) h2)
        · omega
      subst hN
      rcases k5 with k5 | k5
      · exact absurd rfl k5.1.ne
      · have := k4.lim
        rw [show (mk A t).lim t = A.lim t by rw [mk_lim]] at this
        exact ⟨k5.2, by simp at k6; omega, this⟩
    · exact absurd z.2.1 he
def Same (t : Nat) (A A' : Ar) : Prop := (∀ m x g, Rt A t m x g → Rt A' t m x g) ∧ A'.cnt t = A.cnt t ∧ A'.lim t = A.lim t
theorem same_mk (h : Sound A) (ht : t < 64) : Same t A (mk A t) := ⟨fun _ _ _ => mk_rt h ht, mk_cnt h ht, by rw [mk_lim]⟩
theorem Same.trans {A2 : Ar} (h : Same t A A') (k : Same t A' A2) : Same t A A2 := ⟨fun m x g hr => k.1 m x g (h.1 m x g hr), k.2.1.trans h.2.1, k.2.2.trans h.2.2⟩
theorem same_un (h : NxSt PR t q A) (ht : t < 64) : Same t A (un (mk A t) t) := by
  rw [un_same]
  exact (same_mk h.s ht).trans (same_mk (mk_st h ht).s ht)
theorem eg_set : ∀ args w, (callFunc 32 args).run Tryz.prog w = .ok (.enter 32 args) w := enters_of Tryz.func32 (by kernel_rfl) rfl
theorem eg_get : ∀ args w, (callFunc 34 args).run Tryz.prog w = .ok (.enter 34 args) w := enters_of Tryz.func34 (by kernel_rfl) rfl
def NoZ (b hb t : Nat) (draw : Int) (S : Hl) (ids : List Nat) (wv kv : Value) (A0 : Ar) (e0 : Int) (vs : Array Value) (e : Int) (A' : Ar) (o' : Nat → Nat) (w' : World) : Prop := vs = #[.int .i64 0, .int .i64 0, .int .i64 0, .int .i64 0, .int .i64 0, .int .i64 0, .int .i64 0, .int .i64 0, .string ⟨#[]⟩, .slice none 0 0] ∧ e = e0 ∧ A' = A0 ∧ HlAt w' o' 5 hb b t draw S ids wv kv
theorem noZ_stable {A0 : Ar} {e0 : Int} : Stable (NoZ b hb t draw S ids wv kv A0 e0) := fun _ _ _ _ _ _ _ ⟨z1, z2, z3, z4⟩ c => ⟨z1, z2, z3, z4.ch c (by decide)⟩
theorem do_no (h : HlAt w o 5 hb b t draw S ids wv kv) (hA : ArL w o b A) (hst : NxSt PR t q A) (ht : t < 64) (e : Int) (he : e ≠ 0) (verb : Int) (other : ByteArray) (born live n : Int) (v : Value)
    (HANS : ∀ W oo, w.heap.size ≤ W.heap.size → Ch (fun l => l = 1) o w oo W → ArL W oo b (mk A t) → HlAt W oo 5 hb b t draw S ids wv kv → Calls Tryz.prog 15 #[.pointer (some ⟨hb, 0, none⟩), reqV verb name other born live n v] W fun r w' => Leaves b oo W (NoZ b hb t draw S ids wv kv (mk A t) e) r w') :
    Calls Tryz.prog 7 #[.pointer (some ⟨hb, 0, none⟩), reqV verb name other born live n v] w fun r w' => r = .returned (codeV e) ∧ ∃ A' o', ArL w' o' b A' ∧ Ch (fun l => l = 1 ∨ l = 5) o w o' w' ∧ NxSt PR t q A' ∧ HlAt w' o' 5 hb b t draw S ids wv kv ∧ Same t A A' := by
  refine (do_any (Z := NoZ b hb t draw S ids wv kv (mk A t) e) h hA hst ht verb name other born live n v HANS noZ_stable fun vs e1 A1 o1 w1 z _ => ?_).mono ?_
  · obtain ⟨z1, z2, z3, z4⟩ := z
    subst z3
    exact ⟨mk_st hst ht, Goes1.refl t _, z4⟩
  · rintro r w' ⟨vs, e1, A3, o3, hC, ⟨h0, _, _, z1, z2, z3, z4⟩ | ⟨h0, rfl, ⟨_, _, z1, z2, z3, z4⟩, hA3, hS3, _, hH3⟩⟩
    · exact absurd z2.symm he
    · subst z2
      subst z3
      exact ⟨rfl, _, o3, hA3, hC, hS3, hH3, same_un hst ht⟩
theorem do_shut (h : HlAt w o 5 hb b t draw S ids wv kv) (hA : ArL w o b A) (hst : NxSt PR t q A) (ht : t < 64) (hs : name.size ≤ 140737488355328) (hkey : keyedB name = true) (hok : ∀ k ∈ S.ks, k.ok) (e : Int) (he : e ≠ 0) (other : ByteArray) (born live n : Int) (v : Value) :
    (findF S.ks name 2 = (⟨#[]⟩, e) → Calls Tryz.prog 7 #[.pointer (some ⟨hb, 0, none⟩), reqV 2 name other born live n v] w fun r w' => r = .returned (codeV e) ∧ ∃ A' o', ArL w' o' b A' ∧ Ch (fun l => l = 1 ∨ l = 5) o w o' w' ∧ NxSt PR t q A' ∧ HlAt w' o' 5 hb b t draw S ids wv kv ∧ Same t A A') ∧
    (findF S.ks name 1 = (⟨#[]⟩, e) → Calls Tryz.prog 7 #[.pointer (some ⟨hb, 0, none⟩), reqV 3 name other born live n v] w fun r w' => r = .returned (codeV e) ∧ ∃ A' o', ArL w' o' b A' ∧ Ch (fun l => l = 1 ∨ l = 5) o w o' w' ∧ NxSt PR t q A' ∧ HlAt w' o' 5 hb b t draw S ids wv kv ∧ Same t A A') := by
  constructor
  · intro hf
    exact do_no h hA hst ht e he 2 other born live n v fun W oo hW c hAW hHW => answer_set noZ_stable name other born live n v fun W2 o2 c2 => at_no (hHW.ch c2 (by decide)) (hAW.ch c2 (by decide)) hs hkey hok e hf he 2 other born live n v _ fun o3 W3 c3 => ⟨rfl, rfl, rfl, (hHW.ch c2 (by decide)).ch c3 (by decide)⟩
  · intro hf
    exact do_no h hA hst ht e he 3 other born live n v fun W oo hW c hAW hHW => answer_get noZ_stable name other born live n v fun W2 o2 c2 => at_no (hHW.ch c2 (by decide)) (hAW.ch c2 (by decide)) hs hkey hok e hf he 3 other born live n v _ fun o3 W3 c3 => ⟨rfl, rfl, rfl, (hHW.ch c2 (by decide)).ch c3 (by decide)⟩
theorem do_leaseno (h : HlAt w o 5 hb b t draw S ids wv kv) (hA : ArL w o b A) (hst : NxSt PR t q A) (ht : t < 64) (hs : name.size ≤ 140737488355328) (hkey : keyedB name = true) (other : ByteArray) (born live n : Int) (v : Value) :
    Calls Tryz.prog 7 #[.pointer (some ⟨hb, 0, none⟩), reqV 9 name other born live n v] w fun r w' => r = .returned (codeV 10) ∧ ∃ A' o', ArL w' o' b A' ∧ Ch (fun l => l = 1 ∨ l = 5) o w o' w' ∧ NxSt PR t q A' ∧ HlAt w' o' 5 hb b t draw S ids wv kv ∧ Same t A A' := by
  refine do_no h hA hst ht 10 (by decide) 9 other born live n v fun W oo hW c hAW hHW => answer_lease noZ_stable name other born live n v fun W2 o2 c2 => (lease_keyed name n (by omega) hkey W2).mono ?_
  rintro r w3 ⟨rfl, hb3⟩
  have c3 : Ch (fun l => l = 7) o2 W2 (ext o2 W2.heap.size 7) w3 := ch_seven hb3
  exact ⟨⟨0, 0, 0, 0, 0, 0, 0, 0, ⟨#[]⟩, none, 0, 0, 10, mk A t, _, rfl, (hAW.ch c2 (by decide)).ch c3 (by decide), Ch.ofBelow hb3 7, rfl, rfl, rfl, (hHW.ch c2 (by decide)).ch c3 (by decide)⟩⟩
theorem do_lease (h : HlAt w o 5 hb b t draw S ids wv kv) (hA : ArL w o b A) (hst : NxSt PR t q A) (ht : t < 64) (hv : K.Vars w) (hvl : ∀ k, k < 5 + 1 → o k = 0) (hs : name.size ≤ 140737488355328) (hk : keyedB name = false) (hat : atN S.ws name = some i) (hok : ∀ k ∈ S.ks, k.ok) (h0 : 0 ≤ S.serial) (h1 : S.serial ≤ 2147483647) (hl : S.ks.length < 32) (hids : ids.length ≤ 1000000) (other : ByteArray) (born live n : Int) (v : Value) (hr0 : 1 ≤ n) (hr1 : n ≤ 3) :
    Calls Tryz.prog 7 #[.pointer (some ⟨hb, 0, none⟩), reqV 9 name other born live n v] w fun r w' => r = .returned (ansV 0 0 0 0 0 0 0 0 ⟨(keyT S.serial draw).toArray⟩ (.slice none 0 0)) ∧ ∃ A' o' u, ArL w' o' b A' ∧ Ch (fun l => l = 1 ∨ l = 5) o w o' w' ∧ NxSt PR t q A' ∧ HlAt w' o' 5 hb b t draw ⟨S.ws, S.serial + 1, S.ks ++ [⟨⟨(keyT S.serial draw).toArray⟩, name, n⟩]⟩ ids wv u ∧ Same t A A' := by
  let Z : Array Value → Int → Ar → (Nat → Nat) → World → Prop := fun vs e A' o' w' => vs = #[.int .i64 0, .int .i64 0, .int .i64 0, .int .i64 0, .int .i64 0, .int .i64 0, .int .i64 0, .int .i64 0, .string ⟨(keyT S.serial draw).toArray⟩, .slice none 0 0] ∧ e = 0 ∧ A' = mk A t ∧ ∃ u, HlAt w' o' 5 hb b t draw ⟨S.ws, S.serial + 1, S.ks ++ [⟨⟨(keyT S.serial draw).toArray⟩, name, n⟩]⟩ ids wv u
  have hZ : Stable Z := fun vs e A1 o1 w1 o2 w2 ⟨z1, z2, z3, u, z4⟩ c => ⟨z1, z2, z3, u, z4.ch c (by decide)⟩
  refine (do_any (Z := Z) h hA hst ht 9 name other born live n v (fun W oo hW c hAW hHW => answer_lease hZ name other born live n v fun W2 o2 c2 => ?_) hZ fun vs e A1 o1 w1 z he => absurd z.2.1 he).mono ?_
  · have hl1 : ∀ k, k < 5 + 1 → oo k = 0 := fun k hk => (c.lab k (Nat.lt_of_lt_of_le hk hv.room)).trans (hvl k hk)
    have hv1 := vars_ch hv hvl c (by decide)
    refine (lease_any (hHW.ch c2 (by decide)) (vars_ch hv1 hl1 c2 (by decide)) name n hs hk hat hok h0 h1 hr0 hr1 hl hids).mono ?_
    rintro r w3 ⟨rfl, o3, u, h5, h6⟩
    exact ⟨⟨0, 0, 0, 0, 0, 0, 0, 0, ⟨(keyT S.serial draw).toArray⟩, none, 0, 0, 0, mk A t, o3, rfl, (hAW.ch c2 (by decide)).ch h6 (by decide), h6.mono fun l hl => .inr hl, rfl, rfl, rfl, u, h5⟩⟩
  · rintro r w' ⟨vs, e, A3, o3, hC, ⟨_, rfl, hA3, z1, z2, z3, u, z4⟩ | ⟨he, _, ⟨_, _, z⟩, _⟩⟩
    · subst z1
      subst z3
      exact ⟨rfl, _, o3, u, hA3, hC, mk_st hst ht, z4, same_mk hst.s ht⟩
    · exact absurd z.2.1 he
theorem do_drop (h : HlAt w o 5 hb b t draw S ids wv kv) (hA : ArL w o b A) (hst : NxSt PR t q A) (ht : t < 64) (hat : atN S.ws name = some i) (hids : ids.length ≤ 1000000) (hok : ∀ k ∈ S.ks, k.ok) (hlen : S.ks.length * 40 ≤ 140737488355328) (other : ByteArray) (born live n : Int) (v : Value) :
    Calls Tryz.prog 7 #[.pointer (some ⟨hb, 0, none⟩), reqV 7 name other born live n v] w fun r w' => r = .returned (codeV 0) ∧ ∃ A' o' ids' wv' u, ArL w' o' b A' ∧ Ch (fun l => l = 1 ∨ l = 5) o w o' w' ∧ NxSt PR t q A' ∧ HlAt w' o' 5 hb b t draw ⟨S.ws.eraseIdx i, S.serial, K.stay S.ks name⟩ ids' wv' u ∧ Same t A A' := by
  let Z : Array Value → Int → Ar → (Nat → Nat) → World → Prop := fun vs e A' o' w' => vs = #[.int .i64 0, .int .i64 0, .int .i64 0, .int .i64 0, .int .i64 0, .int .i64 0, .int .i64 0, .int .i64 0, .string ⟨#[]⟩, .slice none 0 0] ∧ e = 0 ∧ A' = mk A t ∧ ∃ ids' wv' u, HlAt w' o' 5 hb b t draw ⟨S.ws.eraseIdx i, S.serial, K.stay S.ks name⟩ ids' wv' u
  have hZ : Stable Z := fun vs e A1 o1 w1 o2 w2 ⟨z1, z2, z3, i2, v2, u, z4⟩ c => ⟨z1, z2, z3, i2, v2, u, z4.ch c (by decide)⟩
  refine (do_any (Z := Z) h hA hst ht 7 name other born live n v (fun W oo hW c hAW hHW => answer_drop hZ name other born live n v fun W2 o2 c2 => ?_) hZ fun vs e A1 o1 w1 z he => absurd z.2.1 he).mono ?_
  · refine (drop_any (hHW.ch c2 (by decide)) name hat hids hok hlen).mono ?_
    rintro r w3 ⟨rfl, o3, i3, v3, u, h5, h6⟩
    exact ⟨⟨0, 0, 0, 0, 0, 0, 0, 0, ⟨#[]⟩, none, 0, 0, 0, mk A t, o3, rfl, (hAW.ch c2 (by decide)).ch h6 (by decide), h6.mono fun l hl => .inr hl, rfl, rfl, rfl, i3, v3, u, h5⟩⟩
  · rintro r w' ⟨vs, e, A3, o3, hC, ⟨_, rfl, hA3, z1, z2, z3, i3, v3, u, z4⟩ | ⟨he, _, ⟨_, _, z⟩, _⟩⟩
    · subst z1
      subst z3
      exact ⟨rfl, _, o3, i3, v3, u, hA3, hC, mk_st hst ht, z4, same_mk hst.s ht⟩
    · exact absurd z.2.1 he
theorem do_set (h : HlAt w o 5 hb b t draw S ids wv kv) (hA : ArL w o b A) (hst : NxSt PR t q A) (ht : t < 64) (hs : name.size ≤ 140737488355328) (hkey : keyedB name = true) (hok : ∀ k ∈ S.ks, k.ok) (nm : ByteArray) (hfind : findF S.ks name 2 = (nm, 0)) (hat : atN S.ws nm = some i) (hk : ids[i]? = some k) (hids : ids.length ≤ 1000000) (hx : S.ws[i]? = some x) (hm1 : 1 ≤ m) (hm : m ≤ 43) (hrt : Rt A t m x.root g) (v : Value) (zs ys : List (Int × Int)) (hrow : Row w v zs) (hvl : ∀ k, v.ownBlock = some k → o k = 0) (hc : tcode zs = 0) (hys : Tidied zs ys) (hq : A.cnt t + ((46 + 43 * (ys.length + 4) : Nat) : Int) < q t) (hl : A.cnt t + ((46 + 43 * (ys.length + 4) : Nat) : Int) < A.lim t) (other : ByteArray) (born live n : Int) :
    Calls Tryz.prog 7 #[.pointer (some ⟨hb, 0, none⟩), reqV 2 name other born live n v] w fun r w' => r = .returned (codeV 0) ∧ ∃ A' o' id' N, ArL w' o' b A' ∧ Ch (fun l => l = 1 ∨ l = 5) o w o' w' ∧ NxSt PR t q A' ∧ HlAt w' o' 5 hb b t draw (S.put i id') ids wv kv ∧ Rt A' t N id' (addG g ys) ∧ 1 ≤ N ∧ (∃ N0, LeastLv (N0 + 1) ys ∧ N = max m N0) ∧ A'.lim t = A.lim t := by
  let Z : Array Value → Int → Ar → (Nat → Nat) → World → Prop := fun vs e A' o' w' => vs = #[.int .i64 0, .int .i64 0, .int .i64 0, .int .i64 0, .int .i64 0, .int .i64 0, .int .i64 0, .int .i64 0, .string ⟨#[]⟩, .slice none 0 0] ∧ e = 0 ∧ NxSt PR t q A' ∧ ∃ id', AddR t (mk A t) A' g m ys id' 0 ∧ HlAt w' o' 5 hb b t draw (S.put i id') ids wv kv
  have hZ : Stable Z := fun vs e A1 o1 w1 o2 w2 ⟨z1, z2, z3, id', z4, z5⟩ c => ⟨z1, z2, z3, id', z4, z5.ch c (by decide)⟩
  have hcm := mk_cnt hst.s ht
  refine (do_any (Z := Z) h hA hst ht 2 name other born live n v (fun W oo hW c hAW hHW => answer_set hZ name other born live n v fun W2 o2 c2 => ?_) hZ fun vs e A1 o1 w1 z he => absurd z.2.1 he).mono ?_
  · have hst2 := mk_st hst ht
    have row_ch : ∀ {M : Nat → Prop} {oa ob : Nat → Nat} {wa wb : World}, Row wa v zs → (∀ k, v.ownBlock = some k → ¬ M (oa k)) → Ch M oa wa ob wb → Row wb v zs := fun hr hl c => by
      rcases hr with h | ⟨hz, b', off, cc, rfl, hlt, hl', hm', hh⟩
      · exact .inl h
      · have e := c.block b' hlt (hl b' rfl)
        exact .inr ⟨hz, b', off, cc, rfl, Nat.lt_of_lt_of_le hlt c.size, hl', hm', fun j hj => ⟨(World.cell?_of_block (a := ⟨b', off + j * 2, none⟩) e).trans (hh j hj).1, (World.cell?_of_block (a := ⟨b', off + j * 2 + 1, none⟩) e).trans (hh j hj).2⟩⟩
    have hlt : ∀ k, v.ownBlock = some k → k < w.heap.size := fun k hk => by
      rcases hrow with ⟨_, rfl⟩ | ⟨_, b', off, cc, rfl, hlt, _⟩
      · cases hk
      · have e : b' = k := Option.some.inj hk
        exact e ▸ hlt
    have hr1 := row_ch hrow (fun k hk => by rw [hvl k hk]; decide) c
    have ho1 : ∀ k, v.ownBlock = some k → oo k = 0 := fun k hk => (c.lab k (hlt k hk)).trans (hvl k hk)
    have hr3 := row_ch hr1 (fun k hk => by rw [ho1 k hk]; decide) c2
    have ho2 : ∀ k, v.ownBlock = some k → o2 k = 0 := fun k hk => (c2.lab k (Nat.lt_of_lt_of_le (hlt k hk) c.size)).trans (ho1 k hk)
    refine at_yes (hHW.ch c2 (by decide)) (hAW.ch c2 (by decide)) hs hkey hok nm hfind hat hk hids 2 other born live n v _ eg_set hZ fun W3 o3 c3 => ?_
    refine (set_any ((hHW.ch c2 (by decide)).ch c3 (by decide)) ((hAW.ch c2 (by decide)).ch c3 (by decide)) hst2 ht hk hx hm1 hm (mk_rt hst.s ht hrt) v zs ys (row_ch hr3 (fun k hk => by rw [ho2 k hk]; decide) c3) hc hys 2 name other born live n).mono ?_
    rintro r w4 ⟨e', rfl, A4, o4, id', h1, h2, h3, h4, h5⟩
    obtain ⟨N, f1, f2, f3, f4⟩ := add_fine h5 h4 ht (by omega) (by
      obtain ⟨N, _, _, _, k4, _⟩ := h5
      have := k4.lim
      rw [show (mk A t).lim t = A.lim t by rw [mk_lim]] at this
      omega)
    subst f1
    rw [if_pos rfl] at h2
    exact ⟨⟨0, 0, 0, 0, 0, 0, 0, 0, ⟨#[]⟩, none, 0, 0, 0, A4, o4, rfl, h1, h3, rfl, rfl, h4, id', h5, h2⟩⟩
  · rintro r w' ⟨vs, e, A3, o3, hC, ⟨_, rfl, hA3, z1, z2, z3, id', h4, h6⟩ | ⟨he, _, ⟨_, _, z⟩, _⟩⟩
    · subst z1
      obtain ⟨N, k1, k2, ⟨N0, k3, k3'⟩, k4, k5⟩ := h4
      have := k4.lim
      rw [show (mk A t).lim t = A.lim t by rw [mk_lim]] at this
      rcases k5 with k5 | k5
      · exact absurd rfl k5.1.ne
      · exact ⟨rfl, A3, o3, id', N, hA3, hC, z3, h6, k5.2, by omega, ⟨N0, k3, k3'⟩, this⟩
    · exact absurd z.2.1 he
end Go.Proofs.YtgipjplifndniaaGreatDoor.U

namespace Go.Proofs.YtgipjplifndniaaGreatDoor.U
open Go.RowKit Go.Maps Go.Proofs.YtgipjplifndniaaGreatDoor.L Go.Proofs.YtgipjplifndniaaGreatDoor.A Go.Proofs.YtgipjplifndniaaGreatDoor.K

variable {w w1 w2 : World} {o o1 o2 : Nat → Nat} {hb b t i k m : Nat} {draw : Int} {S : Hl} {ids : List Nat} {wv kv : Value} {A A' : Ar} {PR : (Bool → Nat → Bool) → Int → Prop} {q : Nat → Int} {name : ByteArray} {g : Gr} {x : Wd}
def Free (o : Nat → Nat) (w : World) (u : Value) (ys : List (Int × Int)) : Prop := Row w u ys ∧ ∀ k, u.ownBlock = some k → o k = 0
theorem Free.ch {M : Nat → Prop} {u : Value} {ys : List (Int × Int)} (h : Free o w u ys) (c : Ch M o w o1 w1) (hM : ¬ M 0) : Free o1 w1 u ys := by
  obtain ⟨h1, h2⟩ := h
  rcases h1 with h1 | ⟨hz, b', off, cc, rfl, hlt, hl', hm', hh⟩
  · obtain ⟨e1, e2⟩ := h1
    exact ⟨.inl ⟨e1, e2⟩, fun k hk => by rw [e2] at hk; cases hk⟩
  · have e := c.block b' hlt (by rw [h2 b' rfl]; exact hM)
    refine ⟨.inr ⟨hz, b', off, cc, rfl, Nat.lt_of_lt_of_le hlt c.size, hl', hm', fun j hj => ⟨(World.cell?_of_block (a := ⟨b', off + j * 2, none⟩) e).trans (hh j hj).1, (World.cell?_of_block (a := ⟨b', off + j * 2 + 1, none⟩) e).trans (hh j hj).2⟩⟩, fun k hk => ?_⟩
    have e2 : b' = k := Option.some.inj hk
    subst e2
    exact (c.lab _ hlt).trans (h2 _ rfl)
theorem do_get (h : HlAt w o 5 hb b t draw S ids wv kv) (hA : ArL w o b A) (hst : NxSt PR t q A) (ht : t < 64) (hs : name.size ≤ 140737488355328) (hkey : keyedB name = true) (hok : ∀ k ∈ S.ks, k.ok) (nm : ByteArray) (hfind : findF S.ks name 1 = (nm, 0)) (hat : atN S.ws nm = some i) (hk : ids[i]? = some k) (hids : ids.length ≤ 1000000) (hx : S.ws[i]? = some x) (hm : m + 1 ≤ 30) (hrt : Rt A t m x.root g) (hfew : ∀ zs : List (Int × Int), zs.Nodup → (∀ p : Int × Int, p ∈ zs ↔ g p.1 p.2 = true) → zs.length ≤ 4096 ∧ tcode zs = 0) (v : Value) (other : ByteArray) (born live n : Int) :
    Calls Tryz.prog 7 #[.pointer (some ⟨hb, 0, none⟩), reqV 3 name other born live n v] w fun r w' => ∃ (sp : Option Addr) (sc : Nat) (zs ys : List (Int × Int)), r = .returned (ansV 0 ys.length 0 0 0 0 x.born x.live ⟨#[]⟩ (.slice sp ys.length sc)) ∧ (∀ p : Int × Int, p ∈ zs ↔ g p.1 p.2 = true) ∧ Tidied zs ys ∧ tcode zs = 0 ∧ ∃ A' o', Free o' w' (.slice sp ys.length sc) ys ∧ ArL w' o' b A' ∧ Ch (fun l => l = 1 ∨ l = 5) o w o' w' ∧ NxSt PR t q A' ∧ HlAt w' o' 5 hb b t draw S ids wv kv ∧ Same t A A' := by
  let Z : Array Value → Int → Ar → (Nat → Nat) → World → Prop := fun vs e A' o' w' => e = 0 ∧ A' = mk A t ∧ HlAt w' o' 5 hb b t draw S ids wv kv ∧ ∃ (sp : Option Addr) (sc : Nat) (zs ys : List (Int × Int)), vs = #[.int .i64 0, .int .i64 ys.length, .int .i64 0, .int .i64 0, .int .i64 0, .int .i64 0, .int .i64 x.born, .int .i64 x.live, .string ⟨#[]⟩, .slice sp ys.length sc] ∧ (∀ p : Int × Int, p ∈ zs ↔ g p.1 p.2 = true) ∧ Tidied zs ys ∧ tcode zs = 0 ∧ Free o' w' (.slice sp ys.length sc) ys
  have hZ : Stable Z := fun vs e A1 o1 w1 o2 w2 ⟨z1, z2, z3, sp, sc, zs, ys, z4, z5, z6, z7, z8⟩ c => ⟨z1, z2, z3.ch c (by decide), sp, sc, zs, ys, z4, z5, z6, z7, z8.ch c (by decide)⟩
  refine (do_any (Z := Z) h hA hst ht 3 name other born live n v (fun W oo hW c hAW hHW => answer_get hZ name other born live n v fun W2 o2 c2 => ?_) hZ fun vs e A1 o1 w1 z he => absurd z.1 he).mono ?_
  · refine at_yes (hHW.ch c2 (by decide)) (hAW.ch c2 (by decide)) hs hkey hok nm hfind hat hk hids 3 other born live n v _ eg_get hZ fun W3 o3 c3 => ?_
    have h3 := (hHW.ch c2 (by decide)).ch c3 (by decide)
    have a3 := (hAW.ch c2 (by decide)).ch c3 (by decide)
    refine (get_any h3 a3 (mk_st hst ht) ht hk hx hm (mk_rt hst.s ht hrt) v 3 name other born live n).mono ?_
    rintro r w4 ⟨u, n', e', rfl, ⟨zs, k1, k2, k3⟩, hb4⟩
    obtain ⟨f1, f2⟩ := hfew zs k2 k1
    rcases k3 with k3 | ⟨_, ys, k4, k5, k6, k7⟩
    · omega
    · rw [f2] at k4
      subst k4
      subst k7
      obtain ⟨sp, sc, rfl⟩ := k6.shape
      have c4 : Ch (fun l => l = 0) o3 W3 (ext o3 W3.heap.size 0) w4 := Ch.ofBelow hb4 0
      refine ⟨⟨0, ys.length, 0, 0, 0, 0, x.born, x.live, ⟨#[]⟩, sp, ys.length, sc, 0, mk A t, _, rfl, a3.ch c4 (by decide), Ch.ofBelow hb4 0, rfl, rfl, h3.ch c4 (by decide), sp, sc, zs, ys, rfl, k1, k5, f2, k6.read, fun k hk => ?_⟩⟩
      rcases k6 with ⟨_, e⟩ | ⟨_, b', off, cc, e, hlt, _⟩
      · rw [e] at hk; cases hk
      · rw [e] at hk
        have e2 : b' = k := Option.some.inj hk
        subst e2
        exact ext_new hlt
  · rintro r w' ⟨vs, e, A3, o3, hC, ⟨_, rfl, hA3, z1, z2, z3, sp, sc, zs, ys, z4, z5, z6, z7, z8⟩ | ⟨he, _, ⟨_, _, z⟩, _⟩⟩
    · subst z4
      subst z2
      exact ⟨sp, sc, zs, ys, rfl, z5, z6, z7, _, o3, z8, hA3, hC, mk_st hst ht, z3, same_mk hst.s ht⟩
    · exact absurd z.1 he
end Go.Proofs.YtgipjplifndniaaGreatDoor.U

namespace Go.Proofs.YtgipjplifndniaaGreatDoor.U
open Go.RowKit Go.Maps Go.Proofs.YtgipjplifndniaaGreatDoor.L Go.Proofs.YtgipjplifndniaaGreatDoor.A Go.Proofs.YtgipjplifndniaaGreatDoor.K

variable {w W W1 : World} {o o1 : Nat → Nat} {hb b : Nat} {A : Ar} {S : Hl} {ids : List Nat} {wv kv : Value}
def noPR : (Bool → Nat → Bool) → Int → Prop := fun _ _ => False
structure LS (w W : World) (o : Nat → Nat) (b hb : Nat) (A : Ar) (S : Hl) (ids : List Nat) (wv kv : Value) : Prop where
  ar : ArL W o b A
  hl : HlAt W o 5 hb b 9 77 S ids wv kv
  st : NxSt noPR 9 (fun _ => 199999) A
  ch : Ch (fun l => l = 1 ∨ l = 5) (fun _ => 0) w o W
theorem LS.grow (h : LS w W o b hb A S ids wv kv) (hb' : Below W.heap.size W W1) : LS w W1 (ext o W.heap.size 0) b hb A S ids wv kv :=
  ⟨h.ar.ch (L := fun _ => False) (Ch.ofBelow hb' 0) (fun h => h), h.hl.below hb' 0, h.st, h.ch.trans (Ch.ofBelow hb' 0)⟩
theorem LS.below (h : LS w W o b hb A S ids wv kv) : Below w.heap.size w W := ⟨h.ch.os, h.ch.tape, h.ch.output, h.ch.size, fun k hk => h.ch.block k hk (by decide)⟩
theorem LS.vars (h : LS w W o b hb A S ids wv kv) (hv : K.Vars w) : K.Vars W := vars_ch (o := fun _ => 0) hv (fun _ _ => rfl) h.ch (by decide)
theorem LS.low (h : LS w W o b hb A S ids wv kv) (hv : K.Vars w) : ∀ k, k < 5 + 1 → o k = 0 := fun k hk => h.ch.lab k (Nat.lt_of_lt_of_le hk hv.room)
theorem LS.an {g : Nat} {a0 a1 a2 a3 a4 a5 a6 a7 a8 a9 : Value} (h : LS w W o b hb A S ids wv kv) (hg : o g = 0) (hs : w.heap.size ≤ g) : LS w (putAn W g a0 a1 a2 a3 a4 a5 a6 a7 a8 a9) o b hb A S ids wv kv :=
  ⟨h.ar.ch (L := fun l => l = 0) (Ch.an0 hg) (by decide), h.hl.fin (by rw [hg]; decide), h.st, Ch.an h.ch hs⟩
def LA (o : Nat → Nat) (W : World) (R : Nat) (vs : Array Value) : Prop := AnB W R vs ∧ o R = 0
theorem LA.ch {M : Nat → Prop} {R : Nat} {vs : Array Value} (h : LA o W R vs) (c : Ch M o W o1 W1) (hM : ¬ M 0) : LA o1 W1 R vs :=
  ⟨(c.block R h.1.lt (by rw [h.2]; exact hM)).trans h.1, (c.lab R h.1.lt).trans h.2⟩
theorem LA.grow {R : Nat} {vs : Array Value} (h : LA o W R vs) (hb' : Below W.heap.size W W1) : LA (ext o W.heap.size 0) W1 R vs := h.ch (M := fun _ => False) (Ch.ofBelow hb' 0) fun h => h
theorem LA.far {R g : Nat} {vs : Array Value} {a0 a1 a2 a3 a4 a5 a6 a7 a8 a9 : Value} (h : LA o W R vs) (hne : R ≠ g) : LA o (putAn W g a0 a1 a2 a3 a4 a5 a6 a7 a8 a9) R vs := ⟨(putAn_far hne).trans h.1, h.2⟩
theorem LA.born (o : Nat → Nat) (W : World) (vs : Array Value) : LA (ext o W.heap.size 0) (W.alloc (.cells vs 35)) W.heap.size vs := ⟨Go.Deep.blk_alloc_new _ _, ext_new (Nat.le_refl _)⟩
theorem Free.grow {u : Value} {ys : List (Int × Int)} (h : Free o W u ys) (hb' : Below W.heap.size W W1) : Free (ext o W.heap.size 0) W1 u ys := h.ch (M := fun _ => False) (Ch.ofBelow hb' 0) fun h => h
theorem Free.far {u : Value} {ys : List (Int × Int)} {g : Nat} {a0 a1 a2 a3 a4 a5 a6 a7 a8 a9 : Value} (h : Free o W u ys) (hne : ∀ k, u.ownBlock = some k → k ≠ g) : Free o (putAn W g a0 a1 a2 a3 a4 a5 a6 a7 a8 a9) u ys := by
  refine ⟨?_, h.2⟩
  rcases h.1 with h1 | ⟨hz, b', off, cc, rfl, hlt, hl', hm', hh⟩
  · exact .inl h1
  · have e := putAn_far (w := W) (R := g) (a0 := a0) (a1 := a1) (a2 := a2) (a3 := a3) (a4 := a4) (a5 := a5) (a6 := a6) (a7 := a7) (a8 := a8) (a9 := a9) (hne b' rfl)
    exact .inr ⟨hz, b', off, cc, rfl, by rw [putAn_size]; exact hlt, hl', hm', fun j hj => ⟨(World.cell?_of_block (a := ⟨b', off + j * 2, none⟩) e).trans (hh j hj).1, (World.cell?_of_block (a := ⟨b', off + j * 2 + 1, none⟩) e).trans (hh j hj).2⟩⟩
theorem Free.lt {u : Value} {ys : List (Int × Int)} (h : Free o W u ys) (k : Nat) (hk : u.ownBlock = some k) : k < W.heap.size := by
  rcases h.1 with ⟨_, rfl⟩ | ⟨_, b', off, cc, rfl, hlt, _⟩
  · cases hk
  · have e : b' = k := Option.some.inj hk
    exact e ▸ hlt
def ab : ByteArray := ⟨#[97, 98]⟩
def kT : ByteArray := ⟨(keyT 0 77).toArray⟩
theorem kT_keyed : keyedB kT = true := by decide +kernel
theorem ab_named : namedB ab = true := by decide +kernel
theorem ab_free : keyedB ab = false := by decide +kernel
theorem kT_size : kT.size ≤ 140737488355328 := keyT_size 0 77 (by omega) (by omega)
theorem ab_size : ab.size ≤ 140737488355328 := by decide
theorem life_good : goodB 8 12 = true := by decide +kernel
def kS (rr root : Int) : Hl := ⟨[⟨ab, 8, 12, root⟩], 1, [⟨kT, ab, rr⟩]⟩
theorem find_k (rr r root : Int) : findF (kS rr root).ks kT r = if lacks rr r = true then (⟨#[]⟩, 10) else (ab, 0) := by
  unfold findF kS
  simp
theorem ok_k {rr root : Int} : ∀ k ∈ (kS rr root).ks, k.ok := fun k hk => by
  have e : k = ⟨kT, ab, rr⟩ := by simpa [kS] using hk
  subst e
  exact ⟨kT_size, ab_size⟩
theorem at_ab (rr root : Int) : atN (kS rr root).ws ab = some 0 := by
  unfold atN kS
  simp
theorem lack_12 : lacks 1 2 = true := by decide +kernel
theorem lack_11 : lacks 1 1 = false := by decide +kernel
theorem lack_21 : lacks 2 1 = true := by decide +kernel
theorem lack_22 : lacks 2 2 = false := by decide +kernel
theorem lack_31 : lacks 3 1 = false := by decide +kernel
theorem lack_32 : lacks 3 2 = false := by decide +kernel
theorem stay_none (rr root : Int) : K.stay (kS rr root).ks ab = [] := by
  unfold K.stay K.leftOf kS
  simp
end Go.Proofs.YtgipjplifndniaaGreatDoor.U

namespace Go.Proofs.YtgipjplifndniaaGreatDoor.U
open Go.RowKit Go.Maps Go.Proofs.YtgipjplifndniaaGreatDoor.L Go.Proofs.YtgipjplifndniaaGreatDoor.A Go.Proofs.YtgipjplifndniaaGreatDoor.K

variable {w W W1 : World} {o o1 : Nat → Nat} {hb b k N : Nat} {A : Ar} {S : Hl} {ids : List Nat} {wv kv : Value} {rr root : Int} {zs2 : List (Int × Int)}
theorem few_cells {zs2 : List (Int × Int)} (hl : zs2.length ≤ 30) (hn : ∀ p ∈ zs2, -1000 ≤ p.1 ∧ p.1 < 1000 ∧ -1000 ≤ p.2 ∧ p.2 < 1000) (zs : List (Int × Int)) (hd : zs.Nodup) (hm : ∀ p : Int × Int, p ∈ zs ↔ cellsG zs2 p.1 p.2 = true) : zs.length ≤ 4096 ∧ tcode zs = 0 := by
  have h1 : ∀ p ∈ zs, p ∈ zs2 := fun p hp => by
    have := (hm p).1 hp
    unfold cellsG at this
    simpa using this
  have h2 : zs.length ≤ zs2.length := hd.length_le_of_subset h1
  refine ⟨by omega, ?_⟩
  unfold tcode
  rw [if_neg (by omega), if_neg]
  intro h
  obtain ⟨p, hp, hf⟩ := List.any_eq_true.1 h
  rw [near_far (K := 1000) (by omega) (hn p (h1 p hp))] at hf
  cases hf
theorem ls_get (h : LS w W o b hb A (kS rr root) ids wv kv) (hk : ids[0]? = some k) (hl : ids.length = 1) (hlk : lacks rr 1 = false) (hrt : Rt A 9 N root (cellsG zs2)) (hN : N ≤ 20) (hz : Tidy zs2) (h30 : zs2.length ≤ 30) (hn : ∀ p ∈ zs2, -1000 ≤ p.1 ∧ p.1 < 1000 ∧ -1000 ≤ p.2 ∧ p.2 < 1000) :
    Calls Tryz.prog 7 #[.pointer (some ⟨hb, 0, none⟩), .agg #[.int .i64 3, .string kT, .string ⟨#[]⟩, .int .i64 0, .int .i64 0, .int .i64 0, .slice none 0 0]] W fun r w' => ∃ (sp : Option Addr) (sc : Nat) (A' : Ar) (o' : Nat → Nat), r = .returned (.agg #[.int .i64 0, .int .i64 zs2.length, .int .i64 0, .int .i64 0, .int .i64 0, .int .i64 0, .int .i64 8, .int .i64 12, .string ⟨#[]⟩, .slice sp zs2.length sc]) ∧ Free o' w' (.slice sp zs2.length sc) zs2 ∧ LS w w' o' b hb A' (kS rr root) ids wv kv ∧ Ch (fun l => l = 1 ∨ l = 5) o W o' w' := by
  have hf : findF (kS rr root).ks kT 1 = (ab, 0) := by rw [find_k, hlk]; rfl
  refine (do_get (k := k) (i := 0) (x := ⟨ab, 8, 12, root⟩) h.hl h.ar h.st (by omega) kT_size kT_keyed ok_k ab hf (at_ab rr root) hk (by omega) rfl (m := N) (by omega) hrt (few_cells h30 hn) (.slice none 0 0) ⟨#[]⟩ 0 0 0).mono ?_
  rintro r w' ⟨sp, sc, zs, ys, rfl, h1, h2, h3, A', o', h4, h5, h6, h7, h8, _⟩
  have e : ys = zs2 := tidy_unique ys zs2 h2.1 hz fun p => by
    rw [h2.2 p, h3, h1 p]
    unfold cellsG
    simp
  subst e
  exact ⟨sp, sc, A', o', rfl, h4, ⟨h5, h8, h7, h.ch.trans h6⟩, h6⟩
theorem ls_getno (h : LS w W o b hb A (kS rr root) ids wv kv) (hlk : lacks rr 1 = true) :
    Calls Tryz.prog 7 #[.pointer (some ⟨hb, 0, none⟩), .agg #[.int .i64 3, .string kT, .string ⟨#[]⟩, .int .i64 0, .int .i64 0, .int .i64 0, .slice none 0 0]] W fun r w' => ∃ (A' : Ar) (o' : Nat → Nat), r = .returned (.agg #[.int .i64 10, .int .i64 0, .int .i64 0, .int .i64 0, .int .i64 0, .int .i64 0, .int .i64 0, .int .i64 0, .string ⟨#[]⟩, .slice none 0 0]) ∧ LS w w' o' b hb A' (kS rr root) ids wv kv ∧ Ch (fun l => l = 1 ∨ l = 5) o W o' w' := by
  have hf : findF (kS rr root).ks kT 1 = (⟨#[]⟩, 10) := by rw [find_k, if_pos hlk]
  refine ((do_shut h.hl h.ar h.st (by omega) kT_size kT_keyed ok_k 10 (by decide) ⟨#[]⟩ 0 0 0 (.slice none 0 0)).2 hf).mono ?_
  rintro r w' ⟨rfl, A', o', h1, h2, h3, h4, _⟩
  exact ⟨A', o', rfl, ⟨h1, h4, h3, h.ch.trans h2⟩, h2⟩
theorem ls_leaseno (h : LS w W o b hb A (kS rr root) ids wv kv) :
    Calls Tryz.prog 7 #[.pointer (some ⟨hb, 0, none⟩), .agg #[.int .i64 9, .string kT, .string ⟨#[]⟩, .int .i64 0, .int .i64 0, .int .i64 1, .slice none 0 0]] W fun r w' => ∃ (A' : Ar) (o' : Nat → Nat), r = .returned (.agg #[.int .i64 10, .int .i64 0, .int .i64 0, .int .i64 0, .int .i64 0, .int .i64 0, .int .i64 0, .int .i64 0, .string ⟨#[]⟩, .slice none 0 0]) ∧ LS w w' o' b hb A' (kS rr root) ids wv kv ∧ Ch (fun l => l = 1 ∨ l = 5) o W o' w' := by
  refine (do_leaseno h.hl h.ar h.st (by omega) kT_size kT_keyed ⟨#[]⟩ 0 0 1 (.slice none 0 0)).mono ?_
  rintro r w' ⟨rfl, A', o', h1, h2, h3, h4, _⟩
  exact ⟨A', o', rfl, ⟨h1, h4, h3, h.ch.trans h2⟩, h2⟩
theorem ls_drop (h : LS w W o b hb A (kS rr root) ids wv kv) (hl : ids.length = 1) :
    Calls Tryz.prog 7 #[.pointer (some ⟨hb, 0, none⟩), .agg #[.int .i64 7, .string ⟨#[97, 98]⟩, .string ⟨#[]⟩, .int .i64 0, .int .i64 0, .int .i64 0, .slice none 0 0]] W fun r w' => ∃ (A' : Ar) (o' : Nat → Nat) (ids' : List Nat) (wv' u : Value), r = .returned (.agg #[.int .i64 0, .int .i64 0, .int .i64 0, .int .i64 0, .int .i64 0, .int .i64 0, .int .i64 0, .int .i64 0, .string ⟨#[]⟩, .slice none 0 0]) ∧ LS w w' o' b hb A' ⟨[], 1, []⟩ ids' wv' u ∧ Ch (fun l => l = 1 ∨ l = 5) o W o' w' := by
  refine (do_drop (name := ab) (i := 0) h.hl h.ar h.st (by omega) (at_ab rr root) (by omega) ok_k (show 1 * 40 ≤ 140737488355328 by decide) ⟨#[]⟩ 0 0 0 (.slice none 0 0)).mono ?_
  rintro r w' ⟨rfl, A', o', ids', wv', u, h1, h2, h3, h4, _⟩
  rw [stay_none] at h4
  exact ⟨A', o', ids', wv', u, rfl, ⟨h1, h4, h3, h.ch.trans h2⟩, h2⟩
theorem ls_gone (h : LS w W o b hb A ⟨[], 1, []⟩ ids wv kv) :
    Calls Tryz.prog 7 #[.pointer (some ⟨hb, 0, none⟩), .agg #[.int .i64 3, .string kT, .string ⟨#[]⟩, .int .i64 0, .int .i64 0, .int .i64 0, .slice none 0 0]] W fun r w' => ∃ (A' : Ar) (o' : Nat → Nat), r = .returned (.agg #[.int .i64 6, .int .i64 0, .int .i64 0, .int .i64 0, .int .i64 0, .int .i64 0, .int .i64 0, .int .i64 0, .string ⟨#[]⟩, .slice none 0 0]) ∧ LS w w' o' b hb A' ⟨[], 1, []⟩ ids wv kv ∧ Ch (fun l => l = 1 ∨ l = 5) o W o' w' := by
  refine ((do_shut h.hl h.ar h.st (by omega) kT_size kT_keyed (fun k hk => by cases hk) 6 (by decide) ⟨#[]⟩ 0 0 0 (.slice none 0 0)).2 rfl).mono ?_
  rintro r w' ⟨rfl, A', o', h1, h2, h3, h4, _⟩
  exact ⟨A', o', rfl, ⟨h1, h4, h3, h.ch.trans h2⟩, h2⟩
end Go.Proofs.YtgipjplifndniaaGreatDoor.U
