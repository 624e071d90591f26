/- A hand's empty squares, where it may fail. -/
import Derived.Test.YtgipjplifndniaaGreatDoorLpWide
import Derived.Test.YtgipjplifndniaaGreatDoorLpStep
import Derived.Test.YtgipjplifndniaaGreatDoorSqPure
namespace Go.Proofs.YtgipjplifndniaaGreatDoor.A
open Go.RowKit Go.Maps Go.Proofs.YtgipjplifndniaaGreatDoor.L

variable {w w1 w2 w5 : World} {o o1 o2 : Nat → Nat} {hb b t : Nat} {e : Int} {v : Value} {A A' : Ar} {PR : (Bool → Nat → Bool) → Int → Prop} {q : Nat → Int} {E : List Int}
theorem hdJoin_rel (h : HA w o hb b t e v A) (hst : NxSt PR t q A) (ht : t < 64) (he : e = 0 ∨ Er e) (n : Nat) (hn : n < 44) (q0 q1 q2 q3 : Int) (hl : e = 0 → levV (view A t).V q0 = some (n : Int) ∧ levV (view A t).V q1 = some (n : Int) ∧ levV (view A t).V q2 = some (n : Int) ∧ levV (view A t).V q3 = some (n : Int)) :
    Calls Tryz.prog 133 #[.pointer (some ⟨hb, 0, none⟩), quad4 q0 q1 q2 q3] w fun r w' => ∃ x, r = .returned (.int .i64 x) ∧ ∃ e' A', HKp o w hb b t e' v A' w' ∧ NxSt PR t q A' ∧ Gx t A A' e e' (joinD (QV (view A t)) n q0 q1 q2 q3) ∧ (Er e' ∨ (e' = 0 ∧ e = 0 ∧ QV (view A' t) x = some (q0, q1, q2, q3) ∧ levV (view A' t).V x = some ((n + 1 : Nat) : Int))) := by
  rcases he with rfl | he
  · obtain ⟨l0, l1, l2, l3⟩ := hl rfl
    have f0 := lev_fits hst.s l0
    have f1 := lev_fits hst.s l1
    have f2 := lev_fits hst.s l2
    have f3 := lev_fits hst.s l3
    refine (hdJoin_ok h hst.s ht q0 q1 q2 q3 f0 f1 f2 f3).mono ?_
    rintro r w' ⟨rfl, hk⟩
    obtain ⟨a1, a2, a3⟩ := join_sem hst ht hn l0 l1 l2 l3 f0 f1 f2 f3
    refine ⟨_, rfl, _, _, hk, a1, a2, ?_⟩
    rcases a3 with a3 | ⟨a3, a4, a5⟩
    · exact .inl a3
    · exact .inr ⟨a3, rfl, a4, a5⟩
  · refine (hdJoin_dead h he.ne q0 q1 q2 q3).mono ?_
    rintro r w' ⟨rfl, hk⟩
    exact ⟨_, rfl, _, _, hk, hst, Gx.no he t A _, .inl he⟩
def HE (w : World) (o : Nat → Nat) (hb b t : Nat) (e : Int) (E : List Int) (A : Ar) : Prop := ∃ v, HA w o hb b t e v A ∧ IntRow w v E ∧ ∀ k, v.ownBlock = some k → o k = 4
def HM (l : Nat) : Prop := l = 1 ∨ l = 3 ∨ l = 4
theorem HL_HM : ∀ l, HL l → HM l := fun l h => by rcases h with h | h; exact .inl h; exact .inr (.inl h)
def EmpS (Q : Qs4) (n : Nat) (id : Int) : Prop := ∀ x y, x < 2 ^ n → y < 2 ^ n → cellV Q n id x y = false
def EOk (A : Ar) (t : Nat) (E : List Int) : Prop := ∀ (i : Nat) (x : Int), E[i]? = some x → levV (view A t).V x = some (i : Int) ∧ EmpS (QV (view A t)) i x
theorem EmpS.shows {Q : Qs4} {n : Nat} {id : Int} (h : EmpS Q n id) (a b : Int) : Shows Q n id (fun _ _ => false) a b := fun x y hx hy => h x y hx hy
theorem EmpS.of {Q : Qs4} {n : Nat} {id : Int} {a b : Int} (h : Shows Q n id (fun _ _ => false) a b) : EmpS Q n id := fun x y hx hy => h x y hx hy
theorem EmpS.join {Q : Qs4} {n : Nat} {id x : Int} (h : EmpS Q n x) (hq : Q id = some (x, x, x, x)) : EmpS Q (n + 1) id := EmpS.of (a := 0) (b := 0) (shows_join hq (h.shows _ _) (h.shows _ _) (h.shows _ _) (h.shows _ _))
theorem EmpS.go {n : Nat} {id : Int} (h : EmpS (QV (view A t)) n id) (hs : IsSq (QV (view A t)) n id) (k : Goes1 t A A') : EmpS (QV (view A' t)) n id := fun x y hx hy => (cell_ext k.sees.ext hs x y).trans (h x y hx hy)
theorem EOk.go (h : EOk A t E) (hst : NxSt PR t q A) (ht : t < 64) (k : Goes1 t A A') : EOk A' t E := fun i x hx => by
  obtain ⟨h1, h2⟩ := h i x hx
  exact ⟨k.sees.lev h1, h2.go (isSq_of_lev (hst.g.wel t ht) hst.p _ _ h1) k⟩
theorem Gx.wider {A1 : Ar} {e e1 : Int} {D D1 : Item → Prop} (h : Gx t A A1 e e1 D1) (hst : NxSt PR t q A) (ht : t < 64) (a1 : e = 0 → ∀ i, D1 i → D i) (a2 : e = 0 → ∀ i, D i → D1 i ∨ Has (view A t) i) (he : e = 0 ∨ Er e) : Gx t A A1 e e1 D := by
  rcases he with rfl | he
  · refine ⟨h.toGoes1, fun id f hf => ?_, fun e0 => ⟨rfl, fun i hi => ?_⟩, fun e9 => ?_, h.dead⟩
    · rcases h.new id f hf with h3 | ⟨i, h3, h4⟩
      · exact .inl h3
      · exact .inr ⟨i, h3, a1 rfl i h4⟩
    · rcases a2 rfl i hi with h5 | h5
      · exact (h.all e0).2 i h5
      · exact h5.sees (hst.g.wel t ht) hst.p h.sees
    · rcases h.bad e9 with h2 | ⟨h2, i, h3, h4⟩
      · exact .inl h2
      · exact .inr ⟨h2, i, a1 rfl i h3, h4⟩
  · obtain ⟨rfl, rfl⟩ := h.dead he
    exact Gx.no he t A1 D
def noP : Gr := fun _ _ => false
theorem pic_no {g : Gr} {a b : Int} {n : Nat} (h : ∀ x y : Nat, x < 2 ^ n → y < 2 ^ n → g (a + x) (b + y) = false) : pic g a b n = noP := by
  funext x y
  unfold pic noP
  have hp := powI n
  split
  · have := h x.toNat y.toNat (by omega) (by omega)
    rw [show ((x.toNat : Nat) : Int) = x by omega, show ((y.toNat : Nat) : Int) = y by omega] at this
    exact this
  · rfl
theorem EmpS.pic {Q : Qs4} {n : Nat} {id : Int} (h : EmpS Q n id) : picQ Q n id = noP := (pic_shows (h.shows 0 0)).trans (pic_no fun _ _ _ _ => rfl)
def empD (n : Nat) (i : Item) : Prop := ∃ k, 1 ≤ k ∧ k ≤ n ∧ i = .sq k noP
def empR (a c : Nat) (i : Item) : Prop := ∃ k, a ≤ k ∧ k < a + c ∧ i = .sq k noP
theorem empR_nil {a : Nat} (he : e = 0 ∨ Er e) : Gx t A A e e (empR a 0) := (Gx.nil t A).eqv (fun _ i => ⟨fun h => h.elim, fun ⟨_, h1, h2, _⟩ => by omega⟩) he
theorem joinD_emp {Q : Qs4} {n : Nat} {x : Int} (h : EmpS Q n x) (i : Item) : joinD Q n x x x x i ↔ i = .sq (n + 1) noP := by
  unfold joinD
  rw [h.pic]
  have : joinPic n noP noP noP noP = noP := by
    funext x y
    unfold joinPic noP
    split <;> split <;> rfl
  rw [this]
theorem emp_next {A1 A2 : Ar} {e1 e2 x : Int} {a i m : Nat} (h1 : NxSt PR t q A1) (ht : t < 64) (he1 : e1 = 0 ∨ Er e1) (h : Gx t A A1 e e1 (empR a i)) (k : Gx t A1 A2 e1 e2 (joinD (QV (view A1 t)) m x x x x)) (hm : m + 1 = a + i) (hx : e1 = 0 → EmpS (QV (view A1 t)) m x) : Gx t A A2 e e2 (empR a (i + 1)) := by
  refine Gx.seq h1 ht he1 h k (fun it ⟨c, c1, c2, c3⟩ => ⟨c, c1, by omega, c3⟩) (fun e0 _ it hi => ?_) (fun _ e0 _ it hi => ?_)
  · exact ⟨m + 1, by omega, by omega, (joinD_emp (hx e0) it).1 hi⟩
  · obtain ⟨c, c1, c2, c3⟩ := hi
    rcases Nat.lt_or_ge c (a + i) with h2 | h2
    · exact .inl ⟨c, c1, h2, c3⟩
    · have : c = m + 1 := by omega
      subst this
      exact .inr ((joinD_emp (hx e0) it).2 c3)
theorem emp_all {A1 : Ar} {e1 : Int} {a i n : Nat} (hst : NxSt PR t q A) (ht : t < 64) (he : e = 0 ∨ Er e) (h : Gx t A A1 e e1 (empR a i)) (hE : e = 0 → EOk A t E) (ha : E.length = a) (h0 : 1 ≤ a) (hi : i = n + 1 - a) : Gx t A A1 e e1 (empD n) := by
  refine h.wider hst ht (fun _ it ⟨c, c1, c2, c3⟩ => ⟨c, by omega, by omega, c3⟩) (fun e0 it ⟨c, c1, c2, c3⟩ => ?_) he
  rcases Nat.lt_or_ge c a with h2 | h2
  · obtain ⟨x, hx⟩ : ∃ x, E[c]? = some x := ⟨_, List.getElem?_eq_getElem (by omega)⟩
    obtain ⟨x1, x2⟩ := hE e0 c x hx
    rw [c3]
    exact .inr ⟨x, c1, x1, x2.pic⟩
  · exact .inl ⟨c, h2, by omega, c3⟩
theorem he_round {m g cap g5 cap5 : Nat} {x e2 : Int} {ob : Obj} (h2 : HA w2 o2 hb b t e2 (.slice (some ⟨g, 0, none⟩) (m + 1) cap) A) (hg : o2 g = 4) (hgl : g < w2.heap.size) (hm : E.length = m + 1)
    (hown5 : w5.ownsRow 0 3 1 (.slice (some ⟨g5, 0, none⟩) (m + 1 + 1) cap5) (m + 1 + 1) (E.map (Value.int .i64) ++ [.int .i64 x])) (hgrow5 : (w2.alloc ob).grownBy w5 (some g)) (hat5 : some g = some g5 ∨ g5 = w2.heap.size + 1) :
    HE (w5.setCell ⟨hb, 3, none⟩ (.slice (some ⟨g5, 0, none⟩) (m + 1 + 1) cap5)) (ext o2 w2.heap.size 4) hb b t e2 (E ++ [x]) A ∧ Ch HM o2 w2 (ext o2 w2.heap.size 4) (w5.setCell ⟨hb, 3, none⟩ (.slice (some ⟨g5, 0, none⟩) (m + 1 + 1) cap5)) := by
  have hs5 := hgrow5.size
  have hsa : (w2.alloc ob).heap.size = w2.heap.size + 1 := by simp
  rw [hsa] at hs5
  have hbl := h2.hand.lt
  have hgb : g ≠ hb := fun e => by have := h2.lab; rw [e] at hg; omega
  have k5 : ∀ k, k < w2.heap.size → k ≠ g → w5.heap[k]? = w2.heap[k]? := fun k hk hne => (hgrow5.block k (by omega) (fun e => hne (by cases e; rfl))).trans (push_old hk)
  have hg5 : g5 ≠ hb := by
    rcases hat5 with e | e
    · cases e; exact hgb
    · omega
  have kc : Ch (fun l => l = 3 ∨ l = 4) o2 w2 (ext o2 w2.heap.size 4) (w5.setCell ⟨hb, 3, none⟩ (.slice (some ⟨g5, 0, none⟩) (m + 1 + 1) cap5)) := by
    refine ⟨hgrow5.os, hgrow5.tape, hgrow5.output, by rw [size_set]; omega, fun _ hk => ext_old hk, fun k hk hn => ?_⟩
    have n1 : k ≠ hb := fun e => hn (.inl (by rw [e]; exact h2.lab))
    have n2 : k ≠ g := fun e => hn (.inr (by rw [e]; exact hg))
    exact (Below.heap_setCell _ _ _ _ n1).trans (k5 k hk n2)
  refine ⟨⟨_, ⟨(h2.hand.go (k5 hb hbl hgb.symm)).setV _, by rw [ext_old hbl]; exact h2.lab, h2.ar.ch kc (by omega)⟩, ?_, fun k hk => ?_⟩, kc.mono fun l h => by rcases h with h | h; exact .inr (.inl h); exact .inr (.inr h)⟩
  · unfold IntRow
    rw [List.length_append, hm, List.map_append]
    refine row_other hown5 fun k hk => ?_
    simp only [Value.ownBlock, Option.some.injEq] at hk
    subst hk
    exact Below.heap_setCell _ _ _ _ hg5
  · simp only [Value.ownBlock, Option.some.injEq] at hk
    subst hk
    rcases hat5 with e | e
    · cases e; rw [ext_old hgl]; exact hg
    · exact ext_new (by omega)
set_option maxRecDepth 20000 in
set_option maxHeartbeats 20000000 in
theorem hdEmpty_rel (h : HE w o hb b t e E A) (hst : NxSt PR t q A) (ht : t < 64) (he : e = 0 ∨ Er e) (n : Nat) (hn : n ≤ 44) (hE : 1 ≤ E.length) (hlen : E.length ≤ 45) (hok : e = 0 → EOk A t E) (level : Int) (hlev : level = (n : Int)) :
    Calls Tryz.prog 126 #[.pointer (some ⟨hb, 0, none⟩), .int .i64 level] w fun r w' => ∃ x, r = .returned (.int .i64 x) ∧ ∃ e' E' A' o', HE w' o' hb b t e' E' A' ∧ Ch HM o w o' w' ∧ NxSt PR t q A' ∧ Gx t A A' e e' (empD n) ∧ (1 ≤ E'.length ∧ E'.length ≤ 45) ∧ (e' = 0 ∨ Er e') ∧ (e' = 0 → e = 0 ∧ EOk A' t E' ∧ levV (view A' t).V x = some (n : Int) ∧ EmpS (QV (view A' t)) n x) := by
  have H0 : Hid (HE w o hb b t e E A ∧ NxSt PR t q A ∧ (e = 0 ∨ Er e) ∧ (e = 0 → EOk A t E)) := ⟨h, hst, he, hok⟩
  obtain ⟨v, hh, hrow, hv4⟩ := h
  obtain ⟨a, c, hv⟩ := hrow.shape
  have c3 := hh.hand.c3
  obtain ⟨m0, hm0⟩ : ∃ m0, E.length = m0 + 1 := ⟨E.length - 1, by omega⟩
  rw [hv, hm0] at c3
  obtain ⟨k, hk⟩ : ∃ k, k = n + 1 - (m0 + 1) := ⟨_, rfl⟩
  have HLEV : Hid (level = (n : Int) ∧ n ≤ 44 ∧ k = n + 1 - (m0 + 1) ∧ E.length = m0 + 1 ∧ E.length ≤ 45) := ⟨hlev, hn, hk, hm0, hlen⟩
  clear hv hrow hv4 hlev hh hst he hok hk hn hlen hE
  go_enter Tryz.func126, Tryz.ntmps126
  go_wp2_with fail
  go_loopg [5] k (fun g s5 wr => ∃ i : Nat, i + g = k ∧ s5 = .int .i64 ((m0 + 1 + i : Nat) : Int) ∧ ∃ e1 E1 A1 o1, HE wr o1 hb b t e1 E1 A1 ∧ Ch HM o w o1 wr ∧ NxSt PR t q A1 ∧ Gx t A A1 e e1 (empR (m0 + 1) i) ∧ E1.length = m0 + 1 + i ∧ (e1 = 0 ∨ Er e1) ∧ (e1 = 0 → e = 0 ∧ EOk A1 t E1))
  case atStart => exact ⟨0, by omega, rfl, e, E, A, o, H0.out.1, Ch.refl _ _ _, H0.out.2.1, empR_nil H0.out.2.2.1, by omega, H0.out.2.2.1, fun e0 => ⟨e0, H0.out.2.2.2 e0⟩⟩
  case round =>
    clear c3
    obtain ⟨i, hig, rfl, e1, E1, A1, o1, hH, hC, hst1, hgo1, hlE, he1, hok1⟩ := hrel
    have HI : Hid (i + gk = k) := hig
    have hik : i ≤ k := by omega
    clear hig
    obtain ⟨m, hmm⟩ : ∃ m, m = m0 + i := ⟨_, rfl⟩
    have hm : E1.length = m + 1 := by omega
    have e5 : ((m0 + 1 + i : Nat) : Int) = (m : Int) + 1 := by omega
    rw [e5]
    have HMM : Hid (m = m0 + i ∧ i ≤ k) := ⟨hmm, hik⟩
    have HG : Hid (HE wr o1 hb b t e1 E1 A1 ∧ Ch HM o w o1 wr ∧ NxSt PR t q A1 ∧ Gx t A A1 e e1 (empR (m0 + 1) i) ∧ (e1 = 0 ∨ Er e1) ∧ (e1 = 0 → e = 0 ∧ EOk A1 t E1)) := ⟨hH, hC, hst1, hgo1, he1, hok1⟩
    obtain ⟨v, h, hrow, hv4⟩ := hH
    obtain ⟨g, cap, hv⟩ : ∃ g c, v = .slice (some ⟨g, 0, none⟩) E1.length c := by
      rcases hrow.2 with ⟨_, h2⟩ | ⟨g, cap, cur, h1, _⟩
      · omega
      · exact ⟨_, _, h1⟩
    subst hv
    have hg4 : o1 g = 4 := hv4 g rfl
    have hgl : g < wr.heap.size := (World.ownsRow.lt hrow g rfl).2
    have c3 := h.hand.c3
    have h3lt := h.hand.lt
    rw [hm] at c3
    by_cases hlt : i < k
    · obtain ⟨x0, hx0⟩ : ∃ x0, E1[m]? = some x0 := ⟨_, List.getElem?_eq_getElem (by omega)⟩
      have HX0 : Hid (E1[m]? = some x0) := hx0
      have ce : wr.cell? ⟨g, m, none⟩ = some (.int .i64 x0) := by
        have := World.ownsRow.cellAt hrow m (by omega)
        rw [this]
        simp [hx0]
      have hf4 := fun W => four_any x0 W
      unfold quad4 at hf4
      have hj : ∀ W, Below wr.drew.heap.size wr.drew W → _ := fun W hW => hdJoin_rel (h.drew.below hW) hst1 ht he1 m (by have := HLEV.out; have := HMM.out; omega) x0 x0 x0 x0 (fun e0 => by have := ((hok1 e0).2 m x0 hx0).1; exact ⟨this, this, this, this⟩)
      unfold quad4 at hj
      have OW : Hid (∀ w1 w2 o2, Below wr.drew.heap.size wr.drew w1 → Ch HL (ext o1 wr.drew.heap.size 0) w1 o2 w2 → (w2.ownsRow 0 3 1 (.slice (some ⟨g, 0, none⟩) (m + 1) cap) (m + 1) (E1.map (Value.int .i64)) ∧ w2.heap.size ≥ w1.heap.size) ∧ o2 g = 4 ∧ g < w2.heap.size) := fun w1 w2 o2 a c => by
        have hl1 : g < w1.heap.size := Nat.lt_of_lt_of_le hgl a.size
        have hg1 : ext o1 wr.drew.heap.size 0 g = 4 := (ext_old hgl).trans hg4
        have hx := c.at hl1 hg1 (by unfold HL; omega)
        refine ⟨⟨?_, c.size⟩, hx.2, Nat.lt_of_lt_of_le hl1 c.size⟩
        unfold IntRow at hrow
        rw [hm] at hrow
        refine row_other hrow fun k hk => ?_
        simp only [Value.ownBlock, Option.some.injEq] at hk
        subst hk
        exact hx.1.trans (a.block g hgl)
      have HEND : Hid (∀ (w2 : World) (o2 : Nat → Nat) (e2 : Int) (A2 : Ar), HA w2 o2 hb b t e2 (.slice (some ⟨g, 0, none⟩) (m + 1) cap) A2 → o2 g = 4 → ∀ (w5 : World) (ob : Obj), (w2.alloc ob).grownBy w5 (some g) → w5.cell? ⟨hb, 3, none⟩ = some (.slice (some ⟨g, 0, none⟩) (m + 1) cap) ∧ w5.frozen? ⟨hb, 3, none⟩ = false) := fun w2 o2 e2 A2 h2 hg2 w5 ob hg => by
        have hl2 := h2.hand.lt
        have hgb : g ≠ hb := fun e => by have := h2.lab; rw [e] at hg2; omega
        have e : w5.heap[hb]? = w2.heap[hb]? := by
          rw [hg.block hb (by simp; omega) (fun e => hgb (by cases e; rfl))]
          exact push_old hl2
        have := h2.hand.go e
        exact ⟨this.c3, this.z3⟩
      have HRE : Hid (∀ (w1 w2 w5 : World) (o2 : Nat → Nat) (x e2 : Int) (A2 : Ar) (g5 cap5 : Nat) (ob : Obj), Below wr.drew.heap.size wr.drew w1 → HA w2 o2 hb b t e2 (.slice (some ⟨g, 0, none⟩) (m + 1) cap) A2 → Ch HL (ext o1 wr.drew.heap.size 0) w1 o2 w2 → NxSt PR t q A2 → Gx t A1 A2 e1 e2 (joinD (QV (view A1 t)) m x0 x0 x0 x0) → (Er e2 ∨ (e2 = 0 ∧ e1 = 0 ∧ QV (view A2 t) x = some (x0, x0, x0, x0) ∧ levV (view A2 t).V x = some ((m + 1 : Nat) : Int))) → w5.ownsRow 0 3 1 (.slice (some ⟨g5, 0, none⟩) (m + 1 + 1) cap5) (m + 1 + 1) (E1.map (Value.int .i64) ++ [.int .i64 x]) → (w2.alloc ob).grownBy w5 (some g) → (some g = some g5 ∨ g5 = w2.heap.size + 1) →
          ∃ e1 E1 A1 o1, HE (w5.setCell ⟨hb, 3, none⟩ (.slice (some ⟨g5, 0, none⟩) (m + 1 + 1) cap5)) o1 hb b t e1 E1 A1 ∧ Ch HM o w o1 (w5.setCell ⟨hb, 3, none⟩ (.slice (some ⟨g5, 0, none⟩) (m + 1 + 1) cap5)) ∧ NxSt PR t q A1 ∧ Gx t A A1 e e1 (empR (m0 + 1) (i + 1)) ∧ E1.length = m0 + 1 + (i + 1) ∧ (e1 = 0 ∨ Er e1) ∧ (e1 = 0 → e = 0 ∧ EOk A1 t E1)) := fun w1 w2 w5 o2 x e2 A2 g5 cap5 ob a1 a2 a3 a4 a5 a6 a7 a8 a9 => by
        obtain ⟨_, ⟨p2, p3⟩⟩ := OW.out w1 w2 o2 a1 a3
        obtain ⟨r1, r2⟩ := he_round a2 p2 p3 hm a7 a8 a9
        have kk : Ch HM o1 wr (ext o1 wr.drew.heap.size 0) w1 := Ch.ofBelow (below_dr a1) 0
        refine ⟨e2, _, A2, _, r1, ((HG.out.2.1.trans kk).trans (a3.mono HL_HM)).trans r2, a4, emp_next HG.out.2.2.1 ht HG.out.2.2.2.2.1 HG.out.2.2.2.1 a5 (by have := HMM.out; omega) (fun e0 => ((HG.out.2.2.2.2.2 e0).2 m x0 HX0.out).2), ?_, ?_, fun e0 => ?_⟩
        · have := HMM.out; simp only [List.length_append, List.length_singleton]; omega
        · rcases a6 with a6 | a6; exact .inr a6; exact .inl a6.1
        · rcases a6 with a6 | ⟨_, b1, b2, b3⟩
          · first | exact absurd e0 a6.ne | exact absurd a6 e0.ne
          · obtain ⟨d1, d2⟩ := HG.out.2.2.2.2.2 b1
            have d3 := d2.go HG.out.2.2.1 ht a5.toGoes1
            refine ⟨d1, fun j y hy => ?_⟩
            rcases Nat.lt_or_ge j E1.length with hj | hj
            · rw [List.getElem?_append_left hj] at hy
              exact d3 j y hy
            · rw [List.getElem?_append_right hj] at hy
              have hj0 : j - E1.length = 0 := by
                have := (List.getElem?_eq_some_iff.1 hy).1
                simp at this
                omega
              rw [hj0] at hy
              have hxy : y = x := by simpa using hy.symm
              have hjm : j = m + 1 := by omega
              subst hxy hjm
              exact ⟨b3, (d3 m x0 HX0.out).2.join b2⟩
      obtain ⟨i0, hi, hz0, hz1, hz2⟩ := info_parts Tryz.info3
      have hwm : IntKind.i64.wrap ((m : Int) + 1 - 1) = (m : Int) := by rw [IntKind.wrap_i64]; have := HMM.out; have := HLEV.out; omega
      have hwm2 : IntKind.i64.wrap (m : Int) = (m : Int) := by rw [IntKind.wrap_i64]; have := HMM.out; have := HLEV.out; omega
      have hwm3 : IntKind.i64.wrap ((m : Int) + 1 + 1) = (m : Int) + 1 + 1 := by rw [IntKind.wrap_i64]; have := HMM.out; have := HLEV.out; omega
      have hmi0 : (0 : Int) ≤ m := by omega
      have hmi1 : (m : Int) < (m : Int) + 1 := by omega
      have hml : m < 1000 := by have := HMM.out; have := HLEV.out; omega
      have hle : (m : Int) + 1 ≤ level := by have := HMM.out; have := HLEV.out; omega
      have hdec : decide ((m : Int) + 1 ≤ level) = true := by simpa using hle
      rw [hm] at hj
      clear hrow h hC hst1 hgo1 hlE he1 hok1 hv4 hmm hm e5 hik hx0
      go_upto_block 1 with fail
      go_cut [] from 16 to 35 (fun wc => ∃ e1 E1 A1 o1, HE wc o1 hb b t e1 E1 A1 ∧ Ch HM o w o1 wc ∧ NxSt PR t q A1 ∧ Gx t A A1 e e1 (empR (m0 + 1) (i + 1)) ∧ E1.length = m0 + 1 + (i + 1) ∧ (e1 = 0 ∨ Er e1) ∧ (e1 = 0 → e = 0 ∧ EOk A1 t E1))
      case first =>
        go_wp2_with fail
        go_region_law (first | (refine step_append_lies _ (by rfl) _ _ 73 (by rfl) 0 3 i0 (.int .i64 0) 1 8 Tryz.underlying73 hi hz0 hz1 hz2 rfl (by decide) (.slice (some ⟨g, 0, none⟩) (m + 1) cap) (m + 1) (E1.map (Value.int .i64)) (by rfl) (World.ownsRow.alloc (OW.out w1 w2 o2 hb1 k2).1.1 _) ⟨w2.heap.size, 0, none⟩ 1 1 [.int .i64 x] (by rfl) rfl (cell_one_new _ _ _) (by intro u hu; simp at hu; subst hu; rfl) (by omega) (by unfold maxLen; omega) (by omega) (by omega) (w2.heap.size + 1) (by simp) ?_; intro g5 cap5 w5 hown5 hgrow5 hat5 hlt5; have q45 := HEND.out w2 o2 e2 A2 h2 (OW.out w1 w2 o2 hb1 k2).2.1 w5 _ hgrow5; have q4 := q45.1; have q5 := q45.2) | (go_simp; go_wp2_with (first | (go_at_call 129; refine (hf4 _).mono ?_; rintro e w1 ⟨rfl, hb1⟩; have c31 : w1.cell? ⟨hb, 3, none⟩ = some (.slice (some ⟨g, 0, none⟩) (m + 1) cap) := (World.cell?_of_block (a := ⟨hb, 3, none⟩) (hb1.block hb h3lt)).trans c3) | (go_at_call 133; refine (hj _ hb1).mono ?_; rintro e w2 ⟨x, rfl, e2, A2, ⟨o2, h2, k2⟩, s2, g2, d2⟩; have c32 := h2.hand.c3; have hlw2 := h2.hand.lt))))
        all_goals
          go_wp2_with fail
          go_meet
          case rel => exact HRE.out w1 w2 w5 o2 x e2 A2 g5 cap5 _ hb1 h2 k2 s2 g2 d2 hown5 hgrow5 hat5
      case rest =>
      clear c3 ce HRE HEND OW hj
      go_wp2_with fail
      go_roundg (gk - 1)
      case measure => have := HI.out; omega
      case rel => exact ⟨i + 1, by have := HI.out; omega, by rw [show m0 + 1 + (i + 1) = m + 1 + 1 by have := HMM.out.1; omega]; go_num, hcut⟩
    · have hnm : n ≤ m := by have := HLEV.out; omega
      obtain ⟨x, hx⟩ : ∃ x, E1[n]? = some x := ⟨_, List.getElem?_eq_getElem (by omega)⟩
      have ce : wr.cell? ⟨g, n, none⟩ = some (.int .i64 x) := by
        have := World.ownsRow.cellAt hrow n (by omega)
        rw [this]
        simp [hx]
      have hle : ¬ (m : Int) + 1 ≤ level := by have := HLEV.out; omega
      have hmk : level = (n : Int) := HLEV.out.1
      have hmi0 : (0 : Int) ≤ n := by omega
      have hmi1 : (n : Int) < (m : Int) + 1 := by omega
      have HR : Hid (1 ≤ E1.length ∧ E1.length ≤ 45) := by have := HLEV.out; have := HMM.out; exact ⟨by omega, by omega⟩
      have HXX : Hid (E1[n]? = some x) := hx
      have HGX : Hid (Gx t A A1 e e1 (empD n)) := emp_all H0.out.2.1 ht H0.out.2.2.1 hgo1 (fun e0 => H0.out.2.2.2 e0) HLEV.out.2.2.2.1 (by omega) (by have := HLEV.out; have := HI.out; omega)
      clear HLEV h hC hst1 hgo1 hlE he1 hok1 hrow hv4 hm hmm e5 hx
      subst hmk
      go_wp2_with fail
      go_ret
      exact ⟨x, rfl, e1, E1, A1, o1, HG.out.1, HG.out.2.1, HG.out.2.2.1, HGX.out, HR.out, HG.out.2.2.2.2.1, fun e0 => ⟨(HG.out.2.2.2.2.2 e0).1, (HG.out.2.2.2.2.2 e0).2, (HG.out.2.2.2.2.2 e0).2 n x HXX.out⟩⟩
end Go.Proofs.YtgipjplifndniaaGreatDoor.A
