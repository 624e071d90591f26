/- Cells of a root with more cells than may be told: ErrFull. -/
import Derived.Test.YtgipjplifndniaaGreatDoorHaPut
import Derived.BigQuiet
import Derived.Deep.CutRange
import Derived.Test.YtgipjplifndniaaGreatDoorLpStep
import Derived.Test.YtgipjplifndniaaGreatDoorSqPure
import Derived.Test.YtgipjplifndniaaGreatDoorSqCells
namespace Go.Proofs.YtgipjplifndniaaGreatDoor.A
open Go.RowKit Go.Proofs.YtgipjplifndniaaGreatDoor.L

variable {w : World} {o : Nat → Nat} {lb b t : Nat} {rb rl e : Int} {A : Ar}
theorem square_QV {id : Int} {k : Int × Int × Int × Int} (h : QV (view A t) id = some k) : ∃ x, squareF A.ths t id = some x ∧ k = (x.p0, x.p1, x.p2, x.p3) := by
  unfold QV at h
  cases hv : (view A t).V id with
  | none => rw [hv] at h; cases h
  | some f =>
    rw [hv] at h
    simp only at h
    split at h
    · rename_i hk
      unfold view ownV at hv
      obtain ⟨x, hx, e⟩ := Option.map_eq_some_iff.1 hv
      subst e
      refine ⟨x, ?_, (Option.some.inj h).symm⟩
      unfold squareF
      rw [hx, Option.filter_some, if_pos (by simpa using (show x.k = 1 from hk))]
    · cases h
theorem below_dr {w w1 : World} (h : Below w.drew.heap.size w.drew w1) : Below w.heap.size w w1 := ⟨h.os, h.tape, h.output, h.size, h.block⟩
end Go.Proofs.YtgipjplifndniaaGreatDoor.A

namespace Go.Proofs.YtgipjplifndniaaGreatDoor.A
open Go.RowKit Go.Proofs.YtgipjplifndniaaGreatDoor.L

variable {w w1 : World} {o o1 : Nat → Nat} {hb b t : Nat} {e : Int} {v : Value} {A A' : Ar} {PR : (Bool → Nat → Bool) → Int → Prop} {q : Nat → Int} {L : Nat → Prop}
structure HA (w : World) (o : Nat → Nat) (hb b t : Nat) (e : Int) (v : Value) (A : Ar) : Prop where
  hand : HandAt w hb b t e v
  lab : o hb = 3
  ar : ArL w o b A
def HL (l : Nat) : Prop := l = 1 ∨ l = 3
def HKp (o : Nat → Nat) (w : World) (hb b t : Nat) (e : Int) (v : Value) (A : Ar) (w' : World) : Prop := ∃ o', HA w' o' hb b t e v A ∧ Ch HL o w o' w'
theorem HA.ch (h : HA w o hb b t e v A) (k : Ch L o w o1 w1) (hn : ∀ l, L l → ¬ HL l) : HA w1 o1 hb b t e v A :=
  ⟨h.hand.go (k.at h.hand.lt h.lab fun e => hn 3 e (.inr rfl)).1, (k.at h.hand.lt h.lab fun e => hn 3 e (.inr rfl)).2, h.ar.ch k fun e => hn 1 e (.inl rfl)⟩
theorem HA.below (h : HA w o hb b t e v A) (k : Below w.heap.size w w1) : HA w1 (ext o w.heap.size 0) hb b t e v A := h.ch (L := fun _ => False) (Ch.ofBelow k 0) fun _ h => h.elim
theorem HA.drew (h : HA w o hb b t e v A) : HA w.drew o hb b t e v A := h.ch ((Ch.refl (fun _ => False) o w).drew) fun _ h => h.elim
theorem HA.setA (h : HA w o hb b t e v A) (k : Ch (fun l => l = 1) o w o1 w1) (hA : ArL w1 o1 b A') : HA w1 o1 hb b t e v A' :=
  ⟨h.hand.go (k.at h.hand.lt h.lab (by omega)).1, (k.at h.hand.lt h.lab (by omega)).2, hA⟩
theorem HA.grown {e' : Int} {v' : Value} (h : HA w o hb b t e v A) (h1 : HandAt w1 hb b t e' v') (g : w.grownBy w1 (some hb)) : HA w1 (ext o w.heap.size 0) hb b t e' v' A ∧ Ch HL o w (ext o w.heap.size 0) w1 := by
  have k : Ch (fun l => l = 3) o w (ext o w.heap.size 0) w1 := ⟨g.os, g.tape, g.output, g.size, fun _ hk => ext_old hk, fun i hi hn => g.block i hi fun e => hn (by cases e; exact h.lab)⟩
  exact ⟨⟨h1, by rw [ext_old h.hand.lt]; exact h.lab, h.ar.ch k (by omega)⟩, k.mono fun _ h => .inr h⟩
theorem one_HL : ∀ l, l = 1 → HL l := fun _ h => .inl h
set_option maxRecDepth 20000 in
set_option maxHeartbeats 2000000 in
theorem hdJoin_ok (h : HA w o hb b t 0 v A) (hS : Sound A) (ht : t < 64) (q0 q1 q2 q3 : Int) (h0 : Fits q0) (h1 : Fits q1) (h2 : Fits q2) (h3 : Fits q3) :
    Calls Tryz.prog 133 #[.pointer (some ⟨hb, 0, none⟩), quad4 q0 q1 q2 q3] w fun r w' => r = .returned (.int .i64 (A.joinP t q0 q1 q2 q3).2.1) ∧ HKp o w hb b t (A.joinP t q0 q1 q2 q3).2.2 v (A.joinP t q0 q1 q2 q3).1 w' := by
  have hbx : Below w.heap.size w (w.alloc (.cells #[.int .i64 q0, .int .i64 q1, .int .i64 q2, .int .i64 q3] 69)) := (Below.refl _ _).alloc (Nat.le_refl _) _
  have hx := h.below hbx
  have c0 := hx.hand.c0
  have c1 := hx.hand.c1
  have c2 := hx.hand.c2
  have HK : Hid (Ch HL o w (ext o w.heap.size 0) (w.alloc (.cells #[.int .i64 q0, .int .i64 q1, .int .i64 q2, .int .i64 q3] 69))) := Ch.ofBelow hbx 0
  generalize ext o w.heap.size 0 = o1 at *
  generalize hwx : w.alloc (.cells #[.int .i64 q0, .int .i64 q1, .int .i64 q2, .int .i64 q3] 69) = wx at *
  have d0 : wx.cell? ⟨w.heap.size, 0, none⟩ = some (.int .i64 q0) := by rw [← hwx]; simp
  have d1 : wx.cell? ⟨w.heap.size, 1, none⟩ = some (.int .i64 q1) := by rw [← hwx]; simp
  have d2 : wx.cell? ⟨w.heap.size, 2, none⟩ = some (.int .i64 q2) := by rw [← hwx]; simp
  have d3 : wx.cell? ⟨w.heap.size, 3, none⟩ = some (.int .i64 q3) := by rw [← hwx]; simp
  obtain ⟨F, ha, hF⟩ := hx.drew.ar
  have hj := joinP_any b t q0 q1 q2 q3 F A wx.drew ha hS ht h0 h1 h2 h3
  have HX : Hid (HA wx o1 hb b t 0 v A ∧ ∀ k, F k → o1 k = 1) := ⟨hx, hF⟩
  unfold JoinPOut at hj
  obtain ⟨P, hP⟩ : ∃ P, P = A.joinP t q0 q1 q2 q3 := ⟨_, rfl⟩
  rw [← hP] at hj ⊢
  clear hP h hbx hx ha hF
  unfold quad4 at hj ⊢
  go_enter Tryz.func133, Tryz.ntmps133
  go_wp2_with fail
  (try rw [hwx])
  clear hwx
  go_region_with (go_at_call 24; refine hj.mono ?_; rintro e w1 ⟨rfl, hled⟩; obtain ⟨a1, k1⟩ := led_ch HX.out.2 hled; have hs1 := HX.out.1.drew.setA k1 a1)
  all_goals
    have hk := keep_any hb b t 0 P.2.2 v _ hs1.hand
    have HS1 : Hid (HA w1 (ext o1 wx.drew.heap.size 1) hb b t 0 v P.1 ∧ Ch HL o w (ext o1 wx.drew.heap.size 1) w1) := ⟨hs1, HK.out.drew.trans (k1.mono one_HL)⟩
    clear hs1 k1 a1 hled
    go_wp2_with fail
    refine hk.mono ?_
    rintro x w3 ⟨rfl, h3, g3⟩
    go_wp2_with fail
    go_ret
    obtain ⟨h4, k4⟩ := HS1.out.1.grown h3 g3
    exact ⟨rfl, _, h4, HS1.out.2.trans k4⟩
theorem hdJoin_dead (h : HA w o hb b t e v A) (he : e ≠ 0) (q0 q1 q2 q3 : Int) :
    Calls Tryz.prog 133 #[.pointer (some ⟨hb, 0, none⟩), quad4 q0 q1 q2 q3] w fun r w' => r = .returned (.int .i64 0) ∧ HKp o w hb b t e v A w' := by
  have hbx : Below w.heap.size w (w.alloc (.cells #[.int .i64 q0, .int .i64 q1, .int .i64 q2, .int .i64 q3] 69)) := (Below.refl _ _).alloc (Nat.le_refl _) _
  have c2 := (h.below hbx).hand.c2
  unfold quad4
  go_enter Tryz.func133, Tryz.ntmps133
  go_wp2_with fail
  go_ret
  all_goals exact ⟨rfl, _, h.below hbx, Ch.ofBelow hbx 0⟩
end Go.Proofs.YtgipjplifndniaaGreatDoor.A

namespace Go.Proofs.YtgipjplifndniaaGreatDoor.A
open Go.RowKit Go.Proofs.YtgipjplifndniaaGreatDoor.L

variable {w w1 : World} {o : Nat → Nat} {lb b t : Nat} {rb rl e : Int} {A : Ar}
def Q4 (w : World) (qb : Nat) (a b c d : Int) : Prop := w.heap[qb]? = some (.cells #[.int .i64 a, .int .i64 b, .int .i64 c, .int .i64 d] 69 (0, 0))
theorem Q4.cells {qb : Nat} {a b c d : Int} (h : Q4 w qb a b c d) : (w.cell? ⟨qb, 0, none⟩ = some (.int .i64 a) ∧ w.cell? ⟨qb, 1, none⟩ = some (.int .i64 b) ∧ w.cell? ⟨qb, 2, none⟩ = some (.int .i64 c) ∧ w.cell? ⟨qb, 3, none⟩ = some (.int .i64 d)) ∧ (w.frozen? ⟨qb, 0, none⟩ = false ∧ w.frozen? ⟨qb, 1, none⟩ = false ∧ w.frozen? ⟨qb, 2, none⟩ = false ∧ w.frozen? ⟨qb, 3, none⟩ = false) :=
  ⟨⟨Lib.cell_of_heap h 0, Lib.cell_of_heap h 1, Lib.cell_of_heap h 2, Lib.cell_of_heap h 3⟩, Lib.frozen_of_heap h 0, Lib.frozen_of_heap h 1, Lib.frozen_of_heap h 2, Lib.frozen_of_heap h 3⟩
theorem Q4.lt {qb : Nat} {a b c d : Int} (h : Q4 w qb a b c d) : qb < w.heap.size := (Array.getElem?_eq_some_iff.1 h).1
structure MI (o1 : Nat → Nat) (W : World) (lb b t : Nat) (rb rl e : Int) (A : Ar) (qb : Nat) (x0 x1 x2 x3 : Int) (w : World) (o : Nat → Nat) : Prop where
  ls : LS w o lb b t rb rl e A
  ch : Ch AL o1 W o w
  q : Q4 w qb x0 x1 x2 x3
  lab : o qb = 0
  new : W.heap.size ≤ qb
theorem idx_four (a b c d : Int) : (∀ w, (Instr.index 69 (.agg #[.int .i64 a, .int .i64 b, .int .i64 c, .int .i64 d]) (.int .i64 0)).run Tryz.prog w = .ok (.int .i64 a) w) ∧ (∀ w, (Instr.index 69 (.agg #[.int .i64 a, .int .i64 b, .int .i64 c, .int .i64 d]) (.int .i64 1)).run Tryz.prog w = .ok (.int .i64 b) w) ∧ (∀ w, (Instr.index 69 (.agg #[.int .i64 a, .int .i64 b, .int .i64 c, .int .i64 d]) (.int .i64 2)).run Tryz.prog w = .ok (.int .i64 c) w) ∧ (∀ w, (Instr.index 69 (.agg #[.int .i64 a, .int .i64 b, .int .i64 c, .int .i64 d]) (.int .i64 3)).run Tryz.prog w = .ok (.int .i64 d) w) :=
  ⟨fun _ => by kernel_rfl, fun _ => by kernel_rfl, fun _ => by kernel_rfl, fun _ => by kernel_rfl⟩
end Go.Proofs.YtgipjplifndniaaGreatDoor.A

namespace Go.Proofs.YtgipjplifndniaaGreatDoor.A
open Go.RowKit Go.Maps Go.ChangeMaps Go.WideElems

set_option maxRecDepth 20000 in
set_option maxHeartbeats 8000000 in
theorem wcells_any (wb m b nn t k n : Nat) (id level : Int) (v : Value) (F : Nat → Prop) (A : Ar) (D : DataW Unit) (w : World) (hI : Inv A) (ht : t < 64) (hm : ∀ x ∈ A.ths, x.mask < 18446744073709551616) (hf : A.ths.length < 1000000) (hn1 : 1 ≤ n) (hn : n ≤ 44) (hl : levelF A.ths t id = some (n : Int)) (hbig : (cellsF A.ths n id).length ≤ 4096) (hlev : level = (n : Int)) (hw : WG w wb m b nn t k v F A D) :
    Calls Tryz.prog 112 #[.pointer (some ⟨wb, 0, none⟩), .int .i64 id, .int .i64 level] w fun y w' => ∃ u, y = .returned u ∧ w'.ownsRow w.heap.size 50 2 u (cellsF A.ths n id).length (cL (shiftL (-(halfN n : Int)) (-(halfN n : Int)) (cellsF A.ths n id))) ∧ (cellsF A.ths n id = [] → u = .slice none 0 0) ∧ TG w wb m b nn t v F A (fun _ => True) w' := by
  have hh : ∀ W, Calls Tryz.prog 95 #[.int .i64 level] W fun x w' => x = .returned (.int .i64 (halfN n : Int)) ∧ w' = W := fun W => by rw [hlev]; exact half_any n W hn1 (by omega)
  have hbd := halfN_bd n (by omega)
  have hwl := hw.hand.lt
  have hml := hw.lt
  have hflt := hw.ar.flt
  have b3 : Below w.heap.size w (((w.alloc (.cells #[.pointer (some ⟨wb, 0, none⟩)] 204)).alloc (.cells #[.slice none 0 0] 22)).alloc (.cells #[cFn w.heap.size (w.heap.size + 1) (w.heap.size + 1 + 1)] 208)) := (((Below.refl _ _).alloc (Nat.le_refl _) _).alloc (by simp) _).alloc (by simp; omega) _
  have hs3 : (((w.alloc (.cells #[.pointer (some ⟨wb, 0, none⟩)] 204)).alloc (.cells #[.slice none 0 0] 22)).alloc (.cells #[cFn w.heap.size (w.heap.size + 1) (w.heap.size + 1 + 1)] 208)).heap.size = w.heap.size + 3 := by simp
  have e0 : (((w.alloc (.cells #[.pointer (some ⟨wb, 0, none⟩)] 204)).alloc (.cells #[.slice none 0 0] 22)).alloc (.cells #[cFn w.heap.size (w.heap.size + 1) (w.heap.size + 1 + 1)] 208)).heap[w.heap.size]? = some (.cells #[.pointer (some ⟨wb, 0, none⟩)] 204 (0, 0)) := (push_old (by simp; omega)).trans (heap_alloc2_old w _ _)
  have e1 : (((w.alloc (.cells #[.pointer (some ⟨wb, 0, none⟩)] 204)).alloc (.cells #[.slice none 0 0] 22)).alloc (.cells #[cFn w.heap.size (w.heap.size + 1) (w.heap.size + 1 + 1)] 208)).heap[w.heap.size + 1]? = some (.cells #[.slice none 0 0] 22 (0, 0)) := (push_old (by simp)).trans (heap_alloc2_new w _ _)
  have e2 : (((w.alloc (.cells #[.pointer (some ⟨wb, 0, none⟩)] 204)).alloc (.cells #[.slice none 0 0] 22)).alloc (.cells #[cFn w.heap.size (w.heap.size + 1) (w.heap.size + 1 + 1)] 208)).heap[w.heap.size + 1 + 1]? = some (.cells #[cFn w.heap.size (w.heap.size + 1) (w.heap.size + 1 + 1)] 208 (0, 0)) := by
    have := heap_alloc_new ((w.alloc (.cells #[.pointer (some ⟨wb, 0, none⟩)] 204)).alloc (.cells #[.slice none 0 0] 22)) (.cells #[cFn w.heap.size (w.heap.size + 1) (w.heap.size + 1 + 1)] 208)
    simpa using this
  have C0 : CS (((w.alloc (.cells #[.pointer (some ⟨wb, 0, none⟩)] 204)).alloc (.cells #[.slice none 0 0] 22)).alloc (.cells #[cFn w.heap.size (w.heap.size + 1) (w.heap.size + 1 + 1)] 208)) wb m b nn t v F A w.heap.size (w.heap.size + 1) (w.heap.size + 1 + 1) (w.heap.size + 3) [] :=
    ⟨⟨k, D, hw.below b3⟩, e0, e2, ⟨_, e1, World.ownsRow_nil _ _ _ _, fun _ => rfl⟩, by omega, by omega, by omega, by omega, by omega, fun k hk => by have := hflt k hk; omega, by omega, by omega, ⟨by omega, by omega, fun e => by have := hflt _ e; omega⟩, by omega⟩
  obtain ⟨hf', hhf⟩ : ∃ hf' : Int, hf' = (halfN n : Int) := ⟨_, rfl⟩
  rw [← hhf] at hh
  have hneg : IntKind.i64.wrap (-hf') = -hf' := by rw [IntKind.wrap_i64]; omega
  have hpow : ((2 ^ n : Nat) : Int) = hf' + hf' := by
    obtain ⟨q, rfl⟩ : ∃ q, n = q + 1 := ⟨n - 1, by omega⟩
    rw [hhf, halfN_succ, Nat.pow_succ]; omega
  have hpb : hf' ≤ 8796093022208 := by
    have : halfN n ≤ halfN 44 := Nat.pow_le_pow_right (by omega) (by omega)
    have e : halfN 44 = 8796093022208 := by decide
    omega
  generalize hW : (((w.alloc (.cells #[.pointer (some ⟨wb, 0, none⟩)] 204)).alloc (.cells #[.slice none 0 0] 22)).alloc (.cells #[cFn w.heap.size (w.heap.size + 1) (w.heap.size + 1 + 1)] 208)) = W at *
  have C1 := (C0.below (w1 := W.drew) ⟨rfl, rfl, rfl, Nat.le_refl _, fun _ _ => rfl⟩).1
  have HC := closure_any n wb m b nn t v F A w.heap.size (w.heap.size + 1) (w.heap.size + 1 + 1) (w.heap.size + 3) [] W.drew id (-hf') (-hf') level hI ht hm hf hn hlev hl (by simpa using hbig) C1 (by omega) (by omega) (by omega) (by omega)
  rw [List.nil_append] at HC
  have HFIN : Hid (∀ w', CS w' wb m b nn t v F A w.heap.size (w.heap.size + 1) (w.heap.size + 1 + 1) (w.heap.size + 3) (shiftL (-hf') (-hf') (cellsF A.ths n id)) → CO W.drew wb m (w.heap.size + 1) (w.heap.size + 3) w' → ∃ u, w'.cell? ⟨w.heap.size + 1, 0, none⟩ = some u ∧ w'.ownsRow w.heap.size 50 2 u (cellsF A.ths n id).length (cL (shiftL (-(halfN n : Int)) (-(halfN n : Int)) (cellsF A.ths n id))) ∧ (cellsF A.ths n id = [] → u = .slice none 0 0) ∧ TG w wb m b nn t v F A (fun _ => True) w') := fun w' h1 h2 => by
    obtain ⟨V, hV, hr, hnil⟩ := h1.cl
    obtain ⟨k', D', hw'⟩ := h1.wg
    rw [shift_len, hhf] at hr
    have hs2 : W.heap.size ≤ w'.heap.size := h2.size
    refine ⟨V, Lib.cell_of_heap hV 0, ?_, fun e => hnil (by rw [e]; rfl), ⟨⟨k', D', hw', fun _ _ _ => trivial⟩, by omega, h2.os.trans b3.os, h2.tape.trans b3.tape, h2.output.trans b3.output, fun j a1 a2 a3 => (h2.block j (by omega) a2 a3 (by omega)).trans (b3.block j a1)⟩⟩
    obtain ⟨q1, q2⟩ := hr
    refine ⟨q1, ?_⟩
    rcases q2 with q2 | ⟨g, cap, cur, q3, q4, q5⟩
    · exact Or.inl q2
    · exact Or.inr ⟨g, cap, cur, q3, by omega, q5⟩
  have hcf : W.cell? ⟨w.heap.size + 1 + 1, 0, none⟩ = some (cFn w.heap.size (w.heap.size + 1) (w.heap.size + 1 + 1)) := Lib.cell_of_heap e2 0
  have HKF : Hid (∀ w', CS w' wb m b nn t v F A w.heap.size (w.heap.size + 1) (w.heap.size + 1 + 1) (w.heap.size + 3) (shiftL (-hf') (-hf') (cellsF A.ths n id)) → w'.cell? ⟨w.heap.size + 1 + 1, 0, none⟩ = some (cFn w.heap.size (w.heap.size + 1) (w.heap.size + 1 + 1))) := fun w' h => Lib.cell_of_heap h.cf 0
  have HW : Hid ((((w.alloc (.cells #[.pointer (some ⟨wb, 0, none⟩)] 204)).alloc (.cells #[.slice none 0 0] 22)).alloc (.cells #[cFn w.heap.size (w.heap.size + 1) (w.heap.size + 1 + 1)] 208)) = W) := hW
  clear hhf hlev C0 C1 e0 e1 e2 hl hw hbd hpow
  clear hW
  go_enter Tryz.func112, Tryz.ntmps112
  go_wp2_with fail
  rw [HW.out]
  go_region_held3 (fun w' => w'.cell? ⟨w.heap.size + 1 + 1, 0, none⟩ = some (cFn w.heap.size (w.heap.size + 1) (w.heap.size + 1 + 1))) (first | exact hcf | exact HKF.out _ hR) ((first | (go_at_call 95; refine (hh _).mono ?_; rintro e w5 ⟨rfl, rfl⟩) | (go_at_call 138; refine HC.mono ?_; rintro e w6 ⟨rfl, hR, hO⟩)))
  all_goals
    obtain ⟨u, hu, hrow, hnil, hTG⟩ := HFIN.out _ hR hO
    have HNIL : Hid (cellsF A.ths n id = [] → u = .slice none 0 0) := hnil
    clear hnil
    go_wp2_with fail
    go_ret
    exact ⟨u, rfl, hrow, HNIL.out, hTG⟩

theorem row_of_own' {w : World} {B : Nat} {v : Value} {zs : List (Int × Int)} (h : w.ownsRow B 50 2 v zs.length (cL zs)) (hnil : zs = [] → v = .slice none 0 0) : Row w v zs := by
  by_cases h0 : zs = []
  · exact Or.inl ⟨h0, hnil h0⟩
  · have hh := h
    rcases h.2 with ⟨rfl, h1⟩ | ⟨g, cap, cur, rfl, hB, hg, hc, hm, hr⟩
    · exact absurd (List.length_eq_zero_iff.1 h1) h0
    · refine Or.inr ⟨h0, g, 0, cap, rfl, (Array.getElem?_eq_some_iff.1 hg).1, hc, hm, fun j hj => ?_⟩
      have h1 := hh.cellAt (j * 2) (by omega)
      have h2 := hh.cellAt (j * 2 + 1) (by omega)
      obtain ⟨e1, e2⟩ := cL_at zs j hj
      rw [Nat.zero_add]
      exact ⟨h1.trans e1, h2.trans e2⟩

set_option maxRecDepth 20000 in
set_option maxHeartbeats 4000000 in
theorem Cells_root (b n t lv : Nat) (id : Int) (F : Nat → Prop) (A : Ar) (w : World) (hA : ArAt w b F n A) (hI : Inv A) (ht : t < 64) (hm : ∀ x ∈ A.ths, x.mask < 18446744073709551616) (hf : A.ths.length < 1000000) (hl : levelF A.ths t id = some (lv : Int)) (hlv1 : 1 ≤ lv) (hlv : lv ≤ 44) (hbig : (cellsF A.ths lv id).length ≤ 4096) :
    Calls Tryz.prog 63 #[.pointer (some ⟨b, 0, none⟩), .int .i64 t, .int .i64 id] w fun x w' => ∃ u ys, x = .returned (.tuple #[u, .int .i64 (tcode (shiftL (-(halfN lv : Int)) (-(halfN lv : Int)) (cellsF A.ths lv id)))]) ∧ Tidied (shiftL (-(halfN lv : Int)) (-(halfN lv : Int)) (cellsF A.ths lv id)) ys ∧ ORow w' w.heap.size u ys ∧ Below w.heap.size w w' := by
  have hr := fits_of hl hf
  have hflt := hA.flt
  have hlev := fun W hb v (hh : HandAt W hb b t 0 v) (hW : ArAt W b F n A) (hn : ¬ F hb) => handLevel_ok hb b n t id 1 44 lv v F A W hh hW hn ht hm hr hl (by omega) (by omega)
  have hta := fun wb m v k D W => tally_any wb m b n t v F A hI ht hm hf lv id hlv hl (by omega) k D W (lv : Int) rfl
  have hce := fun wb m v k D W => wcells_any wb m b n t k lv id (lv : Int) v F A D W hI ht hm hf hlv1 hlv hl hbig rfl
  have HL : Hid (levelF A.ths t id = some (lv : Int)) := hl
  obtain ⟨zs, hzs⟩ : ∃ zs, zs = shiftL (-(halfN lv : Int)) (-(halfN lv : Int)) (cellsF A.ths lv id) := ⟨_, rfl⟩
  have HZS : Hid (zs = shiftL (-(halfN lv : Int)) (-(halfN lv : Int)) (cellsF A.ths lv id)) := hzs
  rw [← hzs]
  clear hl hzs
  go_enter Tryz.func63, Tryz.ntmps63
  go_wp2_with fail
  refine (newWalker_G b t _).mono ?_
  rintro x w1 ⟨g, m, D, rfl, hb1, hown, hkn, hmg, _, _, _⟩
  obtain ⟨Q0, b2⟩ := WG.born (g := g) (t := t) hA hf hb1 hown hkn hmg
  have hh := Q0.hand
  have hs1 := hb1.size
  go_wp2_with fail
  refine (hlev _ _ _ hh (hA.below b2) Q0.nFw).mono ?_
  rintro x w3 ⟨rfl, h3, g3, h34⟩
  have c2 := h3.c2
  have Q3 := Q0.kids h3 g3 (h34.trans Q0.c4)
  have b3 : Below w.heap.size w w3 := b2.trans ⟨g3.os, g3.tape, g3.output, g3.size, fun k hk => g3.block k (by have := b2.size; omega) (by simp; omega)⟩
  clear hlev
  go_wp2_with fail
  refine (hta _ _ _ 2 D _ Q3).mono ?_
  rintro x w4 ⟨c, x0, y0, x1, y1, rfl, hT, T4⟩
  obtain ⟨k4, D4, Q4, _⟩ := T4.wg
  have hlt3 := Q3.hand.lt
  have hfz := field_tv c x0 y0 x1 y1 w4
  have hcl : c = ((cellsF A.ths lv id).length : Int) := hT.1
  have hcb : ¬ (4096 : Int) < c := by omega
  have b4 : Below w.heap.size w w4 := ⟨T4.os.trans b3.os, T4.tape.trans b3.tape, T4.output.trans b3.output, Nat.le_trans b3.size T4.size, fun k hk => (T4.block k (by have := b3.size; omega) (by omega) (by omega)).trans (b3.block k hk)⟩
  clear hcl hT hta T4
  go_wp2_with fail
  refine (hce _ _ _ k4 D4 _ Q4).mono ?_
  rintro x w5 ⟨u, rfl, hrow, hnil, T5⟩
  obtain ⟨k5, D5, Q5, _⟩ := T5.wg
  have d2 := Q5.hand.c2
  have b5 : Below w.heap.size w w5 := ⟨T5.os.trans b4.os, T5.tape.trans b4.tape, T5.output.trans b4.output, Nat.le_trans b4.size T5.size, fun k hk => (T5.block k (by have := b4.size; omega) (by omega) (by omega)).trans (b4.block k hk)⟩
  have hzs := HZS.out
  have hrow2 : Row w5 u zs := by
    refine row_of_own' (B := w4.heap.size) ?_ ?_
    · rw [hzs, shift_len]; exact hrow
    · intro e
      refine hnil ?_
      rw [hzs] at e
      exact List.length_eq_zero_iff.1 (by have := congrArg List.length e; rw [shift_len] at this; simpa using this)
  have hTT := tidy_told u zs w5 hrow2
  clear hce hrow hnil T5 hzs hrow2
  go_wp2_with fail
  refine hTT.mono ?_
  rintro x w6 ⟨u6, ys, rfl, hb6, ht6, hr6⟩
  go_wp2_with fail
  go_ret2
  exact ⟨u6, ys, rfl, ht6, hr6.mono b5.size, b5.trans (hb6.mono b5.size)⟩
end Go.Proofs.YtgipjplifndniaaGreatDoor.A

namespace Go.Proofs.YtgipjplifndniaaGreatDoor.A
open Go.RowKit Go.Maps Go.ChangeMaps Go.WideElems

structure WX (w : World) (wb m b t k : Nat) (e : Int) (v : Value) (l : List Th) (D : DataW Unit) : Prop where
  hand : HandAt w wb b t e v
  map : w.ownsMap Tryz.prog 3 talG m k D
  known : KnownG D l t
  c4 : w.cell? ⟨wb, 4, none⟩ = some (.map (some m))
section
variable {w w' : World} {wb m b t k : Nat} {e : Int} {v : Value} {l : List Th} {D : DataW Unit}
theorem WX.lt (h : WX w wb m b t k e v l D) : m < w.heap.size := by
  have hm0 : w.heap[m]? ≠ none := by obtain ⟨es, c, he, _⟩ := h.map; rw [he]; simp
  rw [Ne, Array.getElem?_eq_none_iff] at hm0; omega
theorem WX.below (h : WX w wb m b t k e v l D) (hb : Below w.heap.size w w') : WX w' wb m b t k e v l D :=
  ⟨h.hand.below hb, talG_other h.map (hb.block _ h.lt), h.known, (World.cell?_of_block (hb.block _ h.hand.lt)).trans h.c4⟩
set_option maxRecDepth 20000 in
set_option maxHeartbeats 4000000 in
theorem tallyX (h : WX w wb m b t k e v l D) (n : Nat) (id level : Int) (hi : Fits id) (hl : levelF l t id = some (n : Int)) (hh : Maps.has D (.int .i64 id) = true) :
    Calls Tryz.prog 110 #[.pointer (some ⟨wb, 0, none⟩), .int .i64 id, .int .i64 level] w fun x w' => ∃ c x0 y0 x1 y1, x = .returned (tv c x0 y0 x1 y1) ∧ Tal (cellsF l n id) c x0 y0 x1 y1 ∧ Below w.heap.size w w' := by
  have b1 : Below w.heap.size w (w.alloc (.cells #[.int .i64 0, .int .i64 0, .int .i64 0, .int .i64 0, .int .i64 0] 173)) := (Below.refl _ _).alloc (Nat.le_refl _) _
  have q1 := h.below b1
  obtain ⟨c, x0, y0, x1, y1, hT, hlook⟩ := tal_yes q1.map q1.known hi hl hh
  have hc' := q1.c4
  go_enter Tryz.func110, Tryz.ntmps110
  go_wp2_with fail
  refine bodyPost_ret (v := tv c x0 y0 x1 y1) ?_ rfl ⟨c, x0, y0, x1, y1, rfl, hT, ?_⟩
  · simp [results, Tryz.results110, go_sem]
  · exact ((Below.refl _ _).alloc (Nat.le_refl _) _).alloc (by simp) _
set_option maxRecDepth 20000 in
theorem kidsX (h : HandAt w wb b t e v) (he : e ≠ 0) (id : Int) :
    Calls Tryz.prog 104 #[.pointer (some ⟨wb, 0, none⟩), .int .i64 id] w fun r w' => r = .returned (quad4 0 0 0 0) ∧ Below w.heap.size w w' := by
  have hbx : Below w.heap.size w (w.alloc (.cells #[.int .i64 0, .int .i64 0, .int .i64 0, .int .i64 0] 69)) := (Below.refl _ _).alloc (Nat.le_refl _) _
  have c2 := (h.below hbx).c2
  have hX0 : (w.alloc (.cells #[.int .i64 0, .int .i64 0, .int .i64 0, .int .i64 0] 69)).heap[w.heap.size]? = some (.cells #[.int .i64 0, .int .i64 0, .int .i64 0, .int .i64 0] 69 (0, 0)) := heap_alloc_new w _
  have hf4 := four_any 0 (w.alloc (.cells #[.int .i64 0, .int .i64 0, .int .i64 0, .int .i64 0] 69))
  unfold quad4 at hf4
  generalize hW : w.alloc (.cells #[.int .i64 0, .int .i64 0, .int .i64 0, .int .i64 0] 69) = W at *
  go_enter Tryz.func104, Tryz.ntmps104
  go_wp2_with fail
  (try rw [hW])
  refine hf4.mono ?_
  rintro r w2 ⟨rfl, hb2⟩
  have hwl : w.heap.size < W.heap.size := (Array.getElem?_eq_some_iff.1 hX0).1
  have hX2 := (hb2.block w.heap.size hwl).trans hX0
  have j0 := Lib.cell_of_heap hX2 0
  have j1 := Lib.cell_of_heap hX2 1
  have j2 := Lib.cell_of_heap hX2 2
  have j3 := Lib.cell_of_heap hX2 3
  have z0 := Lib.frozen_of_heap hX2 0
  have z1 := Lib.frozen_of_heap hX2 1
  have z2 := Lib.frozen_of_heap hX2 2
  have z3 := Lib.frozen_of_heap hX2 3
  go_wp2_with fail
  have hR : ((((w2.setCell ⟨w.heap.size, 0, none⟩ (.int .i64 0)).setCell ⟨w.heap.size, 1, none⟩ (.int .i64 0)).setCell ⟨w.heap.size, 2, none⟩ (.int .i64 0)).setCell ⟨w.heap.size, 3, none⟩ (.int .i64 0)).heap[w.heap.size]? = some (.cells #[.int .i64 0, .int .i64 0, .int .i64 0, .int .i64 0] 69 (0, 0)) := Go.Joins.block_setCell (Go.Joins.block_setCell (Go.Joins.block_setCell (Go.Joins.block_setCell hX2 _) _) _) _
  have hbz : Below w.heap.size w ((((w2.setCell ⟨w.heap.size, 0, none⟩ (.int .i64 0)).setCell ⟨w.heap.size, 1, none⟩ (.int .i64 0)).setCell ⟨w.heap.size, 2, none⟩ (.int .i64 0)).setCell ⟨w.heap.size, 3, none⟩ (.int .i64 0)) := ((((hbx.trans (hb2.mono (by omega))).setCell (p := ⟨w.heap.size, 0, none⟩) (Nat.le_refl _) _).setCell (p := ⟨w.heap.size, 1, none⟩) (Nat.le_refl _) _).setCell (p := ⟨w.heap.size, 2, none⟩) (Nat.le_refl _) _).setCell (p := ⟨w.heap.size, 3, none⟩) (Nat.le_refl _) _
  refine bodyPost_ret (v := quad4 0 0 0 0) ?_ rfl ⟨rfl, hbz⟩
  simp [results, Tryz.results104, go_sem, Lib.cell_of_heap hR, quad4]
structure CX (w : World) (wb m b t k : Nat) (e : Int) (v : Value) (l : List Th) (D : DataW Unit) (wv lv fv : Nat) : Prop where
  wx : WX w wb m b t k e v l D
  cw : w.heap[wv]? = some (.cells #[.pointer (some ⟨wb, 0, none⟩)] 204 (0, 0))
  cf : w.heap[fv]? = some (.cells #[cFn wv lv fv] 208 (0, 0))
theorem CX.below {wv lv fv : Nat} (h : CX w wb m b t k e v l D wv lv fv) (hb : Below w.heap.size w w') : CX w' wb m b t k e v l D wv lv fv :=
  ⟨h.wx.below hb, (hb.block _ (Array.getElem?_eq_some_iff.1 h.cw).1).trans h.cw, (hb.block _ (Array.getElem?_eq_some_iff.1 h.cf).1).trans h.cf⟩
set_option maxRecDepth 20000 in
set_option maxHeartbeats 4000000 in
theorem walkX0 {wv lv fv : Nat} (h : CX w wb m b t k e v l D wv lv fv) (level x y : Int) :
    Calls Tryz.prog 138 #[.int .i64 0, .int .i64 level, .int .i64 x, .int .i64 y, .pointer (some ⟨wv, 0, none⟩), .pointer (some ⟨lv, 0, none⟩), .pointer (some ⟨fv, 0, none⟩)] w fun e w' => e = .returned (.tuple #[]) ∧ Below w.heap.size w w' := by
  have hta := tallyX h.wx 0 0 level (by unfold Fits; omega) (by simp [levelF]) h.wx.known.zero
  have cw : w.cell? ⟨wv, 0, none⟩ = some (.pointer (some ⟨wb, 0, none⟩)) := Lib.cell_of_heap h.cw 0
  go_enter Tryz.func138, Tryz.ntmps138
  go_wp2_with fail
  refine hta.mono ?_
  rintro e w1 ⟨c, x0, y0, x1, y1, rfl, hT, hb⟩
  have hc0 : c = 0 := by have := hT.1; simpa [cellsF] using this
  have hc1 : (c == 0) = true := by simpa using hc0
  have hfz := field_tv c x0 y0 x1 y1 w1
  clear hta hT cw hc0
  go_wp2_with fail
  refine bodyPost_ret (v := .tuple #[]) ?_ rfl ⟨rfl, hb⟩
  simp [results, Tryz.results138, go_sem]
set_option maxRecDepth 20000 in
set_option maxHeartbeats 8000000 in
theorem walkX {wv lv fv : Nat} (h : CX w wb m b t k e v l D wv lv fv) (he : e ≠ 0) (n : Nat) (hn : n < 44) (id level x y : Int) (hi : Fits id) (hl : levelF l t id = some ((n + 1 : Nat) : Int)) (hlev : level = ((n + 1 : Nat) : Int)) (hh : Maps.has D (.int .i64 id) = true) (hne : cellsF l (n + 1) id ≠ []) :
    Calls Tryz.prog 138 #[.int .i64 id, .int .i64 level, .int .i64 x, .int .i64 y, .pointer (some ⟨wv, 0, none⟩), .pointer (some ⟨lv, 0, none⟩), .pointer (some ⟨fv, 0, none⟩)] w fun e w' => e = .returned (.tuple #[]) ∧ Below w.heap.size w w' := by
  have hta := tallyX h.wx (n + 1) id level hi hl hh
  have cw : w.cell? ⟨wv, 0, none⟩ = some (.pointer (some ⟨wb, 0, none⟩)) := Lib.cell_of_heap h.cw 0
  have hlv1 : 1 ≤ level ∧ level ≤ 44 := by omega
  have hlv0 : (level == 0) = false := by simp; omega
  have HLEV : Hid (level = ((n + 1 : Nat) : Int)) := hlev
  have HC : Hid (CX w wb m b t k e v l D wv lv fv) := h
  have HN : Hid (n < 44) := hn
  clear hlev hl hh hi
  go_enter Tryz.func138, Tryz.ntmps138
  go_wp2_with fail
  refine hta.mono ?_
  rintro r w1 ⟨c, x0, y0, x1, y1, rfl, hT, hb⟩
  have C1 := HC.out.below hb
  have hc0 : c ≠ 0 := fun e => hne (List.length_eq_zero_iff.1 (by have := hT.1; omega))
  have hc1 : (c == 0) = false := by simpa using hc0
  have hfz := field_tv c x0 y0 x1 y1 w1
  have cw1 : w1.cell? ⟨wv, 0, none⟩ = some (.pointer (some ⟨wb, 0, none⟩)) := Lib.cell_of_heap C1.cw 0
  have hki := kidsX C1.wx.hand he id
  have HB : Hid (Below w.heap.size w w1) := hb
  unfold quad4 at hki
  clear hta hT cw hc0 hb C1 h hne
  go_wp2_with fail
  refine hki.mono ?_
  rintro r w2 ⟨rfl, hb2⟩
  have b2 : Below w.heap.size w w2 := HB.out.trans (hb2.mono HB.out.size)
  clear hki cw1 hfz hb2 hc1
  go_wp2_with fail
  have hcor := fun (i : Nat) (hi : i < 4) W => corner_at n i level HLEV.out HN.out hi W
  have hkid := fun (i : Nat) (hi : i < 4) (W : World) => kids_at { (default : Th) with p0 := 0, p1 := 0, p2 := 0, p3 := 0 } i hi W
  have hq0 : ∀ i, quarterF { (default : Th) with p0 := 0, p1 := 0, p2 := 0, p3 := 0 } i = 0 := fun i => by unfold quarterF; split <;> (try rfl); split <;> (try rfl); split <;> rfl
  go_loopg [34] 4 (fun g s34 wr => ∃ i : Nat, i + g = 4 ∧ s34 = .int .i64 (i : Int) ∧ Below w.heap.size w wr)
  case atStart => exact ⟨0, by omega, rfl, b2⟩
  case round =>
    obtain ⟨i, hig, rfl, hbr⟩ := hrel
    have HI : Hid (i + gk = 4) := hig
    clear hig
    by_cases hi4 : i < 4
    · have hki : ∀ W : World, (Instr.index 69 (.agg #[.int .i64 0, .int .i64 0, .int .i64 0, .int .i64 0]) (.int .i64 (i : Int))).run Tryz.prog W = .ok (.int .i64 0) W := fun W => by
        have := hkid i hi4 W
        rw [hq0] at this
        exact this
      have hco := fun W => hcor i hi4 W
      have hil : (i : Int) < 4 := by omega
      have hi0 : (0 : Int) ≤ i := by omega
      have C := HC.out.below hbr
      have HIH := fun X Y => walkX0 C (level - 1) X Y
      have cf : wr.cell? ⟨fv, 0, none⟩ = some (cFn wv lv fv) := Lib.cell_of_heap C.cf 0
      have HBR : Hid (Below w.heap.size w wr) := hbr
      obtain ⟨dx, hdx⟩ : ∃ dx, dx = cornX ((2 ^ n : Nat) : Int) i := ⟨_, rfl⟩
      obtain ⟨dy, hdy⟩ : ∃ dy, dy = cornY ((2 ^ n : Nat) : Int) i := ⟨_, rfl⟩
      rw [← hdx, ← hdy] at hco
      clear hkid hcor C hdx hdy hq0 b2 hbr
      go_wp2_with fail
      refine (hco _).mono ?_
      rintro r wk ⟨rfl, rfl⟩
      go_wp2_with fail
      refine (HIH _ _).mono ?_
      rintro r w3 ⟨rfl, hb3⟩
      have b3 : Below w.heap.size w w3 := HBR.out.trans (hb3.mono HBR.out.size)
      clear hb3
      go_wp2_with fail
      go_roundg (gk - 1)
      case measure => have := HI.out; omega
      case rel => exact ⟨i + 1, by have := HI.out; omega, by go_num, b3⟩
    · clear hkid hcor
      go_wp2_with fail
      go_end0
      exact ⟨rfl, hbr⟩
end
end Go.Proofs.YtgipjplifndniaaGreatDoor.A
