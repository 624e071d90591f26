/- walker.tally: the memory, and a square that is known. -/
import Derived.Test.YtgipjplifndniaaGreatDoorSqBox
import Derived.Test.YtgipjplifndniaaGreatDoorLpOpenA
namespace Go.Proofs.YtgipjplifndniaaGreatDoor.A
open Go.RowKit Go.Maps Go.ChangeMaps Go.WideElems

abbrev tv (c x0 y0 x1 y1 : Int) : Value := .agg #[.int .i64 c, .int .i64 x0, .int .i64 y0, .int .i64 x1, .int .i64 y1]
abbrev td (c x0 y0 x1 y1 : Int) : DataW Unit := .agg [.lit (.int .i64 c), .lit (.int .i64 x0), .lit (.int .i64 y0), .lit (.int .i64 x1), .lit (.int .i64 y1)]
open Classical in
noncomputable def talG (v : Value) : Option (DataW Unit × List MemPlace) := if h : ∃ q : Int × Int × Int × Int × Int, v = tv q.1 q.2.1 q.2.2.1 q.2.2.2.1 q.2.2.2.2 then some (td h.choose.1 h.choose.2.1 h.choose.2.2.1 h.choose.2.2.2.1 h.choose.2.2.2.2, []) else none
theorem tv_inj {c x0 y0 x1 y1 d u0 v0 u1 v1 : Int} (h : tv c x0 y0 x1 y1 = tv d u0 v0 u1 v1) : c = d ∧ x0 = u0 ∧ y0 = v0 ∧ x1 = u1 ∧ y1 = v1 := by
  simpa [tv] using h
theorem talG_tv (c x0 y0 x1 y1 : Int) : talG (tv c x0 y0 x1 y1) = some (td c x0 y0 x1 y1, []) := by
  have h : ∃ q : Int × Int × Int × Int × Int, tv c x0 y0 x1 y1 = tv q.1 q.2.1 q.2.2.1 q.2.2.2.1 q.2.2.2.2 := ⟨(c, x0, y0, x1, y1), rfl⟩
  unfold talG
  rw [dif_pos h]
  obtain ⟨e0, e1, e2, e3, e4⟩ := tv_inj h.choose_spec
  rw [← e0, ← e1, ← e2, ← e3, ← e4]
theorem talG_some {v : Value} {d : DataW Unit} {ps : List MemPlace} (h : talG v = some (d, ps)) : ∃ c x0 y0 x1 y1, v = tv c x0 y0 x1 y1 ∧ d = td c x0 y0 x1 y1 := by
  unfold talG at h
  split at h
  · rename_i hq
    have e := (Prod.mk.inj (Option.some.inj h)).1
    exact ⟨_, _, _, _, _, hq.choose_spec, e.symm⟩
  · cases h
theorem talG_inv {v : Value} {c x0 y0 x1 y1 : Int} {ps : List MemPlace} (h : talG v = some (td c x0 y0 x1 y1, ps)) : v = tv c x0 y0 x1 y1 := by
  obtain ⟨d, u0, v0, u1, v1, e, e2⟩ := talG_some h
  simp [td] at e2
  obtain ⟨rfl, rfl, rfl, rfl, rfl⟩ := e2
  exact e

def Tal (zs : List (Int × Int)) (c x0 y0 x1 y1 : Int) : Prop := c = (zs.length : Int) ∧ BoxOr zs x0 y0 x1 y1
theorem Tal.nil : Tal [] 0 0 0 0 0 := ⟨rfl, Or.inl ⟨rfl, rfl, rfl, rfl, rfl⟩⟩
theorem Tal.one : Tal [(0, 0)] 1 0 0 0 0 := ⟨rfl, Or.inr ⟨fun p hp => by simp at hp; subst hp; simp, ⟨(0, 0), by simp⟩, ⟨(0, 0), by simp⟩, ⟨(0, 0), by simp⟩, ⟨(0, 0), by simp⟩⟩⟩
structure Spans (cs zs : List (Int × Int)) : Prop where
  x : ∀ c ∈ cs, ∃ p ∈ zs, p.1 = c.1
  y : ∀ c ∈ cs, ∃ p ∈ zs, p.2 = c.2
  x0 : ∀ p ∈ zs, ∃ c ∈ cs, c.1 ≤ p.1
  x1 : ∀ p ∈ zs, ∃ c ∈ cs, p.1 ≤ c.1
  y0 : ∀ p ∈ zs, ∃ c ∈ cs, c.2 ≤ p.2
  y1 : ∀ p ∈ zs, ∃ c ∈ cs, p.2 ≤ c.2
theorem Spans.nil : Spans [] [] := ⟨fun _ h => by (cases h), fun _ h => by (cases h), fun _ h => by (cases h), fun _ h => by (cases h), fun _ h => by (cases h), fun _ h => by (cases h)⟩
theorem Spans.append {cs zs ds ys : List (Int × Int)} (h : Spans cs zs) (k : Spans ds ys) : Spans (cs ++ ds) (zs ++ ys) := by
  refine ⟨fun c hc => ?_, fun c hc => ?_, fun p hp => ?_, fun p hp => ?_, fun p hp => ?_, fun p hp => ?_⟩
  · rcases List.mem_append.1 hc with hc | hc
    · obtain ⟨p, hp, e⟩ := h.x c hc; exact ⟨p, List.mem_append_left _ hp, e⟩
    · obtain ⟨p, hp, e⟩ := k.x c hc; exact ⟨p, List.mem_append_right _ hp, e⟩
  · rcases List.mem_append.1 hc with hc | hc
    · obtain ⟨p, hp, e⟩ := h.y c hc; exact ⟨p, List.mem_append_left _ hp, e⟩
    · obtain ⟨p, hp, e⟩ := k.y c hc; exact ⟨p, List.mem_append_right _ hp, e⟩
  · rcases List.mem_append.1 hp with hp | hp
    · obtain ⟨c, hc, e⟩ := h.x0 p hp; exact ⟨c, List.mem_append_left _ hc, e⟩
    · obtain ⟨c, hc, e⟩ := k.x0 p hp; exact ⟨c, List.mem_append_right _ hc, e⟩
  · rcases List.mem_append.1 hp with hp | hp
    · obtain ⟨c, hc, e⟩ := h.x1 p hp; exact ⟨c, List.mem_append_left _ hc, e⟩
    · obtain ⟨c, hc, e⟩ := k.x1 p hp; exact ⟨c, List.mem_append_right _ hc, e⟩
  · rcases List.mem_append.1 hp with hp | hp
    · obtain ⟨c, hc, e⟩ := h.y0 p hp; exact ⟨c, List.mem_append_left _ hc, e⟩
    · obtain ⟨c, hc, e⟩ := k.y0 p hp; exact ⟨c, List.mem_append_right _ hc, e⟩
  · rcases List.mem_append.1 hp with hp | hp
    · obtain ⟨c, hc, e⟩ := h.y1 p hp; exact ⟨c, List.mem_append_left _ hc, e⟩
    · obtain ⟨c, hc, e⟩ := k.y1 p hp; exact ⟨c, List.mem_append_right _ hc, e⟩
theorem Spans.box {zs : List (Int × Int)} {x0 y0 x1 y1 : Int} (dx dy : Int) (h : IsBox zs x0 y0 x1 y1) : Spans [(dx + x0, dy + y0), (dx + x1, dy + y1)] (shiftL dx dy zs) := by
  have hm : ∀ p ∈ zs, (p.1 + dx, p.2 + dy) ∈ shiftL dx dy zs := fun p hp => mem_shift.2 (by simpa using hp)
  refine ⟨fun c hc => ?_, fun c hc => ?_, fun p hp => ?_, fun p hp => ?_, fun p hp => ?_, fun p hp => ?_⟩
  · simp at hc
    rcases hc with rfl | rfl
    · obtain ⟨p, hp, e⟩ := h.a0; exact ⟨_, hm p hp, by show p.1 + dx = dx + x0; omega⟩
    · obtain ⟨p, hp, e⟩ := h.a1; exact ⟨_, hm p hp, by show p.1 + dx = dx + x1; omega⟩
  · simp at hc
    rcases hc with rfl | rfl
    · obtain ⟨p, hp, e⟩ := h.b0; exact ⟨_, hm p hp, by show p.2 + dy = dy + y0; omega⟩
    · obtain ⟨p, hp, e⟩ := h.b1; exact ⟨_, hm p hp, by show p.2 + dy = dy + y1; omega⟩
  · have := h.all _ (mem_shift.1 hp); exact ⟨(dx + x0, dy + y0), by simp, by show dx + x0 ≤ _; simp only at this; omega⟩
  · have := h.all _ (mem_shift.1 hp); exact ⟨(dx + x1, dy + y1), by simp, by show _ ≤ dx + x1; simp only at this; omega⟩
  · have := h.all _ (mem_shift.1 hp); exact ⟨(dx + x0, dy + y0), by simp, by show dy + y0 ≤ _; simp only at this; omega⟩
  · have := h.all _ (mem_shift.1 hp); exact ⟨(dx + x1, dy + y1), by simp, by show _ ≤ dy + y1; simp only at this; omega⟩
theorem Spans.isBox {cs zs : List (Int × Int)} {x0 y0 x1 y1 : Int} (h : Spans cs zs) (k : IsBox cs x0 y0 x1 y1) : IsBox zs x0 y0 x1 y1 := by
  refine ⟨fun p hp => ?_, ?_, ?_, ?_, ?_⟩
  · obtain ⟨c, hc, e⟩ := h.x0 p hp
    obtain ⟨d, hd, f⟩ := h.x1 p hp
    obtain ⟨c', hc', e'⟩ := h.y0 p hp
    obtain ⟨d', hd', f'⟩ := h.y1 p hp
    have := k.all c hc; have := k.all d hd; have := k.all c' hc'; have := k.all d' hd'
    omega
  · obtain ⟨c, hc, e⟩ := k.a0; obtain ⟨p, hp, f⟩ := h.x c hc; exact ⟨p, hp, f.trans e⟩
  · obtain ⟨c, hc, e⟩ := k.b0; obtain ⟨p, hp, f⟩ := h.y c hc; exact ⟨p, hp, f.trans e⟩
  · obtain ⟨c, hc, e⟩ := k.a1; obtain ⟨p, hp, f⟩ := h.x c hc; exact ⟨p, hp, f.trans e⟩
  · obtain ⟨c, hc, e⟩ := k.b1; obtain ⟨p, hp, f⟩ := h.y c hc; exact ⟨p, hp, f.trans e⟩
theorem Spans.boxOr {cs zs : List (Int × Int)} {x0 y0 x1 y1 : Int} (h : Spans cs zs) (k : BoxOr cs x0 y0 x1 y1) : BoxOr zs x0 y0 x1 y1 := by
  rcases k with ⟨rfl, h1, h2, h3, h4⟩ | k
  · refine Or.inl ⟨?_, h1, h2, h3, h4⟩
    rcases List.eq_nil_or_concat zs with e | ⟨l, p, e⟩
    · exact e
    · obtain ⟨c, hc, _⟩ := h.x0 p (by rw [e]; simp)
      cases hc
  · exact Or.inr (h.isBox k)

def unk (D : DataW Unit) : Nat → Nat
  | 0 => 0
  | n + 1 => unk D n + if Maps.has D (.int .i64 ((n : Int) + 2)) = true then 0 else 1
theorem unk_put {D : DataW Unit} (hD : IsMap D) (d : DataW Unit) {i : Nat} (hi : Maps.has D (.int .i64 ((i : Int) + 2)) = false) : ∀ n, unk (D.put (.int .i64 ((i : Int) + 2)) d) n + (if i < n then 1 else 0) = unk D n
  | 0 => by simp [unk]
  | n + 1 => by
    have ih := unk_put hD d hi n
    unfold unk
    by_cases e : i = n
    · subst e
      rw [has_put_same hD (by unfold WideAt.IsKeyLit; trivial), hi]
      simp at ih ⊢
      omega
    · rw [has_put_other (by intro h; cases h; omega)]
      split <;> split at ih <;> split <;> omega
theorem unk_le (D : DataW Unit) : ∀ n, unk D n ≤ n
  | 0 => Nat.le_refl _
  | n + 1 => by
    have := unk_le D n
    unfold unk
    split <;> omega

structure KnownG (D : DataW Unit) (l : List Th) (t : Nat) : Prop where
  zero : Maps.has D (.int .i64 0) = true
  one : Maps.has D (.int .i64 1) = true
  tal : ∀ id, Fits id → Maps.has D (.int .i64 id) = true → ∃ (n : Nat) (c x0 y0 x1 y1 : Int), levelF l t id = some (n : Int) ∧ Tal (cellsF l n id) c x0 y0 x1 y1 ∧ D.atKey (.int .i64 id) (td 0 0 0 0 0) = td c x0 y0 x1 y1
theorem zeroG (w : World) : (zeroValue 173).run Tryz.prog w = .ok (tv 0 0 0 0 0) w := by kernel_rfl
theorem tal_yes {w : World} {m k n t : Nat} {D : DataW Unit} {l : List Th} {i : Int} (h : w.ownsMap Tryz.prog 3 talG m k D) (hk : KnownG D l t) (hi : Fits i) (hl : levelF l t i = some (n : Int)) (hh : Maps.has D (.int .i64 i) = true) :
    ∃ c x0 y0 x1 y1, Tal (cellsF l n i) c x0 y0 x1 y1 ∧ (Instr.lookup 166 (.map (some m)) (.int .i64 i) true).run Tryz.prog w = .ok (.tuple #[tv c x0 y0 x1 y1, .bool true]) w := by
  obtain ⟨v, ps, hrun, hv⟩ := h.look_ok (int_keyed Tryz.underlying3) Tryz.underlying166 (zeroG w) (talG_tv 0 0 0 0 0) (keyOf_int_mk Tryz.underlying3 (wf_of_fits hi))
  obtain ⟨n', c, x0, y0, x1, y1, h1, h2, h3⟩ := hk.tal i hi hh
  rw [hl] at h1
  obtain rfl : n = n' := by have := Option.some.inj h1; omega
  rw [h3] at hv
  rw [hh] at hrun
  exact ⟨c, x0, y0, x1, y1, h2, by rw [hrun, talG_inv hv]⟩
theorem tal_no {w : World} {m k : Nat} {D : DataW Unit} {i : Int} (h : w.ownsMap Tryz.prog 3 talG m k D) (hi : Fits i) (hh : Maps.has D (.int .i64 i) = false) :
    (Instr.lookup 166 (.map (some m)) (.int .i64 i) true).run Tryz.prog w = .ok (.tuple #[tv 0 0 0 0 0, .bool false]) w := by
  obtain ⟨v, ps, hrun, hv⟩ := h.look_ok (int_keyed Tryz.underlying3) Tryz.underlying166 (zeroG w) (talG_tv 0 0 0 0 0) (keyOf_int_mk Tryz.underlying3 (wf_of_fits hi))
  rw [atKey_of_not_has hh] at hv
  rw [hh] at hrun
  rw [hrun, talG_inv hv]
theorem tal_learn {w : World} {m k n t : Nat} {D : DataW Unit} {l : List Th} {i c x0 y0 x1 y1 : Int} (h : w.ownsMap Tryz.prog 3 talG m k D) (hk : KnownG D l t) (hi : Fits i) (h2 : 2 ≤ i) (hlt : (i - 2).toNat < l.length) (hl : levelF l t i = some (n : Int)) (hT : Tal (cellsF l n i) c x0 y0 x1 y1) (hh : Maps.has D (.int .i64 i) = false) (hn : k + unk D l.length ≤ 2000000) :
    ∃ w' D', (Instr.mapUpdate 166 (.map (some m)) (.int .i64 i) (tv c x0 y0 x1 y1)).run Tryz.prog w = .ok () w' ∧ w'.ownsMap Tryz.prog 3 talG m (k + 1) D' ∧ KnownG D' l t ∧ k + 1 + unk D' l.length ≤ 2000000 ∧ w.mapTurned w' m ∧ ∀ j, Maps.has D' (.int .i64 j) = true → j = i ∨ Maps.has D (.int .i64 j) = true := by
  obtain ⟨w', h1, h3, h4⟩ := h.store (int_keyed Tryz.underlying3) Tryz.underlying166 (show k < maxLen by unfold maxLen; omega) (keyOf_int_mk Tryz.underlying3 (wf_of_fits hi)) (talG_tv c x0 y0 x1 y1)
  have hkl : WideAt.IsKeyLit (.int .i64 i) := by unfold WideAt.IsKeyLit; trivial
  refine ⟨w', _, h1, h3, ⟨?_, ?_, fun j hj hhj => ?_⟩, ?_, h4, fun j hhj => ?_⟩
  · rw [has_put_other (by intro e; cases e; omega)]; exact hk.zero
  · rw [has_put_other (by intro e; cases e; omega)]; exact hk.one
  · by_cases e : j = i
    · subst e
      exact ⟨n, c, x0, y0, x1, y1, hl, hT, atKey_put_same h.isMap hkl _ _⟩
    · have ne : (Lit.int .i64 j) ≠ .int .i64 i := by intro h; cases h; exact e rfl
      rw [has_put_other ne] at hhj
      obtain ⟨n', c', a, b, c'', d, f1, f2, f3⟩ := hk.tal j hj hhj
      exact ⟨n', c', a, b, c'', d, f1, f2, by rw [atKey_put_other ne]; exact f3⟩
  · obtain ⟨q, hq⟩ : ∃ q : Nat, i = (q : Int) + 2 := ⟨(i - 2).toNat, by omega⟩
    subst hq
    have := unk_put h.isMap (td c x0 y0 x1 y1) hh l.length
    rw [if_pos (by omega)] at this
    omega
  · by_cases e : j = i
    · exact Or.inl e
    · have ne : (Lit.int .i64 j) ≠ .int .i64 i := by intro h; cases h; exact e rfl
      rw [has_put_other ne] at hhj
      exact Or.inr hhj
end Go.Proofs.YtgipjplifndniaaGreatDoor.A

namespace Go.Proofs.YtgipjplifndniaaGreatDoor.A
open Go.RowKit Go.Maps Go.ChangeMaps Go.WideElems

theorem talG_other {w w' : World} {m n : Nat} {D : DataW Unit} (h : w.ownsMap Tryz.prog 3 talG m n D) (hb : w'.heap[m]? = w.heap[m]?) : w'.ownsMap Tryz.prog 3 talG m n D := by
  obtain ⟨es, clock, h1, h2⟩ := h
  exact ⟨es, clock, hb.trans h1, h2⟩
structure WG (w : World) (wb m b nn t k : Nat) (v : Value) (F : Nat → Prop) (A : Ar) (D : DataW Unit) : Prop where
  hand : HandAt w wb b t 0 v
  ar : ArAt w b F nn A
  map : w.ownsMap Tryz.prog 3 talG m k D
  known : KnownG D A.ths t
  cap : k + unk D A.ths.length ≤ 2000000
  c4 : w.cell? ⟨wb, 4, none⟩ = some (.map (some m))
  ne : wb ≠ m
  nF : ¬ F m
  nFw : ¬ F wb
section
variable {w w' : World} {wb m b nn t k : Nat} {v : Value} {F : Nat → Prop} {A : Ar} {D : DataW Unit}
theorem WG.lt (h : WG w wb m b nn t k v F A D) : m < w.heap.size := by
  have hm0 : w.heap[m]? ≠ none := by obtain ⟨es, c, he, _⟩ := h.map; rw [he]; simp
  rw [Ne, Array.getElem?_eq_none_iff] at hm0; omega
theorem WG.other (h : WG w wb m b nn t k v F A D) (hs : w.heap.size ≤ w'.heap.size) (hb : ∀ j, j = wb ∨ j = m ∨ F j → w'.heap[j]? = w.heap[j]?) : WG w' wb m b nn t k v F A D :=
  ⟨h.hand.go (hb wb (Or.inl rfl)), h.ar.other hs fun j hj => hb j (Or.inr (Or.inr hj)), talG_other h.map (hb m (Or.inr (Or.inl rfl))), h.known, h.cap, (World.cell?_of_block (hb wb (Or.inl rfl))).trans h.c4, h.ne, h.nF, h.nFw⟩
theorem WG.flt (h : WG w wb m b nn t k v F A D) {j : Nat} (hj : j = wb ∨ j = m ∨ F j) : j < w.heap.size := by
  rcases hj with rfl | rfl | hj
  · exact h.hand.lt
  · exact h.lt
  · exact h.ar.flt j hj
theorem WG.below (h : WG w wb m b nn t k v F A D) (hb : Below w.heap.size w w') : WG w' wb m b nn t k v F A D := h.other hb.size fun _ hj => hb.block _ (h.flt hj)
theorem WG.kids (h : WG w wb m b nn t k v F A D) (h2 : HandAt w' wb b t 0 v) (hg : w.grownBy w' (some wb)) (h4 : w'.cell? ⟨wb, 4, none⟩ = some (.map (some m))) : WG w' wb m b nn t k v F A D :=
  ⟨h2, h.ar.other hg.size fun j hj => hg.block j (h.ar.flt j hj) (fun e => h.nFw (by cases e; exact hj)), talG_other h.map (hg.block _ h.lt (fun e => h.ne (by cases e; rfl))), h.known, h.cap, h4, h.ne, h.nF, h.nFw⟩
end
def Kn (D : DataW Unit) (l : List Th) (t n : Nat) (j : Int) : Prop := Maps.has D (.int .i64 j) = true ∨ ∃ q : Nat, q ≤ n ∧ levelF l t j = some (q : Int)
structure TG (w : World) (wb m b nn t : Nat) (v : Value) (F : Nat → Prop) (A : Ar) (K : Int → Prop) (w' : World) : Prop where
  wg : ∃ k D, WG w' wb m b nn t k v F A D ∧ ∀ j, Fits j → Maps.has D (.int .i64 j) = true → K j
  size : w.heap.size ≤ w'.heap.size
  os : w'.os = w.os
  tape : w'.tape = w.tape
  output : w'.output = w.output
  block : ∀ j, j < w.heap.size → j ≠ wb → j ≠ m → w'.heap[j]? = w.heap[j]?
section
variable {w w1 w2 : World} {wb m b nn t k : Nat} {v : Value} {F : Nat → Prop} {A : Ar} {D : DataW Unit} {K K1 K2 : Int → Prop}
theorem TG.trans (h : TG w wb m b nn t v F A K1 w1) (k : TG w1 wb m b nn t v F A K2 w2) : TG w wb m b nn t v F A K2 w2 :=
  ⟨k.wg, Nat.le_trans h.size k.size, k.os.trans h.os, k.tape.trans h.tape, k.output.trans h.output, fun j h1 h2 h3 => (k.block j (Nat.lt_of_lt_of_le h1 h.size) h2 h3).trans (h.block j h1 h2 h3)⟩
theorem TG.of (h : WG w wb m b nn t k v F A D) (hb : Below w.heap.size w w1) (hk : ∀ j, Fits j → Maps.has D (.int .i64 j) = true → K j) : TG w wb m b nn t v F A K w1 :=
  ⟨⟨k, D, h.below hb, hk⟩, hb.size, hb.os, hb.tape, hb.output, fun j h1 _ _ => hb.block j h1⟩
end

set_option maxRecDepth 20000 in
set_option maxHeartbeats 4000000 in
theorem tally_yes (wb m b nn t k n : Nat) (id level : Int) (v : Value) (F : Nat → Prop) (A : Ar) (D : DataW Unit) (w : World) (hw : WG w wb m b nn t k v F A D) (hi : Fits id) (hl : levelF A.ths t id = some (n : Int)) (hh : Maps.has D (.int .i64 id) = true) :
    Calls Tryz.prog 110 #[.pointer (some ⟨wb, 0, none⟩), .int .i64 id, .int .i64 level] w fun x w' => ∃ c x0 y0 x1 y1, x = .returned (tv c x0 y0 x1 y1) ∧ Tal (cellsF A.ths n id) c x0 y0 x1 y1 ∧ TG w wb m b nn t v F A (Kn D A.ths t n) w' := by
  have b1 : Below w.heap.size w (w.alloc (.cells #[.int .i64 0, .int .i64 0, .int .i64 0, .int .i64 0, .int .i64 0] 173)) := (Below.refl _ _).alloc (Nat.le_refl _) _
  have q1 := hw.below b1
  obtain ⟨c, x0, y0, x1, y1, hT, hlook⟩ := tal_yes q1.map q1.known hi hl hh
  have hc' := q1.c4
  have HFIN : Hid (∀ w', Below w.heap.size w w' → TG w wb m b nn t v F A (Kn D A.ths t n) w') := fun w' h => TG.of hw h fun _ _ hh => Or.inl hh
  go_enter Tryz.func110, Tryz.ntmps110
  go_wp2_with fail
  refine bodyPost_ret (v := tv c x0 y0 x1 y1) ?_ rfl ⟨c, x0, y0, x1, y1, rfl, hT, HFIN.out _ ?_⟩
  · simp [results, Tryz.results110, go_sem]
  · exact ((Below.refl _ _).alloc (Nat.le_refl _) _).alloc (by simp) _
end Go.Proofs.YtgipjplifndniaaGreatDoor.A
