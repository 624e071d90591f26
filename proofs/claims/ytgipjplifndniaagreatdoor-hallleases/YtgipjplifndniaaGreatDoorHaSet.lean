/- Cells set in a universe. -/
import Derived.Deep.RegionHeld3
import Derived.Test.YtgipjplifndniaaGreatDoorProg
import Derived.Test.YtgipjplifndniaaGreatDoorHaGet
import Derived.Test.YtgipjplifndniaaGreatDoorLpAddC
namespace Go.Proofs.YtgipjplifndniaaGreatDoor.U
open Go

section
variable {P : Program} {ops : Array Oper} {Q : Exit → Act → World → Prop} {md : Region.Mode} {C C' : World → Prop} {n : Nat}
def tillN (P : Program) (md : Region.Mode) (ops : Array Oper) (Q : Exit → Act → World → Prop) (C : World → Prop) (n : Nat) : Nat → Array Bool → Act → World → Prop
  | 0, l, a, w => Region.ready md ops l = [] ∧ Q .normal a w
  | f + 1, l, a, w => (Region.ready md ops l = [] → Q .normal a w) ∧ ∀ i ∈ Region.ready md ops l, wpOp P ops Q i (fun a' w' => ((l.setIfInBounds i true).getD n true = false → C w') ∧ tillN P md ops Q C n f (l.setIfInBounds i true) a' w') a w
theorem till_any : ∀ (f : Nat) (l : Array Bool) (a : Act) (w : World), tillN P md ops Q C n f l a w → wpAny P md ops Q f l a w
  | 0, _, _, _, h => h
  | f + 1, _, _, _, h => ⟨h.1, fun i hi => wpOp_mono (fun a' w' h' => till_any f _ a' w' h'.2) (h.2 i hi)⟩
theorem getD_up {l : Array Bool} {i n : Nat} (h : l.getD n true = true) : (l.setIfInBounds i true).getD n true = true := by
  by_cases e : i = n
  · subst e
    rcases Nat.lt_or_ge i l.size with h' | h'
    · simp [h']
    · simp [h']
  · rw [getD_set_ne true e]
    exact h
theorem till_of_any : ∀ (f : Nat) (l : Array Bool) (a : Act) (w : World), l.getD n true = true → wpAny P md ops Q f l a w → tillN P md ops Q C n f l a w
  | 0, _, _, _, _, h => h
  | f + 1, l, _, _, hn, h => ⟨h.1, fun i hi => wpOp_mono (fun a' w' h' => ⟨fun h0 => (by rw [getD_up hn] at h0; cases h0), till_of_any f _ a' w' (getD_up hn) h'⟩) (h.2 i hi)⟩
theorem till_first {i : Nat} {oi : Oper} {v : Value} (hi : ops[i]? = some oi) (hsel : ∀ (j : Nat) (o : Oper) cs b, ops[j]? = some o → o.op ≠ .select cs b)
    (hQ : ∀ c a w, Q (.panic c) (a.put oi.dst v) w → Q (.panic c) a w) (hin : i ≠ n)
    (hC : (∀ w, C' w) ∨ ((∀ w, C w → C' w) ∧ ∀ l : Array Bool, l.getD i true = false → n ∉ Region.ready md ops l)) :
    ∀ (f : Nat) (l : Array Bool) (a : Act) (w : World),
      (∀ j oj, ops[j]? = some oj → j ≠ i → l.getD j true = false → (∀ e ∈ oj.after, Region.binds md e = true → e.on ≠ i) → oi.apart ops oj = true) →
      i ∈ Region.ready md ops l → YieldsIf P ops C' oi v a → ((∀ w, C' w) ∨ l.getD n true = false) → (l.getD n true = false → C w) →
      tillN P md ops Q C n f (l.setIfInBounds i true) (a.put oi.dst v) w → tillN P md ops Q C n (f + 1) l a w := by
  have hc' : ∀ (l : Array Bool) (w : World), ((∀ w, C' w) ∨ l.getD n true = false) → (l.getD n true = false → C w) → C' w := fun l w h1 h2 => by
    rcases hC with h | h
    · exact h w
    · rcases h1 with h1 | h1
      · exact h1 w
      · exact h.1 w (h2 h1)
  intro f
  induction f with
  | zero =>
    intro l a w _ hr hy h1 h2 H
    refine ⟨fun h => (by rw [h] at hr; cases hr), fun j hj => ?_⟩
    by_cases hji : j = i
    · subst hji
      exact hy.wpOp hi (hc' l w h1 h2) ⟨fun h0 => h2 (by rw [getD_set_ne true hin] at h0; exact h0), H⟩
    · have := ready_mono hj hji
      rw [H.1] at this
      cases this
  | succ f ih =>
    intro l a w hfree hr hy h1 h2 H
    refine ⟨fun h => (by rw [h] at hr; cases hr), fun j hj => ?_⟩
    by_cases hji : j = i
    · subst hji
      exact hy.wpOp hi (hc' l w h1 h2) ⟨fun h0 => h2 (by rw [getD_set_ne true hin] at h0; exact h0), H⟩
    · have k1 := H.2 j (ready_mono hj hji)
      obtain ⟨hjun, oj, hoj, hall⟩ := mem_ready.1 hj
      have hun := (mem_ready.1 hr).1
      have hnot : ∀ e ∈ oj.after, Region.binds md e = true → e.on ≠ i := fun e he hb heq => by
        have q1 := hall e he hb
        rw [heq] at q1
        rcases Nat.lt_or_ge i l.size with h' | h'
        · simp [h'] at hun q1
          rw [hun] at q1
          cases q1
        · simp [Array.getElem?_eq_none h'] at q1
      have k2 := wpOp_putIf hoj (hfree j oj hoj hji hjun hnot) (fun cs b => hsel i oi cs b hi) (fun cs b => hsel j oj cs b hoj) hQ hy k1
      have hfree' : ∀ k ok, ops[k]? = some ok → k ≠ i → (l.setIfInBounds j true).getD k true = false → (∀ e ∈ ok.after, Region.binds md e = true → e.on ≠ i) → oi.apart ops ok = true := fun k ok hk hki hu hno => by
        refine hfree k ok hk hki ?_ hno
        by_cases hjk : j = k
        · subst hjk; exact hjun
        · rw [getD_set_ne true hjk] at hu; exact hu
      have hcm : (l.setIfInBounds i true).setIfInBounds j true = (l.setIfInBounds j true).setIfInBounds i true := Array.setIfInBounds_comm _ _ (Ne.symm hji)
      refine wpOp_mono (fun a' w' h3 => ?_) k2
      have h4 : (l.setIfInBounds j true).getD n true = false → C w' := fun h0 => h3.2.1 (by rw [hcm, getD_set_ne true hin]; exact h0)
      refine ⟨h4, ih (l.setIfInBounds j true) a' w' hfree' (ready_mono hr (Ne.symm hji)) h3.1 ?_ h4 ?_⟩
      · rcases hC with h | h
        · exact .inl h
        · rcases h1 with h1 | h1
          · exact .inl h1
          · refine .inr ?_
            rw [getD_set_ne true fun (e : j = n) => h.2 l hun (by rw [← e]; exact hj)]
            exact h1
      · rw [← hcm]
        exact h3.2.2
def waitsB (md : Region.Mode) (ops : Array Oper) (n i : Nat) : Bool := match ops[n]? with
  | some o => o.after.any fun e => Region.binds md e && e.on == i
  | none => true
theorem waits_no {i : Nat} (h : waitsB md ops n i = true) (l : Array Bool) (hl : l.getD i true = false) : n ∉ Region.ready md ops l := fun hn => by
  obtain ⟨_, o, ho, hall⟩ := mem_ready.1 hn
  unfold waitsB at h
  rw [ho] at h
  obtain ⟨e, he, hb⟩ := Array.any_eq_true'.1 h
  rw [Bool.and_eq_true, beq_iff_eq] at hb
  have q1 := hall e he hb.1
  rw [hb.2] at q1
  rcases Nat.lt_or_ge i l.size with h' | h'
  · simp [h'] at hl q1
    rw [hl] at q1
    cases q1
  · simp [Array.getElem?_eq_none h'] at q1
theorem till_skip (i : Nat) {oi : Oper} {v : Value} {f : Nat} {l : Array Bool} {a : Act} {w : World} (hi : ops[i]? = some oi) (hs : Region.noSelect ops = true) (hf : Region.free md ops l i = true) (hr : (Region.ready md ops l).contains i = true)
    (hQ : ∀ c a w, Q (.panic c) (a.put oi.dst v) w → Q (.panic c) a w) (hin : i ≠ n) (hy : YieldsIf P ops (fun _ => True) oi v a) (hc : C w) (h : tillN P md ops Q C n f (l.setIfInBounds i true) (a.put oi.dst v) w) : tillN P md ops Q C n (f + 1) l a w :=
  till_first (C' := fun _ => True) hi (Region.noSelect_spec hs) hQ hin (.inl fun _ => trivial) f l a w (Region.free_spec hi hf) (by simpa using hr) hy (.inl fun _ => trivial) (fun _ => hc) h
theorem till_take (i : Nat) {oi : Oper} {v : Value} {f : Nat} {l : Array Bool} {a : Act} {w : World} (hi : ops[i]? = some oi) (hs : Region.noSelect ops = true) (hf : Region.free md ops l i = true) (hr : (Region.ready md ops l).contains i = true)
    (hQ : ∀ c a w, Q (.panic c) (a.put oi.dst v) w → Q (.panic c) a w) (hin : i ≠ n) (hw : waitsB md ops n i = true) (hl : l.getD n true = false) (hy : YieldsIf P ops C oi v a) (hc : C w) (h : tillN P md ops Q C n f (l.setIfInBounds i true) (a.put oi.dst v) w) : tillN P md ops Q C n (f + 1) l a w :=
  till_first (C' := C) hi (Region.noSelect_spec hs) hQ hin (.inr ⟨fun _ h => h, waits_no hw⟩) f l a w (Region.free_spec hi hf) (by simpa using hr) hy (.inr hl) (fun _ => hc) h
theorem region_till {id : Nat} {a : Act} {w : World} (n : Nat) (C : World → Prop) (hm : P.follows .mixedOrders = true) (h : tillN P .any ops Q C n ops.size (Array.replicate ops.size false) a w.drew) : (Code.region id ops true).wp P Q a w :=
  wp_region_any hm (till_any _ _ _ _ h)
theorem till_all {rs : List Nat} {f : Nat} {l : Array Bool} {a : Act} {w : World} (hr : Region.ready md ops l = rs) (hne : rs ≠ [])
    (h : ∀ i ∈ rs, wpOp P ops Q i (fun a' w' => ((l.setIfInBounds i true).getD n true = false → C w') ∧ tillN P md ops Q C n f (l.setIfInBounds i true) a' w') a w) : tillN P md ops Q C n (f + 1) l a w :=
  ⟨fun h0 => absurd (hr ▸ h0) hne, hr ▸ h⟩
end
end Go.Proofs.YtgipjplifndniaaGreatDoor.U

namespace Go.Proofs.YtgipjplifndniaaGreatDoor.U
open Go.RowKit Go.Maps Go.Proofs.YtgipjplifndniaaGreatDoor.L Go.Proofs.YtgipjplifndniaaGreatDoor.A Go.Proofs.YtgipjplifndniaaGreatDoor.K

variable {w w1 : World} {o o1 : Nat → Nat} {hb b t i k m : Nat} {draw : Int} {S : Hl} {ids : List Nat} {wv kv : Value} {A A' : Ar} {PR : (Bool → Nat → Bool) → Int → Prop} {q : Nat → Int} {g : Gr} {x : Wd}
set_option maxRecDepth 20000 in
set_option maxHeartbeats 4000000 in
theorem set_any (h : HlAt w o 5 hb b t draw S ids wv kv) (hA : ArL w o b A) (hst : NxSt PR t q A) (ht : t < 64) (hk : ids[i]? = some k) (hx : S.ws[i]? = some x) (hm1 : 1 ≤ m) (hm : m ≤ 43) (hrt : Rt A t m x.root g) (v : Value) (zs ys : List (Int × Int)) (hrow : Row w v zs) (hc : tcode zs = 0) (hys : Tidied zs ys) (verb : Int) (name other : ByteArray) (born live n : Int) :
    Calls Tryz.prog 32 #[.pointer (some ⟨hb, 0, none⟩), .pointer (some ⟨k, 0, none⟩), reqV verb name other born live n v] w fun r w' => ∃ e', r = .returned (.tuple #[codeV 0, .int .i64 e']) ∧ ∃ A' o' id', ArL w' o' b A' ∧ HlAt w' o' 5 hb b t draw (if e' = 0 then S.put i id' else S) ids wv kv ∧ Ch (fun l => l = 1 ∨ l = 5) o w o' w' ∧ NxSt PR t q A' ∧ AddR t A A' g m ys id' e' := by
  obtain ⟨hxb, hxl⟩ := h.each i k x hk hx
  have b1 : Below w.heap.size w (w.alloc (.cells #[.int .i64 verb, .string name, .string other, .int .i64 born, .int .i64 live, .int .i64 n, v] 38)) := (Below.refl _ _).alloc (Nat.le_refl _) _
  have b2 : Below w.heap.size w ((w.alloc (.cells #[.int .i64 verb, .string name, .string other, .int .i64 born, .int .i64 live, .int .i64 n, v] 38)).alloc (.cells #[.int .i64 0, .int .i64 0, .int .i64 0, .int .i64 0, .int .i64 0, .int .i64 0, .int .i64 0, .int .i64 0, .string ⟨#[]⟩, .slice none 0 0] 35)) := b1.alloc (by simp) _
  have r1 : RqB (w.alloc (.cells #[.int .i64 verb, .string name, .string other, .int .i64 born, .int .i64 live, .int .i64 n, v] 38)) w.heap.size #[.int .i64 verb, .string name, .string other, .int .i64 born, .int .i64 live, .int .i64 n, v] := Go.Deep.blk_alloc_new _ _
  have r2 : RqB ((w.alloc (.cells #[.int .i64 verb, .string name, .string other, .int .i64 born, .int .i64 live, .int .i64 n, v] 38)).alloc (.cells #[.int .i64 0, .int .i64 0, .int .i64 0, .int .i64 0, .int .i64 0, .int .i64 0, .int .i64 0, .int .i64 0, .string ⟨#[]⟩, .slice none 0 0] 35)) w.heap.size #[.int .i64 verb, .string name, .string other, .int .i64 born, .int .i64 live, .int .i64 n, v] := (Below.heap_alloc _ _ _ (by simp)).trans r1
  have hs1 : (w.alloc (.cells #[.int .i64 verb, .string name, .string other, .int .i64 born, .int .i64 live, .int .i64 n, v] 38)).heap.size = w.heap.size + 1 := by simp
  have a2 := noAn_born (w.alloc (.cells #[.int .i64 verb, .string name, .string other, .int .i64 born, .int .i64 live, .int .i64 n, v] 38))
  rw [hs1] at a2
  unfold noAn at a2
  have hkl := (Array.getElem?_eq_some_iff.1 hxb).1
  have H0 := h.below b2 0
  have A0 := hA.ch (L := fun _ => False) (Ch.ofBelow b2 0) fun h => h
  have R0 := hrow.below b2
  have hmem := List.mem_of_getElem? hk
  have hkh : k ≠ hb := fun e => h.hne (e ▸ hmem)
  have X0 : WdB ((w.alloc (.cells #[.int .i64 verb, .string name, .string other, .int .i64 born, .int .i64 live, .int .i64 n, v] 38)).alloc (.cells #[.int .i64 0, .int .i64 0, .int .i64 0, .int .i64 0, .int .i64 0, .int .i64 0, .int .i64 0, .int .i64 0, .string ⟨#[]⟩, .slice none 0 0] 35)) k x := (b2.block k hkl).trans hxb
  have HLT : Hid (hb < w.heap.size ∧ k < w.heap.size ∧ k ≠ hb) := ⟨h.lt, hkl, hkh⟩
  have HSZ : Hid (w.heap.size + 1 < ((w.alloc (.cells #[.int .i64 verb, .string name, .string other, .int .i64 born, .int .i64 live, .int .i64 n, v] 38)).alloc (.cells #[.int .i64 0, .int .i64 0, .int .i64 0, .int .i64 0, .int .i64 0, .int .i64 0, .int .i64 0, .int .i64 0, .string ⟨#[]⟩, .slice none 0 0] 35)).heap.size) := by show w.heap.size + 1 < _; simp
  unfold reqV
  go_enter Tryz.func32, Tryz.ntmps32
  go_wp2_with fail
  generalize ((w.alloc (.cells #[.int .i64 verb, .string name, .string other, .int .i64 born, .int .i64 live, .int .i64 n, v] 38)).alloc (.cells #[.int .i64 0, .int .i64 0, .int .i64 0, .int .i64 0, .int .i64 0, .int .i64 0, .int .i64 0, .int .i64 0, .string ⟨#[]⟩, .slice none 0 0] 35)) = wA at *
  clear hs1 r1 b1 hxb h hA hrow hkl hkh hmem
  obtain ⟨c0, c1, -⟩ := H0.cells
  obtain ⟨-, -, -, c3⟩ := X0.cells
  obtain ⟨-, -, -, -, -, -, c6⟩ := r2.cells
  have CW0 : wA.drew.cell? ⟨hb, 0, none⟩ = some (.pointer (some ⟨b, 0, none⟩)) ∧ wA.drew.cell? ⟨hb, 1, none⟩ = some (.int .i64 t) ∧ wA.drew.cell? ⟨k, 3, none⟩ = some (.int .i64 x.root) ∧ wA.drew.cell? ⟨w.heap.size, 6, none⟩ = some v := ⟨c0, c1, c3, c6⟩
  have HADD : Hid (∀ W (_ : ArL W (ext o w.heap.size 0) b A) (_ : Row W v zs), Calls Tryz.prog 60 #[.pointer (some ⟨b, 0, none⟩), .int .i64 t, .int .i64 x.root, v] W fun r w' => ∃ id' e', r = .returned (.tuple #[.int .i64 id', .int .i64 e']) ∧ ∃ A' o', ArL w' o' b A' ∧ Ch (fun l => l = 1) (ext o w.heap.size 0) W o' w' ∧ NxSt PR t q A' ∧ AddR t A A' g m ys id' e') := fun W hW hR => add_rel hW hst ht v zs ys hR hc hys g x.root m hm1 hm hrt
  have HAT : Hid (HlAt wA (ext o w.heap.size 0) 5 hb b t draw S ids wv kv ∧ AnB wA (w.heap.size + 1) #[.int .i64 0, .int .i64 0, .int .i64 0, .int .i64 0, .int .i64 0, .int .i64 0, .int .i64 0, .int .i64 0, .string ⟨#[]⟩, .slice none 0 0] ∧ ArL wA.drew (ext o w.heap.size 0) b A ∧ Row wA.drew v zs ∧ Below w.heap.size w wA ∧ o k = 5 ∧ ids[i]? = some k ∧ S.ws[i]? = some x) := ⟨H0, a2, A0.ch (L := fun _ => False) (Ch.drew (Ch.refl _ _ _)) (fun h => h), R0.below ⟨rfl, rfl, rfl, Nat.le_refl _, fun _ _ => rfl⟩, b2, hxl, hk, hx⟩
  clear H0 a2 A0 R0 b2 hxl hk hx X0 r2 hst hrt hc hys
  refine region_till 16 (fun W => W.cell? ⟨hb, 0, none⟩ = some (.pointer (some ⟨b, 0, none⟩)) ∧ W.cell? ⟨hb, 1, none⟩ = some (.int .i64 t) ∧ W.cell? ⟨k, 3, none⟩ = some (.int .i64 x.root) ∧ W.cell? ⟨w.heap.size, 6, none⟩ = some v) (by kernel_rfl) ?_
  refine till_skip (v := ?_) 0 rfl (by kernel_rfl) (by kernel_rfl) (by kernel_rfl) (fun _ _ _ h => h) (by decide) (.inl ⟨by rfl, fun W9 _ => ?_⟩) CW0 ?_
  rotate_left
  · simp only [List.getElem_toArray, List.getElem_cons_zero]
    go_simp
    with_reducible rfl
  simp only [List.getElem_toArray, List.getElem_cons_zero, Act.put, List.setIfInBounds_toArray, List.set_cons_zero, List.set_cons_succ]
  refine till_skip (v := ?_) 1 rfl (by kernel_rfl) (by kernel_rfl) (by kernel_rfl) (fun _ _ _ h => h) (by decide) (.inl ⟨by rfl, fun W9 _ => ?_⟩) CW0 ?_
  rotate_left
  · simp only [List.getElem_toArray, List.getElem_cons_zero, List.getElem_cons_succ]
    go_simp
    with_reducible rfl
  simp only [List.getElem_toArray, List.getElem_cons_zero, List.getElem_cons_succ, Act.put, List.setIfInBounds_toArray, List.set_cons_zero, List.set_cons_succ]
  refine till_skip (v := ?_) 2 rfl (by kernel_rfl) (by kernel_rfl) (by kernel_rfl) (fun _ _ _ h => h) (by decide) (.inl ⟨by rfl, fun W9 _ => ?_⟩) CW0 ?_
  rotate_left
  · simp only [List.getElem_toArray, List.getElem_cons_zero, List.getElem_cons_succ]
    go_simp
    with_reducible rfl
  simp only [List.getElem_toArray, List.getElem_cons_zero, List.getElem_cons_succ, Act.put, List.setIfInBounds_toArray, List.set_cons_zero, List.set_cons_succ]
  refine till_skip (v := ?_) 3 rfl (by kernel_rfl) (by kernel_rfl) (by kernel_rfl) (fun _ _ _ h => h) (by decide) (.inl ⟨by rfl, fun W9 _ => ?_⟩) CW0 ?_
  rotate_left
  · simp only [List.getElem_toArray, List.getElem_cons_zero, List.getElem_cons_succ]
    go_simp
    with_reducible rfl
  simp only [List.getElem_toArray, List.getElem_cons_zero, List.getElem_cons_succ, Act.put, List.setIfInBounds_toArray, List.set_cons_zero, List.set_cons_succ]
  refine till_skip (v := ?_) 4 rfl (by kernel_rfl) (by kernel_rfl) (by kernel_rfl) (fun _ _ _ h => h) (by decide) (.inl ⟨by rfl, fun W9 _ => ?_⟩) CW0 ?_
  rotate_left
  · simp only [List.getElem_toArray, List.getElem_cons_zero, List.getElem_cons_succ]
    go_simp
    with_reducible rfl
  simp only [List.getElem_toArray, List.getElem_cons_zero, List.getElem_cons_succ, Act.put, List.setIfInBounds_toArray, List.set_cons_zero, List.set_cons_succ]
  refine till_take (v := ?_) 5 rfl (by kernel_rfl) (by kernel_rfl) (by kernel_rfl) (fun _ _ _ h => h) (by decide) (by kernel_rfl) (by kernel_rfl) (.inl ⟨by rfl, fun W9 h9 => ?_⟩) CW0 ?_
  rotate_left
  · obtain ⟨e0, e1, e3, e6⟩ := h9
    simp only [List.getElem_toArray, List.getElem_cons_zero, List.getElem_cons_succ]
    go_simp
    with_reducible rfl
  simp only [List.getElem_toArray, List.getElem_cons_zero, List.getElem_cons_succ, Act.put, List.setIfInBounds_toArray, List.set_cons_zero, List.set_cons_succ]
  refine till_skip (v := ?_) 6 rfl (by kernel_rfl) (by kernel_rfl) (by kernel_rfl) (fun _ _ _ h => h) (by decide) (.inl ⟨by rfl, fun W9 _ => ?_⟩) CW0 ?_
  rotate_left
  · simp only [List.getElem_toArray, List.getElem_cons_zero, List.getElem_cons_succ]
    go_simp
    with_reducible rfl
  simp only [List.getElem_toArray, List.getElem_cons_zero, List.getElem_cons_succ, Act.put, List.setIfInBounds_toArray, List.set_cons_zero, List.set_cons_succ]
  refine till_skip (v := ?_) 7 rfl (by kernel_rfl) (by kernel_rfl) (by kernel_rfl) (fun _ _ _ h => h) (by decide) (.inl ⟨by rfl, fun W9 _ => ?_⟩) CW0 ?_
  rotate_left
  · simp only [List.getElem_toArray, List.getElem_cons_zero, List.getElem_cons_succ]
    go_simp
    with_reducible rfl
  simp only [List.getElem_toArray, List.getElem_cons_zero, List.getElem_cons_succ, Act.put, List.setIfInBounds_toArray, List.set_cons_zero, List.set_cons_succ]
  refine till_skip (v := ?_) 8 rfl (by kernel_rfl) (by kernel_rfl) (by kernel_rfl) (fun _ _ _ h => h) (by decide) (.inl ⟨by rfl, fun W9 _ => ?_⟩) CW0 ?_
  rotate_left
  · simp only [List.getElem_toArray, List.getElem_cons_zero, List.getElem_cons_succ]
    go_simp
    with_reducible rfl
  simp only [List.getElem_toArray, List.getElem_cons_zero, List.getElem_cons_succ, Act.put, List.setIfInBounds_toArray, List.set_cons_zero, List.set_cons_succ]
  refine till_take (v := ?_) 9 rfl (by kernel_rfl) (by kernel_rfl) (by kernel_rfl) (fun _ _ _ h => h) (by decide) (by kernel_rfl) (by kernel_rfl) (.inl ⟨by rfl, fun W9 h9 => ?_⟩) CW0 ?_
  rotate_left
  · obtain ⟨e0, e1, e3, e6⟩ := h9
    simp only [List.getElem_toArray, List.getElem_cons_zero, List.getElem_cons_succ]
    go_simp
    with_reducible rfl
  simp only [List.getElem_toArray, List.getElem_cons_zero, List.getElem_cons_succ, Act.put, List.setIfInBounds_toArray, List.set_cons_zero, List.set_cons_succ]
  refine till_skip (v := ?_) 10 rfl (by kernel_rfl) (by kernel_rfl) (by kernel_rfl) (fun _ _ _ h => h) (by decide) (.inl ⟨by rfl, fun W9 _ => ?_⟩) CW0 ?_
  rotate_left
  · simp only [List.getElem_toArray, List.getElem_cons_zero, List.getElem_cons_succ]
    go_simp
    with_reducible rfl
  simp only [List.getElem_toArray, List.getElem_cons_zero, List.getElem_cons_succ, Act.put, List.setIfInBounds_toArray, List.set_cons_zero, List.set_cons_succ]
  refine till_skip (v := ?_) 11 rfl (by kernel_rfl) (by kernel_rfl) (by kernel_rfl) (fun _ _ _ h => h) (by decide) (.inl ⟨by rfl, fun W9 _ => ?_⟩) CW0 ?_
  rotate_left
  · simp only [List.getElem_toArray, List.getElem_cons_zero, List.getElem_cons_succ]
    go_simp
    with_reducible rfl
  simp only [List.getElem_toArray, List.getElem_cons_zero, List.getElem_cons_succ, Act.put, List.setIfInBounds_toArray, List.set_cons_zero, List.set_cons_succ]
  refine till_skip (v := ?_) 12 rfl (by kernel_rfl) (by kernel_rfl) (by kernel_rfl) (fun _ _ _ h => h) (by decide) (.inl ⟨by rfl, fun W9 _ => ?_⟩) CW0 ?_
  rotate_left
  · simp only [List.getElem_toArray, List.getElem_cons_zero, List.getElem_cons_succ]
    go_simp
    with_reducible rfl
  simp only [List.getElem_toArray, List.getElem_cons_zero, List.getElem_cons_succ, Act.put, List.setIfInBounds_toArray, List.set_cons_zero, List.set_cons_succ]
  refine till_take (v := ?_) 13 rfl (by kernel_rfl) (by kernel_rfl) (by kernel_rfl) (fun _ _ _ h => h) (by decide) (by kernel_rfl) (by kernel_rfl) (.inl ⟨by rfl, fun W9 h9 => ?_⟩) CW0 ?_
  rotate_left
  · obtain ⟨e0, e1, e3, e6⟩ := h9
    simp only [List.getElem_toArray, List.getElem_cons_zero, List.getElem_cons_succ]
    go_simp
    with_reducible rfl
  simp only [List.getElem_toArray, List.getElem_cons_zero, List.getElem_cons_succ, Act.put, List.setIfInBounds_toArray, List.set_cons_zero, List.set_cons_succ]
  refine till_skip (v := ?_) 14 rfl (by kernel_rfl) (by kernel_rfl) (by kernel_rfl) (fun _ _ _ h => h) (by decide) (.inl ⟨by rfl, fun W9 _ => ?_⟩) CW0 ?_
  rotate_left
  · simp only [List.getElem_toArray, List.getElem_cons_zero, List.getElem_cons_succ]
    go_simp
    with_reducible rfl
  simp only [List.getElem_toArray, List.getElem_cons_zero, List.getElem_cons_succ, Act.put, List.setIfInBounds_toArray, List.set_cons_zero, List.set_cons_succ]
  refine till_take (v := ?_) 15 rfl (by kernel_rfl) (by kernel_rfl) (by kernel_rfl) (fun _ _ _ h => h) (by decide) (by kernel_rfl) (by kernel_rfl) (.inl ⟨by rfl, fun W9 h9 => ?_⟩) CW0 ?_
  rotate_left
  · obtain ⟨e0, e1, e3, e6⟩ := h9
    simp only [List.getElem_toArray, List.getElem_cons_zero, List.getElem_cons_succ]
    go_simp
    with_reducible rfl
  simp only [List.getElem_toArray, List.getElem_cons_zero, List.getElem_cons_succ, Act.put, List.setIfInBounds_toArray, List.set_cons_zero, List.set_cons_succ]
  refine till_all (rs := [16]) (by kernel_rfl) (by simp) ?_
  intro j hj
  obtain rfl : j = 16 := by simpa using hj
  refine wpOp_step rfl (fun K' hK' => ?_)
  have HK' : Hid (∀ a w, _ → K' a w) := hK'
  clear hK'
  simp only [List.getElem_toArray, List.getElem_cons_zero, List.getElem_cons_succ]
  go_simp
  refine (HADD.out _ HAT.out.2.2.1 HAT.out.2.2.2.1).mono ?_
  rintro r w3 ⟨id', e', rfl, A3, o3, hA3, hC3, hS3, hD3⟩
  go_wp2_with fail
  refine HK'.out _ _ ⟨fun h0 => (by have h1 : true = false := h0; cases h1), ?_⟩
  clear HK' K'
  refine till_of_any _ _ _ _ (by kernel_rfl) ?_
  try simp only [Act.put, List.setIfInBounds_toArray, List.set_cons_zero, List.set_cons_succ]
  refine wpAny_take (i := 17) (v := ?_) rfl (by kernel_rfl) (by kernel_rfl) (by kernel_rfl) (fun _ _ _ h => h) (Or.inl ⟨by rfl, fun W9 => ?_⟩) ?_
  rotate_left
  · simp only [List.getElem_toArray, List.getElem_cons_zero, List.getElem_cons_succ]
    go_simp
    with_reducible rfl
  simp only [List.getElem_toArray, List.getElem_cons_zero, List.getElem_cons_succ, Act.put, List.setIfInBounds_toArray, List.set_cons_zero, List.set_cons_succ]
  refine wpAny_take (i := 18) (v := ?_) rfl (by kernel_rfl) (by kernel_rfl) (by kernel_rfl) (fun _ _ _ h => h) (Or.inl ⟨by rfl, fun W9 => ?_⟩) ?_
  rotate_left
  · simp only [List.getElem_toArray, List.getElem_cons_zero, List.getElem_cons_succ]
    go_simp
    with_reducible rfl
  simp only [List.getElem_toArray, List.getElem_cons_zero, List.getElem_cons_succ, Act.put, List.setIfInBounds_toArray, List.set_cons_zero, List.set_cons_succ]
  refine wpAny_all (rs := [19]) (by kernel_rfl) (by simp) ?_
  intro j hj
  obtain rfl : j = 19 := by simpa using hj
  refine wpOp_step rfl (fun K' hK' => ?_)
  have HK' : Hid (∀ a w, _ → K' a w) := hK'
  clear hK'
  simp only [List.getElem_toArray, List.getElem_cons_zero, List.getElem_cons_succ]
  go_simp
  have HC3 : Hid (Ch (fun l => l = 1 ∨ l = 5) o w o3 w3 ∧ HlAt w3 o3 5 hb b t draw S ids wv kv ∧ AnB w3 (w.heap.size + 1) #[.int .i64 0, .int .i64 0, .int .i64 0, .int .i64 0, .int .i64 0, .int .i64 0, .int .i64 0, .int .i64 0, .string ⟨#[]⟩, .slice none 0 0] ∧ ArL w3 o3 b A3 ∧ o3 k = 5 ∧ o3 (w.heap.size + 1) = 0 ∧ NxSt PR t q A3 ∧ AddR t A A3 g m ys id' e' ∧ ids[i]? = some k ∧ WdB w3 k x) := by
    have k3 : Ch (fun l => l = 1) (ext o w.heap.size 0) wA o3 w3 := ⟨hC3.os, hC3.tape, hC3.output, hC3.size, hC3.lab, hC3.block⟩
    obtain ⟨q1, q2, q3, q4, q5, q6, q7, q8⟩ := HAT.out
    have h3 := q1.ch k3 (by decide)
    refine ⟨(Ch.ofBelow q5 0).trans (k3.mono fun l hl => .inl hl), h3, (k3.block _ HSZ.out (by rw [ext_new (Nat.le_succ _)]; decide)).trans q2, hA3, (k3.lab k (Nat.lt_of_lt_of_le HLT.out.2.1 q5.size)).trans ((ext_old HLT.out.2.1).trans q6), (k3.lab _ HSZ.out).trans (ext_new (Nat.le_succ _)), hS3, hD3, q7, (h3.each i k x q7 q8).1⟩
  clear hA3 hC3 hS3 hD3
  refine (become_any k x HC3.out.2.2.2.2.2.2.2.2.2 id' e').mono ?_
  rintro y w4 ⟨rfl, hw4⟩
  have HC4 : Hid (Ch (fun l => l = 1 ∨ l = 5) o w o3 w4 ∧ HlAt w4 o3 5 hb b t draw (if e' = 0 then S.put i id' else S) ids wv kv ∧ AnB w4 (w.heap.size + 1) #[.int .i64 0, .int .i64 0, .int .i64 0, .int .i64 0, .int .i64 0, .int .i64 0, .int .i64 0, .int .i64 0, .string ⟨#[]⟩, .slice none 0 0] ∧ ArL w4 o3 b A3) := by
    obtain ⟨p1, p2, p3, p4, p5, p6, p7, p8, p9, p10⟩ := HC3.out
    by_cases he : e' = 0
    · rw [if_pos he] at hw4 ⊢
      subst hw4
      exact ⟨p1.trans (Ch.set o3 w3 ⟨k, 3, none⟩ _ (.inr p5)), p2.put p9 id', (Below.heap_setCell _ _ _ _ (by have := HLT.out; show w.heap.size + 1 ≠ k; omega)).trans p3, p4.ch (Ch.set (L := fun l => l = 5) o3 w3 ⟨k, 3, none⟩ _ p5) (by decide)⟩
    · rw [if_neg he] at hw4 ⊢
      subst hw4
      exact ⟨p1, p2, p3, p4⟩
  clear hw4
  obtain ⟨c0, c1, c2, c3, c4, c5, c6, c7, c8, c9, f0, f1, f2, f3, f4, f5, f6, f7, f8, f9⟩ := HC4.out.2.2.1.cells
  go_wp2_with fail
  refine HK'.out _ _ ?_
  clear HK' K'
  try simp only [Act.put, List.setIfInBounds_toArray, List.set_cons_zero, List.set_cons_succ]
  refine wpAny_all (rs := [20]) (by kernel_rfl) (by simp) ?_
  intro j hj
  obtain rfl : j = 20 := by simpa using hj
  refine wpOp_step rfl (fun K' hK' => ?_)
  have HK' : Hid (∀ a w, _ → K' a w) := hK'
  clear hK'
  simp only [List.getElem_toArray, List.getElem_cons_zero, List.getElem_cons_succ]
  go_simp
  refine HK'.out _ _ ?_
  clear HK' K'
  try simp only [Act.put, List.setIfInBounds_toArray, List.set_cons_zero, List.set_cons_succ]
  refine wpAny_take (i := 21) (v := ?_) rfl (by kernel_rfl) (by kernel_rfl) (by kernel_rfl) (fun _ _ _ h => h) (Or.inl ⟨by rfl, fun W9 => ?_⟩) ?_
  rotate_left
  · simp only [List.getElem_toArray, List.getElem_cons_zero, List.getElem_cons_succ]
    go_simp
    with_reducible rfl
  simp only [List.getElem_toArray, List.getElem_cons_zero, List.getElem_cons_succ, Act.put, List.setIfInBounds_toArray, List.set_cons_zero, List.set_cons_succ]
  refine wpAny_done (by kernel_rfl) ?_ _
  obtain ⟨d0, d1, d2, d3, d4, d5, d6, d7, d8, d9, -⟩ := (HC4.out.2.2.1.put (a0 := .int .i64 0) (a1 := .int .i64 0) (a2 := .int .i64 0) (a3 := .int .i64 0) (a4 := .int .i64 0) (a5 := .int .i64 0) (a6 := .int .i64 0) (a7 := .int .i64 0) (a8 := .string ⟨#[]⟩) (a9 := .slice none 0 0)).cells
  clear c0  c1  c2  c3  c4  c5  c6  c7  c8  c9 f0  f1  f2  f3  f4  f5  f6  f7  f8  f9
  go_wp2_with fail
  unfold putAn at d0  d1  d2  d3  d4  d5  d6  d7  d8  d9
  have hR : o3 (w.heap.size + 1) ≠ 5 := by rw [HC3.out.2.2.2.2.2.1]; decide
  have hR1 : o3 (w.heap.size + 1) ≠ 1 := by rw [HC3.out.2.2.2.2.2.1]; decide
  refine bodyPost_ret (v := .tuple #[codeV 0, .int .i64 e']) ?_ rfl ⟨e', rfl, A3, o3, id', ?_, HC4.out.2.1.fin hR, Ch.an HC4.out.1 (Nat.le_succ _), HC3.out.2.2.2.2.2.2.1, HC3.out.2.2.2.2.2.2.2.1⟩
  · simp [results, Tryz.results32, go_sem, d0, d1, d2, d3, d4, d5, d6, d7, d8, d9, codeV, ansV]
  · exact HC4.out.2.2.2.ch (L := fun l => l = 0) (Ch.an0 HC3.out.2.2.2.2.2.1) (by decide)
end Go.Proofs.YtgipjplifndniaaGreatDoor.U
