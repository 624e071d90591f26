/- A universe more. -/
import Derived.Test.YtgipjplifndniaaGreatDoorHaDrop
import Derived.Test.YtgipjplifndniaaGreatDoorHaBare
import Derived.Test.YtgipjplifndniaaGreatDoorKyNamed
import Derived.Test.YtgipjplifndniaaGreatDoorLpGood
import Derived.Deep.AppendLies
namespace Go.Proofs.YtgipjplifndniaaGreatDoor.U
open Go.RowKit Go.Maps Go.Proofs.YtgipjplifndniaaGreatDoor.L Go.Proofs.YtgipjplifndniaaGreatDoor.A Go.Proofs.YtgipjplifndniaaGreatDoor.K

variable {w w1 w2 : World} {o o1 o2 : Nat → Nat} {hb ab b t i : Nat} {draw : Int} {S : Hl} {ids : List Nat} {wv kv : Value} {A A' : Ar} {PR : (Bool → Nat → Bool) → Int → Prop} {q : Nat → Int}
theorem HlAt.newrow (h : HlAt w o 5 hb ab t draw S ids wv kv) (ho : ∀ k, o k = 5 → o2 k = 5) (k : ∀ q, q < w.heap.size → o q = 5 → some q ≠ wv.ownBlock → w2.heap[q]? = w.heap[q]?) {v : Value} {ids' : List Nat} {ws' : List Wd} (hr : PRow w2 v ids') (hl : ∀ q, v.ownBlock = some q → o2 q = 5 ∧ q ≠ hb ∧ q ∉ ids') (hne : ∀ q, kv.ownBlock = some q → q ∉ ids' ∧ wv.ownBlock ≠ some q) (hh : hb ∉ ids') (hlen : ids'.length = ws'.length) (hnd : ids'.Nodup)
    (he : ∀ (i k : Nat) (x : Wd), ids'[i]? = some k → ws'[i]? = some x → WdB w2 k x ∧ o2 k = 5) : HlAt (w2.setCell ⟨hb, 3, none⟩ v) o2 5 hb ab t draw { S with ws := ws' } ids' v kv := by
  have far : ∀ q, q ≠ hb → (w2.setCell ⟨hb, 3, none⟩ v).heap[q]? = w2.heap[q]? := fun q h1 => Below.heap_setCell _ _ _ _ h1
  have hown := k hb h.lt h.lab (fun e => (h.rne hb e.symm).1 rfl)
  refine ⟨Go.Joins.block_setCell (hown.trans h.own) _, ho _ h.lab, row_other hr fun q hq => far q (hl q hq).2.1, fun q hq => (hl q hq).1, hlen, fun j q x hq hx => ?_, hnd, row_other h.keys fun q hq => ?_, fun q hq => ho q (h.klab q hq), fun q hq => (hl q hq).2, fun q hq => ⟨(h.kne q hq).1, (hne q hq).1⟩, hh⟩
  · obtain ⟨h1, h2⟩ := he j q x hq hx
    exact ⟨(far q fun e => hh (e ▸ List.mem_of_getElem? hq)).trans h1, h2⟩
  · exact (far q (h.kne q hq).1).trans (k q (World.ownsRow.lt h.keys q hq).2 (h.klab q hq) fun e => (hne q hq).2 e.symm)
def own6 (o : Nat → Nat) (s kw : Nat) : Nat → Nat := fun k => if k = kw then 6 else ext o s 0 k
theorem own6_up {s kw l : Nat} (hk : s ≤ kw) (hl : l ≠ 0) (k : Nat) (h : ext o s 0 k = l) : own6 o s kw k = l := by
  unfold own6
  split
  · rename_i e
    rw [e, ext_new hk] at h
    exact absurd h.symm hl
  · exact h
theorem own6_new {s kw : Nat} : own6 o s kw kw = 6 := if_pos rfl
theorem own6_far {s kw k : Nat} (h : k ≠ kw) : own6 o s kw k = ext o s 0 k := if_neg h
theorem ArL.more (h : ArL w o b A) (ho : ∀ k, o k = 1 → o2 k = 1) : ArL w o2 b A := by
  obtain ⟨F, h1, h2⟩ := h
  exact ⟨F, h1, fun k hk => ho k (h2 k hk)⟩
theorem ArL.far (h : ArL w o b A) (hs : w.heap.size ≤ w2.heap.size) (hb : ∀ k, k < w.heap.size → o k = 1 → w2.heap[k]? = w.heap[k]? ∧ o2 k = 1) : ArL w2 o2 b A := by
  obtain ⟨F, h1, h2⟩ := h
  exact ⟨F, h1.other hs fun i hi => (hb i (h1.flt i hi) (h2 i hi)).1, fun i hi => (hb i (h1.flt i hi) (h2 i hi)).2⟩
theorem one_new (w : World) (v : Value) (t : TypeId) : ∀ (j : Nat) u, [v][j]? = some u → (w.alloc (.cells #[v] t)).cell? ((⟨w.heap.size, 0, none⟩ : Addr).add j) = some u := by
  intro j u hu
  match j, hu with
  | 0, hu =>
    simp at hu
    subst hu
    simp [Addr.add]
theorem Tryz.infoPt : (Tryz.prog.info? 103).map (fun i => (i.zero, i.size, i.bytes)) = some (some (.pointer none), 1, 8) := by kernel_rfl
theorem prow_form {v : Value} (h : PRow w v ids) : ∃ p n c, v = .slice p n c := by
  rcases h.2 with ⟨h, _⟩ | ⟨g, cap, cur, h, _⟩
  · exact ⟨_, _, _, h⟩
  · exact ⟨_, _, _, h⟩
set_option maxRecDepth 20000 in
set_option maxHeartbeats 4000000 in
theorem found_new (h : HlAt w o 5 hb b t draw S ids wv kv) (hA : ArL w o b A) (hst : NxSt PR t q A) (ht : t < 64) (name : ByteArray) (born live : Int) (hs : name.size ≤ 140737488355328) (hn : namedB name = true) (hg : goodB born live = true) (hno : atN S.ws name = none) (hlt : S.ws.length < 16) :
    Calls Tryz.prog 27 #[.pointer (some ⟨hb, 0, none⟩), .string name, .agg #[.int .i64 born, .int .i64 live], .func (.func 28) #[.pointer (some ⟨hb, 0, none⟩)] #[]] w fun r w' => ∃ e', r = .returned (.tuple #[codeV 0, .int .i64 e']) ∧ ∃ A' o' id', ArL w' o' b A' ∧ Ch (fun l => l = 1 ∨ l = 5) o w o' w' ∧ NxSt PR t q A' ∧ FromR t A A' [] id' e' ∧ (e' = 0 → ∃ ids' v', HlAt w' o' 5 hb b t draw { S with ws := S.ws ++ [⟨name, born, live, id'⟩] } ids' v' kv) := by
  have b1 : Below w.heap.size w (w.alloc (.cells #[.int .i64 born, .int .i64 live] 33)) := (Below.refl _ _).alloc (Nat.le_refl _) _
  have b2 : Below w.heap.size w ((w.alloc (.cells #[.int .i64 born, .int .i64 live] 33)).alloc (.cells #[.int .i64 0, .int .i64 0, .int .i64 0, .int .i64 0, .int .i64 0, .int .i64 0, .int .i64 0, .int .i64 0, .string ⟨#[]⟩, .slice none 0 0] 35)) := b1.alloc (by simp) _
  have hs1 : (w.alloc (.cells #[.int .i64 born, .int .i64 live] 33)).heap.size = w.heap.size + 1 := by simp
  have a2 := noAn_born (w.alloc (.cells #[.int .i64 born, .int .i64 live] 33))
  rw [hs1] at a2
  unfold noAn at a2
  have r1 : ((w.alloc (.cells #[.int .i64 born, .int .i64 live] 33)).alloc (.cells #[.int .i64 0, .int .i64 0, .int .i64 0, .int .i64 0, .int .i64 0, .int .i64 0, .int .i64 0, .int .i64 0, .string ⟨#[]⟩, .slice none 0 0] 35)).heap[w.heap.size]? = some (.cells #[.int .i64 born, .int .i64 live] 33 (0, 0)) := (Below.heap_alloc _ _ _ (by simp)).trans (Go.Deep.blk_alloc_new _ _)
  have eg : ∀ args w, (callFunc 28 args).run Tryz.prog w = .ok (.enter 28 args) w := enters_of Tryz.func28 (by kernel_rfl) rfl
  have hnm := fun W => named_any name W (by omega)
  rw [hn] at hnm
  have hgd := fun W => good_any born live W
  rw [hg] at hgd
  have hids : ids.length < 16 := by rw [h.len]; exact hlt
  have HW : Hid (∀ W, Below w.heap.size w W → HlAt W (ext o w.heap.size 0) 5 hb b t draw S ids wv kv ∧ ArL W (ext o w.heap.size 0) b A) := fun W hW => ⟨h.below hW 0, hA.ch (L := fun _ => False) (Ch.ofBelow hW 0) fun h => h⟩
  have hwd := fun W (hW : Below w.heap.size w W) => world_any (HW.out W hW).1 name (by omega)
  rw [ptN_none hno] at hwd
  have HSZ : Hid (w.heap.size + 1 < ((w.alloc (.cells #[.int .i64 born, .int .i64 live] 33)).alloc (.cells #[.int .i64 0, .int .i64 0, .int .i64 0, .int .i64 0, .int .i64 0, .int .i64 0, .int .i64 0, .int .i64 0, .string ⟨#[]⟩, .slice none 0 0] 35)).heap.size ∧ hb < w.heap.size) := ⟨by show w.heap.size + 1 < _; simp, h.lt⟩
  have HH : Hid (HlAt w o 5 hb b t draw S ids wv kv) := h
  obtain ⟨wp, wn, wc, rfl⟩ := prow_form h.row
  have hwn : wn = ids.length := by
    obtain ⟨a', c', e, _⟩ := prow_at h.row
    cases e
    rfl
  subst hwn
  have hlt' : ¬ (16 : Int) ≤ (ids.length : Int) := by omega
  clear h hA b1 hno hlt hids
  go_enter Tryz.func27, Tryz.ntmps27
  go_wp2_with fail
  generalize ((w.alloc (.cells #[.int .i64 born, .int .i64 live] 33)).alloc (.cells #[.int .i64 0, .int .i64 0, .int .i64 0, .int .i64 0, .int .i64 0, .int .i64 0, .int .i64 0, .int .i64 0, .string ⟨#[]⟩, .slice none 0 0] 35)) = wA at *
  refine (hnm _).mono ?_
  rintro e w1 ⟨rfl, hb1⟩
  have HB1 : Hid (Below w.heap.size w w1 ∧ Below wA.heap.size wA w1) := ⟨b2.trans (hb1.mono b2.size), hb1⟩
  have HAR : Hid (AnB wA (w.heap.size + 1) #[.int .i64 0, .int .i64 0, .int .i64 0, .int .i64 0, .int .i64 0, .int .i64 0, .int .i64 0, .int .i64 0, .string ⟨#[]⟩, .slice none 0 0] ∧ wA.heap[w.heap.size]? = some (.cells #[.int .i64 born, .int .i64 live] 33 (0, 0))) := ⟨a2, r1⟩
  have q1 : w1.heap[w.heap.size]? = some (.cells #[.int .i64 born, .int .i64 live] 33 (0, 0)) := (hb1.block _ (by have := HSZ.out; omega)).trans r1
  have e0 : w1.cell? ⟨w.heap.size, 0, none⟩ = some (.int .i64 born) := by rw [Lib.cell_of_heap q1]; rfl
  have e1 : w1.cell? ⟨w.heap.size, 1, none⟩ = some (.int .i64 live) := by rw [Lib.cell_of_heap q1]; rfl
  clear hb1 q1 r1 a2 b2
  go_wp2_with fail
  refine (hgd _).mono ?_
  rintro e w2 ⟨rfl, hb2⟩
  have HB2 : Hid (Below w.heap.size w w2 ∧ Below wA.heap.size wA w2) := ⟨HB1.out.1.trans (hb2.mono HB1.out.1.size), HB1.out.2.trans (hb2.mono HB1.out.2.size)⟩
  clear hb2 e0 e1
  go_wp2_with fail
  refine (hwd _ HB2.out.1).mono ?_
  rintro e w3 ⟨rfl, rfl⟩
  obtain ⟨-, -, -, c3, -⟩ := (HW.out _ HB2.out.1).1.cells
  go_wp2_with fail
  have q3 : w3.heap[w.heap.size]? = some (.cells #[.int .i64 born, .int .i64 live] 33 (0, 0)) := (HB2.out.2.block _ (by have := HSZ.out; omega)).trans HAR.out.2
  have s0 : w3.cell? ⟨w.heap.size, 0, none⟩ = some (.int .i64 born) := by rw [Lib.cell_of_heap q3]; rfl
  have s1 : w3.cell? ⟨w.heap.size, 1, none⟩ = some (.int .i64 live) := by rw [Lib.cell_of_heap q3]; rfl
  have HR : Hid (∀ W, Below wA.heap.size wA W → W.cell? ⟨w.heap.size, 0, none⟩ = some (.int .i64 born) ∧ W.cell? ⟨w.heap.size, 1, none⟩ = some (.int .i64 live)) := fun W hW => by
    have q9 : W.heap[w.heap.size]? = some (.cells #[.int .i64 born, .int .i64 live] 33 (0, 0)) := (hW.block _ (by have := HSZ.out; omega)).trans HAR.out.2
    exact ⟨by rw [Lib.cell_of_heap q9]; rfl, by rw [Lib.cell_of_heap q9]; rfl⟩
  have hcl := fun W => K.clone_any name W (by omega)
  clear q3 c3 hlt' hwd hnm hgd
  go_region_held3 (fun W => W.cell? ⟨w.heap.size, 0, none⟩ = some (.int .i64 born) ∧ W.cell? ⟨w.heap.size, 1, none⟩ = some (.int .i64 live)) (first | exact ⟨s0, s1⟩ | exact HR.out _ B4 | exact HR.out _ (B4.alloc B4.size _))
    (first | (go_at_call 51; refine (hcl _).mono ?_; rintro e w4 ⟨rfl, hb4⟩; have hb4' : Below w3.heap.size w3 w4 := ⟨hb4.os, hb4.tape, hb4.output, hb4.size, hb4.block⟩; have B4 : Below wA.heap.size wA w4 := HB2.out.2.trans (hb4'.mono HB2.out.2.size); have B5 : Below w.heap.size w w4 := HB2.out.1.trans (hb4'.mono HB2.out.1.size)))
  have b5 : Below w.heap.size w (w4.alloc (.cells #[.string name, .int .i64 born, .int .i64 live, .int .i64 0] 107)) := B5.alloc B5.size _
  have b5' : Below wA.heap.size wA (w4.alloc (.cells #[.string name, .int .i64 born, .int .i64 live, .int .i64 0] 107)) := B4.alloc B4.size _
  have hkwB : WdB (w4.alloc (.cells #[.string name, .int .i64 born, .int .i64 live, .int .i64 0] 107)) w4.heap.size ⟨name, born, live, 0⟩ := Go.Deep.blk_alloc_new _ _
  have hlk : wA.heap.size ≤ w4.heap.size := B4.size
  generalize w4.alloc (.cells #[.string name, .int .i64 born, .int .i64 live, .int .i64 0] 107) = w5 at *
  clear B4 B5 hb4 hb4' hcl s0 s1
  generalize w4.heap.size = kw at *
  have hsk : w.heap.size ≤ kw := by have := HSZ.out; omega
  have H5 := (HW.out _ b5).1.more (o1 := own6 o w.heap.size kw) (own6_up hsk (by decide))
  have A5 := ArL.more (HW.out _ b5).2 (own6_up hsk (by decide))
  have hbare := bare_any (by decide) H5 A5 hst ht
  have HB5 : Hid (Below w.heap.size w w5 ∧ Below wA.heap.size wA w5 ∧ WdB w5 kw ⟨name, born, live, 0⟩ ∧ HlAt w5 (own6 o w.heap.size kw) 5 hb b t draw S ids (.slice wp ids.length wc) kv ∧ w.heap.size + 1 < kw) := ⟨b5, b5', hkwB, H5, by have := HSZ.out; omega⟩
  clear b5 b5' hkwB H5 A5 hlk hsk
  go_wp2_with (go_at_fn 28; refine hbare.mono ?_; rintro r w6 ⟨id, e', rfl, A6, o6, hA6, hC6, hS6, hF6⟩)
  have HB6 : Hid (ArL w6 o6 b A6 ∧ Ch (fun l => l = 1) (own6 o w.heap.size kw) w5 o6 w6 ∧ NxSt PR t q A6 ∧ FromR t A A6 [] id e' ∧ HlAt w6 o6 5 hb b t draw S ids (.slice wp ids.length wc) kv ∧ WdB w6 kw ⟨name, born, live, 0⟩ ∧ o6 kw = 6 ∧ AnB w6 (w.heap.size + 1) #[.int .i64 0, .int .i64 0, .int .i64 0, .int .i64 0, .int .i64 0, .int .i64 0, .int .i64 0, .int .i64 0, .string ⟨#[]⟩, .slice none 0 0] ∧ o6 (w.heap.size + 1) = 0 ∧ Ch (fun l => l = 1 ∨ l = 5) o w o6 w6) := by
    obtain ⟨p1, p2, p3, p4, p5⟩ := HB5.out
    have hkl : kw < w5.heap.size := (Array.getElem?_eq_some_iff.1 p3).1
    have hrl : w.heap.size + 1 < w5.heap.size := by omega
    refine ⟨hA6, hC6, hS6, hF6, p4.ch hC6 (by decide), (hC6.block kw hkl (by rw [own6_new]; decide)).trans p3, (hC6.lab kw hkl).trans own6_new, (hC6.block _ hrl (by rw [own6_far (by omega), ext_new (by omega)]; decide)).trans ((p2.block _ HSZ.out.1).trans HAR.out.1), (hC6.lab _ hrl).trans ((own6_far (by omega)).trans (ext_new (by omega))), ?_⟩
    have c5 : Ch (fun l => l = 1 ∨ l = 5) o w (own6 o w.heap.size kw) w5 := ⟨p1.os, p1.tape, p1.output, p1.size, fun k hk => (own6_far (by omega)).trans (ext_old hk), fun k hk _ => p1.block k hk⟩
    exact c5.trans (hC6.mono fun l hl => .inl hl)
  clear hA6 hC6 hS6 hF6 hbare eg
  have HNE : Hid (kw ≠ hb ∧ kw ∉ ids ∧ w.heap.size + 1 < kw ∧ hb < w.heap.size ∧ (∀ q, (Value.slice wp ids.length wc).ownBlock = some q → q < w.heap.size) ∧ ∀ q, kv.ownBlock = some q → q < w.heap.size) := by
    have h1 := HB5.out.2.2.2.2
    have h2 := HSZ.out.2
    refine ⟨by omega, fun hm => ?_, h1, h2, fun q hq => (World.ownsRow.lt HH.out.row q hq).2, fun q hq => (World.ownsRow.lt HH.out.keys q hq).2⟩
    obtain ⟨j, hj⟩ := List.getElem?_of_mem hm
    obtain ⟨_, _, _, _, h3⟩ := HH.out.wlt hj
    omega
  refine (become_any kw ⟨name, born, live, 0⟩ HB6.out.2.2.2.2.2.1 id e').mono ?_
  rintro y w7 ⟨rfl, hw7⟩
  by_cases he : e' = 0
  · subst he
    rw [if_pos rfl] at hw7
    have H7 : HlAt w7 o6 5 hb b t draw S ids (.slice wp ids.length wc) kv := by
      rw [hw7]
      exact HB6.out.2.2.2.2.1.keep fun k _ hk => ⟨Below.heap_setCell _ _ _ _ (fun (e : k = kw) => by have := HB6.out.2.2.2.2.2.2.1; rw [← e, hk] at this; cases this), hk⟩
    have X7 : WdB w7 kw ⟨name, born, live, id⟩ := by
      rw [hw7]
      exact Go.Joins.block_setCell HB6.out.2.2.2.2.2.1 _
    have N7 : AnB w7 (w.heap.size + 1) #[.int .i64 0, .int .i64 0, .int .i64 0, .int .i64 0, .int .i64 0, .int .i64 0, .int .i64 0, .int .i64 0, .string ⟨#[]⟩, .slice none 0 0] := by
      rw [hw7]
      exact (Below.heap_setCell _ _ _ _ (by have := HNE.out.2.2.1; show w.heap.size + 1 ≠ kw; omega)).trans HB6.out.2.2.2.2.2.2.2.1
    have S7 : w7.heap.size = w6.heap.size := by rw [hw7]; simp [World.setCell]
    have F7 : ∀ k, k ≠ kw → w7.heap[k]? = w6.heap[k]? := fun k hk => by rw [hw7]; exact Below.heap_setCell _ _ _ _ hk
    have O7 : w7.os = w6.os ∧ w7.tape = w6.tape ∧ w7.output = w6.output := by rw [hw7]; exact ⟨rfl, rfl, rfl⟩
    have H7' : Hid (HlAt w7 o6 5 hb b t draw S ids (.slice wp ids.length wc) kv ∧ WdB w7 kw ⟨name, born, live, id⟩ ∧ AnB w7 (w.heap.size + 1) #[.int .i64 0, .int .i64 0, .int .i64 0, .int .i64 0, .int .i64 0, .int .i64 0, .int .i64 0, .int .i64 0, .string ⟨#[]⟩, .slice none 0 0] ∧ w7.heap.size = w6.heap.size ∧ (∀ k, k ≠ kw → w7.heap[k]? = w6.heap[k]?) ∧ w7.os = w6.os ∧ w7.tape = w6.tape ∧ w7.output = w6.output) := ⟨H7, X7, N7, S7, F7, O7⟩
    obtain ⟨-, -, -, c3, -⟩ := H7.cells
    have OWN : Hid (w7.ownsRow 0 103 1 (.slice wp ids.length wc) ids.length (ids.map fun b => Value.pointer (some ⟨b, 0, none⟩))) := H7.row
    clear hw7 H7 X7 N7 S7 F7 O7
    obtain ⟨i0, hi, hz0, hz1, hz2⟩ := info_parts Tryz.infoPt
    have hl16 : ids.length < 16 := by omega
    go_upto_region 13 with (at_builtin; refine wpList_append_lies _ rfl _ _ 51 rfl 0 103 i0 _ 1 8 Tryz.underlying51 hi hz0 hz1 hz2 rfl (by decide) (.slice wp ids.length wc) ids.length (ids.map fun b => Value.pointer (some ⟨b, 0, none⟩)) rfl (World.ownsRow.alloc OWN.out _) ⟨w7.heap.size, 0, none⟩ 1 1 [.pointer (some ⟨kw, 0, none⟩)] rfl rfl (one_new _ _ _) (by intro u hu; simp at hu; subst hu; rfl) (by omega) (by unfold maxLen; omega) (by omega) (by omega) (w7.heap.size + 1) (by simp) ?_; intro g9 cap9 w9 hown9 hgrow9 hat9 hlt9; have h9 : w9.heap[hb]? = w7.heap[hb]? := (hgrow9.block hb (by simp; have := HNE.out.2.2.2.1; have := H7'.out.2.2.2.1; have := HB6.out.2.2.2.2.2.2.2.2.2.size; omega) (fun e => absurd (H7'.out.1.rne hb e.symm).1 (fun h => h rfl))).trans (Below.heap_alloc _ _ _ (by have := HNE.out.2.2.2.1; have := H7'.out.2.2.2.1; have := HB6.out.2.2.2.2.2.2.2.2.2.size; omega)); have own9 : HlB w9 hb b t draw (.slice wp ids.length wc) S.serial kv := h9.trans H7'.out.1.own; have e3 : w9.cell? ⟨hb, 3, none⟩ = some (.slice wp ids.length wc) := (by rw [Lib.cell_of_heap own9]; rfl); have f3 : w9.frozen? ⟨hb, 3, none⟩ = false := Lib.frozen_of_heap own9 3)
    obtain ⟨p1, p2, p3, p4, p5, p6, p7, p8⟩ := H7'.out
    obtain ⟨g1, g2, g3, g4, g5, g6, g7, g8, g9', g10⟩ := HB6.out
    obtain ⟨n1, n2, n3, n4, n5, n6⟩ := HNE.out
    have hsz6 := g10.size
    have hk7 : kw < w7.heap.size := (Array.getElem?_eq_some_iff.1 p2).1
    have G9 : ∀ k, k < w7.heap.size → some k ≠ (Value.slice wp ids.length wc).ownBlock → w9.heap[k]? = w7.heap[k]? := fun k hk hn => (hgrow9.block k (by simp; omega) hn).trans (Below.heap_alloc _ _ _ hk)
    have R9 : ∀ q, (Value.slice wp ids.length wc).ownBlock = some q → o6 q = 5 ∧ q < w.heap.size ∧ q ≠ hb ∧ q ∉ ids := fun q hq => ⟨p1.rlab q hq, n5 q hq, (p1.rne q hq).1, (p1.rne q hq).2⟩
    have A9 : g9 ≠ hb ∧ g9 ∉ ids ∧ g9 ≠ kw ∧ g9 ≠ w.heap.size + 1 ∧ ((o6 g9 = 5 ∧ g9 < w.heap.size) ∨ g9 = w7.heap.size + 1) := by
      rcases hat9 with h | h
      · obtain ⟨r1, r2, r3, r4⟩ := R9 g9 h
        exact ⟨r3, r4, by omega, by omega, .inl ⟨r1, r2⟩⟩
      · refine ⟨by omega, fun hm => ?_, by omega, by omega, .inr h⟩
        obtain ⟨j, hj⟩ := List.getElem?_of_mem hm
        obtain ⟨_, _, _, _, h3⟩ := HH.out.wlt hj
        omega
    obtain ⟨o10, ho10⟩ : ∃ o10 : Nat → Nat, o10 = fun k => if k = kw ∨ k = g9 then 5 else o6 k := ⟨_, rfl⟩
    have hoN : ∀ k, k ≠ kw → k ≠ g9 → o10 k = o6 k := fun k h1 h2 => by rw [ho10]; exact if_neg fun h => h.elim h1 h2
    have hoY : o10 kw = 5 ∧ o10 g9 = 5 := by rw [ho10]; exact ⟨if_pos (.inl rfl), if_pos (.inr rfl)⟩
    have ho5 : ∀ k, o6 k = 5 → o10 k = 5 := fun k hk => by
      rw [ho10]
      show (if _ then _ else _) = 5
      split
      · rfl
      · exact hk
    have H10 := HlAt.newrow (w := w7) (w2 := w9) (o2 := o10) p1 ho5 (fun k hk _ hn => G9 k hk hn) (v := .slice (some ⟨g9, 0, none⟩) (ids.length + 1) cap9) (ids' := ids ++ [kw]) (ws' := S.ws ++ [⟨name, born, live, id⟩])
      (by unfold PRow; rw [List.length_append, List.map_append]; exact hown9)
      (fun q hq => by
        have e : g9 = q := Option.some.inj hq
        subst e
        exact ⟨hoY.2, A9.1, fun hm => by
          rcases List.mem_append.1 hm with h | h
          · exact A9.2.1 h
          · exact A9.2.2.1 (by simpa using h)⟩)
      (fun q hq => ⟨fun hm => by
        rcases List.mem_append.1 hm with h | h
        · exact (p1.kne q hq).2 h
        · have := n6 q hq
          have : q = kw := by simpa using h
          omega, fun e => p1.apart e hq⟩)
      (fun hm => by
        rcases List.mem_append.1 hm with h | h
        · exact p1.hne h
        · exact n1 (show hb = kw by simpa using h).symm)
      (by rw [List.length_append, List.length_append, p1.len]; rfl)
      (List.pairwise_append.2 ⟨p1.nodup, List.pairwise_singleton _ _, fun a ha c hc => by
        have : c = kw := by simpa using hc
        subst this
        exact fun e => n2 (e ▸ ha)⟩)
      (fun i k x h1 h2 => by
        by_cases hi : i < ids.length
        · rw [List.getElem?_append_left hi] at h1
          rw [List.getElem?_append_left (by rw [← p1.len]; exact hi)] at h2
          obtain ⟨q1, q2⟩ := p1.each i k x h1 h2
          exact ⟨(G9 k (Array.getElem?_eq_some_iff.1 q1).1 fun e => (p1.rne k e.symm).2 (List.mem_of_getElem? h1)).trans q1, ho5 k q2⟩
        · rw [List.getElem?_append_right (by omega)] at h1
          rw [List.getElem?_append_right (by rw [← p1.len]; omega)] at h2
          have e1 : k = kw := by
            cases hj : i - ids.length with
            | zero => rw [hj] at h1; simpa using h1.symm
            | succ j => rw [hj] at h1; simp at h1
          have e2 : x = ⟨name, born, live, id⟩ := by
            cases hj : i - S.ws.length with
            | zero => rw [hj] at h2; simpa using h2.symm
            | succ j => rw [hj] at h2; simp at h2
          subst e1
          subst e2
          exact ⟨(G9 k hk7 fun e => by have := n5 k e.symm; omega).trans p2, hoY.1⟩)
    have N10 : AnB (w9.setCell ⟨hb, 3, none⟩ (.slice (some ⟨g9, 0, none⟩) (ids.length + 1) cap9)) (w.heap.size + 1) #[.int .i64 0, .int .i64 0, .int .i64 0, .int .i64 0, .int .i64 0, .int .i64 0, .int .i64 0, .int .i64 0, .string ⟨#[]⟩, .slice none 0 0] := (Below.heap_setCell _ _ _ _ (by show w.heap.size + 1 ≠ hb; omega)).trans ((G9 _ (by omega) fun e => by have := n5 _ e.symm; omega).trans p3)
    have F10 : ∀ k, k < w6.heap.size → o6 k ≠ 5 → k ≠ kw → (w9.setCell ⟨hb, 3, none⟩ (.slice (some ⟨g9, 0, none⟩) (ids.length + 1) cap9)).heap[k]? = w6.heap[k]? := fun k hk h5 hn => (Below.heap_setCell _ _ _ _ (fun (e : k = hb) => h5 (e ▸ p1.lab))).trans ((G9 k (by omega) fun e => h5 (R9 k e.symm).1).trans (p5 k hn))
    have S10 : w6.heap.size ≤ (w9.setCell ⟨hb, 3, none⟩ (.slice (some ⟨g9, 0, none⟩) (ids.length + 1) cap9)).heap.size := by
      have := hgrow9.size
      simp [World.setCell] at this ⊢
      omega
    have C10 : Ch (fun l => l = 1 ∨ l = 5) o w o10 (w9.setCell ⟨hb, 3, none⟩ (.slice (some ⟨g9, 0, none⟩) (ids.length + 1) cap9)) := by
      refine ⟨hgrow9.os.trans (p6.trans g10.os), hgrow9.tape.trans (p7.trans g10.tape), hgrow9.output.trans (p8.trans g10.output), Nat.le_trans hsz6 S10, fun k hk => ?_, fun k hk hn => ?_⟩
      · by_cases e : k = g9
        · subst e
          rcases A9.2.2.2.2 with h | h
          · rw [hoY.2, ← g10.lab k hk, h.1]
          · omega
        · exact (hoN k (by omega) e).trans (g10.lab k hk)
      · exact (F10 k (by omega) (fun h5 => hn (.inr (by rw [← g10.lab k hk]; exact h5))) (by omega)).trans (g10.block k hk hn)
    have hR : o10 (w.heap.size + 1) = 0 := (hoN _ (by omega) (fun e => A9.2.2.2.1 e.symm)).trans g9'
    have A10 : ArL (w9.setCell ⟨hb, 3, none⟩ (.slice (some ⟨g9, 0, none⟩) (ids.length + 1) cap9)) o10 b A6 := ArL.far g1 S10 fun k hk h1 => ⟨F10 k hk (by rw [h1]; decide) (fun e => by rw [e, g7] at h1; cases h1), (hoN k (fun e => by rw [e, g7] at h1; cases h1) (fun e => by
      rcases A9.2.2.2.2 with h | h
      · rw [← e, h1] at h; cases h.1
      · omega)).trans h1⟩
    have HZ : Hid (_ ∧ _ ∧ _ ∧ _ ∧ _ ∧ _ ∧ _) := ⟨H10, N10, C10, hR, A10, g3, g4⟩
    clear H10 C10 hR A10 g1 g2 g3 g4 g5 g6 g7 g8 g9' g10 p1 p2 p3 p4 p5 p6 p7 p8 n1 n2 n3 n4 n5 n6 G9 R9 F10 S10 A9 hoN hoY ho5 hsz6 hk7 hown9 hgrow9 hat9 hlt9 h9 own9 e3 f3 c3 ho10
    generalize w9.setCell ⟨hb, 3, none⟩ (.slice (some ⟨g9, 0, none⟩) (ids.length + 1) cap9) = w10 at *
    obtain ⟨c0, c1, c2, c3, c4, c5, c6, c7, c8, c9, f0, f1, f2, f3, f4, f5, f6, f7, f8, f9⟩ := N10.cells
    clear N10
    go_wp2_with fail
    obtain ⟨d0, d1, d2, d3, d4, d5, d6, d7, d8, d9, -⟩ := (HZ.out.2.1.put (a0 := .int .i64 0) (a1 := .int .i64 0) (a2 := .int .i64 0) (a3 := .int .i64 0) (a4 := .int .i64 0) (a5 := .int .i64 0) (a6 := .int .i64 0) (a7 := .int .i64 0) (a8 := .string ⟨#[]⟩) (a9 := .slice none 0 0)).cells
    unfold putAn at d0  d1  d2  d3  d4  d5  d6  d7  d8  d9
    refine bodyPost_ret (v := .tuple #[codeV 0, .int .i64 0]) ?_ rfl ⟨0, rfl, A6, o10, id, HZ.out.2.2.2.2.1.ch (L := fun l => l = 0) (Ch.an0 HZ.out.2.2.2.1) (by decide), Ch.an HZ.out.2.2.1 (Nat.le_succ _), HZ.out.2.2.2.2.2.1, HZ.out.2.2.2.2.2.2, fun _ => ⟨_, _, HZ.out.1.fin (by rw [HZ.out.2.2.2.1]; decide)⟩⟩
    simp [results, Tryz.results27, go_sem, d0, d1, d2, d3, d4, d5, d6, d7, d8, d9, codeV, ansV]
  · rw [if_neg he] at hw7
    subst hw7
    have he2 : (e' == 0) = false := by simpa using he
    obtain ⟨c0, c1, c2, c3, c4, c5, c6, c7, c8, c9, f0, f1, f2, f3, f4, f5, f6, f7, f8, f9⟩ := HB6.out.2.2.2.2.2.2.2.1.cells
    go_wp2_with fail
    obtain ⟨d0, d1, d2, d3, d4, d5, d6, d7, d8, d9, -⟩ := (HB6.out.2.2.2.2.2.2.2.1.put (a0 := .int .i64 0) (a1 := .int .i64 0) (a2 := .int .i64 0) (a3 := .int .i64 0) (a4 := .int .i64 0) (a5 := .int .i64 0) (a6 := .int .i64 0) (a7 := .int .i64 0) (a8 := .string ⟨#[]⟩) (a9 := .slice none 0 0)).cells
    unfold putAn at d0  d1  d2  d3  d4  d5  d6  d7  d8  d9
    have hR : o6 (w.heap.size + 1) ≠ 5 := by rw [HB6.out.2.2.2.2.2.2.2.2.1]; decide
    refine bodyPost_ret (v := .tuple #[codeV 0, .int .i64 e']) ?_ rfl ⟨e', rfl, A6, o6, id, HB6.out.1.ch (L := fun l => l = 0) (Ch.an0 HB6.out.2.2.2.2.2.2.2.2.1) (by decide), Ch.an HB6.out.2.2.2.2.2.2.2.2.2 (Nat.le_succ _), HB6.out.2.2.1, HB6.out.2.2.2.1, fun h => absurd h he⟩
    simp [results, Tryz.results27, go_sem, d0, d1, d2, d3, d4, d5, d6, d7, d8, d9, codeV, ansV]
end Go.Proofs.YtgipjplifndniaaGreatDoor.U
