/- Boot of so many tenants that may have nothing. -/
import Derived.Test.YtpldaghhledjlaaGreatDoorHoBoot
import Derived.Deep.AppendLies
namespace Go.Proofs.YtpldaghhledjlaaGreatDoor.H
open Go.RowKit Go.Maps

theorem Tryz.infoPort : (Tryz.prog.info? 61).map (fun i => (i.zero, i.size, i.bytes)) = some (some (.pointer none), 1, 8) := by kernel_rfl
theorem TuAt_mono {w : World} {B B' b R : Nat} {vs : List Value} {T : Tu} (h : TuAt w B b R vs T) (hB : B' ≤ B) : TuAt w B' b R vs T :=
  ⟨h.head, h.ring.mono hB, h.len, h.pos, h.le, h.nx, fun i v r h1 h2 => World.ownsRow.mono (h.row i v r h1 h2) hB, h.apart, h.far, Nat.le_trans hB h.hb, h.bR, h.small⟩
theorem nil_own {n tb R k : Nat} (h : TuOwn tb R (List.replicate n (.slice none 0 0)) k) : k = tb ∨ k = R := by
  rcases h with h | h | ⟨i, v, h1, h2⟩
  · exact .inl h
  · exact .inr h
  · rw [List.getElem?_replicate] at h1
    split at h1
    · cases h1; cases h2
    · cases h1
/-- a house's empty block -/
abbrev emptyH : Obj := .cells #[.pointer none, .pointer none, .slice none 0 0, .int .i64 0, .slice none 0 0] 52
theorem boot_start {w w1 w2 w3 : World} {n : Nat} (hw1 : Below w.heap.size w w1) (h2 : ArB w2 (w1.heap.size + 2)) (hb2 : Below (w1.heap.size + 1) (w1.alloc emptyH) w2) {tb R : Nat} (htb : tb = w2.heap.size + 1) (hR : R = w2.heap.size)
    (h3 : TuAt w3 w2.heap.size tb R (List.replicate n (.slice none 0 0)) ⟨n, 0, List.replicate n []⟩) (hb3 : Below w2.heap.size (w2.setCell ⟨w1.heap.size, 0, none⟩ (.pointer (some ⟨w1.heap.size + 2, 0, none⟩))) w3) :
    ∃ o, BoSt w (w3.setCell ⟨w1.heap.size, 1, none⟩ (.pointer (some ⟨tb, 0, none⟩))) o w1.heap.size (w1.heap.size + 2) tb R n [] (.slice none 0 0) := by
  have hs1 := hw1.size
  have hs2 := hb2.size
  have hs3 := hb3.size
  rw [show (w1.alloc emptyH).heap.size = w1.heap.size + 1 by simp] at hs2
  have hs2' : (w2.setCell ⟨w1.heap.size, 0, none⟩ (.pointer (some ⟨w1.heap.size + 2, 0, none⟩))).heap.size = w2.heap.size := by simp [World.setCell]
  have hlt2 := h2.lt
  have e0 : (w1.alloc emptyH).heap[w1.heap.size]? = some (.cells #[.pointer none, .pointer none, .slice none 0 0, .int .i64 0, .slice none 0 0] 52 (0, 0)) := heap_alloc_new w1 _
  have e2 := block_set ((hb2.block w1.heap.size (by omega)).trans e0) 0 (.pointer (some ⟨w1.heap.size + 2, 0, none⟩))
  have e3 := block_set ((hb3.block w1.heap.size (by omega)).trans e2) 1 (.pointer (some ⟨tb, 0, none⟩))
  have hk : ∀ k, k ≠ w1.heap.size → (w3.setCell ⟨w1.heap.size, 1, none⟩ (.pointer (some ⟨tb, 0, none⟩))).heap[k]? = w3.heap[k]? := fun k hk => Below.heap_setCell _ _ _ _ hk
  refine ⟨fun k => if k < w.heap.size then 0 else if k = w1.heap.size then 1 else if k = tb ∨ k = R then 2 else 7, ?_, e3, ?_, ?_, ?_, ?_, World.ownsRow_nil _ _ _ _, ?_, ?_, ?_, ?_⟩
  · show (if w1.heap.size < w.heap.size then 0 else _) = 1
    rw [if_neg (by omega), if_pos rfl]
  · exact (TuAt_mono h3 (Nat.zero_le _)).keep fun k hk2 => hk k (by have := (h3.lt k hk2).1; omega)
  · intro k hk2
    show (if k < w.heap.size then 0 else _) = 2
    have h4 := nil_own hk2
    rw [if_neg (by omega), if_neg (by omega), if_pos h4]
  · refine ArB.keep (w := w2) h2 ?_
    rw [hk _ (by omega), hb3.block _ hlt2]
    exact Below.heap_setCell _ _ _ _ (by show w1.heap.size + 2 ≠ w1.heap.size; omega)
  · show (if w1.heap.size + 2 < w.heap.size then 0 else _) = 7
    rw [if_neg (by omega), if_neg (by omega), if_neg (by omega)]
  · intro k hk2; cases hk2
  · intro t pb hp; simp at hp
  · intro k hk2
    show (if k < w.heap.size then 0 else _) = 0
    rw [if_pos hk2]
  · have a1 : Below w.heap.size w (w1.alloc emptyH) := hw1.alloc hs1 _
    have a2 : Below w.heap.size w w2 := a1.trans (hb2.mono (by omega))
    have a3 : Below w.heap.size w w3 := (a2.setCell (p := ⟨w1.heap.size, 0, none⟩) (by exact hs1) _).trans (hb3.mono (by omega))
    exact a3.setCell (p := ⟨w1.heap.size, 1, none⟩) (by exact hs1) _
/-- what Boot leaves -/
def BootOut (n : Nat) (w : World) (e : Ending) (w' : World) : Prop := ∃ hb o c, e = .returned (.tuple #[.pointer (some ⟨hb, 0, none⟩), .int .i64 0]) ∧ HoAt w' o hb c ⟨⟨n, 0, List.replicate n []⟩, List.replicate n 0, 0, []⟩ 0 ∧ (∀ k, k < w.heap.size → o k = 0) ∧ Below w.heap.size w w'
theorem chk_zero (n : Nat) (h1 : 1 ≤ n) (h2 : n ≤ 5) : chk 1000 (List.replicate n 0) = 0 := by
  have : n = 1 ∨ n = 2 ∨ n = 3 ∨ n = 4 ∨ n = 5 := by omega
  rcases this with rfl | rfl | rfl | rfl | rfl <;> decide
set_option maxRecDepth 20000 in
set_option maxHeartbeats 1000000 in
theorem boot_any (n qb db : Nat) (w : World) (h1 : 1 ≤ n) (h2 : n ≤ 5) (hqb : qb < w.heap.size) (hdb : db < w.heap.size) (hq : ∀ k, k < n → w.cell? ⟨qb, k, none⟩ = some (.int .i64 0)) (hd : ∀ k, k < n → w.cell? ⟨db, k, none⟩ = some (.int .i64 0)) :
    Calls Tryz.prog 4 #[.agg #[.int .i64 1000, .slice (some ⟨qb, 0, none⟩) n n], .slice (some ⟨db, 0, none⟩) n n] w (BootOut n w) := by
  obtain ⟨i0, hi, hz0, hz1, hz2⟩ := info_parts Tryz.infoPort
  have HQ : Hid ((∀ k, k < n → w.cell? ⟨qb, k, none⟩ = some (.int .i64 0)) ∧ ∀ k, k < n → w.cell? ⟨db, k, none⟩ = some (.int .i64 0)) := ⟨hq, hd⟩
  have hbx : Below w.heap.size w (w.alloc (.cells #[.int .i64 1000, .slice (some ⟨qb, 0, none⟩) n n] 25)) := (Below.refl _ _).alloc (Nat.le_refl _) _
  have hck := check_any 1000 (.slice (some ⟨qb, 0, none⟩) n n) (List.replicate n 0) (w.alloc (.cells #[.int .i64 1000, .slice (some ⟨qb, 0, none⟩) n n] 25)) ⟨_, n, by simp, by simp; omega, .inr ⟨qb, 0, rfl, by simp; omega, fun k x hk => by
    rw [List.getElem?_replicate] at hk
    split at hk
    · cases hk
      rw [Nat.zero_add, hbx.cell (p := ⟨qb, k, none⟩) hqb]
      exact hq k (by assumption)
    · cases hk⟩⟩
  rw [chk_zero n h1 h2] at hck
  have HBX : Hid (Below w.heap.size w (w.alloc (.cells #[.int .i64 1000, .slice (some ⟨qb, 0, none⟩) n n] 25))) := hbx
  have han := fun W => arena_new W
  have htn := fun W => New_any n W h1 (by omega)
  clear hq hd hbx
  go_enter Tryz.func4, Tryz.ntmps4
  go_wp2_with fail
  refine hck.mono ?_
  rintro e w1 ⟨rfl, hb1⟩
  have c0 : w1.cell? ⟨w.heap.size, 0, none⟩ = some (.int .i64 1000) := by rw [hb1.cell (p := ⟨w.heap.size, 0, none⟩) (by simp)]; simp
  have c1 : w1.cell? ⟨w.heap.size, 1, none⟩ = some (.slice (some ⟨qb, 0, none⟩) n n) := by rw [hb1.cell (p := ⟨w.heap.size, 1, none⟩) (by simp)]; simp
  have HW1 : Hid (Below w.heap.size w w1 ∧ w.heap.size < w1.heap.size) := ⟨HBX.out.trans (hb1.mono (by simp)), by have := hb1.size; simp at this; omega⟩
  clear hck hb1 HBX
  have hlt1 : w.heap.size < w1.heap.size := HW1.out.2
  go_wp2_with fail
  refine (han _).mono ?_
  rintro e w2 ⟨rfl, ha2, hb2⟩
  have hsz : (w1.alloc emptyH).heap.size = w1.heap.size + 1 := by simp
  rw [hsz] at ha2 hb2
  have e0 : (w1.alloc emptyH).heap[w1.heap.size]? = some (.cells #[.pointer none, .pointer none, .slice none 0 0, .int .i64 0, .slice none 0 0] 52 (0, 0)) := heap_alloc_new w1 _
  have e2 := (hb2.block w1.heap.size (by omega)).trans e0
  have d0 : w2.cell? ⟨w1.heap.size, 0, none⟩ = some (.pointer none) := by rw [Lib.cell_of_heap e2]; rfl
  have z0 := Lib.frozen_of_heap e2 0
  have g1 : w2.cell? ⟨w.heap.size, 1, none⟩ = some (.slice (some ⟨qb, 0, none⟩) n n) := by
    rw [hb2.cell (p := ⟨w.heap.size, 1, none⟩) (by show w.heap.size < w1.heap.size + 1; omega), World.cell?_alloc_past _ _ _ (by exact hlt1)]
    exact c1
  have HA2 : Hid (ArB w2 (w1.heap.size + 2) ∧ Below (w1.heap.size + 1) (w1.alloc emptyH) w2) := ⟨ha2, hb2⟩
  have HE2 : Hid (w2.heap[w1.heap.size]? = some (.cells #[.pointer none, .pointer none, .slice none 0 0, .int .i64 0, .slice none 0 0] 52 (0, 0))) := e2
  have hlt2 : w1.heap.size < w2.heap.size := by have := ha2.lt; omega
  rw [hsz]
  obtain ⟨HB, hHB⟩ : ∃ x, x = w1.heap.size := ⟨_, rfl⟩
  obtain ⟨ab, hab⟩ : ∃ x, x = w1.heap.size + 2 := ⟨_, rfl⟩
  have HEQ : Hid (HB = w1.heap.size ∧ ab = w1.heap.size + 2) := ⟨hHB, hab⟩
  rw [show w1.heap.size + 1 + 1 = w1.heap.size + 2 by omega]
  rw [← hab]
  rw [← hHB] at d0 z0 hlt1 hlt2 ⊢
  have hne : HB ≠ w.heap.size := by omega
  clear ha2 hb2 e0 e2 han c0 c1 hHB hab hsz
  go_wp2_with fail
  refine (htn _).mono ?_
  rintro e w3 ⟨rfl, ht3, hb3⟩
  have hsz2 : (w2.setCell ⟨HB, 0, none⟩ (.pointer (some ⟨ab, 0, none⟩))).heap.size = w2.heap.size := by simp [World.setCell]
  rw [hsz2] at ht3 hb3 ⊢
  have e3 := (hb3.block HB hlt2).trans (block_set (by rw [HEQ.out.1]; exact HE2.out) 0 (.pointer (some ⟨ab, 0, none⟩)))
  have d1 : w3.cell? ⟨HB, 1, none⟩ = some (.pointer none) := by rw [Lib.cell_of_heap e3]; rfl
  have z1 := Lib.frozen_of_heap e3 1
  have g2 : w3.cell? ⟨w.heap.size, 1, none⟩ = some (.slice (some ⟨qb, 0, none⟩) n n) := by
    rw [hb3.cell (p := ⟨w.heap.size, 1, none⟩) (by show w.heap.size < w2.heap.size; omega), World.cell?_setCell_far _ _ _ _ (by exact hne)]
    exact g1
  obtain ⟨tb, htb⟩ : ∃ x, x = w2.heap.size + 1 := ⟨_, rfl⟩
  obtain ⟨R, hR⟩ : ∃ x, x = w2.heap.size := ⟨_, rfl⟩
  rw [← htb] at ht3 ⊢
  have ht3' : TuAt w3 w2.heap.size tb R (List.replicate n (.slice none 0 0)) ⟨n, 0, List.replicate n []⟩ := by rw [hR]; exact ht3
  have HST : Hid (∃ o, BoSt w (w3.setCell ⟨HB, 1, none⟩ (.pointer (some ⟨tb, 0, none⟩))) o HB ab tb R n [] (.slice none 0 0)) := by
    have h5 := boot_start HW1.out.1 HA2.out.1 HA2.out.2 htb hR ht3' (by rw [← HEQ.out.2, ← HEQ.out.1]; exact hb3)
    rw [← HEQ.out.2, ← HEQ.out.1] at h5
    exact h5
  clear ht3 ht3' hb3 htb hR e3 HA2 HE2 htn hsz2 d0 z0 g1
  go_wp2_with fail
  generalize hwS : w3.setCell ⟨HB, 1, none⟩ (.pointer (some ⟨tb, 0, none⟩)) = wS at *
  clear hwS
  go_loopg [47] n (fun gk s47 wr => ∃ (k : Nat) (o : Nat → Nat) (pbs : List Nat) (pv : Value), k + gk = n ∧ s47 = .int .i64 k ∧ pbs.length = k ∧ BoSt w wr o HB ab tb R n pbs pv)
  case atStart =>
    obtain ⟨o, ho⟩ := HST.out
    exact ⟨0, o, [], _, by omega, rfl, rfl, ho⟩
  case round =>
    obtain ⟨k, o, pbs, pv, hkg, rfl, hpl, hbo⟩ := hrel
    have HK : Hid (k + gk = n) := hkg
    have HBO : Hid (BoSt w wr o HB ab tb R n pbs pv) := hbo
    have HPL : Hid (pbs.length = k) := hpl
    have hkn : k ≤ n := by omega
    have d0 : wr.cell? ⟨HB, 0, none⟩ = some (.pointer (some ⟨ab, 0, none⟩)) := Lib.cell_of_heap hbo.blk 0
    have d2 : wr.cell? ⟨HB, 2, none⟩ = some pv := Lib.cell_of_heap hbo.blk 2
    have z2 := Lib.frozen_of_heap hbo.blk 2
    clear hkg hpl d1 z1 g2
    by_cases hlt : k < n
    · have hi1 : (k : Int) < (n : Int) := by omega
      have hi0 : (0 : Int) ≤ (k : Int) := by omega
      have q0 : wr.cell? ⟨qb, k, none⟩ = some (.int .i64 0) := (hbo.bel.cell (p := ⟨qb, k, none⟩) hqb).trans (HQ.out.1 k hlt)
      have q1 : wr.cell? ⟨db, k, none⟩ = some (.int .i64 0) := (hbo.bel.cell (p := ⟨db, k, none⟩) hdb).trans (HQ.out.2 k hlt)
      have hlm := limit_any ab k (by omega) wr hbo.ar
      have hbo2 := hbo.limit (4 + k * 3) (by omega) (.int .i64 0)
      have hna : ∀ x, o x ≠ 7 → x ≠ ab := fun x hx e => hx (by rw [e]; exact hbo.al)
      have hqa : qb ≠ ab := hna qb (by rw [hbo.old qb hqb]; omega)
      have hda : db ≠ ab := hna db (by rw [hbo.old db hdb]; omega)
      have hha : HB ≠ ab := hna HB (by rw [hbo.own]; omega)
      have hhl := fun W => hall_good ⟨ab, 0, none⟩ (k : Int) 0 W (by omega) (by omega)
      obtain ⟨pa, pn, pc, hpv⟩ := own_sl hbo.row
      subst hpv
      clear hna hbo
      go_wp2_with fail
      refine hlm.mono ?_
      rintro e w4 ⟨rfl, hw4⟩
      rw [← hw4] at hbo2
      have HB4 : Hid (BoSt w w4 o HB ab tb R n pbs (.slice pa pn pc)) := hbo2
      have d0' : w4.cell? ⟨HB, 0, none⟩ = some (.pointer (some ⟨ab, 0, none⟩)) := Lib.cell_of_heap hbo2.blk 0
      have d2' : w4.cell? ⟨HB, 2, none⟩ = some (.slice pa pn pc) := Lib.cell_of_heap hbo2.blk 2
      have q1' : w4.cell? ⟨db, k, none⟩ = some (.int .i64 0) := (hbo2.bel.cell (p := ⟨db, k, none⟩) hdb).trans (HQ.out.2 k hlt)
      have OWN : Hid (∀ W : World, (∀ g, g < w4.heap.size → W.heap[g]? = w4.heap[g]?) → W.ownsRow 0 61 1 (.slice pa pn pc) pbs.length (pbs.map fun b => Value.pointer (some ⟨b, 0, none⟩))) := fun W hW => ownsRow_keepB hbo2.row fun g hg => hW g (hbo2.row.lt g hg).2
      have HEND : Hid (∀ (W w5 : World), (∀ g, g < w4.heap.size → W.heap[g]? = w4.heap[g]?) → w4.heap.size ≤ W.heap.size → W.grownBy w5 (Value.slice pa pn pc).ownBlock → w5.cell? ⟨HB, 2, none⟩ = some (.slice pa pn pc) ∧ w5.frozen? ⟨HB, 2, none⟩ = false) := fun W w5 hW hsz hg => by
        have hhb : HB < w4.heap.size := (Array.getElem?_eq_some_iff.1 HB4.out.blk).1
        have e : w5.heap[HB]? = w4.heap[HB]? := (hg.block HB (by omega) fun e => by have h1 := HB4.out.rl HB e.symm; have h2 := HB4.out.own; omega).trans (hW HB hhb)
        exact ⟨by rw [Lib.cell_of_heap (e.trans HB4.out.blk)]; rfl, Lib.frozen_of_heap (e.trans HB4.out.blk) 2⟩
      clear hlm hbo2 hw4 d0 d2 z2 q0 q1 HBO
      have hpl5 : pbs.length ≤ 5 := by have := HPL.out; omega
      go_wp2_with fail
      have d2'' : ∀ ob : Obj, (w4.drew.alloc ob).cell? ⟨HB, 2, none⟩ = some (.slice pa pn pc) := fun ob => (World.cell?_of_block (a := ⟨HB, 2, none⟩) (Below.heap_alloc w4.drew ob HB ((Array.getElem?_eq_some_iff.1 HB4.out.blk).1))).trans d2'
      have HD2 : Hid (∀ ob : Obj, (w4.drew.alloc ob).cell? ⟨HB, 2, none⟩ = some (.slice pa pn pc)) := d2''
      clear d2''
      go_region_with (go_at_call 19; refine (hhl _).mono ?_; rintro e w6 ⟨rfl, ob, hw6⟩; have d26 : w6.cell? ⟨HB, 2, none⟩ = some (.slice pa pn pc) := (by rw [hw6]; exact HD2.out ob); have HW6 : Hid (w6 = w4.drew.alloc ob) := hw6; clear hw6)
      all_goals
        have HS6 : Hid (w6.heap.size = w4.heap.size + 1) := by show _ = _; rw [HW6.out]; simp
        have HKX : Hid (∀ (o1 o2 : Obj) (g : Nat), g < w4.heap.size → ((w6.alloc o1).alloc o2).heap[g]? = w4.heap[g]?) := fun o1 o2 g hg => by
          have h1 := HS6.out
          rw [Below.heap_alloc (w6.alloc o1) o2 g (by simp; omega), Below.heap_alloc w6 o1 g (by omega), HW6.out]
          exact Below.heap_alloc w4.drew ob g hg
        go_wp2_with (at_builtin; refine wpList_append_lies _ (by rfl) _ _ 49 (by rfl) 0 61 i0 (.pointer none) 1 8 Tryz.underlying49 hi hz0 hz1 hz2 rfl (by decide) (.slice pa pn pc) pbs.length (pbs.map fun b => Value.pointer (some ⟨b, 0, none⟩)) (by rfl) (OWN.out _ (HKX.out _ _)) ⟨w6.heap.size + 1, 0, none⟩ 1 1 [.pointer (some ⟨w6.heap.size, 0, none⟩)] (by rfl) rfl (by
          intro j x hx
          match j, hx with
          | 0, hx => simp at hx; subst hx; simp [Addr.add]) (by intro u hu; simp at hu; subst hu; rfl) (by omega) (by unfold maxLen; omega) (by omega) (Nat.zero_le _) (w6.heap.size + 2) (by simp) ?_; intro g5 cap5 w5 hown5 hgrow5 hat5 hlt5; obtain ⟨q4, q5⟩ := HEND.out _ w5 (HKX.out _ _) (by simp; have := HS6.out; omega) hgrow5)
        have HM : Hid (∃ o', BoSt w (w5.setCell ⟨HB, 2, none⟩ (.slice (some ⟨g5, 0, none⟩) (pbs.length + 1) cap5)) o' HB ab tb R n (pbs ++ [w6.heap.size]) (.slice (some ⟨g5, 0, none⟩) (pbs.length + 1) cap5)) := by
          have h6 := HS6.out
          have a1 := grown_alloc _ (grown_alloc _ hgrow5)
          rw [HW6.out] at a1
          have a2 := grown_alloc ob a1
          have a3 : w4.grownBy w5 (Value.slice pa pn pc).ownBlock := ⟨a2.os, a2.tape, a2.output, a2.size, a2.block⟩
          refine HB4.out.more (hv := .pointer (some ⟨w4.heap.size, 0, none⟩)) a3 (by omega) ?_ ?_ ?_ ?_
          · unfold PoB
            rw [hgrow5.block w6.heap.size (by simp; omega) (fun e => by have := (HB4.out.row.lt _ e.symm).2; omega), Below.heap_alloc _ _ _ (by simp)]
            exact heap_alloc_new w6 _
          · rw [List.map_append]
            exact hown5
          · rcases hat5 with h | h
            · exact .inl h
            · right; omega
          · rcases hat5 with h | h
            · have := (HB4.out.row.lt _ h).2; omega
            · omega
        clear hown5 hgrow5 hat5 hlt5 q4 q5
        go_roundg (gk - 1)
        case measure => have := HK.out; omega
        case rel =>
          obtain ⟨o', ho'⟩ := HM.out
          have h1 := HK.out
          exact ⟨k + 1, o', _, _, by omega, by go_num, by rw [List.length_append, HPL.out]; rfl, ho'⟩
    · have hi1 : ¬ (k : Int) < (n : Int) := by omega
      have HE : Hid (k = n) := by show k = n; omega
      have HR : Hid (BootOut n w (.returned (.tuple #[.pointer (some ⟨HB, 0, none⟩), .int .i64 0])) wr) := by
        have hpn : pbs.length = n := by rw [HPL.out]; exact HE.out
        obtain ⟨g, cap, hpv, _, _⟩ := hbo.row.form (by omega)
        rw [hpn] at hpv
        subst hpv
        exact ⟨HB, o, _, rfl, hbo.house hpn, hbo.old, hbo.bel⟩
      clear hbo
      go_wp2_with fail
      go_ret2
      exact HR.out
end Go.Proofs.YtpldaghhledjlaaGreatDoor.H
