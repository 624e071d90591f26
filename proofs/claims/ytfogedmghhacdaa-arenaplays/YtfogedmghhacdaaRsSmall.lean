/- The plain store: Level, Kids, Limit, Mark. -/
import Derived.Test.YtfogedmghhacdaaRsOwn
namespace Go.Proofs.Ytfogedmghhacdaa.A
open Go.RowKit

/-- a store of things as they should be -/
structure Tame (S : St) : Prop where
  len : S.ths.length < 900000
  mask : ∀ x ∈ S.ths, x.mask < 18446744073709551616
theorem ownedS_any (b t : Nat) (id : Int) (G : Nat → Prop) (S : St) (w : World) (h : StAt w b G S) (hT : Tame S) (ht : t < 64) :
    Calls Try.prog 51 #[.pointer (some ⟨b, 0, none⟩), .int .i64 t, .int .i64 id, .int .i64 0] w fun e w' => e = .returned (.tuple #[((ownedF S.ths t id 0).getD noRt).val, .bool (ownedF S.ths t id 0).isSome]) ∧ Below w.heap.size w w' := by
  obtain ⟨r, h⟩ := h
  exact owned_any b t id r S.ths w h.raw h.ths (by have := hT.len; omega) ht hT.mask

set_option maxHeartbeats 1000000 in
theorem levelS_any (b t : Nat) (id : Int) (G : Nat → Prop) (S : St) (w : World) (h : StAt w b G S) (hT : Tame S) (ht : t < 64) :
    Calls Try.prog 29 #[.pointer (some ⟨b, 0, none⟩), .int .i64 t, .int .i64 id] w fun e w' => e = .returned (.tuple #[.int .i64 ((ownedF S.ths t id 0).getD noRt).lv, .int .i64 (lack (ownedF S.ths t id 0))]) ∧ Below w.heap.size w w' := by
  have ho := ownedS_any b t id G S w h hT ht
  have hi := fun W => person_yes t ht W
  clear h hT
  generalize ownedF S.ths t id 0 = o at *
  go_enter Try.func29, Try.ntmps29
  go_wp2_with fail
  refine (hi _).mono ?_
  rintro e w1 ⟨rfl, rfl⟩
  go_wp2_with fail
  refine ho.mono ?_
  rintro e w1 ⟨rfl, hb1⟩
  clear ho hi
  cases o with
  | none =>
    simp only [Option.getD_none, Option.isSome_none, noRt, Rt.val]
    go_wp2_with fail
    go_ret2
    exact ⟨rfl, hb1.alloc hb1.size _⟩
  | some x =>
    simp only [Option.getD_some, Option.isSome_some, Rt.val]
    go_wp2_with fail
    go_ret2
    exact ⟨rfl, hb1.alloc hb1.size _⟩
theorem levelS_no (b : Nat) (t id : Int) (w : World) (ht : ¬ (0 ≤ t ∧ t < 64)) :
    Calls Try.prog 29 #[.pointer (some ⟨b, 0, none⟩), .int .i64 t, .int .i64 id] w fun e w' => e = .returned (.tuple #[.int .i64 0, .int .i64 6]) ∧ w' = w := by
  have hi := fun W => person_no t ht W
  go_enter Try.func29, Try.ntmps29
  go_wp2_with fail
  refine (hi _).mono ?_
  rintro e w1 ⟨rfl, rfl⟩
  go_wp2_with fail
  go_ret2
  exact ⟨rfl, rfl⟩

/-- the quarters of a square -/
def kidsS (o : Option Rt) : Value := match o with | some x => .agg #[.int .i64 x.p0, .int .i64 x.p1, .int .i64 x.p2, .int .i64 x.p3] | none => .agg #[.int .i64 0, .int .i64 0, .int .i64 0, .int .i64 0]
def squareS (l : List Rt) (t : Nat) (id : Int) : Option Rt := if 1 < id then ownedF l t id 0 else none

theorem set4 {W : World} {g : Nat} {T : TypeId} {fr : Nat × Nat} {a0 a1 a2 a3 : Value} (hW : W.heap[g]? = some (.cells #[a0, a1, a2, a3] T fr)) (c0 c1 c2 c3 : Value) : ((((W.setCell ⟨g, 0, none⟩ c0).setCell ⟨g, 1, none⟩ c1).setCell ⟨g, 2, none⟩ c2).setCell ⟨g, 3, none⟩ c3).heap[g]? = some (.cells #[c0, c1, c2, c3] T fr) :=
  Go.Joins.block_setCell (Go.Joins.block_setCell (Go.Joins.block_setCell (Go.Joins.block_setCell hW c0) c1) c2) c3
theorem set4_below {w w0 : World} {g B : Nat} (h : Below B w0 w) (hB : B ≤ g) (b0 b1 b2 b3 : Value) :
    Below B w0 ((((w.setCell ⟨g, 0, none⟩ b0).setCell ⟨g, 1, none⟩ b1).setCell ⟨g, 2, none⟩ b2).setCell ⟨g, 3, none⟩ b3) :=
  (((h.setCell (p := ⟨g, 0, none⟩) hB b0).setCell (p := ⟨g, 1, none⟩) hB b1).setCell (p := ⟨g, 2, none⟩) hB b2).setCell (p := ⟨g, 3, none⟩) hB b3

set_option maxHeartbeats 1000000 in
theorem kidsS_any (b t : Nat) (id : Int) (G : Nat → Prop) (S : St) (w : World) (h : StAt w b G S) (hT : Tame S) (ht : t < 64) :
    Calls Try.prog 27 #[.pointer (some ⟨b, 0, none⟩), .int .i64 t, .int .i64 id] w fun e w' => e = .returned (.tuple #[kidsS (squareS S.ths t id), .int .i64 (lack (squareS S.ths t id))]) ∧ Below w.heap.size w w' := by
  have hb0 : Below w.heap.size w (w.alloc (.cells #[.int .i64 0, .int .i64 0, .int .i64 0, .int .i64 0] 35)) := (Below.refl _ _).alloc (Nat.le_refl _) _
  have ho := ownedS_any b t id G S (w.alloc (.cells #[.int .i64 0, .int .i64 0, .int .i64 0, .int .i64 0] 35)) (h.below hb0) hT ht
  have hi := fun W => person_yes t ht W
  clear h hT
  by_cases hid : 1 < id
  · have HS : Hid (squareS S.ths t id = ownedF S.ths t id 0) := if_pos hid
    generalize ownedF S.ths t id 0 = o at *
    go_enter Try.func27, Try.ntmps27
    go_wp2_with fail
    refine (hi _).mono ?_
    rintro e w1 ⟨rfl, rfl⟩
    go_wp2_with fail
    refine ho.mono ?_
    rintro e w1 ⟨rfl, hb1⟩
    have hb1' := hb0.trans (hb1.mono hb0.size)
    have hA : w1.heap[w.heap.size]? = some (.cells #[.int .i64 0, .int .i64 0, .int .i64 0, .int .i64 0] 35 (0, 0)) := (hb1.block w.heap.size (by simp)).trans (heap_alloc_new w _)
    have hlt : w.heap.size < w1.heap.size := (Array.getElem?_eq_some_iff.1 hA).1
    have k0 : w1.cell? ⟨w.heap.size, 0, none⟩ = some (.int .i64 0) := Lib.cell_of_heap hA 0
    have k1 : w1.cell? ⟨w.heap.size, 1, none⟩ = some (.int .i64 0) := Lib.cell_of_heap hA 1
    have k2 : w1.cell? ⟨w.heap.size, 2, none⟩ = some (.int .i64 0) := Lib.cell_of_heap hA 2
    have k3 : w1.cell? ⟨w.heap.size, 3, none⟩ = some (.int .i64 0) := Lib.cell_of_heap hA 3
    have z0 := Lib.frozen_of_heap hA 0
    have z1 := Lib.frozen_of_heap hA 1
    have z2 := Lib.frozen_of_heap hA 2
    have z3 := Lib.frozen_of_heap hA 3
    clear ho hi hid
    cases o with
    | none =>
      simp only [Option.getD_none, Option.isSome_none, noRt, Rt.val]
      go_wp2_with fail
      refine bodyPost_ret (v := .tuple #[.agg #[.int .i64 0, .int .i64 0, .int .i64 0, .int .i64 0], .int .i64 6]) ?_ rfl ⟨?_, ?_⟩
      · first
          | (simp [results, Try.results27, go_sem, Lib.cell_of_heap (set4 hA (.int .i64 0) (.int .i64 0) (.int .i64 0) (.int .i64 0)), hlt]; done)
          | (simp [results, Try.results27, go_sem, k0, k1, k2, k3, hlt]; done)
      · rw [HS.out]; rfl
      · first
          | exact (set4_below hb1' (Nat.le_refl _) _ _ _ _).alloc (by simpa [World.setCell] using hb1'.size) _
          | exact set4_below (hb1'.alloc hb1'.size _) (Nat.le_refl _) _ _ _ _
    | some x =>
      simp only [Option.getD_some, Option.isSome_some, Rt.val]
      go_wp2_with fail
      refine bodyPost_ret (v := .tuple #[.agg #[.int .i64 x.p0, .int .i64 x.p1, .int .i64 x.p2, .int .i64 x.p3], .int .i64 0]) ?_ rfl ⟨?_, ?_⟩
      · simp [results, Try.results27, go_sem, Lib.cell_of_heap (set4 hA (.int .i64 x.p0) (.int .i64 x.p1) (.int .i64 x.p2) (.int .i64 x.p3)), hlt]
      · rw [HS.out]; rfl
      · first
          | exact (set4_below hb1' (Nat.le_refl _) _ _ _ _).alloc (by simpa [World.setCell] using hb1'.size) _
          | exact set4_below (hb1'.alloc hb1'.size _) (Nat.le_refl _) _ _ _ _
  · have HS : Hid (squareS S.ths t id = none) := if_neg hid
    clear ho
    go_enter Try.func27, Try.ntmps27
    go_wp2_with fail
    refine (hi _).mono ?_
    rintro e w1 ⟨rfl, rfl⟩
    go_wp2_with fail
    refine bodyPost_ret (v := .tuple #[.agg #[.int .i64 0, .int .i64 0, .int .i64 0, .int .i64 0], .int .i64 6]) ?_ rfl ⟨?_, ?_⟩
    · simp [results, Try.results27, go_sem]
    · rw [HS.out]; rfl
    · exact hb0
theorem kidsS_no (b : Nat) (t id : Int) (w : World) (ht : ¬ (0 ≤ t ∧ t < 64)) :
    Calls Try.prog 27 #[.pointer (some ⟨b, 0, none⟩), .int .i64 t, .int .i64 id] w fun e w' => e = .returned (.tuple #[.agg #[.int .i64 0, .int .i64 0, .int .i64 0, .int .i64 0], .int .i64 6]) ∧ Below w.heap.size w w' := by
  have hi := fun W => person_no t ht W
  go_enter Try.func27, Try.ntmps27
  go_wp2_with fail
  refine (hi _).mono ?_
  rintro e w1 ⟨rfl, rfl⟩
  go_wp2_with fail
  refine bodyPost_ret (v := .tuple #[.agg #[.int .i64 0, .int .i64 0, .int .i64 0, .int .i64 0], .int .i64 6]) ?_ rfl ⟨rfl, ?_⟩
  · simp [results, Try.results27, go_sem]
  · exact (Below.refl _ _).alloc (Nat.le_refl _) _

/-- a tenant's quota is another -/
def St.lim (S : St) (t : Nat) (n : Int) : St := { S with quota := upd S.quota t n }
def St.mark (S : St) (t : Nat) : St := { S with since := upd S.since t [] }
section
variable {w w' : World} {b : Nat} {G G' : Nat → Prop} {S : St} {r : Sr}
theorem StRaw.setQ (h : StRaw w b G S r) {t : Nat} (ht : t < 64) (n : Int) : StRaw (w.setCell ⟨b, 2 + t, none⟩ (.int .i64 n)) b G (S.lim t n) { r with quota := upd r.quota t n } :=
  ⟨h.raw.setQ ht n, h.room, row_other h.ths fun k hk => heap_set fun e => h.vb (e ▸ hk), fun u hu => by
    show upd r.quota t n u = upd S.quota t n u
    unfold upd
    split
    · rfl
    · exact h.quota u hu, fun u hu => row_other (h.since u hu) fun k hk => heap_set fun e => h.tb hu (e ▸ hk), h.apt, h.fb, h.fv, h.ft, fun k hk => by rw [size_set]; exact h.flt k hk⟩
/-- a tenant's row of numbers is another now -/
theorem StRaw.setS (h : StRaw w b G S r) {t : Nat} (ht : t < 64) {w1 : World} {v : Value} {L : List Int} (hrow : IntRow w1 v L) (hG : ∀ k, G k → G' k) (hv : ∀ k, v.ownBlock = some k → G' k ∧ ((r.since t).ownBlock = some k ∨ ¬ G k)) (hlt : ∀ k, G' k → k < w1.heap.size)
    (hb : ∀ k, G k → (r.since t).ownBlock ≠ some k → w1.heap[k]? = w.heap[k]?) :
    StRaw (w1.setCell ⟨b, 66 + t, none⟩ v) b G' { S with since := upd S.since t L } { r with since := upd r.since t v } := by
  have nb : ∀ k, v.ownBlock = some k → k ≠ b := fun k hk e => by
    rcases (hv k hk).2 with h1 | h1
    · exact h.tb ht (e ▸ h1)
    · exact h1 (e ▸ h.fb)
  have nv : ∀ k, v.ownBlock = some k → r.vth.ownBlock ≠ some k := fun k hk e => by
    rcases (hv k hk).2 with h1 | h1
    · exact h.vt ht e h1
    · exact h1 (h.fv k e)
  have nu : ∀ k, v.ownBlock = some k → ∀ u, u < 64 → u ≠ t → (r.since u).ownBlock ≠ some k := fun k hk u hu hne e => by
    rcases (hv k hk).2 with h1 | h1
    · exact h.apt t u ht hu (fun x => hne x.symm) k h1 e
    · exact h1 (h.ft u hu k e)
  refine ⟨(h.raw.go (hb b h.fb (h.tb ht))).setS ht v, h.room, row_other h.ths fun k hk => (heap_set (k := k) (g := b) fun e => h.vb (e ▸ hk)).trans (hb k (h.fv k hk) (h.vt ht hk)), h.quota, fun u hu => ?_, fun u z hu hz huz k h1 h2 => ?_, hG _ h.fb, fun k hk => hG _ (h.fv k hk), fun u hu k hk => ?_, fun k hk => by rw [size_set]; exact hlt k hk⟩
  · show IntRow _ (upd r.since t v u) (upd S.since t L u)
    unfold upd
    by_cases e : u = t
    · rw [if_pos e, if_pos e]
      exact row_other hrow fun k hk => heap_set (nb k hk)
    · rw [if_neg e, if_neg e]
      exact row_other (h.since u hu) fun k hk => (heap_set (k := k) (g := b) fun e' => h.tb hu (e' ▸ hk)).trans (hb k (h.ft u hu k hk) (h.apt u t hu ht e k hk))
  · simp only [upd] at h1 h2
    by_cases e1 : u = t
    · subst e1
      rw [if_pos rfl] at h1
      rw [if_neg (fun e => huz e.symm)] at h2
      exact nu k h1 z hz (fun e => huz e.symm) h2
    · rw [if_neg e1] at h1
      by_cases e2 : z = t
      · subst e2
        rw [if_pos rfl] at h2
        exact nu k h2 u hu e1 h1
      · rw [if_neg e2] at h2
        exact h.apt u z hu hz huz k h1 h2
  · simp only [upd] at hk
    by_cases e : u = t
    · rw [if_pos e] at hk
      exact (hv k hk).1
    · rw [if_neg e] at hk
      exact hG _ (h.ft u hu k hk)
theorem StRaw.mark (h : StRaw w b G S r) {t : Nat} (ht : t < 64) : StRaw (w.setCell ⟨b, 66 + t, none⟩ (.slice none 0 0)) b G (S.mark t) { r with since := upd r.since t (.slice none 0 0) } :=
  h.setS ht (IntRow.nil w) (fun _ h => h) (fun k hk => by simp [Value.ownBlock] at hk) h.flt fun _ _ _ => rfl
end
theorem LedS.set {w : World} {b i : Nat} {G : Nat → Prop} {S' : St} {v : Value} (hb : G b) (h' : StAt (w.setCell ⟨b, i, none⟩ v) b G S') : LedS w b G S' (w.setCell ⟨b, i, none⟩ v) :=
  ⟨G, fun _ h => .inl h, h', Apart.set w v hb⟩

set_option maxHeartbeats 1000000 in
theorem limS_any (b t : Nat) (n : Int) (G : Nat → Prop) (S : St) (w : World) (h : StAt w b G S) (ht : t < 64) (h0 : 0 ≤ n) (h1 : n ≤ S.room) :
    Calls Try.prog 33 #[.pointer (some ⟨b, 0, none⟩), .int .i64 t, .int .i64 n] w fun e w' => e = .returned (.int .i64 0) ∧ LedS w b G (S.lim t n) w' := by
  obtain ⟨r, h⟩ := h
  have hi := fun W => person_yes t ht W
  have c0 := h.raw.at 0 (by omega)
  rw [Sr.c0, h.room] at c0
  have cl := h.raw.at (2 + t) (by omega)
  rw [Sr.cq _ ht] at cl
  have fz := h.raw.frozen (2 + t)
  have HL : Hid (LedS w b G (S.lim t n) (w.setCell ⟨b, 2 + t, none⟩ (.int .i64 n))) := LedS.set h.fb ⟨_, h.setQ ht n⟩
  have k0 : (0 : Int) ≤ t := by omega
  have k1 : (t : Int) < 64 := by omega
  have h2 : ¬ n < 0 := by omega
  have h3 : ¬ S.room < n := by omega
  clear h
  go_enter Try.func33, Try.ntmps33
  go_wp2_with fail
  refine (hi _).mono ?_
  rintro e w1 ⟨rfl, rfl⟩
  go_wp2_with fail
  go_ret
  exact ⟨rfl, HL.out⟩
set_option maxHeartbeats 1000000 in
theorem limS_bad (b : Nat) (t n : Int) (G : Nat → Prop) (S : St) (w : World) (h : StAt w b G S) (ht : ¬ ((0 ≤ t ∧ t < 64) ∧ 0 ≤ n ∧ n ≤ S.room)) :
    Calls Try.prog 33 #[.pointer (some ⟨b, 0, none⟩), .int .i64 t, .int .i64 n] w fun e w' => e = .returned (.int .i64 3) ∧ w' = w := by
  obtain ⟨r, h⟩ := h
  have hi := fun W => person_any t W
  have c0 := h.raw.at 0 (by omega)
  rw [Sr.c0, h.room] at c0
  clear h
  by_cases hp : 0 ≤ t ∧ t < 64
  · rw [decide_eq_true hp] at hi
    by_cases h0 : n < 0
    · clear ht
      go_enter Try.func33, Try.ntmps33
      go_wp2_with fail
      refine (hi _).mono ?_
      rintro e w1 ⟨rfl, rfl⟩
      go_wp2_with fail
      go_ret
      exact ⟨rfl, rfl⟩
    · have h3 : S.room < n := by omega
      clear ht
      go_enter Try.func33, Try.ntmps33
      go_wp2_with fail
      refine (hi _).mono ?_
      rintro e w1 ⟨rfl, rfl⟩
      go_wp2_with fail
      go_ret
      exact ⟨rfl, rfl⟩
  · rw [decide_eq_false hp] at hi
    clear ht
    go_enter Try.func33, Try.ntmps33
    go_wp2_with fail
    refine (hi _).mono ?_
    rintro e w1 ⟨rfl, rfl⟩
    go_wp2_with fail
    go_ret
    exact ⟨rfl, rfl⟩
set_option maxHeartbeats 1000000 in
theorem markS_any (b t : Nat) (G : Nat → Prop) (S : St) (w : World) (h : StAt w b G S) (ht : t < 64) :
    Calls Try.prog 34 #[.pointer (some ⟨b, 0, none⟩), .int .i64 t] w fun e w' => e = .returned (.int .i64 0) ∧ LedS w b G (S.mark t) w' := by
  obtain ⟨r, h⟩ := h
  have hi := fun W => person_yes t ht W
  have cl := h.raw.at (66 + t) (by omega)
  rw [Sr.cs] at cl
  have fz := h.raw.frozen (66 + t)
  have HL : Hid (LedS w b G (S.mark t) (w.setCell ⟨b, 66 + t, none⟩ (.slice none 0 0))) := LedS.set h.fb ⟨_, h.mark ht⟩
  have k0 : (0 : Int) ≤ t := by omega
  have k1 : (t : Int) < 64 := by omega
  clear h
  go_enter Try.func34, Try.ntmps34
  go_wp2_with fail
  refine (hi _).mono ?_
  rintro e w1 ⟨rfl, rfl⟩
  go_wp2_with fail
  go_ret
  exact ⟨rfl, HL.out⟩
theorem markS_no (b : Nat) (t : Int) (w : World) (ht : ¬ (0 ≤ t ∧ t < 64)) :
    Calls Try.prog 34 #[.pointer (some ⟨b, 0, none⟩), .int .i64 t] w fun e w' => e = .returned (.int .i64 11) ∧ w' = w := by
  have hi := fun W => person_no t ht W
  go_enter Try.func34, Try.ntmps34
  go_wp2_with fail
  refine (hi _).mono ?_
  rintro e w1 ⟨rfl, rfl⟩
  go_wp2_with fail
  go_ret
  exact ⟨rfl, rfl⟩
end Go.Proofs.Ytfogedmghhacdaa.A
