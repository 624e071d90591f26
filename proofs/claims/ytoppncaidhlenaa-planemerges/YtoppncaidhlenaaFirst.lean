/- What plane.first answers. -/
import Derived.Test.YtoppncaidhlenaaMergePure
namespace Go.Proofs.Ytoppncaidhlenaa
open Go.RowKit Go.Lib Go.Sort

attribute [local go_sem ↓] Go.wp_at_zero Go.wp_at_succ

/-- what first answers -/
def FirstOut (la lb : List (Int × Int)) (w : World) (e : Ending) (w' : World) : Prop :=
  e = .returned (.tuple #[.agg #[.int .i64 (firstF la lb).1.1, .int .i64 (firstF la lb).1.2], .bool (firstF la lb).2.1, .bool (firstF la lb).2.2]) ∧ Below w.heap.size w w'

theorem below_grow (w : World) (n : Nat) (os : Array Obj) : Below w.heap.size w (Sort.grow (w.drewN n) os) := by
  refine ⟨rfl, rfl, rfl, by simp [Sort.grow, World.drewN], fun k hk => ?_⟩
  simp only [Sort.grow, World.drewN]
  rw [Array.getElem?_append_left hk]

set_option maxHeartbeats 1000000 in
theorem first_a (b off n c : Nat) (p : Int × Int) (la : List (Int × Int)) (q : Option Addr) (d : Nat) (w : World) (hb : b < w.heap.size) (hn : 0 < n)
    (c0 : w.cell? ⟨b, off, none⟩ = some (.int .i64 p.1)) (c1 : w.cell? ⟨b, off + 1, none⟩ = some (.int .i64 p.2)) :
    Calls Try.prog 51 #[.slice (some ⟨b, off, none⟩) n c, .slice q 0 d] w fun e w' => FirstOut (p :: la) [] w e w' := by
  have hn1 : (0 : Int) < (n : Int) := by omega
  have hne : b ≠ w.heap.size := by omega
  go_enter Try.func51, Try.ntmps51
  go_wp2
  refine bodyPost_ret (v := .tuple #[.agg #[.int .i64 p.1, .int .i64 p.2], .bool true, .bool false]) ?_ rfl ⟨rfl, ?_⟩
  · simp [results, Try.results51, go_sem]
  · exact (Below.refl _ _).alloc (Nat.le_refl _) _

set_option maxHeartbeats 1000000 in
theorem first_b (b off n c : Nat) (p : Int × Int) (lb : List (Int × Int)) (q : Option Addr) (d : Nat) (w : World) (hb : b < w.heap.size) (hn : 0 < n) (hm : n ≤ 4096)
    (c0 : w.cell? ⟨b, off, none⟩ = some (.int .i64 p.1)) (c1 : w.cell? ⟨b, off + 1, none⟩ = some (.int .i64 p.2)) :
    Calls Try.prog 51 #[.slice q 0 d, .slice (some ⟨b, off, none⟩) n c] w fun e w' => FirstOut [] (p :: lb) w e w' := by
  have hn1 : (0 : Int) < (n : Int) := by omega
  have hn0 : ((n : Int) == 0) = false := by simp; omega
  have hne : b ≠ w.heap.size := by omega
  go_enter Try.func51, Try.ntmps51
  go_wp2
  refine bodyPost_ret (v := .tuple #[.agg #[.int .i64 p.1, .int .i64 p.2], .bool false, .bool true]) ?_ rfl ⟨rfl, ?_⟩
  · simp [results, Try.results51, go_sem]
  · exact (Below.refl _ _).alloc (Nat.le_refl _) _

theorem keepc {w w1 : World} {o : Obj} (h : Below (w.alloc o).drew.heap.size (w.alloc o).drew w1) {a : Addr} {v : Value} (ha : a.block < w.heap.size) (hc : w.cell? a = some v) : w1.cell? a = some v := by
  rw [h.cell (p := a) (by show a.block < (w.alloc o).heap.size; simp; omega)]
  show (w.alloc o).cell? a = some v
  rw [World.cell?_alloc_lt _ _ _ ha]
  exact hc
theorem keepz {w w1 : World} {o : Array Value} (h : Below (w.alloc (.cells o 28)).drew.heap.size (w.alloc (.cells o 28)).drew w1) (j : Nat) : w1.cell? ⟨w.heap.size, j, none⟩ = o[j]? ∧ w1.frozen? ⟨w.heap.size, j, none⟩ = (w.alloc (.cells o 28)).frozen? ⟨w.heap.size, j, none⟩ := by
  rw [h.cell (p := ⟨w.heap.size, j, none⟩) (by show w.heap.size < (w.alloc (.cells o 28)).heap.size; simp), h.frozen (p := ⟨w.heap.size, j, none⟩) (by show w.heap.size < (w.alloc (.cells o 28)).heap.size; simp)]
  exact ⟨World.cell?_alloc_new _ _ _ _, rfl⟩

set_option maxHeartbeats 1000000 in
theorem first_ab (b off n c b' off' n' c' : Nat) (p q : Int × Int) (la lb : List (Int × Int)) (w : World) (hb : b < w.heap.size) (hn : 0 < n) (hm : n ≤ 4096) (hb' : b' < w.heap.size) (hn' : 0 < n') (hm' : n' ≤ 4096)
    (c0 : w.cell? ⟨b, off, none⟩ = some (.int .i64 p.1)) (c1 : w.cell? ⟨b, off + 1, none⟩ = some (.int .i64 p.2)) (d0 : w.cell? ⟨b', off', none⟩ = some (.int .i64 q.1)) (d1 : w.cell? ⟨b', off' + 1, none⟩ = some (.int .i64 q.2)) :
    Calls Try.prog 51 #[.slice (some ⟨b, off, none⟩) n c, .slice (some ⟨b', off', none⟩) n' c'] w fun e w' => FirstOut (p :: la) (q :: lb) w e w' := by
  have hn1 : (0 : Int) < (n : Int) := by omega
  have hn0 : ((n : Int) == 0) = false := by simp; omega
  have hn1' : (0 : Int) < (n' : Int) := by omega
  have hn0' : ((n' : Int) == 0) = false := by simp; omega
  have hne : b ≠ w.heap.size := by omega
  have hne' : b' ≠ w.heap.size := by omega
  have hcall : ∀ W, Calls Try.prog 32 #[.agg #[.int .i64 p.1, .int .i64 p.2], .agg #[.int .i64 q.1, .int .i64 q.2]] W fun e w' => e = .returned (.int .i64 (cmpP p q)) ∧ Below W.heap.size W w' :=
    fun W => (order_any p q W).mono fun e w' ⟨he, n, os, hw⟩ => ⟨he, by rw [hw]; exact below_grow W n os⟩
  by_cases hc : 0 < cmpP p q
  · have hF : firstF (p :: la) (q :: lb) = (q, false, true) := by simp [firstF, hc]
    have HF : Hid (firstF (p :: la) (q :: lb) = (q, false, true)) := hF
    clear hF
    generalize cmpP p q = o at *
    go_enter Try.func51, Try.ntmps51
    go_wp2
    go_region_held3 (fun w' => w'.cell? ⟨b, off, none⟩ = some (.int .i64 p.1) ∧ w'.cell? ⟨b, off + 1, none⟩ = some (.int .i64 p.2) ∧ w'.cell? ⟨b', off', none⟩ = some (.int .i64 q.1) ∧ w'.cell? ⟨b', off' + 1, none⟩ = some (.int .i64 q.2)) (first | go_keep | (exact ⟨keepc hb1 hb c0, keepc hb1 hb c1, keepc hb1 hb' d0, keepc hb1 hb' d1⟩))
      (first | (go_at_call 32; refine (hcall _).mono ?_; rintro e w1 ⟨rfl, hb1⟩))
    have e0 := keepc hb1 hb c0
    have e1 := keepc hb1 hb c1
    have g0 := keepc hb1 hb' d0
    have g1 := keepc hb1 hb' d1
    have z0 := (keepz hb1 0).1
    have z1 := (keepz hb1 1).1
    have f0 := (keepz hb1 0).2
    have f1 := (keepz hb1 1).2
    simp at z0 z1 f0 f1
    have BB : Hid (Below w.heap.size w w1) := ((Below.refl _ _).alloc (Nat.le_refl _) _).drew.trans (hb1.mono (by show w.heap.size ≤ (w.alloc _).heap.size; simp))
    clear hb1 c0 c1 d0 d1 hcall
    go_wp2
    refine bodyPost_ret (v := .tuple #[.agg #[.int .i64 q.1, .int .i64 q.2], .bool false, .bool true]) ?_ rfl ⟨by rw [HF.out], ?_⟩
    · have z0' := World.cell?_setCell_same w1 ⟨w.heap.size, 0, none⟩ (.int .i64 q.1) z0
      have r0 : ((w1.setCell ⟨w.heap.size, 0, none⟩ (.int .i64 q.1)).setCell ⟨w.heap.size, 1, none⟩ (.int .i64 q.2)).cell? ⟨w.heap.size, 0, none⟩ = some (.int .i64 q.1) := by rw [World.cell?_setCell_other _ _ _ _ (by simp)]; exact z0'
      have r1 : ((w1.setCell ⟨w.heap.size, 0, none⟩ (.int .i64 q.1)).setCell ⟨w.heap.size, 1, none⟩ (.int .i64 q.2)).cell? ⟨w.heap.size, 1, none⟩ = some (.int .i64 q.2) := World.cell?_setCell_same _ _ _ (by rw [World.cell?_setCell_other _ _ _ _ (by simp)]; exact z1)
      simp [results, Try.results51, go_sem, r0, r1]
    · exact (BB.out.setCell (Nat.le_refl _) _).setCell (Nat.le_refl _) _
  · by_cases hz : cmpP p q = 0
    · have hF : firstF (p :: la) (q :: lb) = (p, true, true) := by simp [firstF, hz]
      have HF : Hid (firstF (p :: la) (q :: lb) = (p, true, true)) := hF
      have hzb : (cmpP p q == 0) = true := by simpa using hz
      clear hF hz
      generalize cmpP p q = o at *
      go_enter Try.func51, Try.ntmps51
      go_wp2
      go_region_held3 (fun w' => w'.cell? ⟨b, off, none⟩ = some (.int .i64 p.1) ∧ w'.cell? ⟨b, off + 1, none⟩ = some (.int .i64 p.2) ∧ w'.cell? ⟨b', off', none⟩ = some (.int .i64 q.1) ∧ w'.cell? ⟨b', off' + 1, none⟩ = some (.int .i64 q.2)) (first | go_keep | (exact ⟨keepc hb1 hb c0, keepc hb1 hb c1, keepc hb1 hb' d0, keepc hb1 hb' d1⟩))
        (first | (go_at_call 32; refine (hcall _).mono ?_; rintro e w1 ⟨rfl, hb1⟩))
      have e0 := keepc hb1 hb c0
      have e1 := keepc hb1 hb c1
      have g0 := keepc hb1 hb' d0
      have g1 := keepc hb1 hb' d1
      have z0 := (keepz hb1 0).1
      have z1 := (keepz hb1 1).1
      have f0 := (keepz hb1 0).2
      have f1 := (keepz hb1 1).2
      simp at z0 z1 f0 f1
      have BB : Hid (Below w.heap.size w w1) := ((Below.refl _ _).alloc (Nat.le_refl _) _).drew.trans (hb1.mono (by show w.heap.size ≤ (w.alloc _).heap.size; simp))
      clear hb1 c0 c1 d0 d1 hcall
      go_wp2
      refine bodyPost_ret (v := .tuple #[.agg #[.int .i64 p.1, .int .i64 p.2], .bool true, .bool true]) ?_ rfl ⟨by rw [HF.out], ?_⟩
      · have z0' := World.cell?_setCell_same w1 ⟨w.heap.size, 0, none⟩ (.int .i64 p.1) z0
        have r0 : ((w1.setCell ⟨w.heap.size, 0, none⟩ (.int .i64 p.1)).setCell ⟨w.heap.size, 1, none⟩ (.int .i64 p.2)).cell? ⟨w.heap.size, 0, none⟩ = some (.int .i64 p.1) := by rw [World.cell?_setCell_other _ _ _ _ (by simp)]; exact z0'
        have r1 : ((w1.setCell ⟨w.heap.size, 0, none⟩ (.int .i64 p.1)).setCell ⟨w.heap.size, 1, none⟩ (.int .i64 p.2)).cell? ⟨w.heap.size, 1, none⟩ = some (.int .i64 p.2) := World.cell?_setCell_same _ _ _ (by rw [World.cell?_setCell_other _ _ _ _ (by simp)]; exact z1)
        simp [results, Try.results51, go_sem, r0, r1]
      · exact (BB.out.setCell (Nat.le_refl _) _).setCell (Nat.le_refl _) _
    · have hF : firstF (p :: la) (q :: lb) = (p, true, false) := by simp [firstF, hc, hz]
      have HF : Hid (firstF (p :: la) (q :: lb) = (p, true, false)) := hF
      have hzb : (cmpP p q == 0) = false := by simpa using hz
      clear hF hz
      generalize cmpP p q = o at *
      go_enter Try.func51, Try.ntmps51
      go_wp2
      go_region_held3 (fun w' => w'.cell? ⟨b, off, none⟩ = some (.int .i64 p.1) ∧ w'.cell? ⟨b, off + 1, none⟩ = some (.int .i64 p.2) ∧ w'.cell? ⟨b', off', none⟩ = some (.int .i64 q.1) ∧ w'.cell? ⟨b', off' + 1, none⟩ = some (.int .i64 q.2)) (first | go_keep | (exact ⟨keepc hb1 hb c0, keepc hb1 hb c1, keepc hb1 hb' d0, keepc hb1 hb' d1⟩))
        (first | (go_at_call 32; refine (hcall _).mono ?_; rintro e w1 ⟨rfl, hb1⟩))
      have e0 := keepc hb1 hb c0
      have e1 := keepc hb1 hb c1
      have g0 := keepc hb1 hb' d0
      have g1 := keepc hb1 hb' d1
      have z0 := (keepz hb1 0).1
      have z1 := (keepz hb1 1).1
      have f0 := (keepz hb1 0).2
      have f1 := (keepz hb1 1).2
      simp at z0 z1 f0 f1
      have BB : Hid (Below w.heap.size w w1) := ((Below.refl _ _).alloc (Nat.le_refl _) _).drew.trans (hb1.mono (by show w.heap.size ≤ (w.alloc _).heap.size; simp))
      clear hb1 c0 c1 d0 d1 hcall
      go_wp2
      refine bodyPost_ret (v := .tuple #[.agg #[.int .i64 p.1, .int .i64 p.2], .bool true, .bool false]) ?_ rfl ⟨by rw [HF.out], ?_⟩
      · have z0' := World.cell?_setCell_same w1 ⟨w.heap.size, 0, none⟩ (.int .i64 p.1) z0
        have r0 : ((w1.setCell ⟨w.heap.size, 0, none⟩ (.int .i64 p.1)).setCell ⟨w.heap.size, 1, none⟩ (.int .i64 p.2)).cell? ⟨w.heap.size, 0, none⟩ = some (.int .i64 p.1) := by rw [World.cell?_setCell_other _ _ _ _ (by simp)]; exact z0'
        have r1 : ((w1.setCell ⟨w.heap.size, 0, none⟩ (.int .i64 p.1)).setCell ⟨w.heap.size, 1, none⟩ (.int .i64 p.2)).cell? ⟨w.heap.size, 1, none⟩ = some (.int .i64 p.2) := World.cell?_setCell_same _ _ _ (by rw [World.cell?_setCell_other _ _ _ _ (by simp)]; exact z1)
        simp [results, Try.results51, go_sem, r0, r1]
      · exact (BB.out.setCell (Nat.le_refl _) _).setCell (Nat.le_refl _) _
end Go.Proofs.Ytoppncaidhlenaa
