/- New. -/
import Derived.Test.YtfogedmghhacdaaArCleanG
namespace Go.Proofs.Ytfogedmghhacdaa.A
open Go.RowKit Go.Maps

def zcell (i : Nat) : Value := if i = 0 then .int .i64 0 else if i = 1 then .slice none 0 0 else if i = 2 then .map none else if i = 3 then .slice none 0 0 else if (i - 4) % 3 = 2 then .slice none 0 0 else .int .i64 0
set_option maxRecDepth 100000 in
theorem zero_list : Try.zeroCells70.toList = (List.range 196).map zcell := by kernel_rfl
theorem zero_at (i : Nat) (hi : i < 196) : Try.zeroCells70[i]? = some (zcell i) := by
  rw [← Array.getElem?_toList, zero_list]
  simp [hi]
theorem zero_size : Try.zeroCells70.size = 196 := by
  rw [← Array.length_toList, zero_list]
  simp
/-- a new arena's block, the first k tenants' limits set -/
def rawNew (room : Int) (mp k : Nat) : Raw := ⟨room, .slice none 0 0, mp, .slice none 0 0, fun t => if t < k then ⟨room, 0, .slice none 0 0⟩ else ⟨0, 0, .slice none 0 0⟩⟩
theorem rawNew_turn (room : Int) (mp k : Nat) : (rawNew room mp k).turn k { (rawNew room mp k).tn k with lim := room } = rawNew room mp (k + 1) := by
  unfold Raw.turn rawNew
  simp only [Raw.mk.injEq, true_and]
  funext t
  by_cases e : t = k
  · subst e; simp
  · by_cases h : t < k
    · simp [e, h, Nat.lt_succ_of_lt h]
    · have : ¬ t < k + 1 := by omega
      simp [e, h, this]
theorem rawNew_at (room : Int) (mp : Nat) (w : World) (b : Nat) (h : w.heap[b]? = some (.cells ((Try.zeroCells70.setIfInBounds 0 (.int .i64 room)).setIfInBounds 2 (.map (some mp))) 70 (0, 0))) : RawAt w b (rawNew room mp 0) := by
  refine ⟨_, h, by simp, fun i hi => ?_⟩
  rw [Array.getElem?_setIfInBounds, Array.getElem?_setIfInBounds]
  simp only [Array.size_setIfInBounds, zero_size]
  by_cases e2 : 2 = i
  · subst e2; simp [Raw.cell, rawNew]
  · rw [if_neg e2]
    by_cases e0 : 0 = i
    · subst e0; simp [Raw.cell, rawNew]
    · rw [if_neg e0, zero_at i hi]
      unfold Raw.cell zcell rawNew
      by_cases e1 : i = 1
      · subst e1; rfl
      · by_cases e3 : i = 3
        · subst e3; rfl
        · simp only [if_neg (fun e => e0 (Eq.symm e) : ¬ i = 0), if_neg e1, if_neg (fun e => e2 (Eq.symm e) : ¬ i = 2), if_neg e3, Nat.not_lt_zero, if_false]
          have : (i - 4) % 3 < 3 := Nat.mod_lt _ (by omega)
          by_cases c2 : (i - 4) % 3 = 2
          · rw [if_pos c2, if_neg (by omega), if_neg (by omega)]
          · rw [if_neg c2]
            by_cases c0 : (i - 4) % 3 = 0
            · rw [if_pos c0]
            · rw [if_neg c0, if_pos (by omega)]
/-- a new arena -/
def arNew (room : Int) : Ar := ⟨room, [], [], fun _ => room, fun _ => 0, fun _ => []⟩

theorem arNew_at (room : Int) (w w' : World) (_hb : Below w.heap.size w w') (hr : RawAt w' (w.heap.size + 1) (rawNew room w.heap.size 64)) (hm : w'.heap[w.heap.size]? = some (.map #[] 0)) : ArAt w' (w.heap.size + 1) (More (fun _ => False) w w') 0 (arNew room) := by
  have hlt := hr.lt
  refine ⟨_, .map [], hr, rfl, World.ownsRow_nil _ _ _ _, ?_, NumIs.empty, IntRow.nil _, fun t ht => ?_, fun t ht => ?_, fun t ht => ?_, fun t ht k hk => ?_, fun t u ht hu htu k hk => ?_, Or.inr ⟨by omega, by omega⟩, Or.inr ⟨Nat.le_refl _, by show w.heap.size < _; omega⟩, fun k hk => ?_, fun k hk => ?_, fun t ht k hk => ?_, fun k hk => ?_⟩
  · have h0 := World.ownsMap_made (H := Unit) w Try.prog 80 (plainElem Try.prog 3)
    obtain ⟨es, c, e1, e2⟩ := h0
    rw [heap_alloc_new] at e1
    simp at e1
    obtain ⟨rfl, rfl⟩ := e1
    exact ⟨_, _, hm, e2⟩
  · show (if t < 64 then _ else _ : Tn).lim = room
    rw [if_pos ht]
  · show (if t < 64 then _ else _ : Tn).cnt = 0
    rw [if_pos ht]
  · show IntRow w' (if t < 64 then _ else _ : Tn).fr []
    rw [if_pos ht]
    exact IntRow.nil _
  · simp [rawNew, ht, Value.ownBlock] at hk
  · simp [rawNew, ht, Value.ownBlock] at hk
  · simp [rawNew, Value.ownBlock] at hk
  · simp [rawNew, Value.ownBlock] at hk
  · simp [rawNew, ht, Value.ownBlock] at hk
  · rcases hk with h | h
    · exact h.elim
    · exact h.2

set_option maxRecDepth 20000 in
set_option maxHeartbeats 4000000 in
theorem new_any (room : Int) (w : World) (h0 : 0 ≤ room) (h1 : room ≤ 200000) :
    Calls Try.prog 6 #[.int .i64 room] w fun e w' => e = .returned (.tuple #[.pointer (some ⟨w.heap.size + 1, 0, none⟩), .int .i64 0]) ∧ ArAt w' (w.heap.size + 1) (More (fun _ => False) w w') 0 (arNew room) ∧ Below w.heap.size w w' := by
  have e1 : ¬ room < 0 := by omega
  have e2 : ¬ 200000 < room := by omega
  have hmm := @run_makeMap Try.prog
  go_enter Try.func6, Try.ntmps6
  go_wp2_with fail
  go_loopg [16] 64 (fun g s16 wr => ∃ k : Nat, k + g = 64 ∧ s16 = .int .i64 k ∧ RawAt wr (w.heap.size + 1) (rawNew room w.heap.size k) ∧ wr.heap[w.heap.size]? = some (.map #[] 0) ∧ Below w.heap.size w wr)
  case atStart =>
    refine ⟨0, by omega, rfl, rawNew_at room w.heap.size _ _ (heap_alloc2_new w _ _), heap_alloc2_old w _ _, ((Below.refl _ _).alloc (Nat.le_refl _) _).alloc (by simp) _⟩
  case round =>
    obtain ⟨k, hkg, rfl, hr, hmp, hbw⟩ := hrel
    have HK : Hid (k + gk = 64) := hkg
    have hk64 : k ≤ 64 := by omega
    clear hkg
    by_cases hlt : k < 64
    · have hi0 : (0 : Int) ≤ k := by omega
      have hi1 : (k : Int) < 64 := by omega
      have cl := hr.at (4 + k * 3) (by omega)
      rw [Raw.cl] at cl
      have fz := hr.frozen (4 + k * 3)
      have hwk : IntKind.i64.wrap ((k : Int) + 1) = (k : Int) + 1 := by rw [IntKind.wrap_i64]; omega
      go_wp2_with fail
      go_roundg (gk - 1)
      case measure => have := HK.out; omega
      case rel =>
        have hr2 := hr.setLim k room
        rw [rawNew_turn] at hr2
        exact ⟨k + 1, by have := HK.out; omega, by go_num, hr2, (heap_set (by omega)).trans hmp, hbw.setCell (p := ⟨w.heap.size + 1, 4 + k * 3, none⟩) (Nat.le_succ _) _⟩
    · have hi1 : ¬ (k : Int) < 64 := by omega
      have hk : k = 64 := by omega
      subst hk
      go_wp2_with fail
      go_ret2
      exact ⟨rfl, arNew_at room w _ hbw hr hmp, hbw⟩
end Go.Proofs.Ytfogedmghhacdaa.A
