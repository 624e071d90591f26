/- The arena: what is told to one who is no tenant; limits that are none. -/
import Derived.Test.YtfogedmghhacdaaRsNote
import Derived.Test.YtfogedmghhacdaaRsNo
import Derived.Test.YtfogedmghhacdaaArRoomP
namespace Go.Proofs.Ytfogedmghhacdaa.A
open Go.RowKit Go.Maps

def zcellS (i : Nat) : Value := if i = 0 then .int .i64 0 else if i = 1 then .slice none 0 0 else if i < 66 then .int .i64 0 else .slice none 0 0
set_option maxRecDepth 100000 in
theorem zeroS_list : Try.zeroCells43.toList = (List.range 130).map zcellS := by kernel_rfl
theorem zeroS_at (i : Nat) (hi : i < 130) : Try.zeroCells43[i]? = some (zcellS i) := by
  rw [← Array.getElem?_toList, zeroS_list]
  simp [hi]
theorem zeroS_size : Try.zeroCells43.size = 130 := by
  rw [← Array.length_toList, zeroS_list]
  simp
/-- a new store's block, the first k tenants' quotas set -/
def srNew (room : Int) (k : Nat) : Sr := ⟨room, .slice none 0 0, fun t => if t < k then room else 0, fun _ => .slice none 0 0⟩
theorem srNew_at (room : Int) (w : World) (b : Nat) (h : w.heap[b]? = some (.cells (Try.zeroCells43.setIfInBounds 0 (.int .i64 room)) 43 (0, 0))) : SrAt w b (srNew room 0) := by
  refine ⟨_, h, by rw [Array.size_setIfInBounds, zeroS_size], fun i hi => ?_⟩
  rw [Array.getElem?_setIfInBounds]
  simp only [zeroS_size]
  by_cases e0 : 0 = i
  · subst e0; simp [Sr.cell, srNew]
  · rw [if_neg e0, zeroS_at i hi]
    unfold Sr.cell zcellS srNew
    rw [if_neg (fun e => e0 (Eq.symm e) : ¬ i = 0), if_neg (fun e => e0 (Eq.symm e) : ¬ i = 0)]
    simp only [Nat.not_lt_zero, if_false]
theorem srNew_turn (room : Int) (k : Nat) : ({ srNew room k with quota := upd (srNew room k).quota k room } : Sr) = srNew room (k + 1) := by
  unfold srNew upd
  simp only [Sr.mk.injEq, true_and, and_true]
  funext t
  by_cases e : t = k
  · subst e; simp
  · by_cases h : t < k
    · simp [e, h, Nat.lt_succ_of_lt h]
    · have : ¬ t < k + 1 := by omega
      simp [e, h, this]
theorem srNew_of (room : Int) (w w' : World) (hr : SrAt w' w.heap.size (srNew room 64)) : StAt w' w.heap.size (fun k => k = w.heap.size) (St.of (arNew room)) := by
  refine ⟨_, hr, rfl, World.ownsRow_nil _ _ _ _, fun t ht => ?_, fun t _ => IntRow.nil _, fun t u _ _ _ k hk => by simp [srNew, Value.ownBlock] at hk, rfl, fun k hk => by simp [srNew, Value.ownBlock] at hk, fun t _ k hk => by simp [srNew, Value.ownBlock] at hk, fun k hk => by rw [hk]; exact hr.lt⟩
  show (if t < 64 then room else 0) = room
  rw [if_pos ht]
set_option maxRecDepth 20000 in
set_option maxHeartbeats 4000000 in
theorem newS_any (room : Int) (w : World) (h0 : 0 ≤ room) (h1 : room ≤ 200000) :
    Calls Try.prog 7 #[.int .i64 room] w fun e w' => e = .returned (.tuple #[.pointer (some ⟨w.heap.size, 0, none⟩), .int .i64 0]) ∧ StAt w' w.heap.size (fun k => k = w.heap.size) (St.of (arNew room)) ∧ Below w.heap.size w w' := by
  have e1 : ¬ room < 0 := by omega
  have e2 : ¬ 200000 < room := by omega
  go_enter Try.func7, Try.ntmps7
  go_wp2_with fail
  go_loopg [15] 64 (fun g s15 wr => ∃ k : Nat, k + g = 64 ∧ s15 = .int .i64 k ∧ SrAt wr w.heap.size (srNew room k) ∧ Below w.heap.size w wr)
  case atStart => exact ⟨0, by omega, rfl, srNew_at room _ _ (heap_alloc_new w _), (Below.refl _ _).alloc (Nat.le_refl _) _⟩
  case round =>
    obtain ⟨k, hkg, rfl, hr, hbw⟩ := hrel
    have HK : Hid (k + gk = 64) := hkg
    have hk64 : k ≤ 64 := by omega
    clear hkg
    by_cases hlt : k < 64
    · have hi0 : (0 : Int) ≤ k := by omega
      have hi1 : (k : Int) < 64 := by omega
      have cl := hr.at (2 + k) (by omega)
      rw [Sr.cq _ hlt] at cl
      have fz := hr.frozen (2 + k)
      go_wp2_with fail
      go_roundg (gk - 1)
      case measure => have := HK.out; omega
      case rel =>
        have hr2 := hr.setQ hlt room
        rw [srNew_turn] at hr2
        exact ⟨k + 1, by have := HK.out; omega, by go_num, hr2, hbw.setCell (p := ⟨w.heap.size, 2 + k, none⟩) (Nat.le_refl _) _⟩
    · have hi1 : ¬ (k : Int) < 64 := by omega
      have hk : k = 64 := by omega
      subst hk
      go_wp2_with fail
      go_ret2
      exact ⟨rfl, srNew_of room w _ hr, hbw⟩
set_option maxHeartbeats 1000000 in
theorem newS_bad (room : Int) (w : World) (h : ¬ (0 ≤ room ∧ room ≤ 200000)) :
    Calls Try.prog 7 #[.int .i64 room] w fun e w' => e = .returned (.tuple #[.pointer none, .int .i64 3]) ∧ w' = w := by
  by_cases h0 : room < 0
  · clear h
    go_enter Try.func7, Try.ntmps7
    go_wp2_with fail
    go_ret2
    exact ⟨rfl, rfl⟩
  · have h1 : 200000 < room := by omega
    clear h
    go_enter Try.func7, Try.ntmps7
    go_wp2_with fail
    go_ret2
    exact ⟨rfl, rfl⟩
/-- New, of a room that is none -/
theorem new_bad (room : Int) (w : World) (h : ¬ (0 ≤ room ∧ room ≤ 200000)) :
    Calls Try.prog 6 #[.int .i64 room] w fun e w' => e = .returned (.tuple #[.pointer none, .int .i64 3]) ∧ w' = w := by
  by_cases h0 : room < 0
  · clear h
    go_enter Try.func6, Try.ntmps6
    go_wp2_with fail
    go_ret2
    exact ⟨rfl, rfl⟩
  · have h1 : 200000 < room := by omega
    clear h
    go_enter Try.func6, Try.ntmps6
    go_wp2_with fail
    go_ret2
    exact ⟨rfl, rfl⟩
end Go.Proofs.Ytfogedmghhacdaa.A

namespace Go.Proofs.Ytfogedmghhacdaa.A
open Go.RowKit Go.Maps

theorem sub_bit : ∀ (t m u : Nat), m.testBit t = true → (m - 2 ^ t).testBit u = (m.testBit u && !decide (u = t))
  | 0, m, u, h => by
    rw [Nat.testBit_zero] at h
    have h1 : m % 2 = 1 := by simpa using h
    cases u with
    | zero =>
      rw [Nat.testBit_zero, decide_eq_true (show (0 : Nat) = 0 from rfl)]
      simp only [Bool.not_true, Bool.and_false, decide_eq_false_iff_not]
      show ¬ (m - 1) % 2 = 1
      omega
    | succ u =>
      rw [Nat.testBit_succ, Nat.testBit_succ, decide_eq_false (show ¬ u + 1 = 0 by omega)]
      have : (m - 2 ^ 0) / 2 = m / 2 := by show (m - 1) / 2 = _; omega
      rw [this]
      simp
  | t + 1, m, u, h => by
    rw [Nat.testBit_succ] at h
    have hle := bit_le h
    have e : 2 ^ (t + 1) = 2 ^ t * 2 := Nat.pow_succ _ _
    cases u with
    | zero =>
      rw [Nat.testBit_zero, Nat.testBit_zero, decide_eq_false (show ¬ 0 = t + 1 by omega)]
      have : (m - 2 ^ (t + 1)) % 2 = m % 2 := by rw [e]; generalize 2 ^ t = z at *; omega
      rw [this]
      simp
    | succ u =>
      rw [Nat.testBit_succ, Nat.testBit_succ]
      have : (m - 2 ^ (t + 1)) / 2 = m / 2 - 2 ^ t := by rw [e]; generalize 2 ^ t = z at *; omega
      rw [this, sub_bit t (m / 2) u h]
      have : decide (u + 1 = t + 1) = decide (u = t) := by
        by_cases e2 : u = t
        · simp [e2]
        · rw [decide_eq_false e2, decide_eq_false (by omega)]
      rw [this]
/-- a thing that may be lost -/
def lostTh (t : Nat) (P : Rt → Bool) (i : Nat) (x : Th) : Th := if (x.mask.testBit t && P (toRt i x)) = true then { x with mask := x.mask - 2 ^ t } else x
def lmap (t : Nat) (P : Rt → Bool) : Nat → List Th → List Th
  | _, [] => []
  | i, x :: l => lostTh t P i x :: lmap t P (i + 1) l
theorem lmap_get (t : Nat) (P : Rt → Bool) : ∀ (l : List Th) (i j : Nat), (lmap t P i l)[j]? = (l[j]?).map (lostTh t P (i + j))
  | [], i, j => by simp [lmap]
  | x :: l, i, 0 => by simp [lmap]
  | x :: l, i, j + 1 => by
    have := lmap_get t P l (i + 1) j
    rw [show i + 1 + j = i + (j + 1) by omega] at this
    simpa [lmap] using this
theorem lost_k (t : Nat) (P : Rt → Bool) (i : Nat) (x : Th) : (lostTh t P i x).k = x.k := by
  unfold lostTh
  split <;> rfl
theorem lost_to (t : Nat) (P : Rt → Bool) (i : Nat) (x : Th) : toRt i (lostTh t P i x) = (toRt i x).lost t P := by
  unfold lostTh Rt.lost
  have e : (toRt i x).mask = x.mask := rfl
  rw [e]
  split <;> rfl
theorem lmap_ref (t : Nat) (P : Rt → Bool) : ∀ (l : List Th) (i : Nat), loseL (refL i l) t P = refL i (lmap t P i l)
  | [], i => rfl
  | x :: l, i => by
    have ih := lmap_ref t P l (i + 1)
    show _ = refL i (lostTh t P i x :: lmap t P (i + 1) l)
    by_cases hx : x.k = 0
    · rw [ref_zero hx, ref_zero (by rw [lost_k]; exact hx), ih]
    · rw [ref_one hx, ref_one (by rw [lost_k]; exact hx), ← ih, lost_to]
      rfl
theorem lost_own (t : Nat) (P : Rt → Bool) : ∀ l : List Rt, ownS (loseL l t P) t + lostN l t P = ownS l t
  | [] => rfl
  | x :: l => by
    have ih := lost_own t P l
    unfold ownS lostN loseL at *
    rw [List.map_cons, List.countP_cons, List.countP_cons, List.countP_cons]
    cases hb : x.mask.testBit t with
    | false =>
      have e : x.lost t P = x := lost_no (by rw [hb]; rfl)
      rw [e, hb]
      simp only [Bool.false_and, Bool.false_eq_true, if_false]
      omega
    | true =>
      cases hp : P x with
      | false =>
        have e : x.lost t P = x := lost_no (by rw [hb, hp]; rfl)
        rw [e, hb]
        simp only [Bool.and_false, Bool.false_eq_true, if_false, if_true]
        omega
      | true =>
        have e : x.lost t P = { x with mask := x.mask - 2 ^ t } := lost_yes (by rw [hb, hp]; rfl)
        have e2 : (x.mask - 2 ^ t).testBit t = false := by rw [sub_bit t _ t hb]; simp
        rw [e]
        simp only
        rw [e2]
        simp only [Bool.and_self, Bool.false_eq_true, if_false, if_true]
        omega
theorem th_ext {x y : Th} (h1 : y.key = x.key) (h2 : y.lv = x.lv) (h3 : y.va = x.va) (h4 : y.mask = x.mask) : y = x := by
  obtain ⟨a0, a1, a2, a3, a4, a5, a6, a7⟩ := x
  obtain ⟨b0, b1, b2, b3, b4, b5, b6, b7⟩ := y
  unfold Th.key at h1
  simp only [Ky.mk.injEq] at h1
  simp only at h2 h3 h4
  obtain ⟨rfl, rfl, rfl, rfl, rfl⟩ := h1
  subst h2 h3 h4
  rfl
theorem takes_ref {A : Ar} (hS : Sound A) {t : Nat} (ht : t < 64) {ids : List Int} (hO : OwnIds A.ths t ids) (P : Rt → Bool) (hP : ∀ (j : Nat) (x : Th), A.ths[j]? = some x → x.mask.testBit t = true → (P (toRt j x) = true ↔ (j : Int) + 2 ∈ ids)) :
    (A.takes t ids).ths = lmap t P 0 A.ths := by
  refine List.ext_getElem? fun j => ?_
  rw [lmap_get, Nat.zero_add]
  cases hx : A.ths[j]? with
  | none =>
    rw [List.getElem?_eq_none (by rw [takes_len]; exact List.getElem?_eq_none_iff.1 hx)]
    rfl
  | some x =>
    obtain ⟨y, hy, h1, h2, h3, _, h5⟩ := takes_get t ht ids A (fun id hid => ⟨(hO.2 id hid).1, by obtain ⟨z, hz, _⟩ := (hO.2 id hid).2; exact (List.getElem?_eq_some_iff.1 hz).1⟩) hS.mask j x hx
    rw [hy]
    refine congrArg some ?_
    show y = lostTh t P j x
    unfold lostTh
    cases hb : x.mask.testBit t with
    | false =>
      rw [Bool.false_and, if_neg (by decide)]
      refine th_ext h1 h2 h3 (Nat.eq_of_testBit_eq fun u => ?_)
      rw [Bool.eq_iff_iff, h5 u]
      refine ⟨fun h => h.1, fun h => ⟨h, fun e => ?_⟩⟩
      rw [e.1, hb] at h
      cases h
    | true =>
      have hpj := hP j x hx hb
      cases hp : P (toRt j x) with
      | true =>
        rw [if_pos (by decide)]
        refine th_ext (x := { x with mask := x.mask - 2 ^ t }) h1 h2 h3 (Nat.eq_of_testBit_eq fun u => ?_)
        rw [Bool.eq_iff_iff, h5 u]
        show _ ↔ (x.mask - 2 ^ t).testBit u = true
        rw [sub_bit t _ u hb]
        simp only [Bool.and_eq_true, Bool.not_eq_true', decide_eq_false_iff_not]
        refine ⟨fun h => ⟨h.1, fun e => h.2 ⟨e, hpj.1 hp⟩⟩, fun h => ⟨h.1, fun e => h.2 e.1⟩⟩
      | false =>
        rw [Bool.true_and, if_neg (by decide)]
        refine th_ext h1 h2 h3 (Nat.eq_of_testBit_eq fun u => ?_)
        rw [Bool.eq_iff_iff, h5 u]
        refine ⟨fun h => h.1, fun h => ⟨h, fun e => ?_⟩⟩
        have := hpj.2 e.2
        rw [hp] at this
        cases this
/-- lose: both make of it the same -/
theorem lose_ref {A : Ar} (hS : Sound A) {t : Nat} (ht : t < 64) {ids : List Int} (hO : OwnIds A.ths t ids) (P : Rt → Bool) (hP : ∀ (j : Nat) (x : Th), A.ths[j]? = some x → x.mask.testBit t = true → (P (toRt j x) = true ↔ (j : Int) + 2 ∈ ids)) :
    (St.of A).lose t P = St.of (A.lose t ids []) ∧ lostN (St.of A).ths t P = ids.length := by
  have h1 := takes_ref hS ht hO P hP
  have h2 : loseL (refL 0 A.ths) t P = refL 0 (A.takes t ids).ths := by rw [h1]; exact lmap_ref t P A.ths 0
  have hS2 : Sound (A.lose t ids []) := lose_sound hS ht hO (own_nil _ _) (fun _ h => by cases h)
  refine ⟨?_, ?_⟩
  · unfold St.lose St.of
    simp only [St.mk.injEq]
    exact ⟨(lose_rest A t ids []).2.symm, h2, (lose_rest A t ids []).1.symm, rfl⟩
  · have h3 := lost_own t P (refL 0 A.ths)
    rw [h2, ref_own _ 0 hS.zero, ref_own (A.takes t ids).ths 0 hS2.zero] at h3
    have h4 := takes_own t ht t ids A hO hS.mask
    rw [if_pos rfl] at h4
    show lostN (refL 0 A.ths) t P = ids.length
    omega
theorem undo_ref {A : Ar} (hS : Sound A) {t : Nat} (ht : t < 64) : (St.of A).lose t (undoP (St.of A) t) = St.of (A.lose t (A.fresh t) []) ∧ lostN (St.of A).ths t (undoP (St.of A) t) = (A.fresh t).length :=
  lose_ref hS ht (fresh_own hS ht) _ fun j x _ _ => by
    unfold undoP
    simp only [decide_eq_true_eq]
    exact Iff.rfl
end Go.Proofs.Ytfogedmghhacdaa.A

namespace Go.Proofs.Ytfogedmghhacdaa.A
open Go.RowKit Go.Maps

set_option maxHeartbeats 1000000 in
theorem joinA_no (b : Nat) (t q0 q1 q2 q3 : Int) (w : World) (ht : ¬ (0 ≤ t ∧ t < 64)) :
    Calls Try.prog 17 #[.pointer (some ⟨b, 0, none⟩), .int .i64 t, .agg #[.int .i64 q0, .int .i64 q1, .int .i64 q2, .int .i64 q3]] w fun e w' => e = .returned (.tuple #[.int .i64 0, .int .i64 3]) ∧ Below w.heap.size w w' := by
  have hi := fun W => tenant_no t ht W
  go_enter Try.func17, Try.ntmps17
  go_wp2_with fail
  refine (hi _).mono ?_
  rintro e w1 ⟨rfl, rfl⟩
  go_wp2_with fail
  go_ret2
  exact ⟨rfl, (Below.refl _ _).alloc (Nat.le_refl _) _⟩
set_option maxHeartbeats 1000000 in
theorem noteA_no (b : Nat) (t s rr j v : Int) (w : World) (ht : ¬ (0 ≤ t ∧ t < 64)) :
    Calls Try.prog 18 #[.pointer (some ⟨b, 0, none⟩), .int .i64 t, .int .i64 s, .int .i64 rr, .int .i64 j, .int .i64 v] w fun e w' => e = .returned (.int .i64 6) ∧ w' = w := by
  have hi := fun W => tenant_no t ht W
  go_enter Try.func18, Try.ntmps18
  go_wp2_with fail
  refine (hi _).mono ?_
  rintro e w1 ⟨rfl, rfl⟩
  go_wp2_with fail
  go_ret
  exact ⟨rfl, rfl⟩
set_option maxHeartbeats 1000000 in
theorem recallA_no (b : Nat) (t s rr j : Int) (w : World) (ht : ¬ (0 ≤ t ∧ t < 64)) :
    Calls Try.prog 31 #[.pointer (some ⟨b, 0, none⟩), .int .i64 t, .int .i64 s, .int .i64 rr, .int .i64 j] w fun e w' => e = .returned (.tuple #[.int .i64 0, .bool false]) ∧ w' = w := by
  have hi := fun W => tenant_no t ht W
  go_enter Try.func31, Try.ntmps31
  go_wp2_with fail
  refine (hi _).mono ?_
  rintro e w1 ⟨rfl, rfl⟩
  go_wp2_with fail
  go_ret2
  exact ⟨rfl, rfl⟩
set_option maxHeartbeats 1000000 in
theorem markA_no (b : Nat) (t : Int) (w : World) (ht : ¬ (0 ≤ t ∧ t < 64)) :
    Calls Try.prog 19 #[.pointer (some ⟨b, 0, none⟩), .int .i64 t] w fun e w' => e = .returned (.int .i64 11) ∧ w' = w := by
  have hi := fun W => tenant_no t ht W
  go_enter Try.func19, Try.ntmps19
  go_wp2_with fail
  refine (hi _).mono ?_
  rintro e w1 ⟨rfl, rfl⟩
  go_wp2_with fail
  go_ret
  exact ⟨rfl, rfl⟩
set_option maxHeartbeats 1000000 in
theorem countA_no (b : Nat) (t : Int) (w : World) (ht : ¬ (0 ≤ t ∧ t < 64)) :
    Calls Try.prog 22 #[.pointer (some ⟨b, 0, none⟩), .int .i64 t] w fun e w' => e = .returned (.int .i64 0) ∧ w' = w := by
  have hi := fun W => tenant_no t ht W
  go_enter Try.func22, Try.ntmps22
  go_wp2_with fail
  refine (hi _).mono ?_
  rintro e w1 ⟨rfl, rfl⟩
  go_wp2_with fail
  go_ret
  exact ⟨rfl, rfl⟩
set_option maxHeartbeats 1000000 in
theorem backA_no (b : Nat) (t n : Int) (w : World) (ht : ¬ (0 ≤ t ∧ t < 64)) :
    Calls Try.prog 45 #[.pointer (some ⟨b, 0, none⟩), .int .i64 t, .int .i64 n] w fun e w' => e = .returned (.int .i64 0) ∧ w' = w := by
  have hi := fun W => tenant_no t ht W
  go_enter Try.func45, Try.ntmps45
  go_wp2_with fail
  refine (hi _).mono ?_
  rintro e w1 ⟨rfl, rfl⟩
  go_wp2_with fail
  go_ret
  exact ⟨rfl, rfl⟩
theorem undoA_no (b : Nat) (t : Int) (w : World) (ht : ¬ (0 ≤ t ∧ t < 64)) :
    Calls Try.prog 20 #[.pointer (some ⟨b, 0, none⟩), .int .i64 t] w fun e w' => e = .returned (.int .i64 0) ∧ w' = w := by
  have hi := fun W => backA_no b t 0 W ht
  go_enter Try.func20, Try.ntmps20
  go_wp2_with fail
  refine (hi _).mono ?_
  rintro e w1 ⟨rfl, rfl⟩
  go_wp2_with fail
  go_ret
  exact ⟨rfl, rfl⟩
set_option maxHeartbeats 1000000 in
theorem cleanA_no (b : Nat) (t : Int) (v : Value) (w : World) (ht : ¬ (0 ≤ t ∧ t < 64)) :
    Calls Try.prog 21 #[.pointer (some ⟨b, 0, none⟩), .int .i64 t, v] w fun e w' => e = .returned (.int .i64 0) ∧ w' = w := by
  have hi := fun W => tenant_no t ht W
  go_enter Try.func21, Try.ntmps21
  go_wp2_with fail
  refine (hi _).mono ?_
  rintro e w1 ⟨rfl, rfl⟩
  go_wp2_with fail
  go_ret
  exact ⟨rfl, rfl⟩
set_option maxHeartbeats 1000000 in
theorem limA_bad (b : Nat) (t n : Int) (F : Nat → Prop) (A : Ar) (w : World) (h : AtP w b F A) (ht : ¬ ((0 ≤ t ∧ t < 64) ∧ 0 ≤ n ∧ n ≤ A.room)) :
    Calls Try.prog 15 #[.pointer (some ⟨b, 0, none⟩), .int .i64 t, .int .i64 n] w fun e w' => e = .returned (.int .i64 3) ∧ w' = w := by
  obtain ⟨L, r, D, h, _⟩ := h
  have hi := fun W => isTenant_any t W
  have c0 := h.raw.at 0 (by omega)
  rw [Raw.c0, h.room] at c0
  simp only at c0
  clear h
  by_cases hp : 0 ≤ t ∧ t < 64
  · rw [decide_eq_true hp] at hi
    by_cases h0 : n < 0
    · clear ht
      go_enter Try.func15, Try.ntmps15
      go_wp2_with fail
      refine (hi _).mono ?_
      rintro e w1 ⟨rfl, rfl⟩
      go_wp2_with fail
      go_ret
      exact ⟨rfl, rfl⟩
    · have h3 : A.room < n := by omega
      clear ht
      go_enter Try.func15, Try.ntmps15
      go_wp2_with fail
      refine (hi _).mono ?_
      rintro e w1 ⟨rfl, rfl⟩
      go_wp2_with fail
      go_ret
      exact ⟨rfl, rfl⟩
  · rw [decide_eq_false hp] at hi
    clear ht
    go_enter Try.func15, Try.ntmps15
    go_wp2_with fail
    refine (hi _).mono ?_
    rintro e w1 ⟨rfl, rfl⟩
    go_wp2_with fail
    go_ret
    exact ⟨rfl, rfl⟩
/-- Kids, of a tenant -/
theorem kidsP_any (b t : Nat) (F : Nat → Prop) (id : Int) (A : Ar) (w : World) (h : AtP w b F A) (hS : Sound A) (ht : t < 64) (hid : Fits id) :
    Calls Try.prog 26 #[.pointer (some ⟨b, 0, none⟩), .int .i64 t, .int .i64 id] w fun e w' => e = .returned (.tuple #[kidsV (squareF A.ths t id), .int .i64 (lack (squareF A.ths t id))]) ∧ Below w.heap.size w w' := by
  obtain ⟨L, r, D, h, _⟩ := h
  exact Kids_any b 0 t id r A.ths w h.raw h.ths ht hS.mask hid
end Go.Proofs.Ytfogedmghhacdaa.A
