/- What is kept: all of a tenant's own squares that can be reached. -/
import Derived.Test.YtgipjplifndniaaGreatDoorArLoseP
import Derived.Laws.OwnMore
namespace Go.Proofs.YtgipjplifndniaaGreatDoor.A
open Go.RowKit Go.Maps

def zcell (i : Nat) : Value := if i = 0 then .int .i64 0 else if i = 1 then .slice none 0 0 else if i = 2 then .map none else if i = 3 then .slice none 0 0 else if (i - 4) % 3 = 2 then .slice none 0 0 else .int .i64 0
set_option maxRecDepth 100000 in
theorem zero_list : Tryz.zeroCells79.toList = (List.range 196).map zcell := by kernel_rfl
theorem zero_at (i : Nat) (hi : i < 196) : Tryz.zeroCells79[i]? = some (zcell i) := by
  rw [← Array.getElem?_toList, zero_list]
  simp [hi]
theorem zero_size : Tryz.zeroCells79.size = 196 := by
  rw [← Array.length_toList, zero_list]
  simp
def rawNew (room : Int) (mp k : Nat) : Raw := ⟨room, .slice none 0 0, mp, .slice none 0 0, fun t => if t < k then ⟨room, 0, .slice none 0 0⟩ else ⟨0, 0, .slice none 0 0⟩⟩
theorem rawNew_turn (room : Int) (mp k : Nat) : (rawNew room mp k).turn k { (rawNew room mp k).tn k with lim := room } = rawNew room mp (k + 1) := by
  unfold Raw.turn rawNew
  simp only [Raw.mk.injEq, true_and]
  funext t
  by_cases e : t = k
  · subst e; simp
  · by_cases h : t < k
    · simp [e, h, Nat.lt_succ_of_lt h]
    · have : ¬ t < k + 1 := by omega
      simp [e, h, this]
theorem rawNew_at (room : Int) (mp : Nat) (w : World) (b : Nat) (h : w.heap[b]? = some (.cells ((Tryz.zeroCells79.setIfInBounds 0 (.int .i64 room)).setIfInBounds 2 (.map (some mp))) 79 (0, 0))) : RawAt w b (rawNew room mp 0) := by
  refine ⟨_, h, by simp, fun i hi => ?_⟩
  rw [Array.getElem?_setIfInBounds, Array.getElem?_setIfInBounds]
  simp only [Array.size_setIfInBounds, zero_size]
  by_cases e2 : 2 = i
  · subst e2; simp [Raw.cell, rawNew]
  · rw [if_neg e2]
    by_cases e0 : 0 = i
    · subst e0; simp [Raw.cell, rawNew]
    · rw [if_neg e0, zero_at i hi]
      unfold Raw.cell zcell rawNew
      by_cases e1 : i = 1
      · subst e1; rfl
      · by_cases e3 : i = 3
        · subst e3; rfl
        · simp only [if_neg (fun e => e0 (Eq.symm e) : ¬ i = 0), if_neg e1, if_neg (fun e => e2 (Eq.symm e) : ¬ i = 2), if_neg e3, Nat.not_lt_zero, if_false]
          have : (i - 4) % 3 < 3 := Nat.mod_lt _ (by omega)
          by_cases c2 : (i - 4) % 3 = 2
          · rw [if_pos c2, if_neg (by omega), if_neg (by omega)]
          · rw [if_neg c2]
            by_cases c0 : (i - 4) % 3 = 0
            · rw [if_pos c0]
            · rw [if_neg c0, if_pos (by omega)]
def arNew (room : Int) : Ar := ⟨room, [], [], fun _ => room, fun _ => 0, fun _ => []⟩

theorem arNew_at (room : Int) (w w' : World) (_hb : Below w.heap.size w w') (hr : RawAt w' (w.heap.size + 1) (rawNew room w.heap.size 64)) (hm : w'.heap[w.heap.size]? = some (.map #[] 0)) : ArAt w' (w.heap.size + 1) (More (fun _ => False) w w') 0 (arNew room) := by
  have hlt := hr.lt
  refine ⟨_, .map [], hr, rfl, World.ownsRow_nil _ _ _ _, ?_, NumIs.empty, IntRow.nil _, fun t ht => ?_, fun t ht => ?_, fun t ht => ?_, fun t ht k hk => ?_, fun t u ht hu htu k hk => ?_, Or.inr ⟨by omega, by omega⟩, Or.inr ⟨Nat.le_refl _, by show w.heap.size < _; omega⟩, fun k hk => ?_, fun k hk => ?_, fun t ht k hk => ?_, fun k hk => ?_⟩
  · have h0 := World.ownsMap_made (H := Unit) w Tryz.prog 97 (plainElem Tryz.prog 3)
    obtain ⟨es, c, e1, e2⟩ := h0
    rw [heap_alloc_new] at e1
    simp at e1
    obtain ⟨rfl, rfl⟩ := e1
    exact ⟨_, _, hm, e2⟩
  · show (if t < 64 then _ else _ : Tn).lim = room
    rw [if_pos ht]
  · show (if t < 64 then _ else _ : Tn).cnt = 0
    rw [if_pos ht]
  · show IntRow w' (if t < 64 then _ else _ : Tn).fr []
    rw [if_pos ht]
    exact IntRow.nil _
  · simp [rawNew, ht, Value.ownBlock] at hk
  · simp [rawNew, ht, Value.ownBlock] at hk
  · simp [rawNew, Value.ownBlock] at hk
  · simp [rawNew, Value.ownBlock] at hk
  · simp [rawNew, ht, Value.ownBlock] at hk
  · rcases hk with h | h
    · exact h.elim
    · exact h.2

set_option maxRecDepth 20000 in
set_option maxHeartbeats 4000000 in
theorem new_any (room : Int) (w : World) (h0 : 0 ≤ room) (h1 : room ≤ 200000) :
    Calls Tryz.prog 23 #[.int .i64 room] w fun e w' => e = .returned (.tuple #[.pointer (some ⟨w.heap.size + 1, 0, none⟩), .int .i64 0]) ∧ ArAt w' (w.heap.size + 1) (More (fun _ => False) w w') 0 (arNew room) ∧ Below w.heap.size w w' := by
  have e1 : ¬ room < 0 := by omega
  have e2 : ¬ 200000 < room := by omega
  have hmm := @run_makeMap Tryz.prog
  go_enter Tryz.func23, Tryz.ntmps23
  go_wp2_with fail
  go_loopg [16] 64 (fun g s16 wr => ∃ k : Nat, k + g = 64 ∧ s16 = .int .i64 k ∧ RawAt wr (w.heap.size + 1) (rawNew room w.heap.size k) ∧ wr.heap[w.heap.size]? = some (.map #[] 0) ∧ Below w.heap.size w wr)
  case atStart =>
    refine ⟨0, by omega, rfl, rawNew_at room w.heap.size _ _ (heap_alloc2_new w _ _), heap_alloc2_old w _ _, ((Below.refl _ _).alloc (Nat.le_refl _) _).alloc (by simp) _⟩
  case round =>
    obtain ⟨k, hkg, rfl, hr, hmp, hbw⟩ := hrel
    have HK : Hid (k + gk = 64) := hkg
    have hk64 : k ≤ 64 := by omega
    clear hkg
    by_cases hlt : k < 64
    · have hi0 : (0 : Int) ≤ k := by omega
      have hi1 : (k : Int) < 64 := by omega
      have cl := hr.at (4 + k * 3) (by omega)
      rw [Raw.cl] at cl
      have fz := hr.frozen (4 + k * 3)
      have hwk : IntKind.i64.wrap ((k : Int) + 1) = (k : Int) + 1 := by rw [IntKind.wrap_i64]; omega
      go_wp2_with fail
      go_roundg (gk - 1)
      case measure => have := HK.out; omega
      case rel =>
        have hr2 := hr.setLim k room
        rw [rawNew_turn] at hr2
        exact ⟨k + 1, by have := HK.out; omega, by go_num, hr2, (heap_set (by omega)).trans hmp, hbw.setCell (p := ⟨w.heap.size + 1, 4 + k * 3, none⟩) (Nat.le_succ _) _⟩
    · have hi1 : ¬ (k : Int) < 64 := by omega
      have hk : k = 64 := by omega
      subst hk
      go_wp2_with fail
      go_ret2
      exact ⟨rfl, arNew_at room w _ hbw hr hmp, hbw⟩
end Go.Proofs.YtgipjplifndniaaGreatDoor.A

namespace Go.Proofs.YtgipjplifndniaaGreatDoor.A
open Go.RowKit Go.Maps

def Ar.limP (A : Ar) (t : Nat) (n : Int) : Ar := { A with lim := upd A.lim t n }
theorem lim_sound {A : Ar} (hS : Sound A) {t : Nat} {n : Int} (h0 : 0 ≤ n) (h1 : n ≤ A.room) : Sound (A.limP t n) :=
  ⟨hS.free, hS.room0, hS.room1, hS.len, hS.mask, hS.zero, hS.fit, hS.lv, hS.va, hS.uniq, fun u hu => by
    show 0 ≤ upd A.lim t n u ∧ upd A.lim t n u ≤ A.room
    unfold upd
    split
    · exact ⟨h0, h1⟩
    · exact hS.lim u hu, hS.cnt, hS.fresh⟩
theorem limP_any (b t : Nat) (F : Nat → Prop) (n : Int) (A : Ar) (w : World) (h : AtP w b F A) (ht : t < 64) (h0 : 0 ≤ n) (h1 : n ≤ A.room) :
    Calls Tryz.prog 12 #[.pointer (some ⟨b, 0, none⟩), .int .i64 t, .int .i64 n] w fun e w' => e = .returned (.int .i64 0) ∧ Led w b F (A.limP t n) w' := by
  obtain ⟨L, r, D, h, hp, hH⟩ := h
  refine (limit_any b t n r w h.raw ht h0 (by rw [show r.room = A.room from h.room]; exact h1)).mono ?_
  rintro e w' ⟨rfl, rfl⟩
  exact ⟨rfl, F, fun k hk => .inl hk, ⟨L, _, D, h.setLim ht n, hp, hH⟩, Apart.set w _ h.fb⟩
theorem new_sound {room : Int} (h0 : 0 ≤ room) (h1 : room ≤ 200000) : Sound (arNew room) :=
  ⟨rfl, h0, h1, h0, fun _ h => (by cases h), fun _ h => (by cases h), fun _ h => (by cases h), fun _ h => (by cases h), fun _ h => (by cases h), fun i j x y hx => (by cases hx), fun _ _ => ⟨h0, Int.le_refl _⟩, fun _ _ => rfl, fun _ _ => ⟨List.nodup_nil, fun _ h => (by cases h)⟩⟩
theorem newP_any (room : Int) (w : World) (h0 : 0 ≤ room) (h1 : room ≤ 200000) :
    Calls Tryz.prog 23 #[.int .i64 room] w fun e w' => e = .returned (.tuple #[.pointer (some ⟨w.heap.size + 1, 0, none⟩), .int .i64 0]) ∧ (∃ F, (∀ k, F k → w.heap.size ≤ k) ∧ AtP w' (w.heap.size + 1) F (arNew room)) ∧ Below w.heap.size w w' := by
  refine (new_any room w h0 h1).mono ?_
  rintro e w' ⟨rfl, ⟨r, D, h⟩, hb⟩
  exact ⟨rfl, ⟨_, fun k hk => (by rcases hk with e | e; exact e.elim; exact e.1), [], r, D, h, List.Perm.refl _, fun k h0 hk => (by simp at hk)⟩, hb⟩
end Go.Proofs.YtgipjplifndniaaGreatDoor.A

namespace Go.Proofs.YtgipjplifndniaaGreatDoor.A
open Go.RowKit Go.Maps

def lsum (L : List Nat) (f : Nat → Int) : Int := (L.map f).sum
theorem lsum_cons (a : Nat) (L : List Nat) (f : Nat → Int) : lsum (a :: L) f = f a + lsum L f := by unfold lsum; rw [List.map_cons, List.sum_cons]
theorem lsum_add (L : List Nat) (f g : Nat → Int) : lsum L (fun u => f u + g u) = lsum L f + lsum L g := by
  induction L with
  | nil => rfl
  | cons a L ih => rw [lsum_cons, lsum_cons, lsum_cons, ih]; omega
theorem lsum_le {L : List Nat} {f g : Nat → Int} (h : ∀ u ∈ L, f u ≤ g u) : lsum L f ≤ lsum L g := by
  induction L with
  | nil => exact Int.le_refl _
  | cons a L ih =>
    rw [lsum_cons, lsum_cons]
    have := h a (by simp)
    have := ih fun u hu => h u (by simp [hu])
    omega
theorem lsum_lt {L : List Nat} {f g : Nat → Int} {t : Nat} (ht : t ∈ L) (h : ∀ u ∈ L, f u ≤ g u) (hlt : f t < g t) : lsum L f < lsum L g := by
  induction L with
  | nil => cases ht
  | cons a L ih =>
    rw [lsum_cons, lsum_cons]
    have h1 := h a (by simp)
    have h2 : lsum L f ≤ lsum L g := lsum_le fun u hu => h u (by simp [hu])
    rcases List.mem_cons.1 ht with e | e
    · subst e; omega
    · have := ih e fun u hu => h u (by simp [hu])
      omega
theorem lsum_one {L : List Nat} {f : Nat → Int} {t : Nat} (ht : t ∈ L) (h : ∀ u ∈ L, 0 ≤ f u) : f t ≤ lsum L f := by
  induction L with
  | nil => cases ht
  | cons a L ih =>
    rw [lsum_cons]
    have h1 := h a (by simp)
    have h2 : 0 ≤ lsum L f := by
      have := lsum_le (L := L) (f := fun _ => 0) (g := f) fun u hu => h u (List.mem_cons_of_mem _ hu)
      have z : ∀ M : List Nat, lsum M (fun _ => 0) = 0 := fun M => by
        induction M with
        | nil => rfl
        | cons a M ih => rw [lsum_cons, ih]; rfl
      rw [z] at this
      exact this
    rcases List.mem_cons.1 ht with e | e
    · subst e; omega
    · have := ih e fun u hu => h u (by simp [hu])
      omega
def tens : List Nat := List.range 64
def bit1 (x : Th) (u : Nat) : Int := if x.mask.testBit u = true then 1 else 0
theorem mask_bit {m : Nat} (h0 : m ≠ 0) (hm : m < 18446744073709551616) : ∃ u, u < 64 ∧ m.testBit u = true := by
  obtain ⟨u, hu⟩ := Nat.exists_testBit_of_ne_zero h0
  refine ⟨u, Nat.lt_of_not_le fun h => ?_, hu⟩
  rw [Nat.testBit_lt_two_pow (Nat.lt_of_lt_of_le (show m < 2 ^ 64 by simpa using hm) (Nat.pow_le_pow_right (by omega) h))] at hu
  cases hu
theorem live_own : ∀ (l : List Th), (∀ x ∈ l, x.mask < 18446744073709551616) → (liveN (swL l) : Int) ≤ lsum tens fun u => (ownN l u : Int)
  | [], _ => by
    show (0 : Int) ≤ lsum tens fun _ => 0
    decide
  | x :: l, hm => by
    have ih := live_own l fun y hy => hm y (by simp [hy])
    have e : (lsum tens fun u => (ownN (x :: l) u : Int)) = (lsum tens fun u => (ownN l u : Int)) + lsum tens (bit1 x) := by
      rw [← lsum_add]
      congr 1
      funext u
      unfold ownN bit1
      rw [List.countP_cons]
      split <;> simp
    rw [e]
    have e2 : liveN (swL (x :: l)) = liveN (swL l) + if (clrT x).k != 0 then 1 else 0 := by
      unfold liveN swL
      rw [List.map_cons, List.countP_cons]
    rw [e2]
    have h0 : 0 ≤ lsum tens (bit1 x) := Int.le_trans (show 0 ≤ bit1 x 0 by unfold bit1; split <;> decide) (lsum_one (by decide) fun u _ => by unfold bit1; split <;> decide)
    by_cases hk : (clrT x).k != 0
    · rw [if_pos hk]
      have hx0 : x.mask ≠ 0 := fun e0 => by
        have : (clrT x).k = 0 := by
          unfold clrT gone
          rw [e0]
          by_cases hx : x.k = 0
          · simp [hx]
          · simp [hx, noTh]
        rw [this] at hk
        simp at hk
      obtain ⟨u, hu, hb⟩ := mask_bit hx0 (hm x (by simp))
      have h1 : (1 : Int) ≤ lsum tens (bit1 x) := Int.le_trans (show 1 ≤ bit1 x u by unfold bit1; rw [if_pos hb]; decide) (lsum_one (by unfold tens; simpa using hu) fun u _ => by unfold bit1; split <;> decide)
      omega
    · rw [if_neg hk]
      omega
structure Roomy (A : Ar) (q : Nat → Int) : Prop where
  le : ∀ u, u < 64 → A.cnt u ≤ q u
  sum : lsum tens q ≤ A.room
theorem roomy_live {A : Ar} (hS : Sound A) : (liveN A.swept.ths : Int) ≤ lsum tens A.cnt := by
  refine Int.le_trans (live_own A.ths hS.mask) (Int.le_of_eq ?_)
  have : ∀ L : List Nat, (∀ u ∈ L, u < 64) → lsum L (fun u => (ownN A.ths u : Int)) = lsum L A.cnt := fun L hL => by
    induction L with
    | nil => rfl
    | cons a L ih =>
      rw [lsum_cons, lsum_cons, ih fun u hu => hL u (by simp [hu]), hS.cnt a (hL a (by simp))]
  exact this tens fun u hu => by unfold tens at hu; simpa using hu
theorem roomy_not {A : Ar} {q : Nat → Int} {t : Nat} (hS : Sound A) (h : Roomy A q) (ht : t < 64) (hlt : A.cnt t < q t) : ¬ A.made.room ≤ (liveN A.made.ths : Int) := by
  have hr := (made_rest A).1
  unfold Ar.made at *
  by_cases h7 : A.room ≤ (liveN A.ths : Int)
  · rw [if_pos h7]
    have h1 := roomy_live hS
    have h2 : lsum tens A.cnt < lsum tens q := lsum_lt (t := t) (by unfold tens; simpa using ht) (fun u hu => h.le u (by unfold tens at hu; simpa using hu)) hlt
    have h3 := h.sum
    show ¬ A.room ≤ _
    omega
  · rw [if_neg h7]; exact h7
theorem beco_rest (A : Ar) (t : Nat) (x : Th) : (A.beco t x).1.lim = A.lim ∧ (A.beco t x).1.room = A.room ∧ (∀ u, u ≠ t → (A.beco t x).1.cnt u = A.cnt u) ∧ A.cnt t ≤ (A.beco t x).1.cnt t ∧ ((A.beco t x).1.cnt t ≤ A.lim t ∨ (A.beco t x).1.cnt t = A.cnt t) := by
  have g : ∀ (B : Ar) (i : Nat) (y : Th), A.cnt t < A.lim t → B.lim = A.lim → B.room = A.room → B.cnt = A.cnt → (B.give t i y).lim = A.lim ∧ (B.give t i y).room = A.room ∧ (∀ u, u ≠ t → (B.give t i y).cnt u = A.cnt u) ∧ A.cnt t ≤ (B.give t i y).cnt t ∧ ((B.give t i y).cnt t ≤ A.lim t ∨ (B.give t i y).cnt t = A.cnt t) := fun B i y hlt h1 h2 h3 => by
    refine ⟨h1, h2, fun u hu => ?_, ?_, ?_⟩
    · show upd B.cnt t (B.cnt t + 1) u = _
      unfold upd; rw [if_neg hu, h3]
    · show A.cnt t ≤ upd B.cnt t (B.cnt t + 1) t
      rw [upd_same, h3]; omega
    · left
      show upd B.cnt t (B.cnt t + 1) t ≤ _
      rw [upd_same, h3]; omega
  obtain ⟨m1, m2, m3, m4⟩ := made_rest A
  unfold Ar.beco
  cases hs : spotF A.ths x.key with
  | some i =>
    simp only
    split
    · exact ⟨rfl, rfl, fun _ _ => rfl, Int.le_refl _, .inr rfl⟩
    · split
      · exact ⟨rfl, rfl, fun _ _ => rfl, Int.le_refl _, .inr rfl⟩
      · rename_i hc
        exact g A i _ (by omega) rfl rfl rfl
  | none =>
    simp only
    split
    · exact ⟨rfl, rfl, fun _ _ => rfl, Int.le_refl _, .inr rfl⟩
    · rename_i hc
      split
      · exact ⟨m2, m1, fun u _ => by rw [m3], by rw [m3]; exact Int.le_refl _, .inr (by rw [m3])⟩
      · obtain ⟨l1, l2, l3, _⟩ := laid_rest A.made x
        exact g _ _ _ (by omega) (l2.trans m2) (l1.trans m1) (l3.trans m3)
theorem lose_rest (A : Ar) (t : Nat) (ids f : List Int) : (A.lose t ids f).lim = A.lim ∧ (A.lose t ids f).room = A.room := ⟨(takes_rest A t ids).2.1, (takes_rest A t ids).2.2.1⟩
theorem join_sound {A : Ar} {t : Nat} {q0 q1 q2 q3 : Int} (hS : Sound A) (ht : t < 64) (h0 : Fits q0) (h1 : Fits q1) (h2 : Fits q2) (h3 : Fits q3) : Sound (A.joinP t q0 q1 q2 q3).1 := by
  unfold Ar.joinP
  split
  · rename_i hj
    refine beco_sound hS ht ?_ fits_zero rfl (by show (1 : Int) ≠ 0; omega) ⟨⟨by show (_ : Int) ≤ 1; omega, by show (1 : Int) ≤ _; omega⟩, h0, h1, h2, h3⟩
    show 0 ≤ (joinE A t q0 q1 q2 q3).2 + 1 ∧ (joinE A t q0 q1 q2 q3).2 + 1 ≤ 44
    revert hj
    unfold joinE joinL
    split
    · rename_i a b c d ha _ _ _
      split
      · intro _
        have := level_lo hS ha
        show 0 ≤ a + 1 ∧ a + 1 ≤ 44
        omega
      · intro h; cases h
    · intro h; cases h
  · exact hS
end Go.Proofs.YtgipjplifndniaaGreatDoor.A

namespace Go.Proofs.YtgipjplifndniaaGreatDoor.A
open Go.RowKit Go.Maps

def Th.face (x : Th) : Ky × Int × Int := (x.key, x.lv, x.va)
def ownV (l : List Th) (u : Nat) (id : Int) : Option (Ky × Int × Int) := (ownF l u id).map Th.face
theorem ownF_iff {l : List Th} {u : Nat} {id : Int} {x : Th} : ownF l u id = some x ↔ 2 ≤ id ∧ l[(id - 2).toNat]? = some x ∧ x.mask.testBit u = true := by
  unfold ownF
  by_cases h : 2 ≤ id
  · rw [if_pos h, Option.filter_eq_some_iff]
    exact ⟨fun k => ⟨h, k.1, k.2⟩, fun k => ⟨k.2.1, k.2.2⟩⟩
  · rw [if_neg h]
    exact ⟨fun k => (by cases k), fun k => absurd k.1 h⟩
theorem ownV_iff {l : List Th} {u : Nat} {id : Int} {f : Ky × Int × Int} : ownV l u id = some f ↔ 2 ≤ id ∧ ∃ x, l[(id - 2).toNat]? = some x ∧ x.mask.testBit u = true ∧ x.face = f := by
  unfold ownV
  rw [Option.map_eq_some_iff]
  constructor
  · rintro ⟨x, h, e⟩
    obtain ⟨h1, h2, h3⟩ := ownF_iff.1 h
    exact ⟨h1, x, h2, h3, e⟩
  · rintro ⟨h1, x, h2, h3, e⟩
    exact ⟨x, ownF_iff.2 ⟨h1, h2, h3⟩, e⟩
theorem ownV_ext {l l' : List Th} {u : Nat} {id : Int} (h : ∀ f, ownV l u id = some f ↔ ownV l' u id = some f) : ownV l u id = ownV l' u id := by
  cases e : ownV l u id with
  | some f => exact ((h f).1 e).symm
  | none =>
    cases e' : ownV l' u id with
    | none => rfl
    | some f => rw [(h f).2 e'] at e; cases e
def levV (V : Int → Option (Ky × Int × Int)) (id : Int) : Option Int := if id = 0 ∨ id = 1 then some 0 else match V id with | some f => if f.1.k = 1 then some f.2.1 else none | none => none
theorem levelF_V (l : List Th) (u : Nat) (id : Int) : levelF l u id = levV (ownV l u) id := by
  unfold levelF levV ownV
  by_cases h : id = 0 ∨ id = 1
  · rw [if_pos h, if_pos h]
  · rw [if_neg h, if_neg h]
    cases ownF l u id with
    | none => rfl
    | some x => rfl
theorem ownV_swept (l : List Th) (u : Nat) (id : Int) : ownV (swL l) u id = ownV l u id := by
  refine ownV_ext fun f => ?_
  rw [ownV_iff, ownV_iff]
  constructor
  · rintro ⟨h1, x, h2, h3, h4⟩
    rw [swL_get, Option.map_eq_some_iff] at h2
    obtain ⟨y, h5, rfl⟩ := h2
    cases hg : gone y with
    | false => rw [clrT_keep hg] at h3 h4; exact ⟨h1, y, h5, h3, h4⟩
    | true => rw [clrT_gone hg] at h3; simp [noTh] at h3
  · rintro ⟨h1, x, h2, h3, h4⟩
    exact ⟨h1, x, by rw [swL_get, h2, Option.map_some, clrT_keep (own_not_gone h3)], h3, h4⟩
theorem ownV_made (A : Ar) (u : Nat) (id : Int) : ownV A.made.ths u id = ownV A.ths u id := by
  unfold Ar.made
  split
  · exact ownV_swept _ _ _
  · rfl
theorem ownV_laid {A : Ar} {x : Th} (hS : Sound A) (hx : x.mask = 0) (u : Nat) (id : Int) : ownV (A.laid x).1.ths u id = ownV A.ths u id := by
  refine ownV_ext fun f => ?_
  rw [ownV_iff, ownV_iff]
  constructor
  · rintro ⟨h1, y, h2, h3, h4⟩
    rcases laid_back A x _ y h2 with ⟨_, e⟩ | ⟨_, e⟩
    · subst e; rw [hx] at h3; simp at h3
    · exact ⟨h1, y, e, h3, h4⟩
  · rintro ⟨h1, y, h2, h3, h4⟩
    refine ⟨h1, y, (laid_other A x _ y h2 fun e => ?_).1, h3, h4⟩
    rw [hS.zero y (List.mem_of_getElem? h2) e] at h3
    simp [noTh] at h3
theorem ownV_give {A : Ar} {t i : Nat} {x : Th} (hx : A.ths[i]? = some x) (u : Nat) (id : Int) : ownV (A.give t i x).ths u id = if u = t ∧ id = (i : Int) + 2 then some x.face else ownV A.ths u id := by
  have hi := (List.getElem?_eq_some_iff.1 hx).1
  have hget : ∀ j : Nat, (A.give t i x).ths[j]? = if i = j then some { x with mask := x.mask ||| bitN t } else A.ths[j]? := fun j => by
    show (A.ths.set i _)[j]? = _
    rw [List.getElem?_set]
    by_cases e : i = j
    · subst e; simp [hi]
    · simp [e]
  by_cases h : u = t ∧ id = (i : Int) + 2
  · rw [if_pos h]
    obtain ⟨rfl, rfl⟩ := h
    refine ownV_iff.2 ⟨by omega, { x with mask := x.mask ||| bitN u }, ?_, ?_, rfl⟩
    · rw [hget, if_pos (by omega)]
    · simp [Nat.testBit_or, bitN]
  · rw [if_neg h]
    refine ownV_ext fun f => ?_
    rw [ownV_iff, ownV_iff, hget]
    by_cases e : i = (id - 2).toNat
    · rw [if_pos e, ← e, hx]
      constructor
      · rintro ⟨h1, y, h2, h3, h4⟩
        obtain rfl := Option.some.inj h2
        refine ⟨h1, x, rfl, ?_, h4⟩
        simp only [Nat.testBit_or, Bool.or_eq_true] at h3
        rcases h3 with h3 | h3
        · exact h3
        · unfold bitN at h3
          rw [Nat.testBit_two_pow, decide_eq_true_eq] at h3
          exact absurd ⟨h3.symm, by omega⟩ h
      · rintro ⟨h1, y, h2, h3, h4⟩
        obtain rfl := Option.some.inj h2
        exact ⟨h1, _, rfl, by simp [Nat.testBit_or, h3], h4⟩
    · rw [if_neg e]
theorem ownV_lose {A : Ar} {t : Nat} {ids f : List Int} (hS : Sound A) (ht : t < 64) (h : OwnIds A.ths t ids) (u : Nat) (id : Int) : ownV (A.lose t ids f).ths u id = if u = t ∧ id ∈ ids then none else ownV A.ths u id := by
  have key : ∀ g, ownV (A.lose t ids f).ths u id = some g ↔ ownV A.ths u id = some g ∧ ¬ (u = t ∧ id ∈ ids) := fun g => by
    rw [ownV_iff, ownV_iff]
    constructor
    · rintro ⟨h1, y, h2, h3, h4⟩
      obtain ⟨x, hx, e1, e2, e3, _, e5⟩ := takes_back ht h hS.mask h2
      obtain ⟨k1, k2⟩ := (e5 u).1 h3
      rw [show (((id - 2).toNat : Nat) : Int) + 2 = id by omega] at k2
      exact ⟨⟨h1, x, hx, k1, by rw [← h4]; unfold Th.face; rw [e1, e2, e3]⟩, k2⟩
    · rintro ⟨⟨h1, x, hx, h3, h4⟩, hn⟩
      obtain ⟨y, y1, e1, e2, e3, _, e5⟩ := takes_get t ht ids A (fun k hk => by
        obtain ⟨a, z, hz, _⟩ := h.2 k hk
        exact ⟨a, (List.getElem?_eq_some_iff.1 hz).1⟩) hS.mask _ x hx
      refine ⟨h1, y, y1, (e5 u).2 ⟨h3, ?_⟩, by rw [← h4]; unfold Th.face; rw [e1, e2, e3]⟩
      rw [show (((id - 2).toNat : Nat) : Int) + 2 = id by omega]
      exact hn
  by_cases c : u = t ∧ id ∈ ids
  · rw [if_pos c]
    cases e : ownV (A.lose t ids f).ths u id with
    | none => rfl
    | some g => exact absurd c ((key g).1 e).2
  · rw [if_neg c]
    exact ownV_ext fun g => ⟨fun e => ((key g).1 e).1, fun e => (key g).2 ⟨e, c⟩⟩
structure Vw where
  V : Int → Option (Ky × Int × Int)
  cnt : Int
  lim : Int
  fresh : List Int
def view (A : Ar) (u : Nat) : Vw := ⟨ownV A.ths u, A.cnt u, A.lim u, A.fresh u⟩
theorem view_ext {A B : Ar} {u : Nat} (h1 : ∀ id, ownV A.ths u id = ownV B.ths u id) (h2 : A.cnt u = B.cnt u) (h3 : A.lim u = B.lim u) (h4 : A.fresh u = B.fresh u) : view A u = view B u := by
  unfold view
  rw [h2, h3, h4, show ownV A.ths u = ownV B.ths u from funext h1]
def Vw.more (v : Vw) (id : Int) (f : Ky × Int × Int) : Vw := ⟨fun k => if k = id then some f else v.V k, v.cnt + 1, v.lim, v.fresh ++ [id]⟩
def Vw.less (v : Vw) (ids f : List Int) : Vw := ⟨fun k => if k ∈ ids then none else v.V k, v.cnt - (ids.length : Int), v.lim, f⟩
theorem view_made (A : Ar) (u : Nat) : view A.made u = view A u := by
  obtain ⟨_, m2, m3, m4⟩ := made_rest A
  exact view_ext (fun id => ownV_made A u id) (by rw [m3]) (by rw [m2]) (by rw [m4])
theorem view_lose {A : Ar} {t : Nat} {ids f : List Int} (hS : Sound A) (ht : t < 64) (h : OwnIds A.ths t ids) : view (A.lose t ids f) t = (view A t).less ids f ∧ ∀ u, u ≠ t → view (A.lose t ids f) u = view A u := by
  refine ⟨?_, fun u hu => ?_⟩
  · unfold view Vw.less
    have e1 : (A.lose t ids f).cnt t = A.cnt t - (ids.length : Int) := by show (A.takes t ids).cnt t = _; rw [takes_cnt, upd_same]
    have e2 : (A.lose t ids f).fresh t = f := upd_same _ _ _
    rw [e1, e2, (lose_rest A t ids f).1]
    congr 1
    funext id
    rw [ownV_lose hS ht h]
    simp
  · refine view_ext (fun id => by rw [ownV_lose hS ht h, if_neg fun e => hu e.1]) ?_ (by rw [(lose_rest A t ids f).1]) ?_
    · show (A.takes t ids).cnt u = _
      rw [takes_cnt]; unfold upd; rw [if_neg hu]
    · show upd A.fresh t f u = _
      unfold upd; rw [if_neg hu]
theorem view_give {A : Ar} {t i : Nat} {x : Th} (hx : A.ths[i]? = some x) : view (A.give t i x) t = (view A t).more ((i : Int) + 2) x.face ∧ ∀ u, u ≠ t → view (A.give t i x) u = view A u := by
  refine ⟨?_, fun u hu => view_ext (fun id => by rw [ownV_give hx, if_neg fun e => hu e.1]) ?_ rfl ?_⟩
  · unfold view Vw.more
    have e1 : (A.give t i x).cnt t = A.cnt t + 1 := upd_same _ _ _
    have e2 : (A.give t i x).fresh t = A.fresh t ++ [(i : Int) + 2] := upd_same _ _ _
    rw [e1, e2]
    congr 1
    funext id
    rw [ownV_give hx]
    simp
  · show upd A.cnt t _ u = _
    unfold upd; rw [if_neg hu]
  · show upd A.fresh t _ u = _
    unfold upd; rw [if_neg hu]
theorem beco_view {A : Ar} {t : Nat} {x : Th} (hS : Sound A) (_ht : t < 64) (hk : x.k ≠ 0) (hx : x.mask = 0) (hfull : (A.beco t x).2.2 ≠ 5) (hface : ∀ (i : Nat) (y : Th), A.ths[i]? = some y → y.key = x.key → y.lv = x.lv ∧ y.va = x.va) :
    (∃ id, ownV A.ths t id = some x.face ∧ A.beco t x = (A, id, 0)) ∨ ((∀ id f, ownV A.ths t id = some f → f.1 ≠ x.key) ∧ ((A.lim t ≤ A.cnt t ∧ A.beco t x = (A, 0, 9)) ∨
      (A.cnt t < A.lim t ∧ ∃ id, 2 ≤ id ∧ ownV A.ths t id = none ∧ (A.beco t x).2 = (id, 0) ∧ view (A.beco t x).1 t = (view A t).more id x.face ∧ ∀ u, u ≠ t → view (A.beco t x).1 u = view A u))) := by
  unfold Ar.beco at hfull ⊢
  cases hs : spotF A.ths x.key with
  | some i =>
    rw [hs] at hfull
    simp only at hfull ⊢
    obtain ⟨y, h1, h2, h3⟩ := spot_at hs
    obtain ⟨f1, f2⟩ := hface i y h1 h2
    have hface' : y.face = x.face := by unfold Th.face; rw [h2, f1, f2]
    rw [h3] at hfull ⊢
    by_cases hb : y.mask.testBit t = true
    · rw [if_pos hb]
      exact .inl ⟨(i : Int) + 2, ownV_iff.2 ⟨by omega, y, by rw [show (((i : Int) + 2 - 2).toNat) = i by omega]; exact h1, hb, hface'⟩, rfl⟩
    · rw [if_neg hb]
      have hno : ∀ id f, ownV A.ths t id = some f → f.1 ≠ x.key := fun id f hf e => by
        obtain ⟨g1, z, g2, g3, g4⟩ := ownV_iff.1 hf
        have hzk : z.key = x.key := by rw [← e, ← g4]; rfl
        have := hS.uniq _ i z y g2 h1 (by rw [key_k hzk]; exact hk) (hzk.trans h2.symm)
        rw [this, h1] at g2
        obtain rfl := Option.some.inj g2
        exact hb g3
      refine .inr ⟨hno, ?_⟩
      by_cases hq : A.lim t ≤ A.cnt t
      · rw [if_pos hq]; exact .inl ⟨hq, rfl⟩
      · rw [if_neg hq]
        refine .inr ⟨by omega, (i : Int) + 2, by omega, ?_, rfl, ?_, (view_give h1).2⟩
        · cases e : ownV A.ths t ((i : Int) + 2) with
          | none => rfl
          | some f =>
            obtain ⟨_, z, g2, g3, _⟩ := ownV_iff.1 e
            rw [show (((i : Int) + 2 - 2).toNat) = i by omega, h1] at g2
            obtain rfl := Option.some.inj g2
            exact absurd g3 hb
        · rw [← hface']; exact (view_give h1).1
  | none =>
    rw [hs] at hfull
    simp only at hfull ⊢
    have hno : ∀ id f, ownV A.ths t id = some f → f.1 ≠ x.key := fun id f hf e => by
      obtain ⟨g1, z, g2, g3, g4⟩ := ownV_iff.1 hf
      exact spot_none hs z (List.mem_of_getElem? g2) (by rw [← e, ← g4]; rfl)
    refine .inr ⟨hno, ?_⟩
    by_cases hq : A.lim t ≤ A.cnt t
    · rw [if_pos hq]; exact .inl ⟨hq, rfl⟩
    · rw [if_neg hq] at hfull ⊢
      by_cases hr : A.made.room ≤ (liveN A.made.ths : Int)
      · rw [if_pos hr] at hfull; exact absurd rfl hfull
      · rw [if_neg hr]
        have hSm := made_sound hS
        have hat := laid_at A.made x
        have hvl : ∀ u, view (A.made.laid x).1 u = view A u := fun u => by
          obtain ⟨_, l2, l3, l4, _⟩ := laid_rest A.made x
          rw [← view_made A u]
          exact view_ext (fun id => ownV_laid hSm hx u id) (by rw [l3]) (by rw [l2]) (by rw [l4])
        refine .inr ⟨by omega, ((A.made.laid x).2 : Int) + 2, by omega, ?_, rfl, ?_, fun u hu => by rw [(view_give hat).2 u hu, hvl]⟩
        · cases e : ownV A.ths t (((A.made.laid x).2 : Int) + 2) with
          | none => rfl
          | some f =>
            have e2 : ownV (A.made.laid x).1.ths t (((A.made.laid x).2 : Int) + 2) = some f := by
              have := congrArg Vw.V (hvl t)
              exact (congrFun this _).trans e
            obtain ⟨_, z, g2, g3, _⟩ := ownV_iff.1 e2
            rw [show ((((A.made.laid x).2 : Int) + 2 - 2).toNat) = (A.made.laid x).2 by omega, hat] at g2
            obtain rfl := Option.some.inj g2
            rw [hx] at g3
            simp at g3
        · rw [(view_give hat).1, hvl]
end Go.Proofs.YtgipjplifndniaaGreatDoor.A

namespace Go.Proofs.YtgipjplifndniaaGreatDoor.A
open Go.RowKit Go.Maps

def refsV (f : Ky × Int × Int) : List Int := if f.1.k = 1 then [f.1.p0, f.1.p1, f.1.p2, f.1.p3] else [f.1.p0, f.2.2]
def partsT (x : Th) : List Int := [x.p0, x.p1, x.p2, x.p3]
inductive Rch (V : Int → Option (Ky × Int × Int)) (rs : List Int) : Int → Prop
  | root {id : Int} {f : Ky × Int × Int} : id ∈ rs → V id = some f → f.1.k = 1 → Rch V rs id
  | part {id r : Int} {f g : Ky × Int × Int} : Rch V rs id → V id = some f → r ∈ refsV f → V r = some g → g.1.k = 1 → Rch V rs r
end Go.Proofs.YtgipjplifndniaaGreatDoor.A
