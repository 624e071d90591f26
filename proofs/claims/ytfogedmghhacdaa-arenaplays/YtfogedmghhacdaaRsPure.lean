/- The plain store and the arena, in plain words: each is the other. -/
import Derived.Test.YtfogedmghhacdaaArCleanG
import Derived.Test.YtfogedmghhacdaaRsGiveB
namespace Go.Proofs.Ytfogedmghhacdaa.A
open Go.RowKit Go.Maps

def zcell (i : Nat) : Value := if i = 0 then .int .i64 0 else if i = 1 then .slice none 0 0 else if i = 2 then .map none else if i = 3 then .slice none 0 0 else if (i - 4) % 3 = 2 then .slice none 0 0 else .int .i64 0
set_option maxRecDepth 100000 in
theorem zero_list : Try.zeroCells70.toList = (List.range 196).map zcell := by kernel_rfl
theorem zero_at (i : Nat) (hi : i < 196) : Try.zeroCells70[i]? = some (zcell i) := by
  rw [← Array.getElem?_toList, zero_list]
  simp [hi]
theorem zero_size : Try.zeroCells70.size = 196 := by
  rw [← Array.length_toList, zero_list]
  simp
/-- a new arena's block, the first k tenants' limits set -/
def rawNew (room : Int) (mp k : Nat) : Raw := ⟨room, .slice none 0 0, mp, .slice none 0 0, fun t => if t < k then ⟨room, 0, .slice none 0 0⟩ else ⟨0, 0, .slice none 0 0⟩⟩
theorem rawNew_turn (room : Int) (mp k : Nat) : (rawNew room mp k).turn k { (rawNew room mp k).tn k with lim := room } = rawNew room mp (k + 1) := by
  unfold Raw.turn rawNew
  simp only [Raw.mk.injEq, true_and]
  funext t
  by_cases e : t = k
  · subst e; simp
  · by_cases h : t < k
    · simp [e, h, Nat.lt_succ_of_lt h]
    · have : ¬ t < k + 1 := by omega
      simp [e, h, this]
theorem rawNew_at (room : Int) (mp : Nat) (w : World) (b : Nat) (h : w.heap[b]? = some (.cells ((Try.zeroCells70.setIfInBounds 0 (.int .i64 room)).setIfInBounds 2 (.map (some mp))) 70 (0, 0))) : RawAt w b (rawNew room mp 0) := by
  refine ⟨_, h, by simp, fun i hi => ?_⟩
  rw [Array.getElem?_setIfInBounds, Array.getElem?_setIfInBounds]
  simp only [Array.size_setIfInBounds, zero_size]
  by_cases e2 : 2 = i
  · subst e2; simp [Raw.cell, rawNew]
  · rw [if_neg e2]
    by_cases e0 : 0 = i
    · subst e0; simp [Raw.cell, rawNew]
    · rw [if_neg e0, zero_at i hi]
      unfold Raw.cell zcell rawNew
      by_cases e1 : i = 1
      · subst e1; rfl
      · by_cases e3 : i = 3
        · subst e3; rfl
        · simp only [if_neg (fun e => e0 (Eq.symm e) : ¬ i = 0), if_neg e1, if_neg (fun e => e2 (Eq.symm e) : ¬ i = 2), if_neg e3, Nat.not_lt_zero, if_false]
          have : (i - 4) % 3 < 3 := Nat.mod_lt _ (by omega)
          by_cases c2 : (i - 4) % 3 = 2
          · rw [if_pos c2, if_neg (by omega), if_neg (by omega)]
          · rw [if_neg c2]
            by_cases c0 : (i - 4) % 3 = 0
            · rw [if_pos c0]
            · rw [if_neg c0, if_pos (by omega)]
/-- a new arena -/
def arNew (room : Int) : Ar := ⟨room, [], [], fun _ => room, fun _ => 0, fun _ => []⟩

theorem arNew_at (room : Int) (w w' : World) (_hb : Below w.heap.size w w') (hr : RawAt w' (w.heap.size + 1) (rawNew room w.heap.size 64)) (hm : w'.heap[w.heap.size]? = some (.map #[] 0)) : ArAt w' (w.heap.size + 1) (More (fun _ => False) w w') 0 (arNew room) := by
  have hlt := hr.lt
  refine ⟨_, .map [], hr, rfl, World.ownsRow_nil _ _ _ _, ?_, NumIs.empty, IntRow.nil _, fun t ht => ?_, fun t ht => ?_, fun t ht => ?_, fun t ht k hk => ?_, fun t u ht hu htu k hk => ?_, Or.inr ⟨by omega, by omega⟩, Or.inr ⟨Nat.le_refl _, by show w.heap.size < _; omega⟩, fun k hk => ?_, fun k hk => ?_, fun t ht k hk => ?_, fun k hk => ?_⟩
  · have h0 := World.ownsMap_made (H := Unit) w Try.prog 80 (plainElem Try.prog 3)
    obtain ⟨es, c, e1, e2⟩ := h0
    rw [heap_alloc_new] at e1
    simp at e1
    obtain ⟨rfl, rfl⟩ := e1
    exact ⟨_, _, hm, e2⟩
  · show (if t < 64 then _ else _ : Tn).lim = room
    rw [if_pos ht]
  · show (if t < 64 then _ else _ : Tn).cnt = 0
    rw [if_pos ht]
  · show IntRow w' (if t < 64 then _ else _ : Tn).fr []
    rw [if_pos ht]
    exact IntRow.nil _
  · simp [rawNew, ht, Value.ownBlock] at hk
  · simp [rawNew, ht, Value.ownBlock] at hk
  · simp [rawNew, Value.ownBlock] at hk
  · simp [rawNew, Value.ownBlock] at hk
  · simp [rawNew, ht, Value.ownBlock] at hk
  · rcases hk with h | h
    · exact h.elim
    · exact h.2

set_option maxRecDepth 20000 in
set_option maxHeartbeats 4000000 in
theorem new_any (room : Int) (w : World) (h0 : 0 ≤ room) (h1 : room ≤ 200000) :
    Calls Try.prog 6 #[.int .i64 room] w fun e w' => e = .returned (.tuple #[.pointer (some ⟨w.heap.size + 1, 0, none⟩), .int .i64 0]) ∧ ArAt w' (w.heap.size + 1) (More (fun _ => False) w w') 0 (arNew room) ∧ Below w.heap.size w w' := by
  have e1 : ¬ room < 0 := by omega
  have e2 : ¬ 200000 < room := by omega
  have hmm := @run_makeMap Try.prog
  go_enter Try.func6, Try.ntmps6
  go_wp2_with fail
  go_loopg [16] 64 (fun g s16 wr => ∃ k : Nat, k + g = 64 ∧ s16 = .int .i64 k ∧ RawAt wr (w.heap.size + 1) (rawNew room w.heap.size k) ∧ wr.heap[w.heap.size]? = some (.map #[] 0) ∧ Below w.heap.size w wr)
  case atStart =>
    refine ⟨0, by omega, rfl, rawNew_at room w.heap.size _ _ (heap_alloc2_new w _ _), heap_alloc2_old w _ _, ((Below.refl _ _).alloc (Nat.le_refl _) _).alloc (by simp) _⟩
  case round =>
    obtain ⟨k, hkg, rfl, hr, hmp, hbw⟩ := hrel
    have HK : Hid (k + gk = 64) := hkg
    have hk64 : k ≤ 64 := by omega
    clear hkg
    by_cases hlt : k < 64
    · have hi0 : (0 : Int) ≤ k := by omega
      have hi1 : (k : Int) < 64 := by omega
      have cl := hr.at (4 + k * 3) (by omega)
      rw [Raw.cl] at cl
      have fz := hr.frozen (4 + k * 3)
      have hwk : IntKind.i64.wrap ((k : Int) + 1) = (k : Int) + 1 := by rw [IntKind.wrap_i64]; omega
      go_wp2_with fail
      go_roundg (gk - 1)
      case measure => have := HK.out; omega
      case rel =>
        have hr2 := hr.setLim k room
        rw [rawNew_turn] at hr2
        exact ⟨k + 1, by have := HK.out; omega, by go_num, hr2, (heap_set (by omega)).trans hmp, hbw.setCell (p := ⟨w.heap.size + 1, 4 + k * 3, none⟩) (Nat.le_succ _) _⟩
    · have hi1 : ¬ (k : Int) < 64 := by omega
      have hk : k = 64 := by omega
      subst hk
      go_wp2_with fail
      go_ret2
      exact ⟨rfl, arNew_at room w _ hbw hr hmp, hbw⟩
end Go.Proofs.Ytfogedmghhacdaa.A

namespace Go.Proofs.Ytfogedmghhacdaa.A
open Go.RowKit Go.Maps

/-- an arena cleaned for a tenant: what it keeps is what some numbers are made of -/
def Ar.cleanP (A : Ar) (t : Nat) (rs : List Int) : Ar := A.lose t (idsF A.ths t (keepAll A.ths t rs) A.ths.length) []
theorem clean_sound {A : Ar} (hS : Sound A) {t : Nat} (ht : t < 64) (rs : List Int) : Sound (A.cleanP t rs) := lose_sound hS ht (ids_own (Nat.le_refl _)) (own_nil _ _) (fun _ h => by cases h)

set_option maxHeartbeats 1000000 in
theorem cleanP_any (b t : Nat) (F : Nat → Prop) (A : Ar) (rs : List Int) (rv : Value) (w : World) (h : AtP w b F A) (hS : Sound A) (ht : t < 64) (hrow : NRow w rv rs) (hrl : rs.length < 1000000) (hfit : ∀ id ∈ rs, Fits id) :
    Calls Try.prog 21 #[.pointer (some ⟨b, 0, none⟩), .int .i64 t, rv] w fun e w' => e = .returned (.int .i64 ((idsF A.ths t (keepAll A.ths t rs) A.ths.length).length : Int)) ∧ Led w b F (A.cleanP t rs) w' := by
  obtain ⟨ra, rc, rfl, hrow⟩ := hrow
  have hh := h
  obtain ⟨L, r, D, h, hp, hH⟩ := h
  have hl := hS.len
  have hrm := hS.room1
  have hc := hS.cnt t ht
  have hon : ownN A.ths t ≤ A.ths.length := List.countP_le_length
  have hkb : ¬ F w.heap.size := fun e => by have := h.flt _ e; omega
  refine (cleanq_any b _ t F { A with free := L } r D rs ra rc w h ht hS.mask (by show A.ths.length < _; omega) (by show 0 ≤ A.cnt t ∧ A.cnt t < _; omega) hrow hrl (fun id K W hid hW hM hK =>
    keepP_any b t w.heap.size A.ths.length F A hS ht hkb rfl A.ths.length id K W ⟨L, r, D, hW, hp, hH⟩ hM hK (by have := un_all K; have hK : K.length = A.ths.length := hK; omega) (hfit id hid))).mono ?_
  rintro e w' ⟨rfl, ⟨r', D', h'⟩, P⟩
  have hown := ids_own (l := A.ths) (t := t) (K := keepAll A.ths t rs) (Nat.le_refl A.ths.length)
  refine ⟨rfl, F, fun k hk => .inl hk, ⟨L, r', D', ?_, ?_, hH⟩, P⟩
  · have e1 := (live_takes ht hown hS.mask).2
    have e2 : ({ A.cleanP t rs with free := L } : Ar) = ({ A with free := L } : Ar).clean t (keepAll A.ths t rs) := by
      unfold Ar.cleanP Ar.lose Ar.clean
      rw [takes_free L t (idsF ({ A with free := L } : Ar).ths t (keepAll A.ths t rs) ({ A with free := L } : Ar).ths.length) A]
    show ArRaw w' b F (liveN (A.takes t (idsF A.ths t (keepAll A.ths t rs) A.ths.length)).ths) _ _ _
    rw [e1, e2]; exact h'
  · show L.Perm (freeIds (A.takes t (idsF A.ths t (keepAll A.ths t rs) A.ths.length)).ths)
    rw [(live_takes ht hown hS.mask).1]; exact hp
theorem LevelP_any (b t : Nat) (F : Nat → Prop) (id : Int) (A : Ar) (w : World) (h : AtP w b F A) (hS : Sound A) (ht : t < 64) (hid : Fits id) :
    Calls Try.prog 28 #[.pointer (some ⟨b, 0, none⟩), .int .i64 t, .int .i64 id] w fun e w' => e = .returned (.tuple #[.int .i64 ((levelF A.ths t id).getD 0), .int .i64 (lack (levelF A.ths t id))]) ∧ Below w.heap.size w w' := by
  obtain ⟨L, r, D, h, _⟩ := h
  exact Level_any b 0 t id r A.ths w h.raw h.ths ht hS.mask hid
/-- what a tenant may have -/
def Ar.limP (A : Ar) (t : Nat) (n : Int) : Ar := { A with lim := upd A.lim t n }
theorem lim_sound {A : Ar} (hS : Sound A) {t : Nat} {n : Int} (h0 : 0 ≤ n) (h1 : n ≤ A.room) : Sound (A.limP t n) :=
  ⟨hS.free, hS.room0, hS.room1, hS.len, hS.mask, hS.zero, hS.fit, hS.lv, hS.va, hS.uniq, fun u hu => by
    show 0 ≤ upd A.lim t n u ∧ upd A.lim t n u ≤ A.room
    unfold upd
    split
    · exact ⟨h0, h1⟩
    · exact hS.lim u hu, hS.cnt, hS.fresh⟩
theorem limP_any (b t : Nat) (F : Nat → Prop) (n : Int) (A : Ar) (w : World) (h : AtP w b F A) (ht : t < 64) (h0 : 0 ≤ n) (h1 : n ≤ A.room) :
    Calls Try.prog 15 #[.pointer (some ⟨b, 0, none⟩), .int .i64 t, .int .i64 n] w fun e w' => e = .returned (.int .i64 0) ∧ Led w b F (A.limP t n) w' := by
  obtain ⟨L, r, D, h, hp, hH⟩ := h
  refine (limit_any b t n r w h.raw ht h0 (by rw [show r.room = A.room from h.room]; exact h1)).mono ?_
  rintro e w' ⟨rfl, rfl⟩
  exact ⟨rfl, F, fun k hk => .inl hk, ⟨L, _, D, h.setLim ht n, hp, hH⟩, Apart.set w _ h.fb⟩
theorem new_sound {room : Int} (h0 : 0 ≤ room) (h1 : room ≤ 200000) : Sound (arNew room) :=
  ⟨rfl, h0, h1, h0, fun _ h => (by cases h), fun _ h => (by cases h), fun _ h => (by cases h), fun _ h => (by cases h), fun _ h => (by cases h), fun i j x y hx => (by cases hx), fun _ _ => ⟨h0, Int.le_refl _⟩, fun _ _ => rfl, fun _ _ => ⟨List.nodup_nil, fun _ h => (by cases h)⟩⟩
theorem newP_any (room : Int) (w : World) (h0 : 0 ≤ room) (h1 : room ≤ 200000) :
    Calls Try.prog 6 #[.int .i64 room] w fun e w' => e = .returned (.tuple #[.pointer (some ⟨w.heap.size + 1, 0, none⟩), .int .i64 0]) ∧ (∃ F, (∀ k, F k → w.heap.size ≤ k) ∧ AtP w' (w.heap.size + 1) F (arNew room)) ∧ Below w.heap.size w w' := by
  refine (new_any room w h0 h1).mono ?_
  rintro e w' ⟨rfl, ⟨r, D, h⟩, hb⟩
  exact ⟨rfl, ⟨_, fun k hk => (by rcases hk with e | e; exact e.elim; exact e.1), [], r, D, h, List.Perm.refl _, fun k h0 hk => (by simp at hk)⟩, hb⟩
end Go.Proofs.Ytfogedmghhacdaa.A

namespace Go.Proofs.Ytfogedmghhacdaa.A
open Go.RowKit

/-- a thing of the arena, as the plain store has it -/
def toRt (i : Nat) (x : Th) : Rt := ⟨(i : Int) + 2, x.k - 1, x.lv, x.va, x.p0, x.p1, x.p2, x.p3, x.mask⟩
def refL : Nat → List Th → List Rt
  | _, [] => []
  | i, x :: l => if x.k = 0 then refL (i + 1) l else toRt i x :: refL (i + 1) l
theorem ref_zero {i : Nat} {x : Th} {l : List Th} (h : x.k = 0) : refL i (x :: l) = refL (i + 1) l := if_pos h
theorem ref_one {i : Nat} {x : Th} {l : List Th} (h : x.k ≠ 0) : refL i (x :: l) = toRt i x :: refL (i + 1) l := if_neg h
theorem mem_ref : ∀ (l : List Th) (i : Nat) (r : Rt), r ∈ refL i l ↔ ∃ (j : Nat) (x : Th), l[j]? = some x ∧ x.k ≠ 0 ∧ r = toRt (i + j) x
  | [], i, r => by simp [refL]
  | y :: l, i, r => by
    have ih := mem_ref l (i + 1) r
    have sh : (∃ (j : Nat) (x : Th), l[j]? = some x ∧ x.k ≠ 0 ∧ r = toRt (i + 1 + j) x) → ∃ (j : Nat) (x : Th), (y :: l)[j]? = some x ∧ x.k ≠ 0 ∧ r = toRt (i + j) x := fun ⟨j, x, h1, h2, h3⟩ =>
      ⟨j + 1, x, by simpa using h1, h2, by rw [h3]; congr 1; omega⟩
    by_cases hy : y.k = 0
    · rw [ref_zero hy, ih]
      refine ⟨sh, fun ⟨j, x, h1, h2, h3⟩ => ?_⟩
      cases j with
      | zero => simp at h1; subst h1; exact absurd hy h2
      | succ j => exact ⟨j, x, by simpa using h1, h2, by rw [h3]; congr 1; omega⟩
    · rw [ref_one hy, List.mem_cons, ih]
      constructor
      · rintro (h | h)
        · exact ⟨0, y, rfl, hy, by rw [h]; rfl⟩
        · exact sh h
      · rintro ⟨j, x, h1, h2, h3⟩
        cases j with
        | zero => simp at h1; subst h1; exact .inl h3
        | succ j => exact .inr ⟨j, x, by simpa using h1, h2, by rw [h3]; congr 1; omega⟩
theorem ref_len : ∀ (l : List Th) (i : Nat), (refL i l).length = liveN l
  | [], i => rfl
  | y :: l, i => by
    have ih := ref_len l (i + 1)
    unfold liveN at *
    by_cases hy : y.k = 0
    · rw [ref_zero hy, ih, List.countP_cons_of_neg (by simp [hy])]
    · rw [ref_one hy, List.length_cons, ih, List.countP_cons_of_pos (by simpa using hy)]
theorem ref_own {t : Nat} : ∀ (l : List Th) (i : Nat), (∀ x ∈ l, x.k = 0 → x = noTh) → ownS (refL i l) t = ownN l t
  | [], i, _ => rfl
  | y :: l, i, hz => by
    have ih := ref_own (t := t) l (i + 1) fun x hx => hz x (by simp [hx])
    unfold ownS ownN at *
    by_cases hy : y.k = 0
    · rw [ref_zero hy, ih, List.countP_cons_of_neg (by rw [hz y (by simp) hy]; simp [noTh])]
    · rw [ref_one hy, List.countP_cons, List.countP_cons, ih]
      rfl
theorem ref_ids : ∀ (l : List Th) (i : Nat), (refL i l).Pairwise fun a b => a.id < b.id
  | [], i => List.Pairwise.nil
  | y :: l, i => by
    by_cases hy : y.k = 0
    · rw [ref_zero hy]; exact ref_ids l (i + 1)
    · rw [ref_one hy, List.pairwise_cons]
      refine ⟨fun r hr => ?_, ref_ids l (i + 1)⟩
      obtain ⟨j, x, _, _, h3⟩ := (mem_ref l (i + 1) r).1 hr
      rw [h3]
      show (i : Int) + 2 < ((i + 1 + j : Nat) : Int) + 2
      omega
theorem ref_inj {l : List Th} {i p q : Nat} {r s : Rt} (hp : (refL i l)[p]? = some r) (hq : (refL i l)[q]? = some s) (h : r.id = s.id) : p = q := by
  obtain ⟨hp1, hp2⟩ := List.getElem?_eq_some_iff.1 hp
  obtain ⟨hq1, hq2⟩ := List.getElem?_eq_some_iff.1 hq
  have hw := List.pairwise_iff_getElem.1 (ref_ids l i)
  rcases Nat.lt_trichotomy p q with e | e | e
  · have := hw p q hp1 hq1 e
    rw [hp2, hq2] at this
    omega
  · exact e
  · have := hw q p hq1 hp1 e
    rw [hp2, hq2] at this
    omega
/-- where a thing stands in the plain store -/
theorem ref_at {l : List Th} {i j : Nat} {x : Th} (hx : l[j]? = some x) (hk : x.k ≠ 0) : ∃ p : Nat, (refL i l)[p]? = some (toRt (i + j) x) :=
  List.mem_iff_getElem?.1 ((mem_ref l i _).2 ⟨j, x, hx, hk, rfl⟩)
theorem ref_of {l : List Th} {i p : Nat} {r : Rt} (h : (refL i l)[p]? = some r) : ∃ (j : Nat) (x : Th), l[j]? = some x ∧ x.k ≠ 0 ∧ r = toRt (i + j) x :=
  (mem_ref l i r).1 (List.mem_of_getElem? h)
theorem ref_find {l : List Th} {j : Nat} {x : Th} (hx : l[j]? = some x) (hk : x.k ≠ 0) : ∃ p, atF (refL 0 l) ((j : Int) + 2) = some p ∧ (refL 0 l)[p]? = some (toRt j x) := by
  obtain ⟨p, hp⟩ := ref_at (i := 0) hx hk
  rw [Nat.zero_add] at hp
  refine ⟨p, atF_some hp rfl fun q y hq hy e => ?_, hp⟩
  have := ref_inj hy hp e
  omega
theorem ref_lost {l : List Th} {id : Int} (h : ∀ (j : Nat) (x : Th), l[j]? = some x → x.k ≠ 0 → id ≠ (j : Int) + 2) : atF (refL 0 l) id = none := by
  refine atF_none fun q y hy e => ?_
  obtain ⟨j, x, h1, h2, h3⟩ := ref_of hy
  rw [Nat.zero_add] at h3
  exact h j x h1 h2 (by rw [← e, h3]; rfl)
theorem toRt_same {i j : Nat} {x y : Th} : (toRt i x).same (toRt j y) ↔ x.key = y.key := by
  unfold Rt.same toRt Th.key
  simp only [Ky.mk.injEq]
  constructor
  · rintro ⟨h, h'⟩
    exact ⟨by omega, h'⟩
  · rintro ⟨h, h'⟩
    exact ⟨by omega, h'⟩
theorem ref_onekey {l : List Th} (hU : Uniq l) : OneKey (refL 0 l) := fun p q r s hp hq hs => by
  obtain ⟨j, x, h1, h2, h3⟩ := ref_of hp
  obtain ⟨k, y, g1, g2, g3⟩ := ref_of hq
  rw [h3, g3, toRt_same] at hs
  have := hU j k x y h1 g1 h2 hs
  subst this
  exact ref_inj hp hq (by rw [h3, g3]; rfl)
theorem ref_have {l : List Th} (hU : Uniq l) {i j : Nat} {x y : Th} (hx : l[j]? = some x) (hk : x.k ≠ 0) (hs : x.key = y.key) : ∃ p, haveF (refL 0 l) (toRt i y) = some p ∧ (refL 0 l)[p]? = some (toRt j x) := by
  obtain ⟨p, hp⟩ := ref_at (i := 0) hx hk
  rw [Nat.zero_add] at hp
  exact ⟨p, haveF_some (ref_onekey hU) hp (toRt_same.2 hs), hp⟩
theorem ref_havenot {l : List Th} {i : Nat} {y : Th} (hk : y.k ≠ 0) (h : spotF l y.key = none) : haveF (refL 0 l) (toRt i y) = none := by
  unfold haveF
  rw [List.findIdx?_eq_none_iff]
  intro r hr
  obtain ⟨j, x, h1, _, h3⟩ := (mem_ref l 0 r).1 hr
  simp only [decide_eq_false_iff_not]
  rw [h3, toRt_same]
  have _ := hk
  exact spot_none h x (List.mem_of_getElem? h1)
theorem ref_split : ∀ (l : List Th) (i m : Nat), refL i l = refL i (l.take m) ++ refL (i + m) (l.drop m)
  | l, i, 0 => by simp [refL]
  | [], i, m + 1 => by simp [refL]
  | y :: l, i, m + 1 => by
    have ih := ref_split l (i + 1) m
    rw [List.take_succ_cons, List.drop_succ_cons, show i + (m + 1) = i + 1 + m by omega]
    by_cases hy : y.k = 0
    · rw [ref_zero hy, ref_zero hy, ih]
    · rw [ref_one hy, ref_one hy, ih, List.cons_append]
theorem ref_full : ∀ (l : List Th) (i : Nat), (∀ x ∈ l, x.k ≠ 0) → (refL i l).length = l.length ∧ ∀ (j : Nat) (x : Th), l[j]? = some x → (refL i l)[j]? = some (toRt (i + j) x)
  | [], i, _ => ⟨rfl, fun j x h => by simp at h⟩
  | y :: l, i, h => by
    obtain ⟨h1, h2⟩ := ref_full l (i + 1) fun x hx => h x (by simp [hx])
    rw [ref_one (h y (by simp))]
    refine ⟨by simp [h1], fun j x hj => ?_⟩
    cases j with
    | zero => simp at hj; subst hj; rfl
    | succ j =>
      have := h2 j x (by simpa using hj)
      rw [show i + 1 + j = i + (j + 1) by omega] at this
      simpa using this
/-- a mask turned -/
theorem ref_set : ∀ (l : List Th) (i j p m : Nat) (x : Th), l[j]? = some x → x.k ≠ 0 → (refL i l)[p]? = some (toRt (i + j) x) → (refL i l).set p { toRt (i + j) x with mask := m } = refL i (l.set j { x with mask := m })
  | [], i, j, p, m, x, h, _, _ => by simp at h
  | y :: l, i, 0, p, m, x, h, hk, hp => by
    simp at h; subst h
    have h0 : (refL i (y :: l))[0]? = some (toRt (i + 0) y) := by rw [ref_one hk]; rfl
    obtain rfl := ref_inj hp h0 rfl
    rw [List.set_cons_zero, ref_one hk, List.set_cons_zero]
    exact (ref_one (x := { y with mask := m }) hk).symm
  | y :: l, i, j + 1, p, m, x, h, hk, hp => by
    have e : i + (j + 1) = i + 1 + j := by omega
    rw [e] at hp ⊢
    rw [List.set_cons_succ]
    by_cases hy : y.k = 0
    · rw [ref_zero hy] at hp ⊢
      rw [ref_zero hy]
      exact ref_set l (i + 1) j p m x (by simpa using h) hk hp
    · rw [ref_one hy] at hp ⊢
      rw [ref_one hy]
      cases p with
      | zero =>
        simp only [List.getElem?_cons_zero, Option.some.injEq] at hp
        have := congrArg Rt.id hp
        have h2 : (i : Int) + 2 = ((i + 1 + j : Nat) : Int) + 2 := this
        omega
      | succ p =>
        rw [List.set_cons_succ, ref_set l (i + 1) j p m x (by simpa using h) hk (by simpa using hp)]
/-- a thing laid where a number is free -/
theorem ref_ins (l : List Th) (i j : Nat) (x y : Th) (hj : ∀ z ∈ l.take j, z.k ≠ 0) (hy : l[j]? = some y) (hy0 : y.k = 0) (hx : x.k ≠ 0) : refL i (l.set j x) = insL (refL i l) j (toRt (i + j) x) := by
  obtain ⟨hlt, he⟩ := List.getElem?_eq_some_iff.1 hy
  have hf := ref_full (l.take j) i hj
  have hl : (refL i (l.take j)).length = j := by rw [hf.1, List.length_take]; omega
  have hd : l.drop j = y :: l.drop (j + 1) := by rw [List.drop_eq_getElem_cons hlt, he]
  have e1 : refL i l = refL i (l.take j) ++ refL (i + j + 1) (l.drop (j + 1)) := by rw [ref_split l i j, hd, ref_zero hy0]
  have e2 : l.set j x = l.take j ++ x :: l.drop (j + 1) := by rw [List.set_eq_take_append_cons_drop, if_pos hlt]
  have e3 : refL i (l.take j ++ x :: l.drop (j + 1)) = refL i (l.take j) ++ toRt (i + j) x :: refL (i + j + 1) (l.drop (j + 1)) := by
    rw [ref_split _ i j, List.take_left' (by rw [List.length_take]; omega), List.drop_left' (by rw [List.length_take]; omega), ref_one hx]
  rw [e2, e3, e1]
  unfold insL
  rw [List.take_left' hl, List.drop_left' hl]
theorem ref_push (l : List Th) (i : Nat) (x : Th) (hj : ∀ z ∈ l, z.k ≠ 0) (hx : x.k ≠ 0) : refL i (l ++ [x]) = insL (refL i l) l.length (toRt (i + l.length) x) := by
  have hf := ref_full l i hj
  rw [ref_split (l ++ [x]) i l.length, List.take_left, List.drop_left, ref_one hx]
  unfold insL
  rw [List.take_of_length_le (by rw [hf.1]; omega), List.drop_eq_nil_of_le (by rw [hf.1]; omega)]
  rfl
end Go.Proofs.Ytfogedmghhacdaa.A
