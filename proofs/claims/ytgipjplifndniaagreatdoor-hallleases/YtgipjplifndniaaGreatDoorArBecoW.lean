/- become's walk, whatever numbers are free. -/
import Derived.Test.YtgipjplifndniaaGreatDoorArBecoP
namespace Go.Proofs.YtgipjplifndniaaGreatDoor.A
open Go.RowKit Go.Maps

theorem heap_least {L : List Int} {l : List Th} {i : Nat} (hp : L.Perm (freeIds l)) (hH : Heap L L.length) (hi : l.findIdx? isNo = some i) : L[0]! = (i : Int) + 2 := by
  have hne : 0 < L.length := by
    rw [hp.length_eq]
    unfold freeIds
    rw [sel_first (x := ⟨1, 0, 0, 0, 0, 0, 0, 0⟩) (by decide) hi]
    simp
  have h0 : L[0]! ∈ L := by rw [getElem!_pos L 0 hne]; exact List.getElem_mem _
  obtain ⟨j, x, h1, h2, h3⟩ := mem_sel.1 (hp.mem_iff.1 h0)
  rw [Nat.zero_add] at h3
  rw [List.findIdx?_eq_some_iff_getElem] at hi
  obtain ⟨g1, g2, g3⟩ := hi
  have hij : i ≤ j := by
    refine Nat.le_of_not_lt fun hlt => ?_
    have := g3 j hlt
    rw [(List.getElem?_eq_some_iff.1 h1).2] at this
    exact this h2
  have hmem : ((i : Int) + 2) ∈ L := hp.mem_iff.2 (mem_sel.2 ⟨i, _, List.getElem?_eq_getElem g1, g2, by simp⟩)
  obtain ⟨k, hk, hk2⟩ := List.getElem_of_mem hmem
  have := heap_min hH k hk
  rw [getElem!_pos L k hk, hk2] at this
  omega
set_option maxHeartbeats 1000000 in
theorem layP_any (b : Nat) (F : Nat → Prop) (A : Ar) (x : Th) (w : World) (h : AtP w b F A) (hS : Sound A) (hx : x.key.Fit) (hk : x.k ≠ 0) (hs : spotF A.ths x.key = none) :
    Calls Tryz.prog 83 #[.pointer (some ⟨b, 0, none⟩), x.val] w fun e w' => e = .returned (.int .i64 (((A.laid x).2 : Int) + 2)) ∧ Led w b F (A.laid x).1 w' := by
  obtain ⟨L, r, D, h, hp, hH⟩ := h
  have hl := hS.len
  have hr := hS.room1
  have hlv := free_live A.ths
  have hLl := hp.length_eq
  unfold Ar.laid
  cases f : A.ths.findIdx? isNo with
  | none =>
    have e0 : freeIds A.ths = [] := sel_none f
    rw [e0] at hp
    obtain rfl := hp.eq_nil
    refine (lay_any b _ F { A with free := [] } r D x w h rfl hx hs (by omega) (by show A.ths.length < _; omega)).mono ?_
    rintro e w' ⟨rfl, ⟨r', D', h'⟩, P⟩
    refine ⟨rfl, More F w w', fun k hk' => ?_, ⟨[], r', D', ?_, ?_, hH⟩, P⟩
    · rcases hk' with e | e
      · exact .inl e
      · exact .inr e.1
    · show ArRaw w' b (More F w w') (liveN (A.ths ++ [x])) _ _ _
      rw [live_append A.ths x hk]; exact h'
    · show List.Perm [] (freeIds (A.ths ++ [x]))
      unfold freeIds
      rw [sel_append, show selFrom isNo 0 A.ths = [] from e0]
      simp [selFrom, isNo, hk]
  | some i =>
    have hno : isNo x = false := by simpa [isNo] using hk
    have e0 := sel_first (o := 0) hno f
    rw [Nat.zero_add] at e0
    have hli := heap_least hp hH f
    obtain ⟨y, hy, hy0⟩ := first_free f
    have hyn := hS.zero y (List.mem_of_getElem? hy) hy0
    subst hyn
    have hne : 0 < L.length := by rw [hLl]; show 0 < (selFrom isNo 0 A.ths).length; rw [e0]; simp
    have hm : L.length = (L.length - 1) + 1 := by omega
    refine (lay_free b _ (L.length - 1) i F { A with free := L } r D x w h hm (by omega) (by rw [← hm]; exact hH) hx hs hli hy (by omega) (by show A.ths.length < _; omega)).mono ?_
    rintro e w' ⟨rfl, ⟨L', r', D', h', hp', hl', hH'⟩, P⟩
    refine ⟨rfl, F, fun k hk => .inl hk, ⟨L', r', D', ?_, ?_, by rw [hl']; exact hH'⟩, P⟩
    · have e1 := set_count (y := x) (fun z : Th => z.k != 0) hy
      have e2 : liveN (A.ths.set i x) = liveN A.ths + 1 := by
        unfold liveN
        simp only [noTh, bne_self_eq_false, Bool.false_eq_true, if_false, Nat.add_zero] at e1
        rw [e1, if_pos (by simpa using hk)]
      show ArRaw w' b F (liveN (A.ths.set i x)) _ _ _
      rw [e2]; exact h'
    · have hq : (L[0]! :: L').Perm (((i : Int) + 2) :: freeIds (A.ths.set i x)) := by
        refine List.Perm.trans hp' ?_
        show L.Perm _
        refine hp.trans ?_
        show (selFrom isNo 0 A.ths).Perm _
        rw [e0]
        exact List.Perm.refl _
      rw [hli] at hq
      exact hq.cons_inv

theorem giveP_any (b t i : Nat) (F : Nat → Prop) (id : Int) (A : Ar) (x : Th) (w : World) (h : AtP w b F A) (hS : Sound A) (hx : A.ths[i]? = some x) (hid : id = (i : Int) + 2) (ht : t < 64) (hlf : (A.fresh t).length ≤ A.ths.length) :
    Calls Tryz.prog 84 #[.pointer (some ⟨b, 0, none⟩), .int .i64 t, .int .i64 id] w fun e w' => e = .returned (.tuple #[]) ∧ Led w b F (A.give t i x) w' := by
  obtain ⟨L, r, D, h, hp, hH⟩ := h
  have hl := hS.len
  have hr := hS.room1
  have hc := hS.cnt t ht
  have hon : ownN A.ths t ≤ A.ths.length := List.countP_le_length
  refine (give_any b t i _ F id { A with free := L } r D x w h hx hid ht (hS.mask x (List.mem_of_getElem? hx)) (by show A.ths.length < _; omega) (by show 0 ≤ A.cnt t ∧ A.cnt t < _; omega) (by show (A.fresh t).length < _; omega)).mono ?_
  rintro e w' ⟨rfl, ⟨r', D', h'⟩, P⟩
  refine ⟨rfl, More F w w', fun k hk => ?_, ⟨L, r', D', ?_, ?_, hH⟩, P⟩
  · rcases hk with e | e
    · exact .inl e
    · exact .inr e.1
  · have e2 : liveN (A.give t i x).ths = liveN A.ths := live_set (y := { x with mask := x.mask ||| bitN t }) hx rfl
    rw [e2]; exact h'
  · have e2 : freeIds (A.give t i x).ths = freeIds A.ths := free_set (y := { x with mask := x.mask ||| bitN t }) hx rfl
    rw [e2]; exact hp

set_option maxHeartbeats 1000000 in
theorem sweepP_any (b : Nat) (F : Nat → Prop) (A : Ar) (w : World) (h : AtP w b F A) (hS : Sound A) :
    Calls Tryz.prog 82 #[.pointer (some ⟨b, 0, none⟩)] w fun e w' => e = .returned (.int .i64 ((liveN A.ths : Int) - (liveN A.swept.ths : Int))) ∧ Led w b F A.swept w' := by
  have hsw := live_swept A.ths
  have hl := hS.len
  have hr := hS.room1
  have hlv := free_live A.ths
  by_cases hpos : 0 < A.ths.length
  · obtain ⟨L, r, D, h, hp, hH⟩ := h
    have hLl := hp.length_eq
    refine (sweepq_any b _ F A L r D w h hH (by omega) hpos hS.uniq (fun x hx _ => hS.fit x hx) (by omega)).mono ?_
    rintro e w' ⟨rfl, F', L', r', D', hF', h', hp', hH', hsz, P⟩
    refine ⟨by show _ = Ending.returned (.int .i64 ((liveN A.ths : Int) - (liveN (swL A.ths) : Int))); congr 2; omega, F', hF', ⟨L', r', D', ?_, ?_, hH'⟩, P⟩
    · have h0 := (ownsMap_size h.map).2
      have h1 := (ownsMap_size h'.map).1
      have e : ({ A.swept with free := L' } : Ar) = A.swq A.ths.length L' := by
        unfold Ar.swept Ar.swq
        rw [sw_all]
      rw [e]
      have hle : size D' ≤ liveN A.swept.ths := by show size D' ≤ liveN (swL A.ths); omega
      exact ⟨h'.raw, h'.room, h'.ths, h1.mono hle, h'.num, h'.free, h'.lim, h'.cnt, h'.fresh, h'.apf, h'.apt, h'.fb, h'.fm, h'.fv, h'.ff, h'.ft, h'.flt⟩
    · exact hp'.trans ((List.Perm.append hp (List.Perm.refl _)).trans (free_swept A.ths).symm)
  · have h0 : A.ths = [] := List.eq_nil_of_length_eq_zero (by omega)
    have hA : A.swept = A := by unfold Ar.swept; rw [h0]; unfold swL; simp only [List.map_nil]; rw [← h0]
    rw [hA]
    have hh := h
    obtain ⟨L, r, D, h, hp, hH⟩ := h
    obtain ⟨va, vc, hv⟩ := h.ths.shape
    have hv : r.vth = .slice va A.ths.length vc := hv
    have c1 := h.raw.at 1 (by omega)
    rw [Raw.c1, hv, h0] at c1
    simp only [List.length_nil] at c1
    have hz : (liveN A.ths : Int) - (liveN A.ths : Int) = 0 := by omega
    rw [hz]
    clear hv hsw hp hH h hA hz hl hr hlv hpos
    go_enter Tryz.func82, Tryz.ntmps82
    go_wp2_with fail
    refine wp_loop_rounds 1 ?_
    rw [rounds_succ]
    go_wp2_with fail
    go_ret
    exact ⟨rfl, hh.led⟩

theorem liveP_any (b : Nat) (F : Nat → Prop) (A : Ar) (w : World) (h : AtP w b F A) (hS : Sound A) :
    Calls Tryz.prog 81 #[.pointer (some ⟨b, 0, none⟩)] w fun e w' => e = .returned (.int .i64 (liveN A.ths : Int)) ∧ ∃ q, w' = w.drewN q := by
  obtain ⟨L, r, D, h, hp, hH⟩ := h
  have hl := hS.len
  have hr := hS.room1
  have hlv := free_live A.ths
  have hLl := hp.length_eq
  refine (live_any b A.ths.length L.length r w h.raw h.ths.shape h.free.shape (by omega) (by omega)).mono ?_
  rintro e w' ⟨rfl, h⟩
  exact ⟨by congr 2; omega, h⟩
end Go.Proofs.YtgipjplifndniaaGreatDoor.A

namespace Go.Proofs.YtgipjplifndniaaGreatDoor.A
open Go.RowKit Go.Maps

theorem nodup_le : ∀ (n : Nat) (l : List Int), l.Nodup → (∀ id ∈ l, 2 ≤ id ∧ (id - 2).toNat < n) → l.length ≤ n
  | 0, l, _, h => by
    cases l with
    | nil => simp
    | cons a r => have := (h a (by simp)).2; omega
  | n + 1, l, hn, h => by
    by_cases hm : ((n : Int) + 2) ∈ l
    · have ih := nodup_le n (l.erase ((n : Int) + 2)) (hn.erase _) fun id hid => by
        rw [hn.mem_erase_iff] at hid
        have := h id hid.2
        omega
      rw [List.length_erase_of_mem hm] at ih
      omega
    · have ih := nodup_le n l hn fun id hid => by
        have := h id hid
        have : id ≠ (n : Int) + 2 := fun e => hm (e ▸ hid)
        omega
      omega
theorem Sound.freshLe {A : Ar} (h : Sound A) {t : Nat} (ht : t < 64) : (A.fresh t).length ≤ A.ths.length :=
  nodup_le _ _ (h.fresh t ht).1 fun id hid => by
    obtain ⟨h1, x, h2, _⟩ := (h.fresh t ht).2 id hid
    exact ⟨h1, (List.getElem?_eq_some_iff.1 h2).1⟩
def BecoOut (w : World) (b : Nat) (F : Nat → Prop) (A : Ar) (t : Nat) (x : Th) (e : Ending) (w' : World) : Prop :=
  e = .returned (.tuple #[.int .i64 (A.beco t x).2.1, .int .i64 (A.beco t x).2.2]) ∧ Led w b F (A.beco t x).1 w'
theorem AtP.drewN {w : World} {b : Nat} {F : Nat → Prop} {A : Ar} (h : AtP w b F A) (q : Nat) : AtP (w.drewN q) b F A := h.other (Nat.le_refl _) fun _ _ => rfl
theorem led_join {w w1 w2 : World} {b : Nat} {F F1 : Nat → Prop} {A1 A2 : Ar} (hF : ∀ k, F1 k → F k ∨ w.heap.size ≤ k) (h : AtP w1 b F1 A1) (P : Apart F w w1) (k : Led w1 b F1 A2 w2) : Led w b F A2 w2 := by
  obtain ⟨F2, k1, k2, k3⟩ := k
  refine ⟨F2, fun j hj => ?_, k2, P.trans k3 fun j hj => ?_⟩
  · rcases k1 j hj with e | e
    · exact hF j e
    · exact .inr (Nat.le_trans P.size e)
  · rcases hF j hj with e | e
    · exact .inl e
    · exact .inr ⟨e, h.flt j hj⟩

set_option maxRecDepth 20000 in
set_option maxHeartbeats 4000000 in
theorem becoThere_any (b t i : Nat) (F : Nat → Prop) (A : Ar) (x y : Th) (w : World) (h : AtP w b F A) (hS : Sound A) (ht : t < 64) (hx : x.key.Fit) (hk : x.k ≠ 0) (hs : spotF A.ths x.key = some i) (hy : A.ths[i]? = some y) :
    Calls Tryz.prog 47 #[.pointer (some ⟨b, 0, none⟩), .int .i64 t, x.val] w fun e w' => BecoOut w b F A t x e w' := by
  have hl := hS.len
  have hr := hS.room1
  have hc := hS.cnt t ht
  have hon : ownN A.ths t ≤ A.ths.length := List.countP_le_length
  have hfl := hS.freshLe ht
  have hgt : A.ths[i]! = y := by rw [List.getElem!_eq_getElem?_getD, hy]; rfl
  have hB : A.beco t x = if y.mask.testBit t = true then (A, (i : Int) + 2, 0) else if A.lim t ≤ A.cnt t then (A, 0, 9) else (A.give t i y, (i : Int) + 2, 0) := by
    unfold Ar.beco
    rw [hs]
    simp only
    rw [hgt]
  have hh := h
  obtain ⟨L, r, D, h, hp, hH⟩ := h
  unfold BecoOut
  by_cases hown : y.mask.testBit t = true
  · rw [if_pos hown] at hB
    rw [hB]
    refine (become_there b _ t i F { A with free := L } r D x y w h hx hk hs hy hS.mask ht (by show A.ths.length < _; omega) hown).mono ?_
    rintro e w' ⟨rfl, hb⟩
    exact ⟨rfl, hh.ledB hb⟩
  · rw [if_neg hown] at hB
    rw [hB]
    refine (become_else b _ t i F { A with free := L } r D x y w h hx hk hs hy hS.mask ht (by show A.ths.length < _; omega) (by simpa using hown) (by show 0 ≤ A.cnt t ∧ A.cnt t < _; omega) (by show (A.fresh t).length < _; omega)).mono ?_
    intro e w' hP
    by_cases hq : A.lim t ≤ A.cnt t
    · rw [if_pos (show ({ A with free := L } : Ar).lim t ≤ ({ A with free := L } : Ar).cnt t from hq)] at hP
      rw [if_pos hq]
      exact ⟨hP.1, hh.ledB hP.2⟩
    · rw [if_neg (show ¬ ({ A with free := L } : Ar).lim t ≤ ({ A with free := L } : Ar).cnt t from hq)] at hP
      rw [if_neg hq]
      obtain ⟨rfl, ⟨r', D', h'⟩, P⟩ := hP
      refine ⟨rfl, More F w w', fun k hk => ?_, ⟨L, r', D', ?_, ?_, hH⟩, P⟩
      · rcases hk with e | e
        · exact .inl e
        · exact .inr e.1
      · have e2 : liveN (A.give t i y).ths = liveN A.ths := live_set (y := { y with mask := y.mask ||| bitN t }) hy rfl
        rw [e2]; exact h'
      · have e2 : freeIds (A.give t i y).ths = freeIds A.ths := free_set (y := { y with mask := y.mask ||| bitN t }) hy rfl
        rw [e2]; exact hp

set_option maxRecDepth 20000 in
set_option maxHeartbeats 4000000 in
theorem becoNew_any (b t : Nat) (F : Nat → Prop) (A : Ar) (x : Th) (w : World) (h : AtP w b F A) (hS : Sound A) (ht : t < 64) (hx : x.key.Fit) (hk : x.k ≠ 0) (hlv : 0 ≤ x.lv ∧ x.lv ≤ 44) (hva : Fits x.va) (hmx : x.mask = 0) (hs : spotF A.ths x.key = none) :
    Calls Tryz.prog 47 #[.pointer (some ⟨b, 0, none⟩), .int .i64 t, x.val] w fun e w' => BecoOut w b F A t x e w' := by
  have hB : A.beco t x = if A.lim t ≤ A.cnt t then (A, 0, 9) else if A.made.room ≤ (liveN A.made.ths : Int) then (A.made, 0, 5) else ((A.made.laid x).1.give t (A.made.laid x).2 x, ((A.made.laid x).2 : Int) + 2, 0) := by
    unfold Ar.beco
    rw [hs]
  have hh := h
  obtain ⟨L, r, D, h, hp, hH⟩ := h
  have hblt := h.raw.lt
  have hbx : Below w.heap.size w (w.alloc (.cells #[.int .i64 x.k, .int .i64 x.p0, .int .i64 x.p1, .int .i64 x.p2, .int .i64 x.p3, .int .i64 x.lv, .int .i64 x.va, .int .u64 x.mask] 100)) := (Below.refl _ _).alloc (Nat.le_refl _) _
  have hX : (w.alloc (.cells #[.int .i64 x.k, .int .i64 x.p0, .int .i64 x.p1, .int .i64 x.p2, .int .i64 x.p3, .int .i64 x.lv, .int .i64 x.va, .int .u64 x.mask] 100)).heap[w.heap.size]? = some (.cells #[.int .i64 x.k, .int .i64 x.p0, .int .i64 x.p1, .int .i64 x.p2, .int .i64 x.p3, .int .i64 x.lv, .int .i64 x.va, .int .u64 x.mask] 100 (0, 0)) := heap_alloc_new w _
  have hSm := made_sound hS
  have HLV : Hid (∀ W B F', AtP W b F' B → Sound B → _) := fun W B F' hW hSB => liveP_any b F' B W hW hSB
  have HSW : Hid (∀ W F', AtP W b F' A → _) := fun W F' hW => sweepP_any b F' A W hW hS
  have HL : Hid (∀ W F', AtP W b F' A.made → _) := fun W F' hW => layP_any b F' A.made x W hW hSm hx hk (made_spot hk hs)
  have HBO : Hid (∀ e w', BecoOut w b F A t x e w' ↔ (e = .returned (.tuple #[.int .i64 (A.beco t x).2.1, .int .i64 (A.beco t x).2.2]) ∧ Led w b F (A.beco t x).1 w')) := fun e w' => Iff.rfl
  have HG : Hid (¬ A.made.room ≤ (liveN A.made.ths : Int) → ∀ W F', AtP W b F' (A.made.laid x).1 → _) := fun hlt W F' hW =>
    have hSl := laid_sound hSm hlv hva hmx hk hx (made_spot hk hs) (by omega)
    giveP_any b t (A.made.laid x).2 F' (((A.made.laid x).2 : Int) + 2) (A.made.laid x).1 x W hW hSl (laid_at _ _) rfl ht (hSl.freshLe ht)
  generalize hP : BecoOut w b F A t x = Post
  have HP : Hid (BecoOut w b F A t x = Post) := hP
  have HB : Hid (A.beco t x = _) := hB
  have HH : Hid (AtP w b F A ∧ Sound A ∧ Sound A.made) := ⟨hh, hS, hSm⟩
  clear hP hB hh hSm hmx hlv hva
  unfold Th.val
  go_enter Tryz.func47, Tryz.ntmps47
  go_wp2_with fail
  generalize hW0 : w.alloc (.cells #[.int .i64 x.k, .int .i64 x.p0, .int .i64 x.p1, .int .i64 x.p2, .int .i64 x.p3, .int .i64 x.lv, .int .i64 x.va, .int .u64 x.mask] 100) = W0 at *
  clear hW0
  have H0 := h.below hbx
  obtain ⟨d0, d1, d2, d3, d4, d5, d6, d7⟩ := cells8 hX
  have c2 := H0.raw.at 2 (by omega)
  rw [Raw.c2] at c2
  have hlk := look_num (w := W0.drew) H0.drew.map H0.num hx hk
  rw [show spotF ({ A with free := L } : Ar).ths x.key = none from hs] at hlk
  unfold Ky.val Th.key at hlk
  simp only [Option.isSome_none] at hlk
  have h0 : (0 : Int) ≤ t := by omega
  have h1 : (t : Int) < 64 := by omega
  have cl := H0.raw.at (4 + t * 3) (by omega)
  rw [Raw.cl, show (r.tn t).lim = A.lim t from H0.lim t ht] at cl
  have cc := H0.raw.at (4 + t * 3 + 1) (by omega)
  rw [Raw.cc, show (r.tn t).cnt = A.cnt t from H0.cnt t ht] at cc
  clear h hp hH hs
  go_region
  all_goals
    by_cases hq : A.lim t ≤ A.cnt t
    · have hq' : decide (A.lim t ≤ A.cnt t) = true := by simpa using hq
      go_wp2_with fail
      go_quiet (fail)
      go_wp2_with fail
      rw [← HP.out]
      refine (HBO.out _ _).2 ?_
      rw [HB.out, if_pos hq]
      exact ⟨rfl, HH.out.1.ledB ⟨hbx.os, hbx.tape, hbx.output, hbx.size, hbx.block⟩⟩
    · have hq' : decide (A.lim t ≤ A.cnt t) = false := by simpa using hq
      go_wp2_with fail
      go_quiet (fail)
      go_wp2_with fail
      have hb2 : Below w.heap.size w (W0.drewN (1 + nq)) := ⟨hbx.os, hbx.tape, hbx.output, hbx.size, hbx.block⟩
      have hX2 : (W0.drewN (1 + nq)).heap[w.heap.size]? = some (.cells #[.int .i64 x.k, .int .i64 x.p0, .int .i64 x.p1, .int .i64 x.p2, .int .i64 x.p3, .int .i64 x.lv, .int .i64 x.va, .int .u64 x.mask] 100 (0, 0)) := hX
      have c0 := (H0.drewN (1 + nq)).raw.at 0 (by omega)
      rw [Raw.c0, show r.room = A.room from H0.room] at c0
      clear d0 d1 d2 d3 d4 d5 d6 d7 c2 hlk cl cc hX H0 hbx
      generalize W0.drewN (1 + nq) = W2 at *
      have H2 := HH.out.1.below hb2
      have hlive2 := fun q => HLV.out (W2.drewN q) A F (H2.drewN q) HH.out.2.1
      have HB2 : Hid (Below w.heap.size w W2) := hb2
      clear hb2
      by_cases h7 : A.room ≤ (liveN A.ths : Int)
      · have hmd : A.made = A.swept := if_pos h7
        have HMD : Hid (A.made = A.swept) := hmd
        have h7' : decide (A.room ≤ (liveN A.ths : Int)) = true := by simpa using h7
        clear hmd
        obtain ⟨d0, d1, d2, d3, d4, d5, d6, d7⟩ := cells8 hX2
        go_quiet ((go_at_call 81; exact Calls.quiet_of (hlive2 _)))
        go_wp2_with fail
        refine (HSW.out _ F (H2.drewN _)).mono ?_
        rintro e w3 ⟨rfl, F3, hF3, H3, P3⟩
        rw [← HMD.out] at H3
        have hX3 : w3.heap[w.heap.size]? = some (.cells #[.int .i64 x.k, .int .i64 x.p0, .int .i64 x.p1, .int .i64 x.p2, .int .i64 x.p3, .int .i64 x.lv, .int .i64 x.va, .int .u64 x.mask] 100 (0, 0)) := (P3.block w.heap.size (Array.getElem?_eq_some_iff.1 hX2).1 fun hf => by have := HH.out.1.flt _ hf; omega).trans hX2
        have P3' : Apart F w w3 := (Apart.of (F := F) HB2.out).trans (F' := F) ⟨P3.os, P3.tape, P3.output, P3.size, P3.block⟩ fun k hk => Or.inl hk
        have hF3' : ∀ k, F3 k → F k ∨ w.heap.size ≤ k := fun k hk => by
          rcases hF3 k hk with e | e
          · exact .inl e
          · exact .inr (Nat.le_trans HB2.out.size e)
        have HP3 : Hid (Apart F w w3 ∧ (∀ k, F3 k → F k ∨ w.heap.size ≤ k)) := ⟨P3', hF3'⟩
        have hlive3 := fun q => HLV.out (w3.drewN q) A.made F3 (H3.drewN q) HH.out.2.2
        have hrm : A.made.room = A.room := (made_rest A).1
        have c0' : w3.cell? ⟨b, 0, none⟩ = some (.int .i64 A.made.room) := by
          obtain ⟨L3, r3, D3, G3, _⟩ := H3
          have := G3.raw.at 0 (by omega)
          rw [Raw.c0, show r3.room = A.made.room from G3.room] at this
          exact this
        clear d0 d1 d2 d3 d4 d5 d6 d7 hX2 H2 hlive2 P3 P3' hF3 hF3' hrm c0
        obtain ⟨d0, d1, d2, d3, d4, d5, d6, d7⟩ := cells8 hX3
        by_cases h9 : A.made.room ≤ (liveN A.made.ths : Int)
        · have h9' : decide (A.made.room ≤ (liveN A.made.ths : Int)) = true := by simpa using h9
          go_wp2_with fail
          go_quiet ((go_at_call 81; exact Calls.quiet_of (hlive3 _)))
          go_wp2_with fail
          rw [← HP.out]
          refine (HBO.out _ _).2 ?_
          rw [HB.out, if_neg (by omega), if_pos h9]
          exact ⟨rfl, F3, HP3.out.2, H3.drewN _, HP3.out.1.drewN _⟩
        · have h9' : decide (A.made.room ≤ (liveN A.made.ths : Int)) = false := by simpa using h9
          have HN9 : Hid (¬ A.made.room ≤ (liveN A.made.ths : Int)) := h9
          go_wp2_with fail
          go_quiet ((go_at_call 81; exact Calls.quiet_of (hlive3 _)))
          go_wp2_with fail
          refine (HL.out _ F3 (H3.drewN _)).mono ?_
          rintro e w4 ⟨rfl, H4⟩
          go_wp2_with fail
          obtain ⟨F4, hF4, H4, P4⟩ := H4
          refine (HG.out HN9.out _ F4 H4).mono ?_
          rintro e w5 ⟨rfl, H5⟩
          go_wp2_with fail
          rw [← HP.out]
          refine (HBO.out _ _).2 ?_
          rw [HB.out, if_neg (by omega), if_neg (by have := HN9.out; omega)]
          exact ⟨rfl, led_join HP3.out.2 (H3.drewN _) (HP3.out.1.drewN _) (led_join hF4 H4 P4 H5)⟩
      · have hmd : A.made = A := if_neg h7
        have HMD : Hid (A.made = A) := hmd
        have h7' : decide (A.room ≤ (liveN A.ths : Int)) = false := by simpa using h7
        have HN9 : Hid (¬ A.made.room ≤ (liveN A.made.ths : Int)) := by show ¬ _; rw [hmd]; exact h7
        clear hmd
        obtain ⟨d0, d1, d2, d3, d4, d5, d6, d7⟩ := cells8 hX2
        go_quiet ((go_at_call 81; exact Calls.quiet_of (hlive2 _)))
        go_wp2_with fail
        have hX3 : (W2.drewN nq).heap[w.heap.size]? = some (.cells #[.int .i64 x.k, .int .i64 x.p0, .int .i64 x.p1, .int .i64 x.p2, .int .i64 x.p3, .int .i64 x.lv, .int .i64 x.va, .int .u64 x.mask] 100 (0, 0)) := hX2
        have H3 := H2.drewN nq
        have c0' : (W2.drewN nq).cell? ⟨b, 0, none⟩ = some (.int .i64 A.room) := c0
        have HB3 : Hid (Below w.heap.size w (W2.drewN nq)) := ⟨HB2.out.os, HB2.out.tape, HB2.out.output, HB2.out.size, HB2.out.block⟩
        clear d0 d1 d2 d3 d4 d5 d6 d7 hX2 H2 hlive2 c0
        generalize W2.drewN nq = W3 at *
        have hlive3 := fun q => HLV.out (W3.drewN q) A F (H3.drewN q) HH.out.2.1
        obtain ⟨d0, d1, d2, d3, d4, d5, d6, d7⟩ := cells8 hX3
        go_quiet ((go_at_call 81; exact Calls.quiet_of (hlive3 _)))
        go_wp2_with fail
        refine (HL.out _ F (by rw [HMD.out]; exact H3.drewN _)).mono ?_
        rintro e w4 ⟨rfl, H4⟩
        go_wp2_with fail
        obtain ⟨F4, hF4, H4, P4⟩ := H4
        refine (HG.out HN9.out _ F4 H4).mono ?_
        rintro e w5 ⟨rfl, H5⟩
        go_wp2_with fail
        rw [← HP.out]
        refine (HBO.out _ _).2 ?_
        rw [HB.out, if_neg (by omega), if_neg (by have := HN9.out; omega)]
        exact ⟨rfl, led_join (fun k hk => .inl hk) (H3.drewN _) ((Apart.of HB3.out).drewN _) (led_join hF4 H4 P4 H5)⟩

theorem beco_any (b t : Nat) (F : Nat → Prop) (A : Ar) (x : Th) (w : World) (h : AtP w b F A) (hS : Sound A) (ht : t < 64) (hx : x.key.Fit) (hk : x.k ≠ 0) (hlv : 0 ≤ x.lv ∧ x.lv ≤ 44) (hva : Fits x.va) (hmx : x.mask = 0) :
    Calls Tryz.prog 47 #[.pointer (some ⟨b, 0, none⟩), .int .i64 t, x.val] w fun e w' => BecoOut w b F A t x e w' := by
  cases hs : spotF A.ths x.key with
  | none => exact becoNew_any b t F A x w h hS ht hx hk hlv hva hmx hs
  | some i =>
    obtain ⟨y, h1, _, _⟩ := spot_at hs
    exact becoThere_any b t i F A x y w h hS ht hx hk hs h1
end Go.Proofs.YtgipjplifndniaaGreatDoor.A
