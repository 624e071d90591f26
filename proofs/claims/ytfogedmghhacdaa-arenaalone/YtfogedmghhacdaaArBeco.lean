/- lay, give, Sweep, Live and become, whatever numbers are free. -/
import Derived.Test.YtfogedmghhacdaaArBecoP
namespace Go.Proofs.Ytfogedmghhacdaa.A
open Go.RowKit Go.Maps

theorem heap_least {L : List Int} {l : List Th} {i : Nat} (hp : L.Perm (freeIds l)) (hH : Heap L L.length) (hi : l.findIdx? isNo = some i) : L[0]! = (i : Int) + 2 := by
  have hne : 0 < L.length := by
    rw [hp.length_eq]
    unfold freeIds
    rw [sel_first (x := ⟨1, 0, 0, 0, 0, 0, 0, 0⟩) (by decide) hi]
    simp
  have h0 : L[0]! ∈ L := by rw [getElem!_pos L 0 hne]; exact List.getElem_mem _
  obtain ⟨j, x, h1, h2, h3⟩ := mem_sel.1 (hp.mem_iff.1 h0)
  rw [Nat.zero_add] at h3
  rw [List.findIdx?_eq_some_iff_getElem] at hi
  obtain ⟨g1, g2, g3⟩ := hi
  have hij : i ≤ j := by
    refine Nat.le_of_not_lt fun hlt => ?_
    have := g3 j hlt
    rw [(List.getElem?_eq_some_iff.1 h1).2] at this
    exact this h2
  have hmem : ((i : Int) + 2) ∈ L := hp.mem_iff.2 (mem_sel.2 ⟨i, _, List.getElem?_eq_getElem g1, g2, by simp⟩)
  obtain ⟨k, hk, hk2⟩ := List.getElem_of_mem hmem
  have := heap_min hH k hk
  rw [getElem!_pos L k hk, hk2] at this
  omega
theorem AtP.swapFree {w : World} {b : Nat} {F : Nat → Prop} {A : Ar} {n : Nat} {L : List Int} {r : Raw} {D : DataW Unit} (h : ArRaw w b F n { A with free := L } r D) (hn : n = liveN A.ths) (hp : L.Perm (freeIds A.ths)) (hH : Heap L L.length) : AtP w b F A := ⟨L, r, D, hn ▸ h, hp, hH⟩

set_option maxHeartbeats 1000000 in
theorem layP_any (b : Nat) (F : Nat → Prop) (A : Ar) (x : Th) (w : World) (h : AtP w b F A) (hS : Sound A) (hx : x.key.Fit) (hk : x.k ≠ 0) (hs : spotF A.ths x.key = none) :
    Calls Try.prog 57 #[.pointer (some ⟨b, 0, none⟩), x.val] w fun e w' => e = .returned (.int .i64 (((A.laid x).2 : Int) + 2)) ∧ Led w b F (A.laid x).1 w' := by
  obtain ⟨L, r, D, h, hp, hH⟩ := h
  have hl := hS.len
  have hr := hS.room1
  have hlv := free_live A.ths
  have hLl := hp.length_eq
  unfold Ar.laid
  cases f : A.ths.findIdx? isNo with
  | none =>
    have e0 : freeIds A.ths = [] := sel_none f
    rw [e0] at hp
    obtain rfl := hp.eq_nil
    refine (lay_any b _ F { A with free := [] } r D x w h rfl hx hs (by omega) (by show A.ths.length < _; omega)).mono ?_
    rintro e w' ⟨rfl, ⟨r', D', h'⟩, P⟩
    refine ⟨rfl, More F w w', fun k hk' => ?_, ⟨[], r', D', ?_, ?_, hH⟩, P⟩
    · rcases hk' with e | e
      · exact .inl e
      · exact .inr e.1
    · show ArRaw w' b (More F w w') (liveN (A.ths ++ [x])) _ _ _
      rw [live_append A.ths x hk]; exact h'
    · show List.Perm [] (freeIds (A.ths ++ [x]))
      unfold freeIds
      rw [sel_append, show selFrom isNo 0 A.ths = [] from e0]
      simp [selFrom, isNo, hk]
  | some i =>
    have hno : isNo x = false := by simpa [isNo] using hk
    have e0 := sel_first (o := 0) hno f
    rw [Nat.zero_add] at e0
    have hli := heap_least hp hH f
    obtain ⟨y, hy, hy0⟩ := first_free f
    have hyn := hS.zero y (List.mem_of_getElem? hy) hy0
    subst hyn
    have hne : 0 < L.length := by rw [hLl]; show 0 < (selFrom isNo 0 A.ths).length; rw [e0]; simp
    have hm : L.length = (L.length - 1) + 1 := by omega
    refine (lay_free b _ (L.length - 1) i F { A with free := L } r D x w h hm (by omega) (by rw [← hm]; exact hH) hx hs hli hy (by omega) (by show A.ths.length < _; omega)).mono ?_
    rintro e w' ⟨rfl, ⟨L', r', D', h', hp', hl', hH'⟩, P⟩
    refine ⟨rfl, F, fun k hk => .inl hk, ⟨L', r', D', ?_, ?_, by rw [hl']; exact hH'⟩, P⟩
    · have e1 := set_count (y := x) (fun z : Th => z.k != 0) hy
      have e2 : liveN (A.ths.set i x) = liveN A.ths + 1 := by
        unfold liveN
        simp only [noTh, bne_self_eq_false, Bool.false_eq_true, if_false, Nat.add_zero] at e1
        rw [e1, if_pos (by simpa using hk)]
      show ArRaw w' b F (liveN (A.ths.set i x)) _ _ _
      rw [e2]; exact h'
    · have hq : (L[0]! :: L').Perm (((i : Int) + 2) :: freeIds (A.ths.set i x)) := by
        refine List.Perm.trans hp' ?_
        show L.Perm _
        refine hp.trans ?_
        show (selFrom isNo 0 A.ths).Perm _
        rw [e0]
        exact List.Perm.refl _
      rw [hli] at hq
      exact hq.cons_inv

theorem giveP_any (b t i : Nat) (F : Nat → Prop) (id : Int) (A : Ar) (x : Th) (w : World) (h : AtP w b F A) (hS : Sound A) (hx : A.ths[i]? = some x) (hid : id = (i : Int) + 2) (ht : t < 64) (hlf : (A.fresh t).length ≤ A.ths.length) :
    Calls Try.prog 58 #[.pointer (some ⟨b, 0, none⟩), .int .i64 t, .int .i64 id] w fun e w' => e = .returned (.tuple #[]) ∧ Led w b F (A.give t i x) w' := by
  obtain ⟨L, r, D, h, hp, hH⟩ := h
  have hl := hS.len
  have hr := hS.room1
  have hc := hS.cnt t ht
  have hon : ownN A.ths t ≤ A.ths.length := List.countP_le_length
  refine (give_any b t i _ F id { A with free := L } r D x w h hx hid ht (hS.mask x (List.mem_of_getElem? hx)) (by show A.ths.length < _; omega) (by show 0 ≤ A.cnt t ∧ A.cnt t < _; omega) (by show (A.fresh t).length < _; omega)).mono ?_
  rintro e w' ⟨rfl, ⟨r', D', h'⟩, P⟩
  refine ⟨rfl, More F w w', fun k hk => ?_, ⟨L, r', D', ?_, ?_, hH⟩, P⟩
  · rcases hk with e | e
    · exact .inl e
    · exact .inr e.1
  · have e2 : liveN (A.give t i x).ths = liveN A.ths := live_set (y := { x with mask := x.mask ||| bitN t }) hx rfl
    rw [e2]; exact h'
  · have e2 : freeIds (A.give t i x).ths = freeIds A.ths := free_set (y := { x with mask := x.mask ||| bitN t }) hx rfl
    rw [e2]; exact hp

set_option maxHeartbeats 1000000 in
theorem sweepP_any (b : Nat) (F : Nat → Prop) (A : Ar) (w : World) (h : AtP w b F A) (hS : Sound A) :
    Calls Try.prog 23 #[.pointer (some ⟨b, 0, none⟩)] w fun e w' => e = .returned (.int .i64 ((liveN A.ths : Int) - (liveN A.swept.ths : Int))) ∧ Led w b F A.swept w' := by
  have hsw := live_swept A.ths
  have hl := hS.len
  have hr := hS.room1
  have hlv := free_live A.ths
  by_cases hpos : 0 < A.ths.length
  · obtain ⟨L, r, D, h, hp, hH⟩ := h
    have hLl := hp.length_eq
    refine (sweepq_any b _ F A L r D w h hH (by omega) hpos hS.uniq (fun x hx _ => hS.fit x hx) (by omega)).mono ?_
    rintro e w' ⟨rfl, F', L', r', D', hF', h', hp', hH', hsz, P⟩
    refine ⟨by show _ = Ending.returned (.int .i64 ((liveN A.ths : Int) - (liveN (swL A.ths) : Int))); congr 2; omega, F', hF', ⟨L', r', D', ?_, ?_, hH'⟩, P⟩
    · have h0 := (ownsMap_size h.map).2
      have h1 := (ownsMap_size h'.map).1
      have e : ({ A.swept with free := L' } : Ar) = A.swq A.ths.length L' := by
        unfold Ar.swept Ar.swq
        rw [sw_all]
      rw [e]
      have hle : size D' ≤ liveN A.swept.ths := by show size D' ≤ liveN (swL A.ths); omega
      exact ⟨h'.raw, h'.room, h'.ths, h1.mono hle, h'.num, h'.free, h'.lim, h'.cnt, h'.fresh, h'.apf, h'.apt, h'.fb, h'.fm, h'.fv, h'.ff, h'.ft, h'.flt⟩
    · exact hp'.trans ((List.Perm.append hp (List.Perm.refl _)).trans (free_swept A.ths).symm)
  · have h0 : A.ths = [] := List.eq_nil_of_length_eq_zero (by omega)
    have hA : A.swept = A := by unfold Ar.swept; rw [h0]; unfold swL; simp only [List.map_nil]; rw [← h0]
    rw [hA]
    have hh := h
    obtain ⟨L, r, D, h, hp, hH⟩ := h
    obtain ⟨va, vc, hv⟩ := h.ths.shape
    have hv : r.vth = .slice va A.ths.length vc := hv
    have c1 := h.raw.at 1 (by omega)
    rw [Raw.c1, hv, h0] at c1
    simp only [List.length_nil] at c1
    have hz : (liveN A.ths : Int) - (liveN A.ths : Int) = 0 := by omega
    rw [hz]
    clear hv hsw hp hH h hA hz hl hr hlv hpos
    go_enter Try.func23, Try.ntmps23
    go_wp2_with fail
    refine wp_loop_rounds 1 ?_
    rw [rounds_succ]
    go_wp2_with fail
    go_ret
    exact ⟨rfl, hh.led⟩

theorem liveP_any (b : Nat) (F : Nat → Prop) (A : Ar) (w : World) (h : AtP w b F A) (hS : Sound A) :
    Calls Try.prog 9 #[.pointer (some ⟨b, 0, none⟩)] w fun e w' => e = .returned (.int .i64 (liveN A.ths : Int)) ∧ ∃ q, w' = w.drewN q := by
  obtain ⟨L, r, D, h, hp, hH⟩ := h
  have hl := hS.len
  have hr := hS.room1
  have hlv := free_live A.ths
  have hLl := hp.length_eq
  refine (live_any b A.ths.length L.length r w h.raw h.ths.shape h.free.shape (by omega) (by omega)).mono ?_
  rintro e w' ⟨rfl, h⟩
  exact ⟨by congr 2; omega, h⟩
end Go.Proofs.Ytfogedmghhacdaa.A
