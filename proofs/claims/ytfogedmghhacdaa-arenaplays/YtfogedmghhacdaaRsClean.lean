/- The plain store: Clean. -/
import Derived.Test.YtfogedmghhacdaaRsArNo
import Derived.Test.YtfogedmghhacdaaRsLoseC
import Derived.Test.YtfogedmghhacdaaArGlob
namespace Go.Proofs.Ytfogedmghhacdaa.A
open Go.RowKit Go.Maps

theorem keepLaw : Keyed Try.prog 3 := int_keyed Try.underlying3
theorem Try.zero4 (w : World) : (zeroValue 4).run Try.prog w = .ok (.bool false) w := by kernel_rfl
/-- a map in block mb that says yes of the numbers in K alone -/
def KeepAt (W : World) (mb : Nat) (K : List Int) : Prop :=
  ∃ D : DataW Unit, W.ownsMap Try.prog 3 (plainElem Try.prog 4) mb K.length D ∧ ∀ id, Fits id → D.atKey (.int .i64 id) (.lit (.bool false)) = .lit (.bool (decide (id ∈ K)))
theorem KeepAt.other {W W' : World} {mb : Nat} {K : List Int} (h : KeepAt W mb K) (hb : W'.heap[mb]? = W.heap[mb]?) : KeepAt W' mb K := by
  obtain ⟨D, ⟨es, clock, h1, h2⟩, h3⟩ := h
  exact ⟨D, ⟨es, clock, hb.trans h1, h2⟩, h3⟩
theorem KeepAt.lt {W : World} {mb : Nat} {K : List Int} (h : KeepAt W mb K) : mb < W.heap.size := by
  obtain ⟨D, ⟨es, clock, h1, _⟩, _⟩ := h
  exact (Array.getElem?_eq_some_iff.1 h1).1
theorem KeepAt.born (w : World) : KeepAt (w.alloc (.map #[] 0)) w.heap.size [] :=
  ⟨.map [], World.ownsMap_made w Try.prog 3 (plainElem Try.prog 4), fun _ _ => rfl⟩
theorem KeepAt.look {W : World} {mb : Nat} {K : List Int} (h : KeepAt W mb K) {id : Int} (hf : Fits id) : (Instr.lookup 105 (.map (some mb)) (.int .i64 id) false).run Try.prog W = .ok (.bool (decide (id ∈ K))) W := by
  obtain ⟨D, h1, h2⟩ := h
  obtain ⟨v, ps, hrun, hv⟩ := h1.lookup keepLaw Try.underlying105 (Try.zero4 W) (plainElem_bool (H := Unit) Try.underlying4 false) (keyOf_int_mk Try.underlying3 (wf_of_fits hf))
  rw [h2 id hf] at hv
  rw [hrun]
  have : v = .bool (decide (id ∈ K)) := by
    cases v with
    | bool x =>
      rw [plainElem_bool Try.underlying4] at hv
      simp only [Option.some.injEq, Prod.mk.injEq] at hv
      have := hv.1
      simp only [DataW.lit.injEq, Lit.bool.injEq] at this
      rw [this]
    | _ => simp [plainElem, Try.underlying4] at hv
  rw [this]
theorem KeepAt.put {W : World} {mb : Nat} {K : List Int} (h : KeepAt W mb K) (hn : K.length < 1000000000) {id : Int} (hf : Fits id) : ∃ W', (Instr.mapUpdate 105 (.map (some mb)) (.int .i64 id) (.bool true)).run Try.prog W = .ok () W' ∧ KeepAt W' mb (id :: K) ∧ W.mapTurned W' mb := by
  obtain ⟨D, h1, h2⟩ := h
  obtain ⟨W', hrun, hown, hturn⟩ := h1.store keepLaw Try.underlying105 (show K.length < maxLen by unfold maxLen; omega) (keyOf_int_mk Try.underlying3 (wf_of_fits hf)) (plainElem_bool (H := Unit) Try.underlying4 true)
  refine ⟨W', hrun, ⟨_, hown, fun z hz => ?_⟩, hturn⟩
  by_cases e : z = id
  · subst e
    rw [atKey_put_same h1.isMap (show WideAt.IsKeyLit (.int .i64 z) from trivial), decide_eq_true (List.mem_cons_self)]
  · have hd : decide (z ∈ id :: K) = decide (z ∈ K) := by
      by_cases hm : z ∈ K
      · rw [decide_eq_true hm, decide_eq_true (List.mem_cons_of_mem _ hm)]
      · rw [decide_eq_false hm, decide_eq_false (fun h => by rcases List.mem_cons.1 h with h | h; exact e h; exact hm h)]
    have hne : Lit.int .i64 z ≠ Lit.int .i64 id := fun h => e (by injection h)
    rw [atKey_put_other hne, h2 z hz, hd]
/-- what Clean takes away -/
def cleanQ (K : List Int) (x : Rt) : Bool := decide (x.k ≠ 0 ∨ x.id ∉ K)
set_option maxHeartbeats 1000000 in
theorem cleanIn_any (cb mb : Nat) (K : List Int) (x : Rt) (w : World) (hc : w.cell? ⟨cb, 0, none⟩ = some (.map (some mb))) (hK : KeepAt w mb K) (hf : Fits x.id) :
    Calls Try.prog 56 #[x.val, .pointer (some ⟨cb, 0, none⟩)] w fun e w' => e = .returned (.bool (cleanQ K x)) ∧ Below w.heap.size w w' := by
  have hb0 : Below w.heap.size w (w.alloc (.cells #[.int .i64 x.id, .int .i64 x.k, .int .i64 x.lv, .int .i64 x.va, .int .i64 x.p0, .int .i64 x.p1, .int .i64 x.p2, .int .i64 x.p3, .int .u64 x.mask] 84)) := (Below.refl _ _).alloc (Nat.le_refl _) _
  have hlk := (hK.other (hb0.block mb hK.lt)).look hf
  have hcl := cell_in hc
  have HB : Hid (Below w.heap.size w _) := hb0
  clear hb0 hK
  unfold Rt.val
  by_cases hk : x.k = 0
  · have hk' : (x.k != 0) = false := by simpa using hk
    have HQ : Hid (cleanQ K x = !decide (x.id ∈ K)) := show _ = _ by
      unfold cleanQ
      by_cases hm : x.id ∈ K
      · rw [decide_eq_true hm, decide_eq_false (fun e => by rcases e with e | e; exact e hk; exact e hm)]; rfl
      · rw [decide_eq_false hm, decide_eq_true (.inr hm)]; rfl
    clear hk
    go_enter Try.func56, Try.ntmps56
    go_wp2_with fail
    go_ret
    rw [HQ.out]
    exact ⟨rfl, HB.out⟩
  · have hk' : (x.k != 0) = true := by simpa using hk
    have HQ : Hid (cleanQ K x = true) := decide_eq_true (.inl hk)
    clear hk hlk
    go_enter Try.func56, Try.ntmps56
    go_wp2_with fail
    go_ret
    rw [HQ.out]
    exact ⟨rfl, HB.out⟩
end Go.Proofs.Ytfogedmghhacdaa.A

namespace Go.Proofs.Ytfogedmghhacdaa.A
open Go.RowKit Go.Maps

/-- what can be reached from some numbers, over squares -/
inductive RchS (l : List Rt) (R : List Int) : Int → Prop
  | root {z : Int} : z ∈ R → RchS l R z
  | part {x : Rt} {z : Int} : x ∈ l → x.k = 0 → RchS l R x.id → z ∈ [x.p0, x.p1, x.p2, x.p3] → RchS l R z
theorem lev_sq {l : List Th} {t : Nat} {z : Int} (h : (levelF l t z).isSome = true) : z = 0 ∨ z = 1 ∨ ∃ x, ownSq l t z = some x := by
  unfold levelF at h
  by_cases h01 : z = 0 ∨ z = 1
  · rcases h01 with e | e
    · exact .inl e
    · exact .inr (.inl e)
  · rw [if_neg h01] at h
    refine .inr (.inr ?_)
    unfold ownSq
    cases ho : ownF l t z with
    | none => rw [ho] at h; cases h
    | some x =>
      rw [ho] at h
      simp only at h
      by_cases hk : x.k = 1
      · exact ⟨x, by rw [Option.filter_some, if_pos (by simpa using hk)]⟩
      · rw [if_neg hk] at h; cases h
theorem sq_lev {l : List Th} {t : Nat} {z : Int} {x : Th} (h : ownSq l t z = some x) : (levelF l t z).isSome = true := by
  obtain ⟨h1, h2, h3, h4, h5⟩ := ownSq_some h
  unfold levelF
  rw [if_neg (by omega), ownF_iff.2 ⟨h3, h4, h5⟩]
  simp only
  rw [if_pos h2]
  rfl
/-- the roots that are a tenant's -/
def rootsOf (l : List Th) (t : Nat) (rs : List Int) : List Int := rs.filter fun z => (levelF l t z).isSome
theorem rchS_of {l : List Th} {t : Nat} {rs : List Int} (hc : ∀ (z : Int) (x : Th), ownSq l t z = some x → ∀ r ∈ partsT x, (levelF l t r).isSome = true) {z : Int} (h : RchS (refL 0 l) (rootsOf l t rs) z) : z = 0 ∨ z = 1 ∨ Rch (ownV l t) rs z := by
  induction h with
  | root hz =>
    obtain ⟨h1, h2⟩ := List.mem_filter.1 hz
    rcases lev_sq h2 with e | e | ⟨x, hx⟩
    · exact .inl e
    · exact .inr (.inl e)
    · obtain ⟨q1, q2, _⟩ := ownSq_V hx
      exact .inr (.inr (.root h1 q1 q2))
  | @part r z' hx hk _ hz ih =>
    obtain ⟨j, y, h1, h2, h3⟩ := (mem_ref _ _ _).1 hx
    rw [Nat.zero_add] at h3
    have hid : r.id = (j : Int) + 2 := by rw [h3]; rfl
    have hyk : y.k = 1 := by
      have : (toRt j y).k = 0 := by rw [← h3]; exact hk
      have : y.k - 1 = 0 := this
      omega
    rcases ih with e | e | e
    · omega
    · omega
    · obtain ⟨f, hf1, hf2⟩ := e.own
      obtain ⟨x, hx1, hx2⟩ := ownSq_of hf1 hf2
      obtain ⟨_, q2, q3, q4, q5⟩ := ownSq_some hx1
      have hxy : x = y := by
        rw [hid, show ((j : Int) + 2 - 2).toNat = j by omega, h1] at q4
        cases q4
        rfl
      subst hxy
      have hp : z' ∈ partsT x := by
        rw [h3] at hz
        exact hz
      rcases lev_sq (hc r.id x hx1 z' hp) with e2 | e2 | ⟨y2, hy2⟩
      · exact .inl e2
      · exact .inr (.inl e2)
      · obtain ⟨a1, a2, a3⟩ := ownSq_V hx1
        obtain ⟨b1, b2, _⟩ := ownSq_V hy2
        exact .inr (.inr (.part e a1 (by rw [a3]; exact hp) b1 b2))
theorem rch_S {l : List Th} {t : Nat} {rs : List Int} {z : Int} (h : Rch (ownV l t) rs z) : RchS (refL 0 l) (rootsOf l t rs) z := by
  induction h with
  | root h1 h2 h3 =>
    obtain ⟨x, hx, _⟩ := ownSq_of h2 h3
    exact .root (List.mem_filter.2 ⟨h1, sq_lev hx⟩)
  | @part id r f g h1 h2 h3 _ _ ih =>
    obtain ⟨f', hf1, hf2⟩ := h1.own
    rw [h2] at hf1
    cases hf1
    obtain ⟨x, hx, hxf⟩ := ownSq_of h2 hf2
    obtain ⟨_, q2, q3, q4, q5⟩ := ownSq_some hx
    obtain ⟨_, _, a3⟩ := ownSq_V hx
    rw [← hxf, a3] at h3
    refine .part (x := toRt (id - 2).toNat x) ((mem_ref _ _ _).2 ⟨_, x, q4, by omega, by rw [Nat.zero_add]⟩) (by show x.k - 1 = 0; omega) ?_ h3
    show RchS _ _ (((id - 2).toNat : Int) + 2)
    rw [show (((id - 2).toNat : Nat) : Int) + 2 = id by omega]
    exact ih
theorem ids_mark {l : List Th} {t : Nat} {K : List Bool} {j : Nat} {x : Th} (hx : l[j]? = some x) (hb : x.mask.testBit t = true) (hK : K.length = l.length) : (j : Int) + 2 ∈ idsF l t K l.length ↔ ¬ Mk K j := by
  have hlt := (List.getElem?_eq_some_iff.1 hx).1
  have hkb : K[j]! = true ↔ Mk K j := by
    unfold Mk
    rw [List.getElem!_eq_getElem?_getD, List.getElem?_eq_getElem (show j < K.length by omega)]
    simp
  unfold idsF
  rw [List.mem_map]
  constructor
  · rintro ⟨k, hk, e⟩ hm
    obtain rfl : k = j := by omega
    obtain ⟨_, h2⟩ := List.mem_filter.1 hk
    rw [hkb.2 hm] at h2
    simp at h2
  · intro hm
    refine ⟨j, List.mem_filter.2 ⟨List.mem_range.2 hlt, ?_⟩, rfl⟩
    rw [get_bang hx, hb]
    cases hv : K[j]! with
    | true => exact absurd (hkb.1 hv) hm
    | false => rfl
/-- Clean: both take away the same -/
theorem clean_ref {A : Ar} (hS : Sound A) {t : Nat} (ht : t < 64) (hc : ∀ (z : Int) (x : Th), ownSq A.ths t z = some x → ∀ r ∈ partsT x, (levelF A.ths t r).isSome = true) (rs : List Int) (K : List Int) (hK : ∀ z, z ∈ K ↔ RchS (refL 0 A.ths) (rootsOf A.ths t rs) z) :
    (St.of A).lose t (cleanQ K) = St.of (A.cleanP t rs) ∧ lostN (St.of A).ths t (cleanQ K) = (idsF A.ths t (keepAll A.ths t rs) A.ths.length).length := by
  refine lose_ref hS ht (ids_own (Nat.le_refl _)) _ fun j x hx hb => ?_
  rw [ids_mark hx hb (keepAll_len _ _ _), keepAll_iff]
  unfold cleanQ
  rw [decide_eq_true_eq]
  have e1 : (toRt j x).id = (j : Int) + 2 := rfl
  have e2 : (toRt j x).k = x.k - 1 := rfl
  rw [e1, e2, hK]
  have hsq : x.k = 1 → ownSq A.ths t ((j : Int) + 2) = some x := fun hk => by
    unfold ownSq
    rw [ownF_iff.2 ⟨by omega, by rw [show ((j : Int) + 2 - 2).toNat = j by omega]; exact hx, hb⟩, Option.filter_some, if_pos (by simpa using hk)]
  constructor
  · rintro (h | h) hr
    · obtain ⟨f, hf1, hf2⟩ := hr.own
      obtain ⟨y, hy, _⟩ := ownSq_of hf1 hf2
      obtain ⟨_, q2, _, q4, _⟩ := ownSq_some hy
      rw [show ((j : Int) + 2 - 2).toNat = j by omega, hx] at q4
      cases q4
      omega
    · exact h (rch_S hr)
  · intro h
    by_cases hk : x.k = 1
    · refine .inr fun hr => ?_
      rcases rchS_of hc hr with e | e | e
      · omega
      · omega
      · exact h e
    · exact .inl (by omega)
end Go.Proofs.Ytfogedmghhacdaa.A

namespace Go.Proofs.Ytfogedmghhacdaa.A
open Go.RowKit Go.Maps

def Rt.parts (x : Rt) : List Int := [x.p0, x.p1, x.p2, x.p3]
/-- all parts of all things -/
def allP (l : List Rt) : List Int := l.flatMap Rt.parts
theorem allP_len (l : List Rt) : (allP l).length = l.length * 4 := by
  induction l with
  | nil => rfl
  | cons x r ih => simp [allP, Rt.parts] at *; omega
/-- how many of them are not kept -/
def notIn (l : List Rt) (K : List Int) : Nat := (allP l).countP fun z => decide (z ∉ K)
theorem notIn_le (l : List Rt) (K : List Int) : notIn l K ≤ l.length * 4 := by
  rw [← allP_len]
  exact List.countP_le_length
theorem countP_lt {U : List Int} {p q : Int → Bool} (h : ∀ z ∈ U, q z = true → p z = true) {a : Int} (ha : a ∈ U) (h1 : p a = true) (h2 : q a = false) : U.countP q < U.countP p := by
  induction U with
  | nil => cases ha
  | cons b U ih =>
    rw [List.countP_cons, List.countP_cons]
    have hle : U.countP q ≤ U.countP p := List.countP_mono_left fun z hz => h z (by simp [hz])
    by_cases e : a = b
    · subst e
      rw [h1, h2]
      simp
      omega
    · have := ih (fun z hz => h z (by simp [hz])) (by simpa [e] using ha)
      have hb := h b (by simp)
      by_cases hq : q b = true
      · rw [hq, hb hq]; simp; omega
      · have : q b = false := by simpa using hq
        rw [this]
        simp
        omega
theorem notIn_cons {l : List Rt} {K : List Int} {z : Int} (hz : z ∈ allP l) (hn : z ∉ K) : notIn l (z :: K) < notIn l K := by
  unfold notIn
  refine countP_lt (fun y _ h => ?_) hz (by simpa using hn) (by simp)
  simp only [decide_eq_true_eq, List.mem_cons, not_or] at h ⊢
  exact h.2
theorem part_all {l : List Rt} {x : Rt} {z : Int} (hx : x ∈ l) (hz : z ∈ x.parts) : z ∈ allP l := List.mem_flatMap.2 ⟨x, hx, hz⟩
/-- all that is kept has its parts kept, of some things -/
def ShutK (l : List Rt) (K : List Int) : Prop := ∀ x ∈ l, x.k = 0 → x.id ∈ K → ∀ z ∈ x.parts, z ∈ K
/-- what is kept midway -/
structure Mid (l : List Rt) (R K : List Int) : Prop where
  root : ∀ z ∈ R, z ∈ K
  rch : ∀ z ∈ K, RchS l R z
  few : K.length + notIn l K ≤ 2 + l.length * 4
theorem Mid.all {l : List Rt} {R K : List Int} (h : Mid l R K) (hs : ShutK l K) (z : Int) : z ∈ K ↔ RchS l R z := by
  refine ⟨h.rch z, fun hr => ?_⟩
  induction hr with
  | root hz => exact h.root _ hz
  | part hx hk _ hz ih => exact hs _ hx hk ih _ hz
theorem Mid.add {l : List Rt} {R K : List Int} (h : Mid l R K) {x : Rt} {z : Int} (hx : x ∈ l) (hk : x.k = 0) (hi : x.id ∈ K) (hz : z ∈ x.parts) (hn : z ∉ K) : Mid l R (z :: K) := by
  refine ⟨fun y hy => List.mem_cons_of_mem _ (h.root y hy), fun y hy => ?_, ?_⟩
  · rcases List.mem_cons.1 hy with e | e
    · rw [e]; exact .part hx hk (h.rch _ hi) hz
    · exact h.rch y e
  · have h1 := notIn_cons (part_all hx hz) hn
    have h2 := h.few
    rw [List.length_cons]
    omega
/-- a round midway: K0 at its beginning; ag: something was added; D: what was gone through -/
structure RoundK (l : List Rt) (R K0 : List Int) (D : List Rt) (ag : Bool) (K : List Int) : Prop where
  mid : Mid l R K
  less : ag = true → notIn l K < notIn l K0
  same : ag = false → K = K0 ∧ ShutK D K0
theorem RoundK.start {l : List Rt} {R K0 : List Int} (h : Mid l R K0) : RoundK l R K0 [] false K0 := ⟨h, (fun e => by cases e), fun _ => ⟨rfl, (fun x hx => by cases hx)⟩⟩
theorem notIn_mono {l : List Rt} {K : List Int} {z : Int} : notIn l (z :: K) ≤ notIn l K := by
  unfold notIn
  refine List.countP_mono_left fun y _ h => ?_
  simp only [decide_eq_true_eq, List.mem_cons, not_or] at h ⊢
  exact h.2
theorem RoundK.add {l : List Rt} {R K0 K : List Int} {D D' : List Rt} {ag : Bool} (h : RoundK l R K0 D ag K) {x : Rt} {z : Int} (hx : x ∈ l) (hk : x.k = 0) (hi : x.id ∈ K) (hz : z ∈ x.parts) (hn : z ∉ K) : RoundK l R K0 D' true (z :: K) := by
  refine ⟨h.mid.add hx hk hi hz hn, fun _ => ?_, fun e => by cases e⟩
  have h1 := notIn_cons (part_all hx hz) hn
  cases ag with
  | true => have := h.less rfl; omega
  | false => rw [← (h.same rfl).1]; exact h1
end Go.Proofs.Ytfogedmghhacdaa.A

namespace Go.Proofs.Ytfogedmghhacdaa.A
open Go.RowKit Go.Maps

/-- Clean midway, in memory: the map's block, the cell that holds it -/
structure ClSt (w : World) (K : List Int) (W : World) : Prop where
  bel : Below w.heap.size w W
  cel : W.heap[w.heap.size + 1]? = some (.cells #[.map (some w.heap.size)] 105 (0, 0))
  map : KeepAt W w.heap.size K
section
variable {w W W' : World} {K : List Int}
theorem ClSt.born (w : World) : ClSt w [] ((w.alloc (.map #[] 0)).alloc (.cells #[.map (some w.heap.size)] 105)) :=
  ⟨((Below.refl _ _).alloc (Nat.le_refl _) _).alloc (by simp) _, heap_alloc2_new w _ _, (KeepAt.born w).other (by rw [heap_alloc2_old, heap_alloc_new])⟩
theorem ClSt.lt (h : ClSt w K W) : w.heap.size + 1 < W.heap.size := (Array.getElem?_eq_some_iff.1 h.cel).1
theorem ClSt.go (h : ClSt w K W) (hb : Below W.heap.size W W') : ClSt w K W' :=
  ⟨h.bel.trans (hb.mono h.bel.size), (hb.block _ h.lt).trans h.cel, h.map.other (hb.block _ h.map.lt)⟩
theorem ClSt.cell (h : ClSt w K W) : W.cell? ⟨w.heap.size + 1, 0, none⟩ = some (.map (some w.heap.size)) := Lib.cell_of_heap h.cel 0
theorem ClSt.turned (h : ClSt w K W) {K' : List Int} (ht : W.mapTurned W' w.heap.size) (hk : KeepAt W' w.heap.size K') : ClSt w K' W' := by
  have hg := grown_of_turned ht
  exact ⟨h.bel.grown hg h.bel.size fun g hg => by cases hg; exact Nat.le_refl _, (hg.block _ h.lt fun e => by simp at e).trans h.cel, hk⟩
end
end Go.Proofs.Ytfogedmghhacdaa.A
