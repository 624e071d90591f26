/- take, Mark: a thing is a tenant's no more; what can be undone begins anew. -/
import Derived.Test.YtofbcngcblleaabGreatArTh
namespace Go.Proofs.YtofbcngcblleaabGreat.A
open Go.RowKit Go.Maps
def clr (m t : Nat) : Nat := m &&& (18446744073709551615 - bitN t)
theorem clr_lt (m t : Nat) (hm : m < 18446744073709551616) : clr m t < 18446744073709551616 := Nat.lt_of_le_of_lt Nat.and_le_left hm
theorem clr_bit (m t u : Nat) (hm : m < 18446744073709551616) (_ht : t < 64) : (clr m t).testBit u = (m.testBit u && !decide (u = t)) := by
  unfold clr bitN
  have e : 18446744073709551615 - 2 ^ t = 2 ^ 64 - (2 ^ t + 1) := by omega
  have h1 : 2 ^ t < 2 ^ 64 := Nat.pow_lt_pow_right (by omega) _ht
  rw [Nat.testBit_and, e, Nat.testBit_two_pow_sub_succ h1, Nat.testBit_two_pow]
  by_cases hu : u < 64
  · by_cases e2 : u = t
    · subst e2; simp
    · have : ¬ t = u := fun k => e2 k.symm
      simp [hu, e2, this]
  · have : m.testBit u = false := Nat.testBit_lt_two_pow (Nat.lt_of_lt_of_le (show m < 2 ^ 64 by simpa using hm) (Nat.pow_le_pow_right (by omega) (by omega)))
    simp [this]
def Ar.take (A : Ar) (t i : Nat) (x : Th) : Ar := { A with ths := A.ths.set i { x with mask := clr x.mask t }, cnt := upd A.cnt t (A.cnt t - 1) }
set_option maxRecDepth 20000 in
set_option maxHeartbeats 4000000 in
theorem take_any (b t i n : Nat) (F : Nat → Prop) (id : Int) (A : Ar) (r : Raw) (D : DataW Unit) (x : Th) (w : World) (h : ArRaw w b F n A r D) (hx : A.ths[i]? = some x) (hid : id = (i : Int) + 2) (ht : t < 64) (hm : x.mask < 18446744073709551616) (hn : A.ths.length < 4611686018427387904)
    (hcnt : -1000000000 ≤ A.cnt t ∧ A.cnt t < 4611686018427387904) :
    Calls Tryz.prog 64 #[.pointer (some ⟨b, 0, none⟩), .int .i64 t, .int .i64 id] w fun e w' => e = .returned (.tuple #[]) ∧ (ArRaw w' b F n (A.take t i x) (r.turn t { r.tn t with cnt := A.cnt t - 1 }) D) ∧ Apart F w w' := by
  have hi : i < A.ths.length := (List.getElem?_eq_some_iff.1 hx).1
  obtain ⟨g, c, hv⟩ := h.ths.shape' (by omega)
  have hth := h.ths
  rw [hv] at hth
  obtain ⟨_, _, _, _, _, _, _, hg⟩ := hth.cells hx
  have hz := hth.frozenAt (i * 8 + 7)
  have hF : F g := h.fv g (by rw [hv]; rfl)
  have hbne : b ≠ g := fun e => h.vb (by rw [hv, e]; rfl)
  have hb := fun W => bit_any t W ht
  have c1 := h.raw.at 1 (by omega)
  rw [Raw.c1, hv] at c1
  have h0 : (0 : Int) ≤ t := by omega
  have h1 : (t : Int) < 64 := by omega
  have hi0 : (0 : Int) ≤ i := by omega
  have hin : (i : Int) < (A.ths.length : Int) := by omega
  have hw : IntKind.i64.wrap (id - 2) = (i : Int) := by rw [IntKind.wrap_i64]; omega
  have hor : Hid (bits .andNot .u64 (x.mask : Int) (bitN t : Int) = ((clr x.mask t : Nat) : Int)) := u64_andNot_nat x.mask (bitN t) hm (bitN_lt t ht)
  have H1 := h.setMask hv hx (clr x.mask t)
  generalize hA1 : { A with ths := A.ths.set i { x with mask := clr x.mask t } } = A1 at H1
  generalize A.ths.length = len at *
  clear hid hth hn hi hv
  go_enter Tryz.func64, Tryz.ntmps64
  go_wp2_with fail
  go_cut [] from 6 to 19 (fun wc => ArRaw wc b F n A1 r D ∧ Apart F w wc)
  case first =>
    go_region_with (go_at_call 65; refine (hb _).mono ?_; rintro e w1 ⟨rfl, rfl⟩)
    all_goals
      go_wp2_with fail
      go_meet
      case rel =>
        rw [hor.out]
        exact ⟨H1.drew, (Apart.set w _ hF).drew⟩
  case rest =>
  obtain ⟨H2, P2⟩ := hcut
  clear c1 hg hz H1
  have cc := H2.raw.at (4 + t * 3 + 1) (by omega)
  rw [Raw.cc, H2.cnt t ht] at cc
  have e1 : A1.cnt t = A.cnt t := by rw [← hA1]
  rw [e1] at cc
  have z1 := H2.raw.frozen (4 + t * 3 + 1)
  have hwc : IntKind.i64.wrap (A.cnt t - 1) = A.cnt t - 1 := by rw [IntKind.wrap_i64]; omega
  have H3 := H2.setCnt ht (A.cnt t - 1)
  have hA : A.take t i x = { A1 with cnt := upd A1.cnt t (A.cnt t - 1) } := by rw [← hA1]; rfl
  rw [← hA] at H3
  go_wp2_with fail
  go_region
  all_goals
    go_wp2_with fail
    go_end0
    exact ⟨rfl, H3.drew, (P2.trans (Apart.set wc _ H2.fb) fun k hk => Or.inl hk).drew⟩
def Ar.takes (A : Ar) (t : Nat) (l : List Int) : Ar := l.foldl (fun B id => B.take t (id - 2).toNat (thAt B.ths id)) A
theorem takes_snoc (A : Ar) (t : Nat) (l : List Int) (id : Int) : A.takes t (l ++ [id]) = (A.takes t l).take t (id - 2).toNat (thAt (A.takes t l).ths id) := by
  unfold Ar.takes
  rw [List.foldl_append]
  rfl
theorem takes_len (A : Ar) (t : Nat) (l : List Int) : (A.takes t l).ths.length = A.ths.length := by
  unfold Ar.takes
  induction l generalizing A with
  | nil => rfl
  | cons id l ih =>
    rw [List.foldl_cons, ih]
    exact List.length_set
theorem takes_rest (A : Ar) (t : Nat) (l : List Int) : (A.takes t l).fresh = A.fresh ∧ (A.takes t l).lim = A.lim ∧ (A.takes t l).room = A.room ∧ (A.takes t l).free = A.free := by
  unfold Ar.takes
  induction l generalizing A with
  | nil => exact ⟨rfl, rfl, rfl, rfl⟩
  | cons id l ih => rw [List.foldl_cons]; exact ih _
theorem takes_cnt (A : Ar) (t : Nat) (l : List Int) : (A.takes t l).cnt = upd A.cnt t (A.cnt t - (l.length : Int)) := by
  unfold Ar.takes
  induction l generalizing A with
  | nil =>
    show A.cnt = upd A.cnt t _
    simp [upd_self]
  | cons id l ih =>
    rw [List.foldl_cons, ih]
    show upd (upd A.cnt t (A.cnt t - 1)) t (upd A.cnt t (A.cnt t - 1) t - _) = _
    rw [upd_upd, upd_same]
    congr 1
    simp; omega
theorem takes_get (t : Nat) (ht : t < 64) : ∀ (l : List Int) (A : Ar), (∀ id ∈ l, 2 ≤ id ∧ (id - 2).toNat < A.ths.length) → (∀ x ∈ A.ths, x.mask < 18446744073709551616) → ∀ (j : Nat) (x : Th), A.ths[j]? = some x →
    ∃ y, (A.takes t l).ths[j]? = some y ∧ y.key = x.key ∧ y.lv = x.lv ∧ y.va = x.va ∧ y.mask < 18446744073709551616 ∧ ∀ u, y.mask.testBit u = true ↔ x.mask.testBit u = true ∧ ¬ (u = t ∧ (j : Int) + 2 ∈ l)
  | [], A, _, hm, j, x, hx => ⟨x, hx, rfl, rfl, rfl, hm x (List.mem_of_getElem? hx), fun u => by simp⟩
  | id :: l, A, hl, hm, j, x, hx => by
    obtain ⟨h2, hlt⟩ := hl id (by simp)
    have hget : ∀ k, (A.take t (id - 2).toNat (thAt A.ths id)).ths[k]? = if (id - 2).toNat = k then some { thAt A.ths id with mask := clr (thAt A.ths id).mask t } else A.ths[k]? := fun k => by
      show (A.ths.set _ _)[k]? = _
      rw [List.getElem?_set]
      by_cases e : (id - 2).toNat = k
      · subst e; simp [hlt]
      · simp [e]
    have hth : A.ths[(id - 2).toNat]? = some (thAt A.ths id) := by unfold thAt; rw [List.getElem?_eq_getElem hlt]; rfl
    have hmt := hm _ (List.mem_of_getElem? hth)
    have hm' : ∀ z ∈ (A.take t (id - 2).toNat (thAt A.ths id)).ths, z.mask < 18446744073709551616 := fun z hz => by
      rcases List.mem_or_eq_of_mem_set (show z ∈ A.ths.set _ _ from hz) with h | h
      · exact hm z h
      · rw [h]; exact clr_lt _ _ hmt
    have ih := takes_get t ht l (A.take t (id - 2).toNat (thAt A.ths id)) (fun k hk => by
      have := hl k (by simp [hk])
      refine ⟨this.1, ?_⟩
      show _ < (A.ths.set _ _).length
      rw [List.length_set]; exact this.2) hm'
    show ∃ y, ((A.take t (id - 2).toNat (thAt A.ths id)).takes t l).ths[j]? = some y ∧ _
    by_cases e : (id - 2).toNat = j
    · subst e
      rw [hth] at hx
      obtain rfl := Option.some.inj hx
      obtain ⟨y, y1, y2, y3, y4, y5, y6⟩ := ih (id - 2).toNat _ (by rw [hget, if_pos rfl])
      refine ⟨y, y1, y2, y3, y4, y5, fun u => ?_⟩
      rw [y6 u]
      show (clr (thAt A.ths id).mask t).testBit u = true ∧ _ ↔ _
      rw [clr_bit _ _ _ hmt ht]
      have : (((id - 2).toNat : Nat) : Int) + 2 = id := by omega
      rw [this]
      by_cases eu : u = t <;> simp [eu]
    · obtain ⟨y, y1, y2, y3, y4, y5, y6⟩ := ih j x (by rw [hget, if_neg e]; exact hx)
      refine ⟨y, y1, y2, y3, y4, y5, fun u => ?_⟩
      rw [y6 u]
      have : ¬ (j : Int) + 2 = id := by omega
      simp [this]
theorem IntRow.get {w : World} {g n c : Nat} {l : List Int} (h : IntRow w (.slice (some ⟨g, 0, none⟩) n c) l) (j : Nat) (hj : j < l.length) : w.cell? ⟨g, j, none⟩ = some (.int .i64 l[j]!) := by
  have hn : n = l.length := by
    obtain ⟨a, c', e⟩ := h.shape
    simp only [Value.slice.injEq] at e
    exact e.2.1
  subst hn
  rw [World.ownsRow.cellAt h j (by omega), List.getElem?_map, List.getElem?_eq_getElem hj, getElem!_pos l j hj]
  rfl
def Ar.undo (A : Ar) (t : Nat) : Ar := { A.takes t (A.fresh t) with fresh := upd A.fresh t [] }
end Go.Proofs.YtofbcngcblleaabGreat.A
