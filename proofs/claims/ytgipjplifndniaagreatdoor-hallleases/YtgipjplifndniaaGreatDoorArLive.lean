/- An arena in memory, whatever numbers are free: what holds between calls. -/
import Derived.Test.YtgipjplifndniaaGreatDoorArPop
import Derived.Test.YtgipjplifndniaaGreatDoorArUp
import Derived.Test.YtgipjplifndniaaGreatDoorArLayG
namespace Go.Proofs.YtgipjplifndniaaGreatDoor.A
open Go.RowKit Go.Maps Go.ChangeMaps Go.WideElems

def Ar.swq (A : Ar) (i : Nat) (L : List Int) : Ar := { A with ths := sw A.ths i, free := L }
theorem sw_uniq {l : List Th} (h : Uniq l) (i : Nat) : Uniq (sw l i) := fun a b x y hx hy hk he => by
  rw [sw_get] at hx hy
  cases ha : l[a]? with
  | none => rw [ha] at hx; cases hx
  | some x0 =>
    cases hb : l[b]? with
    | none => rw [hb] at hy; cases hy
    | some y0 =>
      rw [ha, Option.map_some] at hx
      rw [hb, Option.map_some] at hy
      have hx := Option.some.inj hx
      have hy := Option.some.inj hy
      split at hx
      · rw [← hx] at hk; exact absurd rfl hk
      · split at hy
        · rw [← hy] at he
          exact absurd (key_k he) hk
        · subst hx; subst hy
          exact h a b _ _ ha hb hk he

def SweepOut (w : World) (b n : Nat) (F : Nat → Prop) (A : Ar) (L : List Int) (D : DataW Unit) (e : Ending) (w' : World) : Prop :=
  e = .returned (.int .i64 ((fr A.ths A.ths.length).length : Int)) ∧ ∃ (F' : Nat → Prop) (L' : List Int) (r' : Raw) (D' : DataW Unit), (∀ k, F' k → F k ∨ w.heap.size ≤ k) ∧ ArRaw w' b F' n (A.swq A.ths.length L') r' D' ∧ L'.Perm (L ++ fr A.ths A.ths.length) ∧ Heap L' L'.length ∧ size D' + (fr A.ths A.ths.length).length = size D ∧ Apart F w w'
theorem ownsMap_size {w : World} {P : Program} {k : TypeId} {R : Value → Option (DataW Unit × List MemPlace)} {b n : Nat} {D : DataW Unit} (h : w.ownsMap P k R b n D) : w.ownsMap P k R b (size D) D ∧ size D ≤ n := by
  obtain ⟨es, clock, hb, F, hs, rfl⟩ := h
  have e1 : es.size = ((es.toList.map (rg P k R)).foldr DataW.insert []).length := by rw [length_sorted]; simp
  refine ⟨⟨es, clock, hb, F, ?_, rfl⟩, ?_⟩
  · rw [size_eq, ← e1]; exact Nat.le_refl _
  · rw [size_eq, ← e1]; exact hs
theorem NumIs.has {D : DataW Unit} {l : List Th} (h : NumIs D l) {i : Nat} {x : Th} (hx : l[i]? = some x) (hk : x.k ≠ 0) (hf : x.key.Fit) : has D (kl x.key) = true := by
  rw [(h x.key hf hk).1]
  cases hs : spotF l x.key with
  | some j => rfl
  | none => exact absurd rfl (spot_none hs x (List.mem_of_getElem? hx))

set_option maxRecDepth 20000 in
set_option maxHeartbeats 4000000 in
theorem sweepq_any (b n : Nat) (F : Nat → Prop) (A : Ar) (L : List Int) (r : Raw) (D : DataW Unit) (w : World) (h : ArRaw w b F n { A with free := L } r D) (hH : Heap L L.length) (hlen : A.ths.length < 400000) (hpos : 0 < A.ths.length) (hU : Uniq A.ths) (hfit : ∀ x ∈ A.ths, x.k ≠ 0 → x.key.Fit) (hfl : L.length + A.ths.length < 900000) :
    Calls Tryz.prog 82 #[.pointer (some ⟨b, 0, none⟩)] w fun e w' => SweepOut w b n F A L D e w' := by
  have HH0 : Hid (Heap L L.length) := hH
  clear hH
  obtain ⟨g, c, hv⟩ := h.ths.shape' hpos
  have hv : r.vth = .slice (some ⟨g, 0, none⟩) A.ths.length c := hv
  have c1 := h.raw.at 1 (by omega)
  rw [Raw.c1, hv] at c1
  obtain ⟨len, hl⟩ : ∃ n, n = A.ths.length := ⟨_, rfl⟩
  rw [← hl] at hlen hpos hv c1 hfl
  have HL : Hid (len = A.ths.length) := hl
  have HH : Hid (ArRaw w b F n (A.swq 0 L) r D) := by
    show ArRaw w b F n (A.swq 0 L) r D
    unfold Ar.swq
    rw [sw_zero]
    exact h
  have HV : Hid (r.vth = .slice (some ⟨g, 0, none⟩) len c) := hv
  have HU : Hid (Uniq A.ths) := hU
  have HFIT : Hid (∀ x ∈ A.ths, x.k ≠ 0 → x.key.Fit) := hfit
  clear hv hl hU hfit h
  go_enter Tryz.func82, Tryz.ntmps82
  go_wp2_with fail
  go_loopg [3, 13] len (fun gh s3 s13 wr => ∃ (i : Nat) (r' : Raw) (D' : DataW Unit) (F' : Nat → Prop) (L' : List Int), i + gh = len ∧ s3 = .int .i64 ((fr A.ths i).length : Int) ∧ s13 = .int .i64 i ∧ ArRaw wr b F' n (A.swq i L') r' D' ∧ r'.vth = .slice (some ⟨g, 0, none⟩) len c ∧ (L'.Perm (L ++ fr A.ths i) ∧ Heap L' L'.length ∧ size D' + (fr A.ths i).length = size D) ∧ (∀ k, F' k → F k ∨ w.heap.size ≤ k) ∧ Apart F w wr)
  case atStart => exact ⟨0, r, D, F, L, by omega, rfl, rfl, HH.out, HV.out, ⟨by rw [show fr A.ths 0 = [] from rfl, List.append_nil], HH0.out, rfl⟩, fun k hk => Or.inl hk, Apart.refl _ _⟩
  case round =>
    obtain ⟨i, r', D', F', L', hi', rfl, rfl, hr, hfr, hq, hF', P⟩ := hrel
    have HQ : Hid (L'.Perm (L ++ fr A.ths i) ∧ Heap L' L'.length ∧ size D' + (fr A.ths i).length = size D) := hq
    clear hq
    have HI : Hid (i + gk = len) := hi'
    have hin : i ≤ len := by omega
    clear hi' c1
    by_cases hlt : i < len
    · have k0 : (0 : Int) ≤ (i : Int) := by omega
      have k1 : (i : Int) < (len : Int) := by omega
      have hlS : (A.swq i L').ths.length = len := by rw [HL.out]; exact sw_len _ _
      have hx : A.ths[i]? = some A.ths[i]! := by rw [getElem!_pos A.ths i (by rw [← HL.out]; exact hlt)]; exact List.getElem?_eq_getElem _
      have hxS : (A.swq i L').ths[i]? = some A.ths[i]! := sw_now hx
      have hth := hr.ths
      rw [hfr] at hth
      rw [← hlS] at hth
      obtain ⟨d0, d1, d2, d3, d4, d5, d6, d7⟩ := hth.cells hxS
      have hfl2 := fr_len A.ths i
      have HX : Hid (A.ths[i]? = some A.ths[i]!) := hx
      have HXS : Hid ((A.swq i L').ths[i]? = some A.ths[i]!) := hxS
      have HLS : Hid ((A.swq i L').ths.length = len) := hlS
      generalize A.ths[i]! = x at *
      obtain ⟨fl, hfl3⟩ : ∃ n, n = (fr A.ths i).length := ⟨_, rfl⟩
      rw [← hfl3] at hfl2 ⊢
      have HFL : Hid (fl = (fr A.ths i).length) := hfl3
      clear hx hxS hth hlS hfl3
      have hbx : Below wr.heap.size wr (wr.alloc (.cells #[.int .i64 x.k, .int .i64 x.p0, .int .i64 x.p1, .int .i64 x.p2, .int .i64 x.p3, .int .i64 x.lv, .int .i64 x.va, .int .u64 x.mask] 100)) := (Below.refl _ _).alloc (Nat.le_refl _) _
      have HB : Hid _ := hbx
      clear hbx
      cases hg : gone x with
      | false =>
        have hA : A.swq (i + 1) L' = A.swq i L' := by
          unfold Ar.swq
          rw [sw_keep HX.out hg]
        have HA : Hid (A.swq (i + 1) L' = A.swq i L') := hA
        have HF2 : Hid (fr A.ths (i + 1) = fr A.ths i) := fr_keep HX.out hg
        have hc : (x.k != 0) = false ∨ ((x.k != 0) = true ∧ ((x.mask : Int) == 0) = false) := by
          unfold gone at hg
          cases h1 : (x.k != 0) with
          | false => exact Or.inl rfl
          | true =>
            rw [h1, Bool.true_and] at hg
            refine Or.inr ⟨rfl, ?_⟩
            simp only [beq_eq_false_iff_ne] at hg ⊢
            omega
        have HREL : Hid (∃ (i' : Nat) (r0 : Raw) (D0 : DataW Unit) (F0 : Nat → Prop) (L0 : List Int), i' + (gk - 1) = len ∧ Value.int .i64 (fl : Int) = .int .i64 ((fr A.ths i').length : Int) ∧ Value.int .i64 ((i : Int) + 1) = .int .i64 (i' : Int) ∧ ArRaw (wr.alloc (.cells #[.int .i64 x.k, .int .i64 x.p0, .int .i64 x.p1, .int .i64 x.p2, .int .i64 x.p3, .int .i64 x.lv, .int .i64 x.va, .int .u64 x.mask] 100)) b F0 n (A.swq i' L0) r0 D0 ∧ r0.vth = .slice (some ⟨g, 0, none⟩) len c ∧ (L0.Perm (L ++ fr A.ths i') ∧ Heap L0 L0.length ∧ size D0 + (fr A.ths i').length = size D) ∧ (∀ k, F0 k → F k ∨ w.heap.size ≤ k) ∧ Apart F w (wr.alloc (.cells #[.int .i64 x.k, .int .i64 x.p0, .int .i64 x.p1, .int .i64 x.p2, .int .i64 x.p3, .int .i64 x.lv, .int .i64 x.va, .int .u64 x.mask] 100))) :=
          ⟨i + 1, r', D', F', L', by have := HI.out; omega, by rw [HF2.out, HFL.out], by go_num, by rw [HA.out]; exact hr.below HB.out, hfr, by rw [HF2.out]; exact HQ.out, hF', P.trans (Apart.of (F := F) HB.out) fun k hk => Or.inl hk⟩
        clear hg hA
        rcases hc with hk | ⟨hk, hm⟩
        · go_wp2_with fail
          go_roundg (gk - 1)
          case measure => have := HI.out; omega
          case rel => exact HREL.out
        · go_wp2_with fail
          go_roundg (gk - 1)
          case measure => have := HI.out; omega
          case rel => exact HREL.out
      | true =>
        have HG : Hid (gone x = true) := hg
        have hk : ¬ x.k = 0 ∧ x.mask = 0 := by
          unfold gone at hg
          simpa using hg
        have hb1 : (x.k != 0) = true := by simpa using hk.1
        have HK : Hid (x.k ≠ 0 ∧ x.mask = 0 ∧ x.key.Fit) := ⟨hk.1, hk.2, HFIT.out x (List.mem_of_getElem? HX.out) hk.1⟩
        have hb2 : ((x.mask : Int) == 0) = true := by rw [hk.2]; rfl
        clear hg hk
        go_wp2_with fail
        have hX : (wr.alloc (.cells #[.int .i64 x.k, .int .i64 x.p0, .int .i64 x.p1, .int .i64 x.p2, .int .i64 x.p3, .int .i64 x.lv, .int .i64 x.va, .int .u64 x.mask] 100)).heap[wr.heap.size]? = some (.cells #[.int .i64 x.k, .int .i64 x.p0, .int .i64 x.p1, .int .i64 x.p2, .int .i64 x.p3, .int .i64 x.lv, .int .i64 x.va, .int .u64 x.mask] 100 (0, 0)) := heap_alloc_new wr _
        have H1 := hr.below HB.out
        have P1 := P.trans (Apart.of (F := F) HB.out) fun k hk => Or.inl hk
        have hszW : (wr.alloc (.cells #[.int .i64 x.k, .int .i64 x.p0, .int .i64 x.p1, .int .i64 x.p2, .int .i64 x.p3, .int .i64 x.lv, .int .i64 x.va, .int .u64 x.mask] 100)).heap.size = wr.heap.size + 1 := by simp
        clear HB d0 d1 d2 d3 d4 d5 d6 d7
        generalize wr.alloc (.cells #[.int .i64 x.k, .int .i64 x.p0, .int .i64 x.p1, .int .i64 x.p2, .int .i64 x.p3, .int .i64 x.lv, .int .i64 x.va, .int .u64 x.mask] 100) = W1 at *
        obtain ⟨d0, d1, d2, d3, d4, d5, d6, d7⟩ := cells8 hX
        have c2 := H1.raw.at 2 (by omega)
        rw [Raw.c2] at c2
        obtain ⟨w6, hrun, hown6, hturn⟩ := World.ownsMap.drop (w := W1.drew) H1.map thLaw Tryz.underlying72 (key_ky HK.out.2.2) 0
        unfold Ky.val Th.key at hrun
        simp only at hrun
        have HM : Hid (w6.ownsMap Tryz.prog 97 (plainElem Tryz.prog 3) r'.mp n (D'.del (kl x.key)) ∧ W1.drew.mapTurned w6 r'.mp) := ⟨hown6, hturn⟩
        clear hX hown6 hturn
        go_cut [] from 27 to 32 (fun wc => wc = w6)
        case first =>
          go_region
          all_goals
            go_wp2_with fail
            go_meet
            case rel => exact rfl
        case rest =>
        subst hcut
        clear hrun c2 d0 d1 d2 d3 d4 d5 d6 d7
        have hgr := grown_of_turned HM.out.2
        have hsz := size_of_turned HM.out.2
        have hlk : ∀ k, F' k → k ≠ r'.mp → wc.heap[k]? = W1.heap[k]? := fun k hk hne => hgr.block k (H1.flt k hk) (fun e => hne (Option.some.inj e))
        have hR := H1.raw.go (hlk b H1.fb H1.mb.symm)
        have c1 := hR.at 1 (by omega)
        rw [Raw.c1, hfr] at c1
        have hv' : r'.vth = .slice (some ⟨g, 0, none⟩) (A.swq i L').ths.length c := by rw [HLS.out]; exact hfr
        have hth : ThRow wc 0 r'.vth (A.swq i L').ths := row_other H1.ths fun k hk => hlk k (H1.fv k hk) (fun e => H1.vm (by rw [← e]; exact hk))
        rw [hv'] at hth
        obtain ⟨d0, d1, d2, d3, d4, d5, d6, d7⟩ := hth.cells HXS.out
        have z0 := hth.frozenAt (i * 8)
        have z1 := hth.frozenAt (i * 8 + 1)
        have z2 := hth.frozenAt (i * 8 + 2)
        have z3 := hth.frozenAt (i * 8 + 3)
        have z4 := hth.frozenAt (i * 8 + 4)
        have z5 := hth.frozenAt (i * 8 + 5)
        have z6 := hth.frozenAt (i * 8 + 6)
        have z7 := hth.frozenAt (i * 8 + 7)
        obtain ⟨HU1, PU1⟩ := H1.drew.unlay (sw_uniq HU.out i) hv' HXS.out HK.out.1 HK.out.2.2 HM.out.1 HM.out.2
        have hA : ∀ l : List Int, ({ ({ A.swq i L' with ths := (A.swq i L').ths.set i noTh } : Ar) with free := l } : Ar) = A.swq (i + 1) l := fun l => by
          unfold Ar.swq
          rw [sw_gone HX.out HG.out]
        have HSZ : Hid (size (D'.del (kl x.key)) + (fr A.ths (i + 1)).length = size D) := by
          have e1 := size_del (k := kl x.key) (H1.map.tidy thLaw)
          rw [if_pos (H1.num.has HXS.out HK.out.1 HK.out.2.2)] at e1
          have e2 := HQ.out.2.2
          show size (D'.del (kl x.key)) + (fr A.ths (i + 1)).length = size D
          rw [fr_gone HX.out HG.out, List.length_append, List.length_singleton]
          omega
        have c9 := pushs_any b n F' ((i : Int) + 2) _ r' _ _ HU1 (by
          show L'.length < 900000
          rw [HQ.out.1.length_eq, List.length_append, ← HFL.out]
          omega) HQ.out.2.1
        have HP : Hid (Apart F w (set8At wc g (i * 8) noTh)) := (P1.drew).trans PU1 fun k hk => by
          rcases hF' k hk with h1 | h1
          · exact Or.inl h1
          · exact Or.inr ⟨h1, H1.flt k hk⟩
        have HFLT : Hid (∀ k, F' k → k < (set8At wc g (i * 8) noTh).heap.size) := HU1.flt
        clear HU1 PU1 hth hR hlk hgr H1 hr P1
        go_wp2_with fail
        refine c9.mono ?_
        rintro e w9 ⟨L9, r9, rfl, H9, hv9, hp9, hh9, P9⟩
        rw [hA] at H9
        have HP9 : Hid (L9.Perm (L ++ fr A.ths (i + 1)) ∧ Heap L9 L9.length) := ⟨by
          rw [fr_gone HX.out HG.out, ← List.append_assoc]
          exact hp9.trans ((List.Perm.cons _ HQ.out.1).trans (List.perm_append_singleton _ _).symm), hh9⟩
        clear hp9 hh9 hA
        go_wp2_with fail
        go_roundg (gk - 1)
        case measure => have := HI.out; omega
        case rel =>
          have h1 := HP.out.size
          have h2 := P9.size
          refine ⟨i + 1, r9, _, _, L9, by have := HI.out; omega, ?_, by go_num, H9, by rw [hv9]; exact hfr, ⟨HP9.out.1, HP9.out.2, HSZ.out⟩, fun k hk => ?_, HP.out.trans P9 fun k hk => ?_⟩
          · rw [fr_gone HX.out HG.out, List.length_append, ← HFL.out]
            go_num
          · rcases hk with h | h
            · exact hF' k h
            · exact Or.inr (by omega)
          · rcases hF' k hk with h | h
            · exact Or.inl h
            · exact Or.inr ⟨h, HFLT.out k hk⟩
    · have k1 : ¬ (i : Int) < (len : Int) := by omega
      obtain rfl : i = len := by omega
      go_wp2_with fail
      go_ret
      have e := HL.out
      subst e
      exact ⟨rfl, F', L', r', D', hF', hr, HQ.out.1, HQ.out.2.1, HQ.out.2.2, P⟩
end Go.Proofs.YtgipjplifndniaaGreatDoor.A

namespace Go.Proofs.YtgipjplifndniaaGreatDoor.A
open Go.RowKit Go.Maps

def selFrom (p : Th → Bool) : Nat → List Th → List Int
  | _, [] => []
  | o, x :: r => if p x then ((o : Int) + 2) :: selFrom p (o + 1) r else selFrom p (o + 1) r
theorem sel_append (p : Th → Bool) : ∀ (o : Nat) (l m : List Th), selFrom p o (l ++ m) = selFrom p o l ++ selFrom p (o + l.length) m
  | o, [], m => by simp [selFrom]
  | o, x :: r, m => by
    have ih := sel_append p (o + 1) r m
    have e : o + 1 + r.length = o + (x :: r).length := by simp; omega
    rw [e] at ih
    simp only [List.cons_append, selFrom]
    split
    · rw [ih]; rfl
    · exact ih
theorem sel_length (p : Th → Bool) : ∀ (o : Nat) (l : List Th), (selFrom p o l).length = l.countP p
  | o, [] => rfl
  | o, x :: r => by
    have ih := sel_length p (o + 1) r
    simp only [selFrom]
    by_cases h : p x = true
    · rw [if_pos h, List.length_cons, ih, List.countP_cons_of_pos h]
    · rw [if_neg h, ih, List.countP_cons_of_neg h]
theorem mem_sel {p : Th → Bool} {id : Int} : ∀ {o : Nat} {l : List Th}, id ∈ selFrom p o l ↔ ∃ (j : Nat) (x : Th), l[j]? = some x ∧ p x = true ∧ id = ((o + j : Nat) : Int) + 2
  | o, [] => by simp [selFrom]
  | o, x :: r => by
    have ih := mem_sel (p := p) (id := id) (o := o + 1) (l := r)
    have key : (∃ (j : Nat) (y : Th), (x :: r)[j]? = some y ∧ p y = true ∧ id = ((o + j : Nat) : Int) + 2) ↔ (p x = true ∧ id = (o : Int) + 2) ∨ id ∈ selFrom p (o + 1) r := by
      rw [ih]
      constructor
      · rintro ⟨j, y, h1, h2, h3⟩
        cases j with
        | zero => simp at h1; subst h1; exact .inl ⟨h2, by simpa using h3⟩
        | succ j => exact .inr ⟨j, y, by simpa using h1, h2, by rw [h3]; congr 2; omega⟩
      · rintro (⟨h1, h2⟩ | ⟨j, y, h1, h2, h3⟩)
        · exact ⟨0, x, rfl, h1, by simpa using h2⟩
        · exact ⟨j + 1, y, by simpa using h1, h2, by rw [h3]; congr 2; omega⟩
    rw [key]
    simp only [selFrom]
    by_cases h : p x = true
    · rw [if_pos h, List.mem_cons]; simp [h]
    · rw [if_neg h]; simp [h]
theorem sel_first {p : Th → Bool} {x : Th} (hx : p x = false) : ∀ {o : Nat} {l : List Th} {i : Nat}, l.findIdx? p = some i → selFrom p o l = (((o + i : Nat) : Int) + 2) :: selFrom p o (l.set i x)
  | o, [], i, h => by simp at h
  | o, y :: r, i, h => by
    rw [List.findIdx?_cons] at h
    by_cases hy : p y = true
    · rw [if_pos hy] at h
      obtain rfl := Option.some.inj h
      simp [selFrom, hy, hx]
    · rw [if_neg hy] at h
      cases hr : r.findIdx? p with
      | none => rw [hr] at h; simp at h
      | some k =>
        rw [hr] at h
        obtain rfl := Option.some.inj h
        have ih := sel_first (p := p) hx (o := o + 1) hr
        simp only [List.set_cons_succ, selFrom, if_neg hy]
        rw [ih]
        congr 3
        omega
theorem sel_none {p : Th → Bool} {o : Nat} {l : List Th} (h : l.findIdx? p = none) : selFrom p o l = [] := by
  cases hs : selFrom p o l with
  | nil => rfl
  | cons a r =>
    have : a ∈ selFrom p o l := by rw [hs]; simp
    obtain ⟨j, x, h1, h2, _⟩ := mem_sel.1 this
    rw [List.findIdx?_eq_none_iff] at h
    rw [h x (List.mem_of_getElem? h1)] at h2
    cases h2
theorem sel_map {p p' q : Th → Bool} {f : Th → Th} (h : ∀ x, p' (f x) = (p x || q x)) (hd : ∀ x, p x = true → q x = false) : ∀ (o : Nat) (l : List Th), (selFrom p' o (l.map f)).Perm (selFrom p o l ++ selFrom q o l)
  | o, [] => by simp [selFrom]
  | o, x :: r => by
    have ih := sel_map h hd (o + 1) r
    have hx := h x
    have hdx := hd x
    simp only [List.map_cons, selFrom]
    cases hp : p x with
    | true =>
      rw [hp, hdx hp] at hx
      rw [hx, hdx hp]
      exact List.Perm.cons _ ih
    | false =>
      cases hq : q x with
      | true =>
        rw [hp, hq] at hx
        rw [hx]
        exact (List.Perm.cons _ ih).trans List.perm_middle.symm
      | false =>
        rw [hp, hq] at hx
        rw [hx]
        exact ih
theorem sel_congr {p : Th → Bool} : ∀ (o : Nat) (l m : List Th), l.length = m.length → (∀ (j : Nat) x y, l[j]? = some x → m[j]? = some y → p x = p y) → selFrom p o l = selFrom p o m
  | o, [], [], _, _ => rfl
  | o, [], y :: m, h, _ => by simp at h
  | o, x :: l, [], h, _ => by simp at h
  | o, x :: l, y :: m, h, hp => by
    have ih := sel_congr (p := p) (o + 1) l m (by simpa using h) fun j a b ha hb => hp (j + 1) a b (by simpa using ha) (by simpa using hb)
    have e := hp 0 x y rfl rfl
    simp only [selFrom, e, ih]
theorem fr_sel (l : List Th) : ∀ i, i ≤ l.length → fr l i = selFrom gone 0 (l.take i)
  | 0, _ => rfl
  | i + 1, h => by
    have ih := fr_sel l i (by omega)
    have hx : l[i]? = some (l[i]'(by omega)) := List.getElem?_eq_getElem _
    rw [List.take_add_one, hx, sel_append, ← ih]
    simp only [Option.toList_some, selFrom, List.length_take, Nat.zero_add]
    cases hg : gone (l[i]'(by omega)) with
    | true => rw [fr_gone hx hg, Nat.min_eq_left (by omega)]; rfl
    | false => rw [fr_keep hx hg]; simp
theorem fr_all (l : List Th) : fr l l.length = selFrom gone 0 l := by rw [fr_sel l l.length (Nat.le_refl _), List.take_length]
def clrT (x : Th) : Th := if gone x then noTh else x
def swL (l : List Th) : List Th := l.map clrT
theorem sw_all (l : List Th) : sw l l.length = swL l := by
  unfold sw swL clrT
  rw [List.take_length, List.drop_length, List.append_nil]
def isNo (x : Th) : Bool := x.k == 0
def freeIds (l : List Th) : List Int := selFrom isNo 0 l
theorem free_swept (l : List Th) : (freeIds (swL l)).Perm (freeIds l ++ fr l l.length) := by
  rw [fr_all]
  refine sel_map (fun x => ?_) (fun x h => ?_) 0 l
  · unfold isNo clrT gone
    by_cases h1 : x.k = 0
    · simp [h1]
    · by_cases h2 : x.mask = 0
      · simp [h1, h2, noTh]
      · simp [h1, h2]
  · unfold isNo at h
    unfold gone
    simp at h
    simp [h]
theorem free_live (l : List Th) : (freeIds l).length + liveN l = l.length := by
  unfold freeIds liveN
  rw [sel_length]
  induction l with
  | nil => rfl
  | cons x r ih =>
    by_cases h : x.k = 0
    · rw [List.countP_cons_of_pos (by simp [isNo, h]), List.countP_cons_of_neg (by simp [h]), List.length_cons]; omega
    · rw [List.countP_cons_of_neg (by simp [isNo, h]), List.countP_cons_of_pos (by simp [h]), List.length_cons]; omega
theorem live_swept (l : List Th) : liveN (swL l) + (fr l l.length).length = liveN l := by
  have h1 := free_live (swL l)
  have h2 := free_live l
  have h3 := (free_swept l).length_eq
  rw [List.length_append] at h3
  have h4 : (swL l).length = l.length := by simp [swL]
  omega
theorem live_append (l : List Th) (x : Th) (hx : x.k ≠ 0) : liveN (l ++ [x]) = liveN l + 1 := by
  unfold liveN
  rw [List.countP_append, List.countP_cons_of_pos (by simpa using hx)]
  rfl
theorem live_set {l : List Th} {i : Nat} {x y : Th} (h : l[i]? = some x) (e : x.k = y.k) : liveN (l.set i y) = liveN l := by
  have hi := (List.getElem?_eq_some_iff.1 h).1
  have hx := (List.getElem?_eq_some_iff.1 h).2
  have a := free_live (l.set i y)
  have b := free_live l
  have c : freeIds (l.set i y) = freeIds l := sel_congr 0 _ _ (by simp) fun j u v hu hv => by
    rw [List.getElem?_set] at hu
    by_cases ej : i = j
    · subst ej
      rw [if_pos rfl, if_pos hi] at hu
      rw [h] at hv
      obtain rfl := Option.some.inj hu
      obtain rfl := Option.some.inj hv
      simp [isNo, e]
    · rw [if_neg ej] at hu
      rw [hu] at hv
      obtain rfl := Option.some.inj hv
      rfl
  rw [c, List.length_set] at a
  omega
theorem free_set {l : List Th} {i : Nat} {x y : Th} (h : l[i]? = some x) (e : x.k = y.k) : freeIds (l.set i y) = freeIds l := by
  have hi := (List.getElem?_eq_some_iff.1 h).1
  refine sel_congr 0 _ _ (by simp) fun j u v hu hv => ?_
  rw [List.getElem?_set] at hu
  by_cases ej : i = j
  · subst ej
    rw [if_pos rfl, if_pos hi] at hu
    rw [h] at hv
    obtain rfl := Option.some.inj hu
    obtain rfl := Option.some.inj hv
    simp [isNo, e]
  · rw [if_neg ej] at hu
    rw [hu] at hv
    obtain rfl := Option.some.inj hv
    rfl

structure Sound (A : Ar) : Prop where
  free : A.free = []
  room0 : 0 ≤ A.room
  room1 : A.room ≤ 200000
  len : (A.ths.length : Int) ≤ A.room
  mask : ∀ x ∈ A.ths, x.mask < 18446744073709551616
  zero : ∀ x ∈ A.ths, x.k = 0 → x = noTh
  fit : ∀ x ∈ A.ths, x.key.Fit
  lv : ∀ x ∈ A.ths, 0 ≤ x.lv ∧ x.lv ≤ 44
  va : ∀ x ∈ A.ths, Fits x.va
  uniq : Uniq A.ths
  lim : ∀ t, t < 64 → 0 ≤ A.lim t ∧ A.lim t ≤ A.room
  cnt : ∀ t, t < 64 → A.cnt t = (ownN A.ths t : Int)
  fresh : ∀ t, t < 64 → (A.fresh t).Nodup ∧ ∀ id ∈ A.fresh t, 2 ≤ id ∧ ∃ x, A.ths[(id - 2).toNat]? = some x ∧ x.mask.testBit t = true
def AtP (w : World) (b : Nat) (F : Nat → Prop) (A : Ar) : Prop :=
  ∃ (L : List Int) (r : Raw) (D : DataW Unit), ArRaw w b F (liveN A.ths) { A with free := L } r D ∧ L.Perm (freeIds A.ths) ∧ Heap L L.length
def Led (w : World) (b : Nat) (F : Nat → Prop) (A : Ar) (w' : World) : Prop := ∃ F', (∀ k, F' k → F k ∨ w.heap.size ≤ k) ∧ AtP w' b F' A ∧ Apart F w w'
theorem AtP.other {w w' : World} {b : Nat} {F : Nat → Prop} {A : Ar} (h : AtP w b F A) (hs : w.heap.size ≤ w'.heap.size) (hb : ∀ k, F k → w'.heap[k]? = w.heap[k]?) : AtP w' b F A :=
  let ⟨L, r, D, h1, h2⟩ := h
  ⟨L, r, D, h1.other hs hb, h2⟩
theorem AtP.flt {w : World} {b : Nat} {F : Nat → Prop} {A : Ar} (h : AtP w b F A) : ∀ k, F k → k < w.heap.size := let ⟨_, _, _, h1, _⟩ := h; h1.flt
theorem AtP.below {w w' : World} {b : Nat} {F : Nat → Prop} {A : Ar} (h : AtP w b F A) (hb : Below w.heap.size w w') : AtP w' b F A := h.other hb.size fun k hk => hb.block k (h.flt k hk)
theorem AtP.led {w : World} {b : Nat} {F : Nat → Prop} {A : Ar} (h : AtP w b F A) : Led w b F A w := ⟨F, fun _ h => .inl h, h, Apart.refl _ _⟩
theorem AtP.ledB {w w' : World} {b : Nat} {F : Nat → Prop} {A : Ar} (h : AtP w b F A) (hb : Below w.heap.size w w') : Led w b F A w' := ⟨F, fun _ h => .inl h, h.below hb, Apart.of hb⟩
end Go.Proofs.YtgipjplifndniaaGreatDoor.A
