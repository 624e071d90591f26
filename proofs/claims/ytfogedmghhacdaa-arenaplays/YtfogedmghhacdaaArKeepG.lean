/- keep: a tenant's own squares below a number are marked. -/
import Derived.Test.YtfogedmghhacdaaArNote
namespace Go.Proofs.Ytfogedmghhacdaa.A
open Go.RowKit Go.Maps

/-- a row of marks in a block of its own -/
def Marks (w : World) (kb : Nat) (K : List Bool) : Prop := w.heap[kb]? = some (.cells (K.map Value.bool).toArray 4 (0, 0))
theorem Marks.get {w : World} {kb : Nat} {K : List Bool} (h : Marks w kb K) {i : Nat} (hi : i < K.length) : w.cell? ⟨kb, i, none⟩ = some (.bool K[i]!) := by
  rw [Lib.cell_of_heap h i]
  simp [hi]
theorem Marks.free {w : World} {kb : Nat} {K : List Bool} (h : Marks w kb K) (i : Nat) : w.frozen? ⟨kb, i, none⟩ = false := Lib.frozen_of_heap h i
theorem Marks.lt {w : World} {kb : Nat} {K : List Bool} (h : Marks w kb K) : kb < w.heap.size := (Array.getElem?_eq_some_iff.1 h).1
theorem Marks.set {w : World} {kb : Nat} {K : List Bool} (h : Marks w kb K) (i : Nat) (v : Bool) : Marks (w.setCell ⟨kb, i, none⟩ (.bool v)) kb (K.set i v) := by
  have := Go.Joins.block_setCell (i := i) h (.bool v)
  unfold Marks
  rw [this]
  simp [List.map_set]
theorem Marks.below {w w' : World} {kb : Nat} {K : List Bool} (h : Marks w kb K) (hb : Below w.heap.size w w') : Marks w' kb K := (hb.block kb h.lt).trans h

/-- marked -/
def Mk (K : List Bool) (i : Nat) : Prop := K[i]? = some true
/-- a tenant's own square -/
def ownSq (l : List Th) (t : Nat) (id : Int) : Option Th := (ownF l t id).filter fun x => x.k == 1
/-- marks, with all of a tenant's own squares that one is made of; n: how many are unmarked, at most -/
def keepF (l : List Th) (t : Nat) : Nat → Int → List Bool → List Bool
  | 0, _, K => K
  | n + 1, id, K => match ownSq l t id with
    | some x => if K[(id - 2).toNat]! = true then K else keepF l t n x.p3 (keepF l t n x.p2 (keepF l t n x.p1 (keepF l t n x.p0 (K.set (id - 2).toNat true))))
    | none => K
def unN (K : List Bool) : Nat := K.countP fun b => !b
theorem un_set {K : List Bool} {i : Nat} (hi : i < K.length) (h : K[i]! = false) : unN (K.set i true) + 1 = unN K := by
  unfold unN
  induction K generalizing i with
  | nil => simp at hi
  | cons b K ih =>
    cases i with
    | zero => simp at h; subst h; simp
    | succ i =>
      have := ih (i := i) (by simpa using hi) (by simpa using h)
      rw [List.set_cons_succ, List.countP_cons, List.countP_cons]
      omega
theorem mk_set {K : List Bool} {i j : Nat} (h : Mk K j) : Mk (K.set i true) j := by
  unfold Mk at *
  rw [List.getElem?_set]
  by_cases e : i = j
  · subst e
    have := (List.getElem?_eq_some_iff.1 h).1
    simp [this]
  · simp [e, h]
theorem keepF_len (l : List Th) (t : Nat) : ∀ (n : Nat) (id : Int) (K : List Bool), (keepF l t n id K).length = K.length
  | 0, _, _ => rfl
  | n + 1, id, K => by
    unfold keepF
    split
    · split
      · rfl
      · rw [keepF_len, keepF_len, keepF_len, keepF_len, List.length_set]
    · rfl
theorem keepF_mono (l : List Th) (t : Nat) : ∀ (n : Nat) (id : Int) (K : List Bool) (j : Nat), Mk K j → Mk (keepF l t n id K) j
  | 0, _, _, _, h => h
  | n + 1, id, K, j, h => by
    unfold keepF
    split
    · split
      · exact h
      · exact keepF_mono l t n _ _ j (keepF_mono l t n _ _ j (keepF_mono l t n _ _ j (keepF_mono l t n _ _ j (mk_set h))))
    · exact h
theorem un_le {K K' : List Bool} (hl : K'.length = K.length) (h : ∀ j, Mk K j → Mk K' j) : unN K' ≤ unN K := by
  unfold unN
  induction K generalizing K' with
  | nil => cases K' with
    | nil => exact Nat.le_refl _
    | cons => simp at hl
  | cons b K ih =>
    cases K' with
    | nil => simp at hl
    | cons b' K' =>
      have := ih (K' := K') (by simpa using hl) fun j hj => by simpa [Mk] using h (j + 1) (by simpa [Mk] using hj)
      have h0 := h 0
      simp only [Mk, List.getElem?_cons_zero, Option.some.injEq] at h0
      rw [List.countP_cons, List.countP_cons]
      cases b with
      | false => cases b' <;> simp <;> omega
      | true => rw [h0 rfl]; simpa using this
theorem keepF_un (l : List Th) (t n : Nat) (id : Int) (K : List Bool) : unN (keepF l t n id K) ≤ unN K := un_le (keepF_len l t n id K) fun j h => keepF_mono l t n id K j h
theorem ownSq_some {l : List Th} {t : Nat} {id : Int} {x : Th} (h : ownSq l t id = some x) : ownF l t id = some x ∧ x.k = 1 ∧ 2 ≤ id ∧ l[(id - 2).toNat]? = some x ∧ x.mask.testBit t = true := by
  unfold ownSq at h
  rw [Option.filter_eq_some_iff] at h
  obtain ⟨h1, h2⟩ := h
  have h0 := h1
  unfold ownF at h1
  split at h1
  · rename_i hid
    rw [Option.filter_eq_some_iff] at h1
    exact ⟨h0, by simpa using h2, hid, h1.1, h1.2⟩
  · cases h1
/-- nothing but one block and new ones is written -/
structure OnlyB (kb : Nat) (w w' : World) : Prop where
  os : w'.os = w.os
  tape : w'.tape = w.tape
  output : w'.output = w.output
  size : w.heap.size ≤ w'.heap.size
  block : ∀ k, k < w.heap.size → k ≠ kb → w'.heap[k]? = w.heap[k]?
theorem OnlyB.refl (kb : Nat) (w : World) : OnlyB kb w w := ⟨rfl, rfl, rfl, Nat.le_refl _, fun _ _ _ => rfl⟩
theorem OnlyB.of {kb : Nat} {w w' : World} (h : Below w.heap.size w w') : OnlyB kb w w' := ⟨h.os, h.tape, h.output, h.size, fun k hk _ => h.block k hk⟩
theorem OnlyB.trans {kb : Nat} {w w1 w2 : World} (h : OnlyB kb w w1) (k : OnlyB kb w1 w2) : OnlyB kb w w2 :=
  ⟨k.os.trans h.os, k.tape.trans h.tape, k.output.trans h.output, Nat.le_trans h.size k.size, fun j hj hn => (k.block j (Nat.lt_of_lt_of_le hj h.size) hn).trans (h.block j hj hn)⟩
theorem OnlyB.set {kb : Nat} (w : World) (i : Nat) (v : Value) : OnlyB kb w (w.setCell ⟨kb, i, none⟩ v) := ⟨rfl, rfl, rfl, by rw [size_set]; exact Nat.le_refl _, fun k _ hk => heap_set hk⟩
theorem AtP.only {w w' : World} {b kb : Nat} {F : Nat → Prop} {A : Ar} (h : AtP w b F A) (hk : ¬ F kb) (ho : OnlyB kb w w') : AtP w' b F A := h.other ho.size fun k hF => ho.block k (h.flt k hF) fun e => hk (e ▸ hF)
theorem ownP_any (b t : Nat) (F : Nat → Prop) (id : Int) (A : Ar) (w : World) (h : AtP w b F A) (hS : Sound A) (ht : t < 64) (hid : Fits id) :
    Calls Try.prog 53 #[.pointer (some ⟨b, 0, none⟩), .int .i64 t, .int .i64 id] w fun e w' => e = .returned (.tuple #[((ownF A.ths t id).getD noTh).val, .bool (ownF A.ths t id).isSome]) ∧ Below w.heap.size w w' := by
  obtain ⟨L, r, D, h, _⟩ := h
  exact own_any b 0 t id r A.ths w h.raw h.ths ht hS.mask hid
def KeepP (w : World) (l : List Th) (t n kb : Nat) (id : Int) (K : List Bool) (e : Ending) (w' : World) : Prop := e = .returned (.tuple #[]) ∧ Marks w' kb (keepF l t n id K) ∧ OnlyB kb w w'
theorem at_len {K : List Bool} {i : Nat} (hi : i < K.length) : K[i]? = some K[i]! := by rw [getElem!_pos K i hi]; exact List.getElem?_eq_getElem _

theorem keep_none {l : List Th} {t : Nat} {id : Int} {K : List Bool} (h : ownSq l t id = none) : ∀ n, keepF l t n id K = K
  | 0 => rfl
  | n + 1 => by unfold keepF; rw [h]
theorem keep_marked {l : List Th} {t : Nat} {id : Int} {K : List Bool} {x : Th} (h : ownSq l t id = some x) (hk : K[(id - 2).toNat]! = true) : ∀ n, keepF l t n id K = K
  | 0 => rfl
  | n + 1 => by unfold keepF; rw [h]; simp only; rw [if_pos hk]
theorem keep_go {l : List Th} {t n : Nat} {id : Int} {K : List Bool} {x : Th} (h : ownSq l t id = some x) (hk : K[(id - 2).toNat]! = false) : keepF l t (n + 1) id K = keepF l t n x.p3 (keepF l t n x.p2 (keepF l t n x.p1 (keepF l t n x.p0 (K.set (id - 2).toNat true)))) := by
  conv => lhs; unfold keepF
  rw [h]
  simp only
  rw [if_neg (by rw [hk]; simp)]

set_option maxRecDepth 20000 in
set_option maxHeartbeats 4000000 in
theorem keepStop_any (b t kb ln n : Nat) (F : Nat → Prop) (A : Ar) (hS : Sound A) (ht : t < 64) (hln : A.ths.length = ln) (id : Int) (K : List Bool) (w : World) (h : AtP w b F A) (hM : Marks w kb K) (hK : K.length = ln) (hid : Fits id)
    (hst : ownSq A.ths t id = none ∨ ∃ x, ownSq A.ths t id = some x ∧ K[(id - 2).toNat]! = true) :
    Calls Try.prog 46 #[.pointer (some ⟨b, 0, none⟩), .int .i64 t, .int .i64 id, .slice (some ⟨kb, 0, none⟩) ln ln] w (KeepP w A.ths t n kb id K) := by
  have HKE : Hid (keepF A.ths t n id K = K) := by
    rcases hst with h1 | ⟨x, h1, h2⟩
    · exact keep_none h1 n
    · exact keep_marked h1 h2 n
  have HO := ownP_any b t F id A w h hS ht hid
  have HM : Hid (Marks w kb K) := hM
  have hl := hS.len
  have hrm := hS.room1
  generalize hP : KeepP w A.ths t n kb id K = Post
  have HP : Hid (KeepP w A.ths t n kb id K = Post) := hP
  clear hP
  have fin : Hid (∀ w', Below w.heap.size w w' → Post (.returned (.tuple #[])) w') := fun w' hb => by
    rw [← HP.out]
    exact ⟨rfl, by rw [HKE.out]; exact HM.out.below hb, OnlyB.of hb⟩
  cases ho : ownF A.ths t id with
  | none =>
    rw [ho] at HO
    simp only [Option.getD_none, Option.isSome_none] at HO
    clear hst ho hM h
    go_enter Try.func46, Try.ntmps46
    go_wp2_with fail
    refine HO.mono ?_
    rintro e w1 ⟨rfl, hb1⟩
    have HB1 : Hid (Below w.heap.size w w1) := hb1
    clear HO hb1
    unfold Th.val
    go_wp2_with fail
    exact bodyPost_ret (v := .tuple #[]) (by simp [results, Try.results46]) rfl (fin.out _ (HB1.out.alloc HB1.out.size _))
  | some x =>
    rw [ho] at HO
    simp only [Option.getD_some, Option.isSome_some] at HO
    by_cases hx : x.k = 1
    · have hsq : ownSq A.ths t id = some x := by unfold ownSq; rw [ho, Option.filter_some, if_pos (by simpa using hx)]
      have hkm : K[(id - 2).toNat]! = true := by
        rcases hst with h1 | ⟨y, _, h2⟩
        · rw [hsq] at h1; cases h1
        · exact h2
      obtain ⟨_, _, h2, h3, _⟩ := ownSq_some hsq
      have hil := (List.getElem?_eq_some_iff.1 h3).1
      obtain ⟨i, hi⟩ := Int.eq_ofNat_of_zero_le (show 0 ≤ id - 2 by omega)
      rw [hi] at hkm hil
      simp only [Int.toNat_natCast] at hkm hil
      have hck := hM.get (i := i) (by omega)
      rw [hkm] at hck
      have hb1 : (x.k != 1) = false := by simpa using hx
      have hw1 : IntKind.i64.wrap (id - 2) = (i : Int) := by rw [IntKind.wrap_i64]; omega
      have k0 : (0 : Int) ≤ (i : Int) := by omega
      have k1 : (i : Int) < (ln : Int) := by omega
      have hklt := hM.lt
      clear hst ho hM h hsq h2 h3 hkm hi hx
      go_enter Try.func46, Try.ntmps46
      go_wp2_with fail
      refine HO.mono ?_
      rintro e w1 ⟨rfl, hb1'⟩
      have HB1 : Hid (Below w.heap.size w w1) := hb1'
      have hck1 := (hb1'.cell (p := ⟨kb, i, none⟩) hklt).trans hck
      have hne : kb < w1.heap.size := Nat.lt_of_lt_of_le hklt hb1'.size
      clear HO hb1' hck
      unfold Th.val
      go_wp2_with fail
      exact bodyPost_ret (v := .tuple #[]) (by simp [results, Try.results46]) rfl (fin.out _ (HB1.out.alloc HB1.out.size _))
    · have hb1 : (x.k != 1) = true := by simpa using hx
      clear hst ho hM h hx
      go_enter Try.func46, Try.ntmps46
      go_wp2_with fail
      refine HO.mono ?_
      rintro e w1 ⟨rfl, hb1'⟩
      have HB1 : Hid (Below w.heap.size w w1) := hb1'
      clear HO hb1'
      unfold Th.val
      go_wp2_with fail
      exact bodyPost_ret (v := .tuple #[]) (by simp [results, Try.results46]) rfl (fin.out _ (HB1.out.alloc HB1.out.size _))

set_option maxRecDepth 20000 in
set_option maxHeartbeats 4000000 in
theorem keepGo_any (b t kb ln n : Nat) (F : Nat → Prop) (A : Ar) (hS : Sound A) (ht : t < 64) (hkb : ¬ F kb) (hln : A.ths.length = ln)
    (ih : ∀ (id : Int) (K : List Bool) (w : World), AtP w b F A → Marks w kb K → K.length = ln → unN K ≤ n → Fits id → Calls Try.prog 46 #[.pointer (some ⟨b, 0, none⟩), .int .i64 t, .int .i64 id, .slice (some ⟨kb, 0, none⟩) ln ln] w (KeepP w A.ths t n kb id K))
    (id : Int) (K : List Bool) (w : World) (h : AtP w b F A) (hM : Marks w kb K) (hK : K.length = ln) (hun : unN K ≤ n + 1) (hid : Fits id) (x : Th) (hsq : ownSq A.ths t id = some x) (hkf : K[(id - 2).toNat]! = false) :
    Calls Try.prog 46 #[.pointer (some ⟨b, 0, none⟩), .int .i64 t, .int .i64 id, .slice (some ⟨kb, 0, none⟩) ln ln] w (KeepP w A.ths t (n + 1) kb id K) := by
  have HKE : Hid (keepF A.ths t (n + 1) id K = _) := keep_go hsq hkf
  have hl := hS.len
  have hrm := hS.room1
  obtain ⟨ho, hx, h2, h3, _⟩ := ownSq_some hsq
  have hfit := hS.fit x (List.mem_of_getElem? h3)
  have HO := ownP_any b t F id A w h hS ht hid
  rw [ho] at HO
  simp only [Option.getD_some, Option.isSome_some] at HO
  have hil := (List.getElem?_eq_some_iff.1 h3).1
  obtain ⟨i, hi⟩ := Int.eq_ofNat_of_zero_le (show 0 ≤ id - 2 by omega)
  rw [hi] at hkf hil HKE
  simp only [Int.toNat_natCast] at hkf hil HKE
  have hu1 := un_set (i := i) (by omega) hkf
  have HM1 : Hid (∀ W o, Below w.heap.size w W → Marks ((W.setCell ⟨kb, i, none⟩ (.bool true)).alloc o) kb (K.set i true) ∧ AtP ((W.setCell ⟨kb, i, none⟩ (.bool true)).alloc o) b F A ∧ OnlyB kb w ((W.setCell ⟨kb, i, none⟩ (.bool true)).alloc o)) := fun W o hW =>
    have hb := (Below.refl (W.setCell ⟨kb, i, none⟩ (.bool true)).heap.size (W.setCell ⟨kb, i, none⟩ (.bool true))).alloc (Nat.le_refl _) o
    ⟨((hM.below hW).set i true).below hb, ((h.below hW).only hkb (OnlyB.set W i _)).below hb, ((OnlyB.of hW).trans (OnlyB.set W i _)).trans (OnlyB.of hb)⟩
  have IH : Hid (∀ (q : Int) (K' : List Bool) (W : World), Fits q → AtP W b F A → Marks W kb K' → K'.length = ln → unN K' ≤ n → Calls Try.prog 46 #[.pointer (some ⟨b, 0, none⟩), .int .i64 t, .int .i64 q, .slice (some ⟨kb, 0, none⟩) ln ln] W fun e w' => e = .returned (.tuple #[]) ∧ Marks w' kb (keepF A.ths t n q K') ∧ AtP w' b F A ∧ OnlyB kb W w') := fun q K' W hq hA hMK hlK huK =>
    (ih q K' W hA hMK hlK huK hq).mono fun e w' ⟨h1, h2, h3⟩ => ⟨h1, h2, hA.only hkb h3, h3⟩
  have HLEN : Hid (∀ q K', (keepF A.ths t n q K').length = K'.length ∧ unN (keepF A.ths t n q K') ≤ unN K') := fun q K' => ⟨keepF_len _ _ _ _ _, keepF_un _ _ _ _ _⟩
  have HK1 : Hid ((K.set i true).length = ln ∧ unN (K.set i true) ≤ n) := ⟨by rw [List.length_set]; exact hK, by omega⟩
  have hck := hM.get (i := i) (by omega)
  rw [hkf] at hck
  have hz := hM.free i
  have hb1 : (x.k != 1) = false := by simpa using hx
  have hw1 : IntKind.i64.wrap (id - 2) = (i : Int) := by rw [IntKind.wrap_i64]; omega
  have k0 : (0 : Int) ≤ (i : Int) := by omega
  have k1 : (i : Int) < (ln : Int) := by omega
  have hklt := hM.lt
  have HF : Hid (Fits x.p0 ∧ Fits x.p1 ∧ Fits x.p2 ∧ Fits x.p3) := ⟨hfit.p0, hfit.p1, hfit.p2, hfit.p3⟩
  generalize hP : KeepP w A.ths t (n + 1) kb id K = Post
  have HP : Hid (KeepP w A.ths t (n + 1) kb id K = Post) := hP
  clear hP ih hM h hsq h2 h3 hkf hi hx ho hfit hu1 hK hun
  have i0 := Try.at0 (.int .i64 x.p0) (.int .i64 x.p1) (.int .i64 x.p2) (.int .i64 x.p3)
  have i1 := Try.at1 (.int .i64 x.p0) (.int .i64 x.p1) (.int .i64 x.p2) (.int .i64 x.p3)
  have i2 := Try.at2 (.int .i64 x.p0) (.int .i64 x.p1) (.int .i64 x.p2) (.int .i64 x.p3)
  have i3 := Try.at3 (.int .i64 x.p0) (.int .i64 x.p1) (.int .i64 x.p2) (.int .i64 x.p3)
  go_enter Try.func46, Try.ntmps46
  go_wp2_with fail
  refine HO.mono ?_
  rintro e w1 ⟨rfl, hb1'⟩
  have hck1 := (hb1'.cell (p := ⟨kb, i, none⟩) hklt).trans hck
  have hz1 := (hb1'.frozen (p := ⟨kb, i, none⟩) hklt).trans hz
  have hne : kb < w1.heap.size := Nat.lt_of_lt_of_le hklt hb1'.size
  have HB2 : Hid _ := HM1.out w1 (.cells #[.int .i64 x.k, .int .i64 x.p0, .int .i64 x.p1, .int .i64 x.p2, .int .i64 x.p3, .int .i64 x.lv, .int .i64 x.va, .int .u64 x.mask] 82) hb1'
  clear HO hck hz hb1' HM1
  unfold Th.val
  go_wp2_with fail
  have H2 := HB2.out
  generalize (w1.setCell ⟨kb, i, none⟩ (.bool true)).alloc (.cells #[.int .i64 x.k, .int .i64 x.p0, .int .i64 x.p1, .int .i64 x.p2, .int .i64 x.p3, .int .i64 x.lv, .int .i64 x.va, .int .u64 x.mask] 82) = W2 at *
  obtain ⟨m2, a2, o2⟩ := H2
  clear HB2 hck1 hz1 hne
  have l2 := HK1.out.1
  have u2 := HK1.out.2
  have HKE2 : Hid (keepF A.ths t (n + 1) id K = keepF A.ths t n x.p3 (keepF A.ths t n x.p2 (keepF A.ths t n x.p1 (keepF A.ths t n x.p0 (K.set i true))))) := HKE.out
  clear HKE HK1
  generalize K.set i true = K2 at *
  refine wp_loop_rounds 5 ?_
  rw [rounds_succ]
  go_wp2_with fail
  refine (IH.out x.p0 _ _ HF.out.1 a2 m2 l2 u2).mono ?_
  rintro e w3 ⟨rfl, m3, a3, o3⟩
  have l3 := (HLEN.out x.p0 K2).1.trans l2
  have u3 := Nat.le_trans (HLEN.out x.p0 K2).2 u2
  have o3 := o2.trans o3
  generalize keepF A.ths t n x.p0 K2 = K3 at *
  clear m2 a2 o2 l2 u2
  go_wp2_with fail
  rw [rounds_succ]
  go_wp2_with fail
  refine (IH.out x.p1 _ _ HF.out.2.1 a3 m3 l3 u3).mono ?_
  rintro e w4 ⟨rfl, m4, a4, o4⟩
  have l4 := (HLEN.out x.p1 K3).1.trans l3
  have u4 := Nat.le_trans (HLEN.out x.p1 K3).2 u3
  have o4 := o3.trans o4
  generalize keepF A.ths t n x.p1 K3 = K4 at *
  clear m3 a3 o3 l3 u3
  go_wp2_with fail
  rw [rounds_succ]
  go_wp2_with fail
  refine (IH.out x.p2 _ _ HF.out.2.2.1 a4 m4 l4 u4).mono ?_
  rintro e w5 ⟨rfl, m5, a5, o5⟩
  have l5 := (HLEN.out x.p2 K4).1.trans l4
  have u5 := Nat.le_trans (HLEN.out x.p2 K4).2 u4
  have o5 := o4.trans o5
  generalize keepF A.ths t n x.p2 K4 = K5 at *
  clear m4 a4 o4 l4 u4
  go_wp2_with fail
  rw [rounds_succ]
  go_wp2_with fail
  refine (IH.out x.p3 _ _ HF.out.2.2.2 a5 m5 l5 u5).mono ?_
  rintro e w6 ⟨rfl, m6, a6, o6⟩
  have o6 := o5.trans o6
  clear m5 a5 o5 l5 u5
  have HEND : Hid (Post (.returned (.tuple #[])) w6) := by
    show Post (.returned (.tuple #[])) w6
    rw [← HP.out]
    exact ⟨rfl, by rw [HKE2.out]; exact m6, o6⟩
  clear m6 a6 o6
  go_wp2_with fail
  rw [rounds_succ]
  go_wp2_with fail
  go_end0
  exact HEND.out

/-- keep, whatever there is -/
theorem keepP_any (b t kb ln : Nat) (F : Nat → Prop) (A : Ar) (hS : Sound A) (ht : t < 64) (hkb : ¬ F kb) (hln : A.ths.length = ln) : ∀ (n : Nat) (id : Int) (K : List Bool) (w : World), AtP w b F A → Marks w kb K → K.length = ln → unN K ≤ n → Fits id →
    Calls Try.prog 46 #[.pointer (some ⟨b, 0, none⟩), .int .i64 t, .int .i64 id, .slice (some ⟨kb, 0, none⟩) ln ln] w (KeepP w A.ths t n kb id K)
  | n, id, K, w, h, hM, hK, hun, hid => by
    cases hq : ownSq A.ths t id with
    | none => exact keepStop_any b t kb ln n F A hS ht hln id K w h hM hK hid (.inl hq)
    | some x =>
      cases hk : K[(id - 2).toNat]! with
      | true => exact keepStop_any b t kb ln n F A hS ht hln id K w h hM hK hid (.inr ⟨x, hq, hk⟩)
      | false =>
        obtain ⟨_, _, h2, h3, _⟩ := ownSq_some hq
        have hil := (List.getElem?_eq_some_iff.1 h3).1
        have hu := un_set (by omega) hk
        cases n with
        | zero => omega
        | succ n => exact keepGo_any b t kb ln n F A hS ht hkb hln (keepP_any b t kb ln F A hS ht hkb hln n) id K w h hM hK hun hid x hq hk
end Go.Proofs.Ytfogedmghhacdaa.A
