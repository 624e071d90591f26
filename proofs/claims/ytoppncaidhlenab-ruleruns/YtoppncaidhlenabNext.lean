/- rule.Next: the cells that live a step later. -/
import Derived.Test.YtoppncaidhlenabCounts
import Derived.Test.YtoppncaidhlenabText
import Derived.Test.YtoppncaidhlenabRefShift
namespace Go.Proofs.Ytoppncaidhlenab
open Go.RowKit Go.Maps

theorem counts_any (v : Value) (zs : List (Int × Int)) (w : World) (h : Row w v zs) (hn : zs.length ≤ 4096) (HN : zs.any farP = false) :
    Calls Try.prog 45 #[v] w fun e w' => e = .returned (.map (some w.heap.size)) ∧ Out w (zs.length * 10) (opsL zs) w' := by
  rcases h with ⟨rfl, rfl⟩ | ⟨hz, b, off, c, rfl, hb, hl, hm, hh⟩
  · have hmm := makeCounts
    have hO0 : Out w 0 [] (w.alloc (.map #[] 0)) := ⟨(Below.refl _ _).alloc (Nat.le_refl _) _, by simp, (fun o ho => by cases ho), Nat.le_refl _, .map [], World.ownsMap_made (H := Unit) w Try.prog 53 (plainElem Try.prog 3), Cnt.empty⟩
    go_enter Try.func45, Try.ntmps45
    go_wp2
    refine wp_loop_rounds 1 ?_
    rw [rounds_succ]
    go_wp2
    go_ret
    exact ⟨rfl, hO0⟩
  · exact counts_some b off zs.length c zs w hb rfl hh hn HN

theorem Try.zero72 (w : World) : (zeroValue 72).run Try.prog w = .ok (.agg #[]) w := by kernel_rfl
theorem makeAlive (x : Int) (w : World) : (Instr.makeMap 71 (some (.int .i64 x))).run Try.prog w = .ok (.map (some w.heap.size)) (w.alloc (.map #[] 0)) := by
  simp [Instr.makeMap, run_underlying Try.underlying71, asInt, asIntOf, newObj, Result.andThen]
  rfl

/-- a cell of a row that is near -/
theorem row_at {w : World} {v : Value} {ys : List (Int × Int)} (h : Row w v ys) (hn : ys.any farP = false) (k : Nat) (hk : k < ys.length) :
    ∃ b off, (∃ c, v = .slice (some ⟨b, off, none⟩) ys.length c) ∧ b < w.heap.size ∧ w.cell? ⟨b, off + k * 2, none⟩ = some (.int .i64 (ys[k]!).1) ∧ w.cell? ⟨b, off + k * 2 + 1, none⟩ = some (.int .i64 (ys[k]!).2) ∧ FitsP ys[k]! := by
  rcases h with ⟨rfl, rfl⟩ | ⟨hz, b, off, c, rfl, hb, hl, hm, hh⟩
  · simp at hk
  · obtain ⟨c0, c1⟩ := hh k hk
    refine ⟨b, off, ⟨c, rfl⟩, hb, c0, c1, ?_⟩
    rw [List.any_eq_false] at hn
    have h2 := hn ys[k]! (by rw [getElem!_pos ys k hk]; exact List.getElem_mem _)
    generalize ys[k]! = z at h2 ⊢
    simp [farP, farI] at h2
    exact ⟨⟨by omega, by omega⟩, ⟨by omega, by omega⟩⟩

/-- the set of live cells, so far -/
def AliveTo (w2 : World) (ys : List (Int × Int)) (k : Nat) (wr : World) : Prop :=
  Below w2.heap.size w2 wr ∧ ∃ D : DataW Unit, wr.ownsMap Try.prog 53 unitElem w2.heap.size k D ∧ SetIs D (ys.take k)
theorem AliveTo.step {w2 wr : World} {ys : List (Int × Int)} {k : Nat} (h : AliveTo w2 ys k wr) (hk : k < ys.length) (hk2 : k ≤ 100000) {x y : Int} (hz : ys[k]! = (x, y)) (hf : FitsP (x, y)) (o : Obj) :
    ∃ w', (Instr.mapUpdate 71 (.map (some w2.heap.size)) (.agg #[.int .i64 x, .int .i64 y]) (.agg #[])).run Try.prog (wr.alloc o) = .ok () w' ∧ AliveTo w2 ys (k + 1) w' := by
  obtain ⟨h1, D, h2, h3⟩ := h
  obtain ⟨w', hrun, hown, hg⟩ := (h2.alloc o).update law Try.underlying71 (by unfold maxLen; omega) (key_cell hf) unitElem_mk
  refine ⟨w', hrun, (h1.alloc h1.size o).grown hg (by simp; have := h1.size; omega) (fun j hj => by cases hj; exact Nat.le_refl _), _, hown, ?_⟩
  rw [List.take_succ_eq_append_getElem hk, ← getElem!_pos ys k hk, hz]
  exact h3.put h2.isMap hf _

theorem Kept.but {w w' : World} {base r : Nat} {v : Value} {ys : List (Int × Int)} (h : Kept w base v ys) (hg : w.grownBy w' (some r)) (hr : r < base) : Kept w' base v ys := by
  rcases h with h | ⟨hne, h⟩
  · exact Or.inl h
  · refine Or.inr ⟨hne, owns_of_block h fun g hk => ?_⟩
    have := h.lt g hk
    exact hg.block g this.2 (by simp; omega)
theorem one_first (w : World) (a b : Value) (t : TypeId) : ∀ j u, [a, b][j]? = some u → (w.alloc (.cells #[a, b] t)).cell? ((⟨w.heap.size, 0, none⟩ : Addr).add j) = some u := by
  intro j u hj
  rw [addP, World.cell?_alloc_new, Nat.zero_add]
  simpa using hj

/-- whether a cell lives next, by the live cells -/
def lvB (b l : Int) (ys : List (Int × Int)) (p : Int × Int) : Bool := livesB b l (decide (p ∈ ys)) (total (opsL ys) p)

theorem below_grown {w w' : World} (h : Below w.heap.size w w') (row : Option Nat) : w.grownBy w' row := by
  obtain ⟨h1, h2, h3, h4, h5⟩ := h
  exact ⟨h1, h2, h3, h4, fun i hi _ => h5 i hi⟩

/-- where the blocks lie -/
structure Lie (w : World) (g Ba Bc r base : Nat) : Prop where
  wg : w.heap.size ≤ g
  ga : g < Ba
  ac : Ba < Bc
  cr : Bc < r
  rb : r < base

/-- what stays while the map is gone through -/
def Lim (b l : Int) (w : World) (g Ba Bc r base nA nC : Nat) (DA DC : DataW Unit) (left : Lit → Bool) (cnt : Nat) (wr : World) : Prop :=
  wr.ranges Try.prog 53 (plainElem Try.prog 3) Bc r nC DC left cnt ∧ wr.ownsMap Try.prog 53 unitElem Ba nA DA ∧ wr.cell? ⟨g, 0, none⟩ = some (.int .i64 b) ∧ wr.cell? ⟨g, 1, none⟩ = some (.int .i64 l) ∧ base ≤ wr.heap.size ∧ Below w.heap.size w wr

theorem Lim.grown {b l : Int} {w wr w' : World} {g Ba Bc r base nA nC : Nat} {DA DC : DataW Unit} {left : Lit → Bool} {cnt : Nat} {row : Option Nat} (h : Lim b l w g Ba Bc r base nA nC DA DC left cnt wr) (L : Lie w g Ba Bc r base)
    (hg : wr.grownBy w' row) (hrow : ∀ j, row = some j → base ≤ j) : Lim b l w g Ba Bc r base nA nC DA DC left cnt w' := by
  obtain ⟨h1, h2, h3, h4, h5, h6⟩ := h
  obtain ⟨l1, l2, l3, l4, l5⟩ := L
  have ne : ∀ i, i < base → some i ≠ row := fun i hi e => by have := hrow i e.symm; omega
  have hb : w'.heap[g]? = wr.heap[g]? := hg.block g (by omega) (ne g (by omega))
  have hc : ∀ o, w'.cell? ⟨g, o, none⟩ = wr.cell? ⟨g, o, none⟩ := fun o => by simp [World.cell?, hb]
  exact ⟨h1.kept hg (ne _ (by omega)) (ne _ (by omega)), h2.kept hg (ne _ (by omega)), by rw [hc]; exact h3, by rw [hc]; exact h4, Nat.le_trans h5 hg.size, h6.grown hg h6.size (fun j hj => by have := hrow j hj; omega)⟩

theorem Lim.next {b l : Int} {w wr w' : World} {g Ba Bc r base nA nC : Nat} {DA DC : DataW Unit} {left left' : Lit → Bool} {cnt cnt' : Nat} (h : Lim b l w g Ba Bc r base nA nC DA DC left cnt wr) (L : Lie w g Ba Bc r base)
    (hg : wr.grownBy w' (some r)) (hr : w'.ranges Try.prog 53 (plainElem Try.prog 3) Bc r nC DC left' cnt') : Lim b l w g Ba Bc r base nA nC DA DC left' cnt' w' := by
  obtain ⟨h1, h2, h3, h4, h5, h6⟩ := h
  obtain ⟨l1, l2, l3, l4, l5⟩ := L
  have hb : w'.heap[g]? = wr.heap[g]? := hg.block g (by omega) (by simp; omega)
  have hc : ∀ o, w'.cell? ⟨g, o, none⟩ = wr.cell? ⟨g, o, none⟩ := fun o => by simp [World.cell?, hb]
  exact ⟨hr, h2.kept hg (by simp; omega), by rw [hc]; exact h3, by rw [hc]; exact h4, Nat.le_trans h5 hg.size, h6.grown hg h6.size (fun j hj => by cases hj; omega)⟩

/-- the cells gathered so far -/
def Got (b l : Int) (ys : List (Int × Int)) (DC : DataW Unit) (left : Lit → Bool) (out : List (Int × Int)) : Prop :=
  out.Nodup ∧ ∀ p, p ∈ out ↔ FitsP p ∧ Maps.has DC (cl p) = true ∧ left (cl p) = false ∧ lvB b l ys p = true

theorem same_cl {p q : Int × Int} (hp : FitsP p) (hq : FitsP q) : (cl p).sameKey (cl q) = decide (p = q) := by
  by_cases e : p = q
  · subst e
    rw [WideAt.sameKey_self (cl_key p)]
    simp
  · rw [sameKey_ne (fun k => e (cl_inj hp hq k))]
    simp [e]

theorem Got.on {b l : Int} {ys : List (Int × Int)} {DC : DataW Unit} {left : Lit → Bool} {out : List (Int × Int)} (h : Got b l ys DC left out) {q : Int × Int} (hq : FitsP q) (hh : Maps.has DC (cl q) = true) (hl : left (cl q) = true) (hv : lvB b l ys q = true) :
    Got b l ys DC (fun z => left z && !z.sameKey (cl q)) (out ++ [q]) := by
  refine ⟨List.nodup_append.2 ⟨h.1, by simp, ?_⟩, fun p => ?_⟩
  · intro a ha c hc e
    rw [List.mem_singleton] at hc
    subst hc e
    have := ((h.2 _).1 ha).2.2.1
    rw [hl] at this
    cases this
  · rw [List.mem_append, List.mem_singleton, h.2 p]
    constructor
    · rintro (⟨h1, h2, h3, h4⟩ | rfl)
      · exact ⟨h1, h2, by simp [h3], h4⟩
      · exact ⟨hq, hh, by simp [same_cl hq hq], hv⟩
    · rintro ⟨h1, h2, h3, h4⟩
      simp only [same_cl h1 hq, Bool.and_eq_false_iff, Bool.not_eq_eq_eq_not, Bool.not_false, decide_eq_true_eq] at h3
      rcases h3 with h3 | h3
      · exact Or.inl ⟨h1, h2, h3, h4⟩
      · exact Or.inr h3
theorem Got.off {b l : Int} {ys : List (Int × Int)} {DC : DataW Unit} {left : Lit → Bool} {out : List (Int × Int)} (h : Got b l ys DC left out) {q : Int × Int} (hq : FitsP q) (hv : lvB b l ys q = false) :
    Got b l ys DC (fun z => left z && !z.sameKey (cl q)) out := by
  refine ⟨h.1, fun p => ?_⟩
  rw [h.2 p]
  constructor
  · rintro ⟨h1, h2, h3, h4⟩
    exact ⟨h1, h2, by simp [h3], h4⟩
  · rintro ⟨h1, h2, h3, h4⟩
    simp only [same_cl h1 hq, Bool.and_eq_false_iff, Bool.not_eq_eq_eq_not, Bool.not_false, decide_eq_true_eq] at h3
    rcases h3 with h3 | h3
    · exact ⟨h1, h2, h3, h4⟩
    · subst h3
      rw [hv] at h4
      cases h4

/-- the relation of the loop -/
def RgTo (b l : Int) (ys : List (Int × Int)) (w : World) (g Ba Bc r base nA nC : Nat) (DA DC : DataW Unit) (v10 : Value) (gk : Nat) (wr : World) : Prop :=
  ∃ (left : Lit → Bool) (cnt : Nat) (out : List (Int × Int)), Lim b l w g Ba Bc r base nA nC DA DC left cnt wr ∧ cnt ≤ gk ∧ out.length + cnt ≤ nC ∧ Kept wr base v10 out ∧ Got b l ys DC left out

/-- the cells that live next, each once -/
def NextSet (b l : Int) (ys out : List (Int × Int)) : Prop := out.Nodup ∧ ∀ p, p ∈ out ↔ lvB b l ys p = true
/-- what Next answers of a good rule -/
def NextOut (b l : Int) (zs : List (Int × Int)) (w : World) (e : Ending) (w' : World) : Prop :=
  ∃ u ys out ts, Tidied zs ys ∧ NextSet b l ys out ∧ Tidied out ts ∧ e = .returned (.tuple #[u, .int .i64 (tcode out)]) ∧ Below w.heap.size w w' ∧ ORow w' w.heap.size u ts

theorem total_any : ∀ {ops : List ((Int × Int) × Int)} {p : Int × Int}, total ops p ≠ 0 → ops.any (fun o => o.1 == p) = true
  | [], p, h => by simp [total] at h
  | (q, d) :: r, p, h => by
    rw [total] at h
    by_cases e : q = p
    · simp [e]
    · rw [if_neg e, Int.zero_add] at h
      have := total_any h
      rw [List.any_cons, this, Bool.or_true]
theorem ops_fit {ys : List (Int × Int)} (hn : ys.any farP = false) : ∀ o ∈ opsL ys, FitsP o.1 := by
  intro o ho
  simp only [opsL, List.mem_flatMap] at ho
  obtain ⟨c, hc, ho⟩ := ho
  rw [List.any_eq_false] at hn
  have h2 := hn c hc
  have hb : -1099511627776 < c.1 ∧ c.1 < 1099511627776 ∧ -1099511627776 < c.2 ∧ c.2 < 1099511627776 := by
    simp [farP, farI] at h2
    omega
  simp only [opsTo, List.mem_cons, List.mem_map, List.mem_filter] at ho
  have key : ∀ q : Int × Int, c.1 - 1 ≤ q.1 ∧ q.1 ≤ c.1 + 1 ∧ c.2 - 1 ≤ q.2 ∧ q.2 ≤ c.2 + 1 → FitsP q := fun q hq => ⟨⟨by omega, by omega⟩, ⟨by omega, by omega⟩⟩
  rcases ho with rfl | ⟨q, ⟨hq, _⟩, rfl⟩
  · exact key _ (by simp only; omega)
  · refine key q ?_
    have hq := List.mem_of_mem_take hq
    simp only [nine, List.mem_cons, List.not_mem_nil, or_false] at hq
    rcases hq with rfl | rfl | rfl | rfl | rfl | rfl | rfl | rfl | rfl <;> simp only <;> omega
theorem next_set {b l : Int} {ys out : List (Int × Int)} {D : DataW Unit} {left : Lit → Bool} (hg : goodB b l = true) (hn : ys.any farP = false) (hc : Cnt D (opsL ys)) (h : Got b l ys D left out) (hl : ∀ kl, left kl = false) : NextSet b l ys out := by
  refine ⟨h.1, fun p => ?_⟩
  rw [h.2 p]
  refine ⟨fun h => h.2.2.2, fun hv => ?_⟩
  have hany : (opsL ys).any (fun o => o.1 == p) = true := by
    by_cases ht : total (opsL ys) p = 0
    · by_cases hp : p ∈ ys
      · rw [List.any_eq_true]
        refine ⟨(p, 0), ?_, by simp⟩
        simp only [opsL, List.mem_flatMap]
        exact ⟨p, hp, by simp [opsTo]⟩
      · exfalso
        simp only [lvB, ht, hp, decide_false, livesB] at hv
        simp [goodB] at hg
        simp at hv
        rw [hg.2] at hv
        cases hv
    · exact total_any ht
  have hfit : FitsP p := by
    rw [List.any_eq_true] at hany
    obtain ⟨o, ho, e⟩ := hany
    have : o.1 = p := by simpa using e
    rw [← this]
    exact ops_fit hn o ho
  exact ⟨hfit, by rw [(hc p hfit).1]; exact hany, hl _, hv⟩

set_option maxRecDepth 4000 in
set_option maxHeartbeats 4000000 in
theorem next_some (b l : Int) (v : Value) (zs : List (Int × Int)) (w : World) (h : Row w v zs) (hg : goodB b l = true) (ht : tcode zs = 0) :
    Calls Try.prog 24 #[.agg #[.int .i64 b, .int .i64 l], v] w fun e w' => NextOut b l zs w e w' := by
  have hmm := makeAlive
  obtain ⟨i0, hi, hz0, hz1, hz2⟩ := info_parts Try.info53
  go_enter Try.func24, Try.ntmps24
  go_wp2_with fail
  refine (good_any b l _).mono ?_
  rintro e w1 ⟨rfl, hb1⟩
  rw [hg]
  have p1 := pair_go (pair_born w (.int .i64 b) (.int .i64 l) 37) hb1
  have r1 : Row w1 v zs := h.below ((((Below.refl _ _).alloc (Nat.le_refl _) _ : Below w.heap.size w (w.alloc (.cells #[.int .i64 b, .int .i64 l] 37)))).trans (hb1.mono (by simp)))
  clear hb1
  have htl := tidy_told v zs w1 r1
  rw [ht] at htl
  go_wp2_with fail
  refine htl.mono ?_
  rintro e w2 ⟨u, ys, rfl, c2, t2, r2⟩
  have p2 := pair_go p1 c2
  clear htl p1 r1 h
  have hlen := tidied_short t2 ht
  have hnear := tidied_near t2
  have R2 : Hid (Row w2 u ys) := r2.read
  obtain ⟨a, cp, rfl⟩ := r2.shape
  clear r2
  generalize hnl : ys.length = n at *
  have HL : Hid (ys.length = n) := hnl
  clear hnl
  have hA0 : AliveTo w2 ys 0 (w2.alloc (.map #[] 0)) := ⟨(Below.refl _ _).alloc (Nat.le_refl _) _, .map [], World.ownsMap_made (H := Unit) w2 Try.prog 53 unitElem, by simpa using SetIs.empty⟩
  have HP2 : Hid (w2.cell? ⟨w.heap.size, 0, none⟩ = some (.int .i64 b) ∧ w2.cell? ⟨w.heap.size, 1, none⟩ = some (.int .i64 l) ∧ w.heap.size < w2.heap.size ∧ Below w.heap.size w w2) := p2
  clear p2 c2
  go_wp2_with fail
  clear hmm
  go_loopg [31] n (fun gk s31 wr => ∃ k : Nat, k ≤ n ∧ n - k ≤ gk ∧ s31 = .int .i64 k ∧ AliveTo w2 ys k wr)
  case atStart => exact ⟨0, by omega, by omega, rfl, hA0⟩
  case round =>
    obtain ⟨k, hk, hgk, rfl, hal⟩ := hrel
    have HG : Hid (n - k ≤ gk) := hgk
    have HA : Hid (AliveTo w2 ys k wr) := hal
    have hbr := hal.1
    have hsz := hbr.size
    clear hgk hal hA0
    by_cases hlt : k < n
    · obtain ⟨bl, off, ⟨cq, hae⟩, hblt, c0, c1, hfit⟩ := row_at R2.out hnear k (by rw [HL.out]; exact hlt)
      simp only [Value.slice.injEq] at hae
      obtain ⟨rfl, _, _⟩ := hae
      rw [← hbr.cell (p := ⟨bl, off + k * 2, none⟩) hblt] at c0
      rw [← hbr.cell (p := ⟨bl, off + k * 2 + 1, none⟩) hblt] at c1
      generalize hz : ys[k]! = z at c0 c1 hfit
      have HZ : Hid (ys[k]! = z) := hz
      clear hz
      obtain ⟨x, y⟩ := z
      simp only at c0 c1
      obtain ⟨w', hup, hal'⟩ := HA.out.step (by rw [HL.out]; exact hlt) (by omega) HZ.out hfit (.cells #[.int .i64 x, .int .i64 y] 53)
      have HA2 : Hid (AliveTo w2 ys (k + 1) w') := hal'
      clear hal'
      have hi1 : (0 : Int) ≤ (k : Int) := by omega
      have hi2 : (k : Int) < (n : Int) := by omega
      have hbw : bl < wr.heap.size := Nat.lt_of_lt_of_le hblt hsz
      go_wp2_with fail
      go_roundg (gk - 1)
      case measure => have := HG.out; omega
      case rel =>
        have := HG.out
        exact ⟨k + 1, by omega, by omega, by go_num, HA2.out⟩
    · have hkn : k = n := by omega
      subst hkn
      obtain ⟨w3, hw3⟩ : ∃ a, a = wr := ⟨wr, rfl⟩
      subst hw3
      have hcc := counts_any _ ys w3 (R2.out.below hbr) (by rw [HL.out]; exact hlen) hnear
      rw [HL.out] at hcc
      go_wp2_with fail
      refine hcc.mono ?_
      rintro e w4 ⟨rfl, ho4⟩
      obtain ⟨b4, s4, _, _, D4, own4, cnt4⟩ := ho4
      obtain ⟨w5, hrng, hrg5, hg5, hs5⟩ := own4.range law Try.underlying73
      obtain ⟨ab, DA, ownA, setA⟩ := HA.out
      obtain ⟨pc0, pc1, pg, pb⟩ := HP2.out
      have hL : Lie w w.heap.size w2.heap.size w3.heap.size w4.heap.size (w4.heap.size + 1) := ⟨Nat.le_refl _, pg, ownA.lt, s4, Nat.lt_succ_self _⟩
      have g25 : w2.grownBy w5 none := (below_grown ab none).trans ((below_grown b4 none).trans hg5)
      have g35 : w3.grownBy w5 none := (below_grown b4 none).trans hg5
      have hbk : w5.heap[w.heap.size]? = w2.heap[w.heap.size]? := g25.block _ pg (by simp)
      have hck : ∀ o, w5.cell? ⟨w.heap.size, o, none⟩ = w2.cell? ⟨w.heap.size, o, none⟩ := fun o => by simp [World.cell?, hbk]
      have hlim : Lim b l w w.heap.size w2.heap.size w3.heap.size w4.heap.size (w4.heap.size + 1) k (k * 10) DA D4 (Maps.has D4) (Maps.size D4) w5 :=
        ⟨hrg5, ownA.kept g35 (by simp), by rw [hck]; exact pc0, by rw [hck]; exact pc1, by omega, pb.grown g25 pb.size (fun j hj => by cases hj)⟩
      have HR0 : Hid (RgTo b l ys w w.heap.size w2.heap.size w3.heap.size w4.heap.size (w4.heap.size + 1) k (k * 10) DA D4 (.slice none 0 0) (Maps.size D4) w5) :=
        ⟨_, _, [], hlim, Nat.le_refl _, by simpa using own4.size_le, Or.inl ⟨rfl, rfl⟩, List.nodup_nil, fun p => ⟨fun h => (by cases h), fun ⟨_, h1, h2, _⟩ => (by rw [h1] at h2; cases h2)⟩⟩
      have HD : Hid (SetIs DA (ys.take k) ∧ Cnt D4 (opsL ys)) := ⟨setA, cnt4⟩
      obtain ⟨Ba, hBa⟩ : ∃ a, a = w2.heap.size := ⟨_, rfl⟩
      obtain ⟨Bc, hBc⟩ : ∃ a, a = w3.heap.size := ⟨_, rfl⟩
      obtain ⟨rr, hrr⟩ : ∃ a, a = w4.heap.size := ⟨_, rfl⟩
      rw [← hBa, ← hBc, ← hrr] at hL HR0
      have HB : Hid (w.heap.size = w.heap.size) := rfl
      clear hcc hlim hck hbk g25 g35 pc0 pc1 pg pb ownA setA own4 cnt4 ab b4 s4 hrg5 hg5 hs5
      go_wp2_with fail
      rw [← hBa, ← hBc, ← hrr]
      clear hrng hBa hBc hrr
      go_loopg [10] (Maps.size D4) (fun gk s10 wr => RgTo b l ys w w.heap.size Ba Bc rr (rr + 1) k (k * 10) DA D4 s10 gk wr)
      case atStart => exact HR0.out
      case round =>
        obtain ⟨left, cnt, out, hlim, hcg, hoc, hkept, hgot⟩ := hrel
        have hlim2 := hlim
        obtain ⟨hrg, hown, hcb, hcl, hbs, hbw⟩ := hlim2
        rcases hrg.next law 0 with ⟨h0, hlf, hrun⟩ | ⟨key, vv, kl, yy, w6, cnt6, hkey, hlk, hvv, hat, hrun, hrg6, hlt6, hg6, hs6, hen⟩
        · have HK : Hid (Kept wr (rr + 1) u10 out) := hkept
          have HGT : Hid (Got b l ys D4 left out ∧ ∀ kl, left kl = false) := ⟨hgot, hlf⟩
          clear hkept hgot hlf hlim hrg hown hcb hcl hoc
          go_wp2_with fail
          refine (tidy_told u10 out wr HK.out.row).mono ?_
          rintro e w9 ⟨u9', ts, rfl, c9, t9, r9⟩
          have HT9 : Hid (Tidied out ts ∧ ORow w9 wr.heap.size u9' ts) := ⟨t9, r9⟩
          clear t9 r9
          go_wp2_with fail
          go_ret2
          exact ⟨u9', ys, out, ts, t2, next_set hg hnear HD.out.2 HGT.out.1 HGT.out.2, HT9.out.1, rfl, hbw.trans (c9.mono hbw.size), HT9.out.2.mono hbw.size⟩
        · obtain ⟨p, hpf, rfl, rfl⟩ := key_inv hkey
          obtain ⟨cc, rfl, rfl, _⟩ := plainElem_int_inv Try.underlying3 hvv
          have hl6 := hlim.next hL hg6 hrg6
          obtain ⟨px, py⟩ := p
          simp only [cellV] at hrun hen
          have hhas : Maps.has D4 (cl (px, py)) = true := has_true_of_atKey hat
          have hcc : cc = total (opsL ys) (px, py) := by
            have h1 := (HD.out.2 (px, py) hpf).2
            rw [hat] at h1
            simpa using h1
          have hnow : Maps.has DA (cl (px, py)) = decide ((px, py) ∈ ys) := by
            have h1 := HD.out.1 (px, py) hpf
            rw [List.take_of_length_le (by rw [HL.out]; exact Nat.le_refl _)] at h1
            exact h1
          have la6 : Lim b l w w.heap.size Ba Bc rr (rr + 1) k (k * 10) DA D4 (fun x => left x && !x.sameKey (cl (px, py))) cnt6 (w6.alloc (.cells #[.int .i64 px, .int .i64 py] 53)) := hl6.grown hL (World.grownBy_alloc _ _ none) (fun j hj => by cases hj)
          obtain ⟨ve, pse, hlook, hve⟩ := la6.2.1.look_ok law Try.underlying71 (Try.zero72 _) unitElem_mk (key_cell hpf)
          obtain ⟨rfl, _⟩ := unitElem_inv hve
          rw [hnow] at hlook
          simp only [cellV] at hlook
          have hlv := fun W => lives_any b l (decide ((px, py) ∈ ys)) cc W
          have hlvb : livesB b l (decide ((px, py) ∈ ys)) cc = lvB b l ys (px, py) := by rw [hcc]; rfl
          rw [hlvb] at hlv
          have lb6 : Lim b l w w.heap.size Ba Bc rr (rr + 1) k (k * 10) DA D4 (fun x => left x && !x.sameKey (cl (px, py))) cnt6 ((w6.alloc (.cells #[.int .i64 px, .int .i64 py] 53)).alloc (.cells #[] 72)) := la6.grown hL (World.grownBy_alloc _ _ none) (fun j hj => by cases hj)
          have hq0 := lb6.2.2.1
          have hq1 := lb6.2.2.2.1
          have K6 : Kept ((w6.alloc (.cells #[.int .i64 px, .int .i64 py] 53)).alloc (.cells #[] 72)) (rr + 1) u10 out := ((hkept.but hg6 (Nat.lt_succ_self _)).block (fun j hj => Below.heap_alloc _ _ _ hj)).block (fun j hj => Below.heap_alloc _ _ _ hj)
          have HX : Hid (Lim b l w w.heap.size Ba Bc rr (rr + 1) k (k * 10) DA D4 (fun x => left x && !x.sameKey (cl (px, py))) cnt6 ((w6.alloc (.cells #[.int .i64 px, .int .i64 py] 53)).alloc (.cells #[] 72)) ∧ Kept ((w6.alloc (.cells #[.int .i64 px, .int .i64 py] 53)).alloc (.cells #[] 72)) (rr + 1) u10 out ∧ Got b l ys D4 left out) := ⟨lb6, K6, hgot⟩
          have HN6 : Hid (cnt6 < cnt ∧ cnt ≤ gk ∧ out.length + cnt ≤ k * 10 ∧ left (cl (px, py)) = true) := ⟨hlt6, hcg, hoc, hlk⟩
          clear lb6 la6 hl6 K6 hgot hkept hlim hrg hown hcb hcl hrg6 hg6 hat hve hlk hcg hoc hlt6 hnow hlvb hkey hvv hcc
          go_wp2_with fail
          refine (hlv _).mono ?_
          rintro e w7 ⟨rfl, c7⟩
          have lim7 := HX.out.1.grown hL (below_grown c7 none) (fun j hj => by cases hj)
          have K7 := HX.out.2.1.block (fun j hj => c7.block j hj)
          have q0 : w7.cell? ⟨wr.heap.size, 0, none⟩ = some (.int .i64 px) := by
            rw [← hs6, c7.cell (p := ⟨w6.heap.size, 0, none⟩) (by simp; omega), World.cell?_alloc_past _ _ _ (by simp), World.cell?_alloc_new]
            rfl
          have q1 : w7.cell? ⟨wr.heap.size, 1, none⟩ = some (.int .i64 py) := by
            rw [← hs6, c7.cell (p := ⟨w6.heap.size, 1, none⟩) (by simp; omega), World.cell?_alloc_past _ _ _ (by simp), World.cell?_alloc_new]
            rfl
          have H7 : Hid (Lim b l w w.heap.size Ba Bc rr (rr + 1) k (k * 10) DA D4 (fun x => left x && !x.sameKey (cl (px, py))) cnt6 w7 ∧ Kept w7 (rr + 1) u10 out) := ⟨lim7, K7⟩
          have hb7 := lim7.2.2.2.2.1
          clear lim7 K7 c7
          cases hlb : lvB b l ys (px, py)
          · have HV : Hid (lvB b l ys (px, py) = false) := hlb
            clear hlb
            go_wp2_with fail
            go_roundg (gk - 1)
            case measure => have := HN6.out; omega
            case rel =>
              obtain ⟨n1, n2, n3, n4⟩ := HN6.out
              exact ⟨_, cnt6, out, H7.out.1, by omega, by omega, H7.out.2, HX.out.2.2.off hpf HV.out⟩
          · have HV : Hid (lvB b l ys (px, py) = true) := hlb
            clear hlb
            have hol : out.length ≤ 40960 := by have := HN6.out; omega
            have OW : Hid (∀ o, (w7.alloc o).ownsRow (rr + 1) 53 2 u10 out.length (cellsL out)) := fun o => H7.out.2.owns.alloc o
            go_wp2_with (at_builtin; refine wpList_append_own _ rfl _ _ 22 rfl (rr + 1) 53 i0 (.agg #[.int .i64 0, .int .i64 0]) 2 16 Try.underlying22 hi hz0 hz1 hz2 rfl (by decide) u10 out.length (cellsL out) rfl (by exact OW.out _) ⟨w7.heap.size, 0, none⟩ 1 1 [.int .i64 px, .int .i64 py] rfl rfl (by exact one_first _ _ _ _) (by intro u hu; simp at hu; rcases hu with rfl | rfl <;> rfl) (by unfold maxLen; omega) (by omega) (by simp; omega) ?_; intro v' w8 hown8 hgrow8 hnil8)
            go_roundg (gk - 1)
            case measure => have := HN6.out; omega
            case rel =>
              obtain ⟨n1, n2, n3, n4⟩ := HN6.out
              have hl8 := (H7.out.1.grown hL (World.grownBy_alloc w7 (.cells #[.int .i64 px, .int .i64 py] 53) none) (fun j hj => by cases hj)).grown hL hgrow8 (fun j hj => ((OW.out (.cells #[] 0)).lt j hj).1)
              refine ⟨_, cnt6, out ++ [(px, py)], hl8, by omega, by rw [List.length_append, List.length_singleton]; omega, Or.inr ⟨by simp, ?_⟩, HX.out.2.2.on hpf hhas n4 HV.out⟩
              rw [cellsL_append, List.length_append]
              exact hown8
end Go.Proofs.Ytoppncaidhlenab
