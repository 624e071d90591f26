/- QuadFroms: the law's walk. -/
import Derived.Test.YthobobgiendcfaaSqLaw
import Derived.Lib.MinMax
import Derived.Test.YthobobgiendcfaaSqCells
import Derived.Test.YthobobgiendcfaaSameRef
namespace Go.Proofs.Ythobobgiendcfaa.A
open Go.RowKit Go.Maps

theorem Row.below {w w' : World} {v : Value} {zs : List (Int × Int)} (h : Row w v zs) (hb : Below w.heap.size w w') : Row w' v zs := by
  rcases h with h | ⟨h0, b, off, c, hv, hl, h1, h2, h3⟩
  · exact Or.inl h
  · refine Or.inr ⟨h0, b, off, c, hv, Nat.lt_of_lt_of_le hl hb.size, h1, h2, fun j hj => ?_⟩
    obtain ⟨a1, a2⟩ := h3 j hj
    exact ⟨(World.cell?_of_block (a := ⟨b, off + j * 2, none⟩) (hb.block b hl)).trans a1, (World.cell?_of_block (a := ⟨b, off + j * 2 + 1, none⟩) (hb.block b hl)).trans a2⟩
theorem run_max_five {P : Program} (w : World) (ts : Array TypeId) (t : TypeId) (a b c d e : Int) : (Builtin.max_ ts t #[.int .i64 a, .int .i64 b, .int .i64 c, .int .i64 d, .int .i64 e]).run P w = .ok (.int .i64 (max (max (max (max a b) c) d) e)) w := by
  have h : ∀ x y : Int, (if x < y then y else x) = max x y := fun x y => by
    rw [Int.max_def]
    split <;> split <;> omega
  simp [Builtin.max_, Builtin.max2, h]
def reachF : List (Int × Int) → Int → Int
  | [], n => n
  | c :: ys, n => reachF ys (max (max (max (max n c.1) c.2) (-c.1 - 1)) (-c.2 - 1))
theorem reachF_snoc (c : Int × Int) : ∀ (ys : List (Int × Int)) (n : Int), reachF (ys ++ [c]) n = max (max (max (max (reachF ys n) c.1) c.2) (-c.1 - 1)) (-c.2 - 1)
  | [], n => rfl
  | d :: ys, n => by
    show reachF (ys ++ [c]) _ = _
    rw [reachF_snoc c ys]
    rfl
theorem reachF_lt : ∀ (ys : List (Int × Int)) (n z : Int), reachF ys n < z ↔ n < z ∧ ∀ p ∈ ys, p.1 < z ∧ p.2 < z ∧ -z ≤ p.1 ∧ -z ≤ p.2
  | [], n, z => by simp [reachF]
  | c :: ys, n, z => by
    show reachF ys _ < z ↔ _
    rw [reachF_lt ys]
    simp only [List.mem_cons, forall_eq_or_imp]
    constructor
    · rintro ⟨h1, h2⟩
      exact ⟨by omega, ⟨by omega, by omega, by omega, by omega⟩, h2⟩
    · rintro ⟨h1, h2, h3⟩
      exact ⟨by omega, h3⟩
theorem reach_iff (ys : List (Int × Int)) (n : Nat) : reachF ys 0 < (halfN n : Int) ↔ fitsLv n ys := by
  have hp : 0 < halfN n := Nat.two_pow_pos _
  rw [reachF_lt]
  unfold fitsLv
  constructor
  · rintro ⟨_, h⟩ p hp
    have := h p hp
    omega
  · intro h
    refine ⟨by omega, fun p hp => ?_⟩
    have := h p hp
    omega

set_option maxRecDepth 20000 in
set_option maxHeartbeats 8000000 in
theorem reach_any (v : Value) (ys : List (Int × Int)) (w : World) (hrow : Row w v ys) (hl4 : ys.length ≤ 4096) (hb : ∀ p ∈ ys, -1152921504606846976 < p.1 ∧ p.1 < 1152921504606846976 ∧ -1152921504606846976 < p.2 ∧ p.2 < 1152921504606846976) :
    Calls Try.prog 42 #[v] w fun e w' => e = .returned (.int .i64 (reachF ys 0)) ∧ Below w.heap.size w w' := by
  obtain ⟨a, c, rfl⟩ := (by obtain ⟨a, c, h, _⟩ := hrow.shape; exact ⟨a, c, h⟩ : ∃ a c, v = .slice a ys.length c)
  go_enter Try.func42, Try.ntmps42
  go_wp2_with fail
  have HB : Hid (∀ p ∈ ys, -1152921504606846976 < p.1 ∧ p.1 < 1152921504606846976 ∧ -1152921504606846976 < p.2 ∧ p.2 < 1152921504606846976) := hb
  have HROW : Hid (Row w (.slice a ys.length c) ys) := hrow
  have HTAKE : Hid (∀ i, i < ys.length → reachF (ys.take (i + 1)) 0 = max (max (max (max (reachF (ys.take i) 0) (ys[i]!).1) (ys[i]!).2) (-(ys[i]!).1 - 1)) (-(ys[i]!).2 - 1)) := fun i hi => by
    rw [List.take_succ_eq_append_getElem hi, reachF_snoc, getElem!_pos ys i hi]
  have HBD : Hid (∀ i, i ≤ ys.length → 0 ≤ reachF (ys.take i) 0 ∧ reachF (ys.take i) 0 < 1152921504606846976) := fun i hi => by
    refine ⟨?_, (reachF_lt _ _ _).2 ⟨by omega, fun p hp => ?_⟩⟩
    · by_cases h : reachF (ys.take i) 0 < 0
      · have := ((reachF_lt _ _ _).1 h).1; omega
      · omega
    · have := HB.out p (List.mem_of_mem_take hp)
      omega
  clear hb hrow
  go_loopg [3, 8] ys.length (fun g s3 s8 wr => ∃ i : Nat, i + g = ys.length ∧ s8 = .int .i64 (i : Int) ∧ s3 = .int .i64 (reachF (ys.take i) 0) ∧ Below w.heap.size w wr)
  case atStart => exact ⟨0, by omega, rfl, rfl, Below.refl _ _⟩
  case round =>
    obtain ⟨i, hig, rfl, rfl, hbr⟩ := hrel
    have HI : Hid (i + gk = ys.length) := hig
    clear hig
    by_cases hlt : i < ys.length
    · have hil : (i : Int) < (ys.length : Int) := by omega
      have hi0 : (0 : Int) ≤ i := by omega
      have hr := Row.below HROW.out hbr
      obtain ⟨b, off, rfl, hh⟩ : ∃ b off, a = some (⟨b, off, none⟩ : Addr) ∧ HoldsR wr b off ys := by
        rcases hr with ⟨h0, _⟩ | ⟨_, b, off, c', e, _, _, _, h⟩
        · rw [h0] at hlt; simp at hlt
        · simp only [Value.slice.injEq] at e
          exact ⟨b, off, e.1, h⟩
      obtain ⟨d0, d1⟩ := hh i hlt
      have hbb := HB.out _ (mem_at hlt)
      have hbd := HBD.out i (by omega)
      have hnx := HTAKE.out i hlt
      obtain ⟨r, hr0⟩ : ∃ r, r = reachF (ys.take i) 0 := ⟨_, rfl⟩
      obtain ⟨p, hp⟩ : ∃ p, p = (ys[i]!).1 := ⟨_, rfl⟩
      obtain ⟨q, hq⟩ : ∃ q, q = (ys[i]!).2 := ⟨_, rfl⟩
      rw [← hp, ← hq, ← hr0] at hnx
      rw [← hp] at d0
      rw [← hq] at d1
      rw [← hp, ← hq] at hbb
      rw [← hr0] at hbd ⊢
      have HNX : Hid (reachF (ys.take (i + 1)) 0 = max (max (max (max r p) q) (-p - 1)) (-q - 1)) := hnx
      have hsl : wr.heap.size = wr.heap.size := rfl
      have bA := hbr.alloc hbr.size (.cells #[.int .i64 p, .int .i64 q] 87)
      clear hnx hr0 hp hq hh hr
      generalize ys.length = len at *
      have hmx := fun W => run_max_five (P := Try.prog) W #[3, 3, 3, 3, 3] 3 r p q (-p - 1) (-q - 1)
      go_wp2_with fail
      go_roundg (gk - 1)
      case measure => have := HI.out; omega
      case rel => exact ⟨i + 1, by have := HI.out; omega, by go_num, by rw [HNX.out]; congr 1; omega, bA⟩
    · have hi4 : i = ys.length := by have := HI.out; omega
      have hnl : ¬ (i : Int) < (ys.length : Int) := by omega
      have HE : Hid (reachF (ys.take i) 0 = reachF ys 0) := by show _ = _; rw [hi4, List.take_length]
      obtain ⟨r, hr0⟩ : ∃ r, r = reachF (ys.take i) 0 := ⟨_, rfl⟩
      rw [← hr0] at HE ⊢
      clear hr0 hi4
      go_wp2_with fail
      go_ret
      exact ⟨ret_i HE.out, hbr⟩
end Go.Proofs.Ythobobgiendcfaa.A

namespace Go.Proofs.Ythobobgiendcfaa.A
open Go.RowKit Go.Maps Go.ChangeMaps Go.WideElems

set_option maxRecDepth 20000 in
set_option maxHeartbeats 8000000 in
/-- walker.cells -/
theorem wcells_any (wb m b nn t k n : Nat) (id level : Int) (v : Value) (F : Nat → Prop) (A : Ar) (D : DataW Unit) (w : World) (hI : Inv A) (ht : t < 64) (hm : ∀ x ∈ A.ths, x.mask < 18446744073709551616) (hf : A.ths.length < 1000000) (hn1 : 1 ≤ n) (hn : n ≤ 44) (hl : levelF A.ths t id = some (n : Int)) (hbig : (cellsF A.ths n id).length ≤ 4096) (hlev : level = (n : Int)) (hw : WG w wb m b nn t k v F A D) :
    Calls Try.prog 89 #[.pointer (some ⟨wb, 0, none⟩), .int .i64 id, .int .i64 level] w fun y w' => ∃ u, y = .returned u ∧ w'.ownsRow w.heap.size 87 2 u (cellsF A.ths n id).length (cL (shiftL (-(halfN n : Int)) (-(halfN n : Int)) (cellsF A.ths n id))) ∧ (cellsF A.ths n id = [] → u = .slice none 0 0) ∧ TG w wb m b nn t v F A (fun _ => True) w' := by
  have hh : ∀ W, Calls Try.prog 99 #[.int .i64 level] W fun x w' => x = .returned (.int .i64 (halfN n : Int)) ∧ w' = W := fun W => by rw [hlev]; exact half_any n W hn1 (by omega)
  have hbd := halfN_bd n (by omega)
  have hwl := hw.hand.lt
  have hml := hw.lt
  have hflt := hw.ar.flt
  have b3 : Below w.heap.size w (((w.alloc (.cells #[.pointer (some ⟨wb, 0, none⟩)] 174)).alloc (.cells #[.slice none 0 0] 69)).alloc (.cells #[cFn w.heap.size (w.heap.size + 1) (w.heap.size + 1 + 1)] 178)) := (((Below.refl _ _).alloc (Nat.le_refl _) _).alloc (by simp) _).alloc (by simp; omega) _
  have hs3 : (((w.alloc (.cells #[.pointer (some ⟨wb, 0, none⟩)] 174)).alloc (.cells #[.slice none 0 0] 69)).alloc (.cells #[cFn w.heap.size (w.heap.size + 1) (w.heap.size + 1 + 1)] 178)).heap.size = w.heap.size + 3 := by simp
  have e0 : (((w.alloc (.cells #[.pointer (some ⟨wb, 0, none⟩)] 174)).alloc (.cells #[.slice none 0 0] 69)).alloc (.cells #[cFn w.heap.size (w.heap.size + 1) (w.heap.size + 1 + 1)] 178)).heap[w.heap.size]? = some (.cells #[.pointer (some ⟨wb, 0, none⟩)] 174 (0, 0)) := (push_old (by simp; omega)).trans (heap_alloc2_old w _ _)
  have e1 : (((w.alloc (.cells #[.pointer (some ⟨wb, 0, none⟩)] 174)).alloc (.cells #[.slice none 0 0] 69)).alloc (.cells #[cFn w.heap.size (w.heap.size + 1) (w.heap.size + 1 + 1)] 178)).heap[w.heap.size + 1]? = some (.cells #[.slice none 0 0] 69 (0, 0)) := (push_old (by simp)).trans (heap_alloc2_new w _ _)
  have e2 : (((w.alloc (.cells #[.pointer (some ⟨wb, 0, none⟩)] 174)).alloc (.cells #[.slice none 0 0] 69)).alloc (.cells #[cFn w.heap.size (w.heap.size + 1) (w.heap.size + 1 + 1)] 178)).heap[w.heap.size + 1 + 1]? = some (.cells #[cFn w.heap.size (w.heap.size + 1) (w.heap.size + 1 + 1)] 178 (0, 0)) := by
    have := heap_alloc_new ((w.alloc (.cells #[.pointer (some ⟨wb, 0, none⟩)] 174)).alloc (.cells #[.slice none 0 0] 69)) (.cells #[cFn w.heap.size (w.heap.size + 1) (w.heap.size + 1 + 1)] 178)
    simpa using this
  have C0 : CS (((w.alloc (.cells #[.pointer (some ⟨wb, 0, none⟩)] 174)).alloc (.cells #[.slice none 0 0] 69)).alloc (.cells #[cFn w.heap.size (w.heap.size + 1) (w.heap.size + 1 + 1)] 178)) wb m b nn t v F A w.heap.size (w.heap.size + 1) (w.heap.size + 1 + 1) (w.heap.size + 3) [] :=
    ⟨⟨k, D, hw.below b3⟩, e0, e2, ⟨_, e1, World.ownsRow_nil _ _ _ _, fun _ => rfl⟩, by omega, by omega, by omega, by omega, by omega, fun k hk => by have := hflt k hk; omega, by omega, by omega, ⟨by omega, by omega, fun e => by have := hflt _ e; omega⟩, by omega⟩
  obtain ⟨hf', hhf⟩ : ∃ hf' : Int, hf' = (halfN n : Int) := ⟨_, rfl⟩
  rw [← hhf] at hh
  have hneg : IntKind.i64.wrap (-hf') = -hf' := by rw [IntKind.wrap_i64]; omega
  have hpow : ((2 ^ n : Nat) : Int) = hf' + hf' := by
    obtain ⟨q, rfl⟩ : ∃ q, n = q + 1 := ⟨n - 1, by omega⟩
    rw [hhf, halfN_succ, Nat.pow_succ]; omega
  have hpb : hf' ≤ 8796093022208 := by
    have : halfN n ≤ halfN 44 := Nat.pow_le_pow_right (by omega) (by omega)
    have e : halfN 44 = 8796093022208 := by decide
    omega
  generalize hW : (((w.alloc (.cells #[.pointer (some ⟨wb, 0, none⟩)] 174)).alloc (.cells #[.slice none 0 0] 69)).alloc (.cells #[cFn w.heap.size (w.heap.size + 1) (w.heap.size + 1 + 1)] 178)) = W at *
  have C1 := (C0.below (w1 := W.drew) ⟨rfl, rfl, rfl, Nat.le_refl _, fun _ _ => rfl⟩).1
  have HC := closure_any n wb m b nn t v F A w.heap.size (w.heap.size + 1) (w.heap.size + 1 + 1) (w.heap.size + 3) [] W.drew id (-hf') (-hf') level hI ht hm hf hn hlev hl (by simpa using hbig) C1 (by omega) (by omega) (by omega) (by omega)
  rw [List.nil_append] at HC
  have HFIN : Hid (∀ w', CS w' wb m b nn t v F A w.heap.size (w.heap.size + 1) (w.heap.size + 1 + 1) (w.heap.size + 3) (shiftL (-hf') (-hf') (cellsF A.ths n id)) → CO W.drew wb m (w.heap.size + 1) (w.heap.size + 3) w' → ∃ u, w'.cell? ⟨w.heap.size + 1, 0, none⟩ = some u ∧ w'.ownsRow w.heap.size 87 2 u (cellsF A.ths n id).length (cL (shiftL (-(halfN n : Int)) (-(halfN n : Int)) (cellsF A.ths n id))) ∧ (cellsF A.ths n id = [] → u = .slice none 0 0) ∧ TG w wb m b nn t v F A (fun _ => True) w') := fun w' h1 h2 => by
    obtain ⟨V, hV, hr, hnil⟩ := h1.cl
    obtain ⟨k', D', hw'⟩ := h1.wg
    rw [shift_len, hhf] at hr
    have hs2 : W.heap.size ≤ w'.heap.size := h2.size
    refine ⟨V, Lib.cell_of_heap hV 0, ?_, fun e => hnil (by rw [e]; rfl), ⟨⟨k', D', hw', fun _ _ _ => trivial⟩, by omega, h2.os.trans b3.os, h2.tape.trans b3.tape, h2.output.trans b3.output, fun j a1 a2 a3 => (h2.block j (by omega) a2 a3 (by omega)).trans (b3.block j a1)⟩⟩
    obtain ⟨q1, q2⟩ := hr
    refine ⟨q1, ?_⟩
    rcases q2 with q2 | ⟨g, cap, cur, q3, q4, q5⟩
    · exact Or.inl q2
    · exact Or.inr ⟨g, cap, cur, q3, by omega, q5⟩
  have hcf : W.cell? ⟨w.heap.size + 1 + 1, 0, none⟩ = some (cFn w.heap.size (w.heap.size + 1) (w.heap.size + 1 + 1)) := Lib.cell_of_heap e2 0
  have HKF : Hid (∀ w', CS w' wb m b nn t v F A w.heap.size (w.heap.size + 1) (w.heap.size + 1 + 1) (w.heap.size + 3) (shiftL (-hf') (-hf') (cellsF A.ths n id)) → w'.cell? ⟨w.heap.size + 1 + 1, 0, none⟩ = some (cFn w.heap.size (w.heap.size + 1) (w.heap.size + 1 + 1))) := fun w' h => Lib.cell_of_heap h.cf 0
  have HW : Hid ((((w.alloc (.cells #[.pointer (some ⟨wb, 0, none⟩)] 174)).alloc (.cells #[.slice none 0 0] 69)).alloc (.cells #[cFn w.heap.size (w.heap.size + 1) (w.heap.size + 1 + 1)] 178)) = W) := hW
  clear hhf hlev C0 C1 e0 e1 e2 hl hw hbd hpow
  clear hW
  go_enter Try.func89, Try.ntmps89
  go_wp2_with fail
  rw [HW.out]
  go_region_held3 (fun w' => w'.cell? ⟨w.heap.size + 1 + 1, 0, none⟩ = some (cFn w.heap.size (w.heap.size + 1) (w.heap.size + 1 + 1))) (first | exact hcf | exact HKF.out _ hR) ((first | (go_at_call 99; refine (hh _).mono ?_; rintro e w5 ⟨rfl, rfl⟩) | (go_at_call 127; refine HC.mono ?_; rintro e w6 ⟨rfl, hR, hO⟩)))
  all_goals
    obtain ⟨u, hu, hrow, hnil, hTG⟩ := HFIN.out _ hR hO
    have HNIL : Hid (cellsF A.ths n id = [] → u = .slice none 0 0) := hnil
    clear hnil
    go_wp2_with fail
    go_ret
    exact ⟨u, rfl, hrow, HNIL.out, hTG⟩

theorem row_of_own' {w : World} {B : Nat} {v : Value} {zs : List (Int × Int)} (h : w.ownsRow B 87 2 v zs.length (cL zs)) (hnil : zs = [] → v = .slice none 0 0) : Row w v zs := by
  by_cases h0 : zs = []
  · exact Or.inl ⟨h0, hnil h0⟩
  · have hh := h
    rcases h.2 with ⟨rfl, h1⟩ | ⟨g, cap, cur, rfl, hB, hg, hc, hm, hr⟩
    · exact absurd (List.length_eq_zero_iff.1 h1) h0
    · refine Or.inr ⟨h0, g, 0, cap, rfl, (Array.getElem?_eq_some_iff.1 hg).1, hc, hm, fun j hj => ?_⟩
      have h1 := hh.cellAt (j * 2) (by omega)
      have h2 := hh.cellAt (j * 2 + 1) (by omega)
      obtain ⟨e1, e2⟩ := cL_at zs j hj
      rw [Nat.zero_add]
      exact ⟨h1.trans e1, h2.trans e2⟩

set_option maxRecDepth 20000 in
set_option maxHeartbeats 4000000 in
/-- Cells of a root -/
theorem Cells_root (b n t lv : Nat) (id : Int) (F : Nat → Prop) (A : Ar) (w : World) (hA : ArAt w b F n A) (hI : Inv A) (ht : t < 64) (hm : ∀ x ∈ A.ths, x.mask < 18446744073709551616) (hf : A.ths.length < 1000000) (hl : levelF A.ths t id = some (lv : Int)) (hlv1 : 1 ≤ lv) (hlv : lv ≤ 44) (hbig : (cellsF A.ths lv id).length ≤ 4096) :
    Calls Try.prog 41 #[.pointer (some ⟨b, 0, none⟩), .int .i64 t, .int .i64 id] w fun x w' => ∃ u ys, x = .returned (.tuple #[u, .int .i64 (tcode (shiftL (-(halfN lv : Int)) (-(halfN lv : Int)) (cellsF A.ths lv id)))]) ∧ Tidied (shiftL (-(halfN lv : Int)) (-(halfN lv : Int)) (cellsF A.ths lv id)) ys ∧ ORow w' w.heap.size u ys ∧ Below w.heap.size w w' := by
  have hr := fits_of hl hf
  have hflt := hA.flt
  have hlev := fun W hb v (hh : HandAt W hb b t 0 v) (hW : ArAt W b F n A) (hn : ¬ F hb) => handLevel_ok hb b n t id 1 44 lv v F A W hh hW hn ht hm hr hl (by omega) (by omega)
  have hta := fun wb m v k D W => tally_any wb m b n t v F A hI ht hm hf lv id hlv hl (by omega) k D W (lv : Int) rfl
  have hce := fun wb m v k D W => wcells_any wb m b n t k lv id (lv : Int) v F A D W hI ht hm hf hlv1 hlv hl hbig rfl
  have HL : Hid (levelF A.ths t id = some (lv : Int)) := hl
  obtain ⟨zs, hzs⟩ : ∃ zs, zs = shiftL (-(halfN lv : Int)) (-(halfN lv : Int)) (cellsF A.ths lv id) := ⟨_, rfl⟩
  have HZS : Hid (zs = shiftL (-(halfN lv : Int)) (-(halfN lv : Int)) (cellsF A.ths lv id)) := hzs
  rw [← hzs]
  clear hl hzs
  go_enter Try.func41, Try.ntmps41
  go_wp2_with fail
  refine (newWalker_G b t _).mono ?_
  rintro x w1 ⟨g, m, D, rfl, hb1, hown, hkn, hmg, _, _, _⟩
  obtain ⟨Q0, b2⟩ := WG.born (g := g) (t := t) hA hf hb1 hown hkn hmg
  have hh := Q0.hand
  have hs1 := hb1.size
  go_wp2_with fail
  refine (hlev _ _ _ hh (hA.below b2) Q0.nFw).mono ?_
  rintro x w3 ⟨rfl, h3, g3, h34⟩
  have c2 := h3.c2
  have Q3 := Q0.kids h3 g3 (h34.trans Q0.c4)
  have b3 : Below w.heap.size w w3 := b2.trans ⟨g3.os, g3.tape, g3.output, g3.size, fun k hk => g3.block k (by have := b2.size; omega) (by simp; omega)⟩
  clear hlev
  go_wp2_with fail
  refine (hta _ _ _ 2 D _ Q3).mono ?_
  rintro x w4 ⟨c, x0, y0, x1, y1, rfl, hT, T4⟩
  obtain ⟨k4, D4, Q4, _⟩ := T4.wg
  have hlt3 := Q3.hand.lt
  have hfz := field_tv c x0 y0 x1 y1 w4
  have hcl : c = ((cellsF A.ths lv id).length : Int) := hT.1
  have hcb : ¬ (4096 : Int) < c := by omega
  have b4 : Below w.heap.size w w4 := ⟨T4.os.trans b3.os, T4.tape.trans b3.tape, T4.output.trans b3.output, Nat.le_trans b3.size T4.size, fun k hk => (T4.block k (by have := b3.size; omega) (by omega) (by omega)).trans (b3.block k hk)⟩
  clear hcl hT hta T4
  go_wp2_with fail
  refine (hce _ _ _ k4 D4 _ Q4).mono ?_
  rintro x w5 ⟨u, rfl, hrow, hnil, T5⟩
  obtain ⟨k5, D5, Q5, _⟩ := T5.wg
  have d2 := Q5.hand.c2
  have b5 : Below w.heap.size w w5 := ⟨T5.os.trans b4.os, T5.tape.trans b4.tape, T5.output.trans b4.output, Nat.le_trans b4.size T5.size, fun k hk => (T5.block k (by have := b4.size; omega) (by omega) (by omega)).trans (b4.block k hk)⟩
  have hzs := HZS.out
  have hrow2 : Row w5 u zs := by
    refine row_of_own' (B := w4.heap.size) ?_ ?_
    · rw [hzs, shift_len]; exact hrow
    · intro e
      refine hnil ?_
      rw [hzs] at e
      exact List.length_eq_zero_iff.1 (by have := congrArg List.length e; rw [shift_len] at this; simpa using this)
  have hTT := tidy_told u zs w5 hrow2
  clear hce hrow hnil T5 hzs hrow2
  go_wp2_with fail
  refine hTT.mono ?_
  rintro x w6 ⟨u6, ys, rfl, hb6, ht6, hr6⟩
  go_wp2_with fail
  go_ret2
  exact ⟨u6, ys, rfl, ht6, hr6.mono b5.size, b5.trans (hb6.mono b5.size)⟩
end Go.Proofs.Ythobobgiendcfaa.A

namespace Go.Proofs.Ythobobgiendcfaa.A
open Go.RowKit Go.Maps

theorem row_shape {w : World} {u : Value} {ys : List (Int × Int)} (h : Row w u ys) : ∃ a c, u = .slice a ys.length c := by
  obtain ⟨a, c, hv, _⟩ := h.shape
  exact ⟨a, c, hv⟩
/-- a list with the tidy list's cells -/
theorem made_tidied {zs ys l : List (Int × Int)} (h : Tidied zs ys) (hm : ∀ p, p ∈ l ↔ p ∈ ys) (hl : l.length ≤ 4096) : Tidied l ys ∧ tcode l = 0 := by
  have hc : tcode l = 0 := by
    unfold tcode
    rw [if_neg (by omega), if_neg]
    simp only [Bool.not_eq_true, List.any_eq_false]
    intro p hp
    have := tidied_far h p ((hm p).1 hp)
    simp [this]
  exact ⟨⟨h.1, fun p => by rw [hm p, hc]; simp⟩, hc⟩

set_option maxRecDepth 20000 in
set_option maxHeartbeats 8000000 in
theorem froms_any (v : Value) (zs0 : List (Int × Int)) (w : World) (hrow0 : RRow w v zs0) :
    Calls Try.prog 7 #[v] w fun e w' => e = .returned (.bool true) ∧ Below w.heap.size w w' := by
  obtain ⟨a0, c0, hv0, hc0, _, ha0, hp0⟩ := id hrow0
  have HR0 : Hid (RRow w v zs0) := hrow0
  clear hrow0
  subst hv0
  go_enter Try.func7, Try.ntmps7
  go_upto_if 16 with fail
  go_cut [0] from 14 to 18 (fun s0 wc => ∃ (a : Option Addr) (c m : Nat) (zs : List (Int × Int)), s0 = .slice a m c ∧ m = zs.length ∧ zs.length ≤ 300 ∧ RRow w s0 zs ∧ wc = w)
  case first =>
    by_cases hl : 300 < zs0.length
    · have hl3 : (300 : Int) < (zs0.length : Int) := by omega
      have hd3 : decide ((300 : Int) < (zs0.length : Int)) = true := by simpa using hl3
      have hc3 : (300 : Int) ≤ (c0 : Int) := by omega
      obtain ⟨b, off, rfl, _⟩ : ∃ b off, a0 = some (⟨b, off, none⟩ : Addr) ∧ True := by
        rcases hp0 with h | ⟨b, off, h, _⟩
        · omega
        · exact ⟨b, off, h, trivial⟩
      have HREL : Hid (∃ (a : Option Addr) (c m : Nat) (zs : List (Int × Int)), Value.slice (some ⟨b, off, none⟩) 300 c0 = .slice a m c ∧ m = zs.length ∧ zs.length ≤ 300 ∧ RRow w (.slice (some ⟨b, off, none⟩) 300 c0) zs) := by
        have hlen : (zs0.take 300).length = 300 := by rw [List.length_take]; omega
        exact ⟨_, _, 300, zs0.take 300, rfl, hlen.symm, Nat.le_of_eq hlen, cut_row HR0.out hl⟩
      generalize zs0.length = M at *
      clear hp0 HR0
      go_wp2_with fail
      go_meet
      case rel =>
        obtain ⟨a, c, m, zs, h1, h2, h3, h4⟩ := HREL.out
        exact ⟨a, c, m, zs, h1, h2, h3, h4, rfl⟩
    · have hl3 : ¬ (300 : Int) < (zs0.length : Int) := by omega
      have hd3 : decide ((300 : Int) < (zs0.length : Int)) = false := by simpa using hl3
      have HREL : Hid (∃ (a : Option Addr) (c m : Nat) (zs : List (Int × Int)), Value.slice a0 zs0.length c0 = .slice a m c ∧ m = zs.length ∧ zs.length ≤ 300 ∧ RRow w (.slice a0 zs0.length c0) zs) := ⟨_, _, _, zs0, rfl, rfl, by omega, HR0.out⟩
      generalize zs0.length = M at *
      clear hp0 HR0
      go_wp2_with fail
      go_meet
      case rel =>
        obtain ⟨a, c, m, zs, h1, h2, h3, h4⟩ := HREL.out
        exact ⟨a, c, m, zs, h1, h2, h3, h4, rfl⟩
  case rest =>
  obtain ⟨a, c, m, zs, rfl, hm, hlen, hrow, rfl⟩ := hcut
  clear HR0 hp0 hc0 ha0
  obtain ⟨ys, hys⟩ := tidied_exists zs
  have HLEN : Hid (zs.length ≤ 300) := hlen
  have hMA := fun W h => made_any (.slice a m c) zs ys W h hlen hys
  have hRT := fun W h => refTidy_told (.slice a m c) zs W h
  have HR : Hid (RRow wc (.slice a m c) zs) := hrow
  have HYS : Hid (Tidied zs ys) := hys
  clear hrow hys hlen hm
  go_wp2_with fail
  refine (hMA _ HR.out).mono ?_
  rintro e w1 ⟨b, id, rfl, hb1, hid, hmade⟩
  have hr1 := RRow.below HR.out hb1
  clear hMA
  obtain ⟨tc, htc⟩ : ∃ tc, tc = tcode zs := ⟨_, rfl⟩
  rw [← htc] at hRT hid hmade ⊢
  have HTC : Hid (tc = tcode zs) := htc
  clear htc
  go_wp2_with fail
  refine (hRT _ hr1).mono ?_
  rintro e w2 ⟨u, ys', rfl, hb2, ht2, hr2⟩
  obtain rfl : ys' = ys := ht2.unique HYS.out
  have b2 : Below wc.heap.size wc w2 := hb1.trans (hb2.mono hb1.size)
  clear hRT ht2
  by_cases h0 : tc = 0
  · obtain ⟨A, F, nn, lv, hA, hF, hI, hP, hL, hlv, hlev, hcells⟩ := hmade h0
    subst h0
    clear hmade hid
    have hA2 := hA.below hb2
    have hmask := hP.bud.mask
    have hfew := hP.bud.young.few
    have hlen2 := made_len hI.good (glevel_of hlev) HYS.out.1 hcells
    have hmem := made_mem hcells
    have hyl : ys'.length ≤ 300 := Nat.le_trans (tidied_len HYS.out) HLEN.out
    have hfar := tidied_far HYS.out
    have htid : Tidied (shiftL (-(halfN lv : Int)) (-(halfN lv : Int)) (cellsF A.ths lv id)) ys' ∧ tcode (shiftL (-(halfN lv : Int)) (-(halfN lv : Int)) (cellsF A.ths lv id)) = 0 := made_tidied HYS.out hmem (by rw [shift_len]; omega)
    have hCe0 := fun W h => Cells_root b nn 3 lv id F A W h hI (by omega) hmask hfew hlev (by have := hL.two; omega) (by omega) (by omega)
    have hCe : ∀ W, ArAt W b F nn A → Calls Try.prog 41 #[.pointer (some ⟨b, 0, none⟩), .int .i64 3, .int .i64 id] W fun x w' => ∃ u, x = .returned (.tuple #[u, .int .i64 0]) ∧ Row w' u ys' ∧ Below W.heap.size W w' := fun W h => (hCe0 W h).mono fun x w' ⟨u, ys2, h1, h2, h3, h4⟩ => ⟨u, by rw [h1, htid.2], by rw [← h2.unique htid.1]; exact h3.read, h4⟩
    have hLv : ∀ W, ArAt W b F nn A → Calls Try.prog 27 #[.pointer (some ⟨b, 0, none⟩), .int .i64 3, .int .i64 id] W fun x w' => x = .returned (.tuple #[.int .i64 (lv : Int), .int .i64 0]) ∧ Below W.heap.size W w' := fun W ⟨r, D, h⟩ => by
      have := Level_any b 0 3 id r A.ths W h.raw h.ths (by omega) hmask (fits_of hlev hfew)
      rw [hlev] at this
      exact this
    obtain ⟨ua, uc, hu⟩ := row_shape hr2
    have HU : Hid (Row w2 u ys') := hr2
    have HB : Hid (∀ p ∈ ys', -1152921504606846976 < p.1 ∧ p.1 < 1152921504606846976 ∧ -1152921504606846976 < p.2 ∧ p.2 < 1152921504606846976) := fun p hp => by
      have := hfar p hp
      unfold farP farI at this
      simp only [Bool.or_eq_false_iff, decide_eq_false_iff_not] at this
      omega
    have HL : Hid (LeastLv lv ys') := hL
    have hlv2 := hL.two
    clear hlen2 hmem hcells hlev hL hI hP hr2 hA htid hCe0 hfar
    subst hu
    have hRe := fun W h => reach_any (.slice ua ys'.length uc) ys' W h (by omega) HB.out
    obtain ⟨rr, hrr⟩ : ∃ rr, rr = reachF ys' 0 := ⟨_, rfl⟩
    rw [← hrr] at hRe
    have HRR : Hid (∀ n : Nat, rr < (halfN n : Int) ↔ fitsLv n ys') := fun n => by rw [hrr]; exact reach_iff ys' n
    clear hrr
    go_wp2_with fail
    refine (hCe _ hA2).mono ?_
    rintro e w3 ⟨u3, rfl, hr3, hb3⟩
    have hA3 := hA2.below hb3
    have b3 : Below wc.heap.size wc w3 := b2.trans (hb3.mono b2.size)
    go_wp2_with fail
    refine (hLv _ hA3).mono ?_
    rintro e w4 ⟨rfl, hb4⟩
    have b4 : Below wc.heap.size wc w4 := b3.trans (hb4.mono b3.size)
    have hr4 := hr3.below hb4
    have hr4' := HU.out.below (hb3.trans (hb4.mono hb3.size))
    clear hCe hLv hA2 hA3
    go_wp2_with fail
    go_loopg [13] (lv - 2) (fun g s13 wr => ∃ j : Nat, j + g = lv ∧ 2 ≤ j ∧ s13 = .int .i64 (j : Int) ∧ Below w4.heap.size w4 wr)
    case atStart => exact ⟨2, by omega, by omega, rfl, Below.refl _ _⟩
    case round =>
      obtain ⟨j, hjg, hj2, rfl, hbr⟩ := hrel
      have HJ : Hid (j + gk = lv) := hjg
      have hj44 : j ≤ 41 := by omega
      clear hjg
      have hRe1 := hRe wr (hr4'.below hbr)
      have hwh := wrap_half j (by omega)
      by_cases hjl : j = lv
      · have hd : decide (wrap64 (2 ^ (j - 1)) ≤ rr) = false := by
          rw [hwh]
          have := (HRR.out j).2 (by rw [hjl]; exact HL.out.fits)
          simp; omega
        have hd' : ¬ (wrap64 (2 ^ (j - 1)) ≤ rr) := by simpa using hd
        have HJL : Hid (j = lv) := hjl
        have hjl' : ((lv : Int) == (j : Int)) = true := by simp [hjl]
        have hSa := fun W h1 h2 => sameCells_any u3 (.slice ua ys'.length uc) ys' W h1 h2
        clear hRe hwh hjl
        go_wp2_with fail
        refine hRe1.mono ?_
        rintro e w5 ⟨rfl, hb5⟩
        have b45 := hbr.trans (hb5.mono hbr.size)
        go_wp2_with fail
        refine (hSa _ (hr4.below b45) (hr4'.below b45)).mono ?_
        rintro e w6 ⟨rfl, hb6⟩
        have b46 := b45.trans (hb6.mono b45.size)
        go_wp2_with fail
        go_ret
        exact ⟨rfl, b4.trans (b46.mono b4.size)⟩
      · have hd : decide (wrap64 (2 ^ (j - 1)) ≤ rr) = true := by
          rw [hwh]
          have h1 : ¬ rr < (halfN j : Int) := fun h => HL.out.least j hj2 (by have := HJ.out; omega) ((HRR.out j).1 h)
          simp; omega
        have hd' : wrap64 (2 ^ (j - 1)) ≤ rr := by simpa using hd
        clear hRe hwh
        go_wp2_with fail
        refine hRe1.mono ?_
        rintro e w5 ⟨rfl, hb5⟩
        go_wp2_with fail
        go_roundg (gk - 1)
        case measure => have := HJ.out; omega
        case rel => exact ⟨j + 1, by have := HJ.out; omega, by omega, by go_num, hbr.trans (hb5.mono hbr.size)⟩
  · have h0' : (tc != 0) = true := by simpa using h0
    have hid0 := hid h0
    subst hid0
    clear hmade hid
    go_wp2_with fail
    go_ret
    exact ⟨rfl, b2⟩

end Go.Proofs.Ythobobgiendcfaa.A
