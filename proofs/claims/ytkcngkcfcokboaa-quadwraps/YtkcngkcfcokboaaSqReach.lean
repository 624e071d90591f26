/- How far from 0 a list of cells reaches. -/
import Derived.Test.YtkcngkcfcokboaaSqLaw
import Derived.Lib.MinMax
namespace Go.Proofs.Ytkcngkcfcokboaa.A
open Go.RowKit Go.Maps

theorem Row.below {w w' : World} {v : Value} {zs : List (Int × Int)} (h : Row w v zs) (hb : Below w.heap.size w w') : Row w' v zs := by
  rcases h with h | ⟨h0, b, off, c, hv, hl, h1, h2, h3⟩
  · exact Or.inl h
  · refine Or.inr ⟨h0, b, off, c, hv, Nat.lt_of_lt_of_le hl hb.size, h1, h2, fun j hj => ?_⟩
    obtain ⟨a1, a2⟩ := h3 j hj
    exact ⟨(World.cell?_of_block (a := ⟨b, off + j * 2, none⟩) (hb.block b hl)).trans a1, (World.cell?_of_block (a := ⟨b, off + j * 2 + 1, none⟩) (hb.block b hl)).trans a2⟩
theorem run_max_five {P : Program} (w : World) (ts : Array TypeId) (t : TypeId) (a b c d e : Int) : (Builtin.max_ ts t #[.int .i64 a, .int .i64 b, .int .i64 c, .int .i64 d, .int .i64 e]).run P w = .ok (.int .i64 (max (max (max (max a b) c) d) e)) w := by
  have h : ∀ x y : Int, (if x < y then y else x) = max x y := fun x y => by
    rw [Int.max_def]
    split <;> split <;> omega
  simp [Builtin.max_, Builtin.max2, h]
def reachF : List (Int × Int) → Int → Int
  | [], n => n
  | c :: ys, n => reachF ys (max (max (max (max n c.1) c.2) (-c.1 - 1)) (-c.2 - 1))
theorem reachF_snoc (c : Int × Int) : ∀ (ys : List (Int × Int)) (n : Int), reachF (ys ++ [c]) n = max (max (max (max (reachF ys n) c.1) c.2) (-c.1 - 1)) (-c.2 - 1)
  | [], n => rfl
  | d :: ys, n => by
    show reachF (ys ++ [c]) _ = _
    rw [reachF_snoc c ys]
    rfl
theorem reachF_lt : ∀ (ys : List (Int × Int)) (n z : Int), reachF ys n < z ↔ n < z ∧ ∀ p ∈ ys, p.1 < z ∧ p.2 < z ∧ -z ≤ p.1 ∧ -z ≤ p.2
  | [], n, z => by simp [reachF]
  | c :: ys, n, z => by
    show reachF ys _ < z ↔ _
    rw [reachF_lt ys]
    simp only [List.mem_cons, forall_eq_or_imp]
    constructor
    · rintro ⟨h1, h2⟩
      exact ⟨by omega, ⟨by omega, by omega, by omega, by omega⟩, h2⟩
    · rintro ⟨h1, h2, h3⟩
      exact ⟨by omega, h3⟩
theorem reach_iff (ys : List (Int × Int)) (n : Nat) : reachF ys 0 < (halfN n : Int) ↔ fitsLv n ys := by
  have hp : 0 < halfN n := Nat.two_pow_pos _
  rw [reachF_lt]
  unfold fitsLv
  constructor
  · rintro ⟨_, h⟩ p hp
    have := h p hp
    omega
  · intro h
    refine ⟨by omega, fun p hp => ?_⟩
    have := h p hp
    omega

set_option maxRecDepth 20000 in
set_option maxHeartbeats 8000000 in
theorem reach_any (v : Value) (ys : List (Int × Int)) (w : World) (hrow : Row w v ys) (hl4 : ys.length ≤ 4096) (hb : ∀ p ∈ ys, -1152921504606846976 < p.1 ∧ p.1 < 1152921504606846976 ∧ -1152921504606846976 < p.2 ∧ p.2 < 1152921504606846976) :
    Calls Try.prog 42 #[v] w fun e w' => e = .returned (.int .i64 (reachF ys 0)) ∧ Below w.heap.size w w' := by
  obtain ⟨a, c, rfl⟩ := (by obtain ⟨a, c, h, _⟩ := hrow.shape; exact ⟨a, c, h⟩ : ∃ a c, v = .slice a ys.length c)
  go_enter Try.func42, Try.ntmps42
  go_wp2_with fail
  have HB : Hid (∀ p ∈ ys, -1152921504606846976 < p.1 ∧ p.1 < 1152921504606846976 ∧ -1152921504606846976 < p.2 ∧ p.2 < 1152921504606846976) := hb
  have HROW : Hid (Row w (.slice a ys.length c) ys) := hrow
  have HTAKE : Hid (∀ i, i < ys.length → reachF (ys.take (i + 1)) 0 = max (max (max (max (reachF (ys.take i) 0) (ys[i]!).1) (ys[i]!).2) (-(ys[i]!).1 - 1)) (-(ys[i]!).2 - 1)) := fun i hi => by
    rw [List.take_succ_eq_append_getElem hi, reachF_snoc, getElem!_pos ys i hi]
  have HBD : Hid (∀ i, i ≤ ys.length → 0 ≤ reachF (ys.take i) 0 ∧ reachF (ys.take i) 0 < 1152921504606846976) := fun i hi => by
    refine ⟨?_, (reachF_lt _ _ _).2 ⟨by omega, fun p hp => ?_⟩⟩
    · by_cases h : reachF (ys.take i) 0 < 0
      · have := ((reachF_lt _ _ _).1 h).1; omega
      · omega
    · have := HB.out p (List.mem_of_mem_take hp)
      omega
  clear hb hrow
  go_loopg [3, 8] ys.length (fun g s3 s8 wr => ∃ i : Nat, i + g = ys.length ∧ s8 = .int .i64 (i : Int) ∧ s3 = .int .i64 (reachF (ys.take i) 0) ∧ Below w.heap.size w wr)
  case atStart => exact ⟨0, by omega, rfl, rfl, Below.refl _ _⟩
  case round =>
    obtain ⟨i, hig, rfl, rfl, hbr⟩ := hrel
    have HI : Hid (i + gk = ys.length) := hig
    clear hig
    by_cases hlt : i < ys.length
    · have hil : (i : Int) < (ys.length : Int) := by omega
      have hi0 : (0 : Int) ≤ i := by omega
      have hr := Row.below HROW.out hbr
      obtain ⟨b, off, rfl, hh⟩ : ∃ b off, a = some (⟨b, off, none⟩ : Addr) ∧ HoldsR wr b off ys := by
        rcases hr with ⟨h0, _⟩ | ⟨_, b, off, c', e, _, _, _, h⟩
        · rw [h0] at hlt; simp at hlt
        · simp only [Value.slice.injEq] at e
          exact ⟨b, off, e.1, h⟩
      obtain ⟨d0, d1⟩ := hh i hlt
      have hbb := HB.out _ (mem_at hlt)
      have hbd := HBD.out i (by omega)
      have hnx := HTAKE.out i hlt
      obtain ⟨r, hr0⟩ : ∃ r, r = reachF (ys.take i) 0 := ⟨_, rfl⟩
      obtain ⟨p, hp⟩ : ∃ p, p = (ys[i]!).1 := ⟨_, rfl⟩
      obtain ⟨q, hq⟩ : ∃ q, q = (ys[i]!).2 := ⟨_, rfl⟩
      rw [← hp, ← hq, ← hr0] at hnx
      rw [← hp] at d0
      rw [← hq] at d1
      rw [← hp, ← hq] at hbb
      rw [← hr0] at hbd ⊢
      have HNX : Hid (reachF (ys.take (i + 1)) 0 = max (max (max (max r p) q) (-p - 1)) (-q - 1)) := hnx
      have hsl : wr.heap.size = wr.heap.size := rfl
      have bA := hbr.alloc hbr.size (.cells #[.int .i64 p, .int .i64 q] 87)
      clear hnx hr0 hp hq hh hr
      generalize ys.length = len at *
      have hmx := fun W => run_max_five (P := Try.prog) W #[3, 3, 3, 3, 3] 3 r p q (-p - 1) (-q - 1)
      go_wp2_with fail
      go_roundg (gk - 1)
      case measure => have := HI.out; omega
      case rel => exact ⟨i + 1, by have := HI.out; omega, by go_num, by rw [HNX.out]; congr 1; omega, bA⟩
    · have hi4 : i = ys.length := by have := HI.out; omega
      have hnl : ¬ (i : Int) < (ys.length : Int) := by omega
      have HE : Hid (reachF (ys.take i) 0 = reachF ys 0) := by show _ = _; rw [hi4, List.take_length]
      obtain ⟨r, hr0⟩ : ∃ r, r = reachF (ys.take i) 0 := ⟨_, rfl⟩
      rw [← hr0] at HE ⊢
      clear hr0 hi4
      go_wp2_with fail
      go_ret
      exact ⟨ret_i HE.out, hbr⟩
end Go.Proofs.Ytkcngkcfcokboaa.A
