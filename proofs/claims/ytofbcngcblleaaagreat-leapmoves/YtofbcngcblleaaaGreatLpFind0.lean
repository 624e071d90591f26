/- find at the least level: one step of sixteen cells. -/
import Derived.Test.YtofbcngcblleaaaGreatLpRel
namespace Go.Proofs.YtofbcngcblleaaaGreat.A
open Go.RowKit Go.Proofs.YtofbcngcblleaaaGreat.L

variable {w w1 W : World} {o o1 : Nat → Nat} {lb b t : Nat} {rb rl e : Int} {A : Ar} {q : Nat → Int}
/-- the quarters of a square's quarters -/
theorem grid_of (hw : Wel (view A t)) {n : Nat} {id : Int} (h : levV (view A t).V id = some ((n + 2 : Nat) : Int)) : ∃ (r : Nat → Int) (P : Nat → Nat → Int), QV (view A t) id = some (r 0, r 1, r 2, r 3) ∧ (∀ i, i < 4 → levV (view A t).V (r i) = some ((n + 1 : Nat) : Int) ∧ QV (view A t) (r i) = some (P i 0, P i 1, P i 2, P i 3)) ∧ ∀ i k, i < 4 → k < 4 → levV (view A t).V (P i k) = some (n : Int) := by
  obtain ⟨r, h1, h2⟩ := kids_lev (n := n + 1) hw h
  have hk : ∀ i, ∃ p : Nat → Int, i < 4 → QV (view A t) (r i) = some (p 0, p 1, p 2, p 3) ∧ ∀ k, k < 4 → levV (view A t).V (p k) = some (n : Int) := fun i => by
    by_cases hi : i < 4
    · obtain ⟨p, h3, h4⟩ := kids_lev hw (h2 i hi)
      exact ⟨p, fun _ => ⟨h3, h4⟩⟩
    · exact ⟨fun _ => 0, fun h => absurd h hi⟩
  obtain ⟨P, hP⟩ := Classical.skolem.1 hk
  exact ⟨r, P, h1, fun i hi => ⟨h2 i hi, (hP i hi).1⟩, fun i k hi hk => (hP i hi).2 k hk⟩
theorem gvf_get {C : Int → Prop} {P : Nat → Nat → Int} (h : ∀ i k, i < 4 → k < 4 → C (P i k)) {p : Nat} (hp : p < 16) : C (gvf P 16 p) := by
  unfold gvf
  rw [if_pos (by omega)]
  exact h _ _ (by omega) (by omega)
theorem gvf_bits {P : Nat → Nat → Int} (h : ∀ i k, i < 4 → k < 4 → P i k = 0 ∨ P i k = 1) (p : Nat) : 0 ≤ gvf P 16 p ∧ gvf P 16 p ≤ 1 := by
  by_cases hp : p < 16
  · have : gvf P 16 p = 0 ∨ gvf P 16 p = 1 := gvf_get (C := fun v => v = 0 ∨ v = 1) h hp
    omega
  · unfold gvf
    rw [if_neg (by omega)]
    omega
theorem lev_zero (hp : PosL (view A t)) (hw : Wel (view A t)) {id : Int} (h : levV (view A t).V id = some ((0 : Nat) : Int)) : id = 0 ∨ id = 1 := isSq_of_lev hw hp 0 id h
/-- the sixteen, where they lie -/
theorem parts_at {R : Bool → Nat → Bool} {Q : Qs4} {n0 k T : Nat} {id0 id dx dy : Int} {r : Nat → Int} {P : Nat → Nat → Int} (h : At R Q n0 id0 (k + 2) id T dx dy) (hq : Q id = some (r 0, r 1, r 2, r 3)) (hP : ∀ i, i < 4 → Q (r i) = some (P i 0, P i 1, P i 2, P i 3)) (x y : Nat) (hx : x < 4) (hy : y < 4) : At R Q n0 id0 k (gvf P 16 (4 * y + x)) T (dx + x * 2 ^ k) (dy + y * 2 ^ k) := by
  have hn : ∀ i, i < 4 → nth4 (r 0, r 1, r 2, r 3) i = r i := fun i hi => by
    have : i = 0 ∨ i = 1 ∨ i = 2 ∨ i = 3 := by omega
    rcases this with rfl | rfl | rfl | rfl <;> rfl
  have hm : ∀ i j, j < 4 → nth4 (P i 0, P i 1, P i 2, P i 3) j = P i j := fun i j hj => by
    have : j = 0 ∨ j = 1 ∨ j = 2 ∨ j = 3 := by omega
    rcases this with rfl | rfl | rfl | rfl <;> rfl
  have h1 := h.part hq (y / 2 * 2 + x / 2) (y % 2 * 2 + x % 2) (by omega) (by omega) (by rw [hn _ (by omega)]; exact hP _ (by omega))
  rw [hm _ _ (by omega)] at h1
  have e : gvf P 16 (4 * y + x) = P (y / 2 * 2 + x / 2) (y % 2 * 2 + x % 2) := by
    unfold gvf
    rw [if_pos (by omega), show (4 * y + x) / 4 = y by omega, show (4 * y + x) % 4 = x by omega]
  rw [e]
  refine h1.to ?_ ?_ rfl
  · rw [show (y / 2 * 2 + x / 2) % 2 * 2 + (y % 2 * 2 + x % 2) % 2 = x by omega]
  · rw [show (y / 2 * 2 + x / 2) / 2 * 2 + (y % 2 * 2 + x % 2) / 2 = y by omega]
theorem b2n_of {v : Int} (h : 0 ≤ v ∧ v ≤ 1) : ((b2n (decide (v = 1)) : Nat) : Int) = v := by
  have : v = 0 ∨ v = 1 := by omega
  rcases this with rfl | rfl <;> rfl
/-- a cell of the middle, one step later -/
theorem step_at {Q : Qs4} {id : Int} {f : Nat → Int} (hf : ∀ p, 0 ≤ f p ∧ f p ≤ 1) (hP : ∀ x y, x < 4 → y < 4 → At (lifeR rb rl) Q 2 id 0 (f (4 * y + x)) 0 (0 + x * 2 ^ 0) (0 + y * 2 ^ 0)) (x y : Nat) (h1 : 1 ≤ x) (h2 : x ≤ 2) (h3 : 1 ≤ y) (h4 : y ≤ 2) : At (lifeR rb rl) Q 2 id 0 (stq rb rl f (4 * y + x)) 1 x y := by
  have := At.cell (R := lifeR rb rl) (Q := Q) (n0 := 2) (id0 := id) (T := 0) (dx := 0) (dy := 0) (P := fun u v => f (4 * v + u)) (x := x) (y := y) (z := stq rb rl f (4 * y + x)) h1 h3 (fun u v a1 a2 a3 a4 => (hP u v (by omega) (by omega)).to (by simp) (by simp) rfl) ?_
  · exact this.to (by simp) (by simp) rfl
  · have key : ∀ n : Nat, nsm f (4 * y + x) 3 = (n : Int) → stq rb rl f (4 * y + x) = if lifeR rb rl (decide (f (4 * y + x) = 1)) n then 1 else 0 := fun n hn => by
      unfold stq lifeR
      rw [hn]
      rfl
    refine key _ ?_
    simp only [nsm, nrow, Int.natCast_add]
    have hx : x = 1 ∨ x = 2 := by omega
    have hy : y = 1 ∨ y = 2 := by omega
    rcases hx with rfl | rfl <;> rcases hy with rfl | rfl <;> simp only [b2n_of (hf _)] <;> simp <;> omega
theorem step_pic {Q : Qs4} {id : Int} {f : Nat → Int} (hf : ∀ p, 0 ≤ f p ∧ f p ≤ 1) (hP : ∀ x y, x < 4 → y < 4 → At (lifeR rb rl) Q 2 id 0 (f (4 * y + x)) 0 (0 + x * 2 ^ 0) (0 + y * 2 ^ 0)) : joinPic 0 (picQ Q 0 (stq rb rl f 5)) (picQ Q 0 (stq rb rl f 6)) (picQ Q 0 (stq rb rl f 9)) (picQ Q 0 (stq rb rl f 10)) = pic (iter (lifeR rb rl) 1 (picQ Q 2 id)) 1 1 1 := by
  have h := fun x y h1 h2 h3 h4 => (step_at hf hP x y h1 h2 h3 h4).2 _ _ _ (shows_pic (Q := Q) (n := 2) (id := id))
  have h5 := h 1 1 (by omega) (by omega) (by omega) (by omega)
  have h6 := h 2 1 (by omega) (by omega) (by omega) (by omega)
  have h9 := h 1 2 (by omega) (by omega) (by omega) (by omega)
  have h10 := h 2 2 (by omega) (by omega) (by omega) (by omega)
  exact join_pic (shows_mv h5 (by decide) (by decide)) (shows_mv h6 (by decide) (by decide)) (shows_mv h9 (by decide) (by decide)) (shows_mv h10 (by decide) (by decide))
theorem stq_bit (rb rl : Int) (f : Nat → Int) (p : Nat) : stq rb rl f p = 0 ∨ stq rb rl f p = 1 := by
  unfold stq
  split
  · exact .inr rfl
  · exact .inl rfl
theorem lev_bit (v : Vw) {x : Int} (h : x = 0 ∨ x = 1) : levV v.V x = some ((0 : Nat) : Int) := by
  unfold levV
  rw [if_pos h]
  rfl
set_option maxRecDepth 20000 in
set_option maxHeartbeats 4000000 in
theorem find_zero : FdC 0 := by
  intro PR S w o lb b t rb rl q A id j h hst ht h0 h1 hn hl hj hcl
  have hw := hst.g.wel t ht
  obtain ⟨r, P, g1, g2, g3⟩ := grid_of (n := 0) hw hl
  have hbits := gvf_bits fun i k hi hk => lev_zero hst.p hw (g3 i k hi hk)
  have hg := lpGrid_any h hst.s ht id r P (.inl ⟨rfl, lev_fits hst.s hl, g1⟩) fun i hi => .inl ⟨rfl, lev_fits hst.s (g2 i hi).1, (g2 i hi).2⟩
  have HA : Hid (∀ x y, x < 4 → y < 4 → At (lifeR rb rl) (QV (view A t)) 2 id 0 (gvf P 16 (4 * y + x)) 0 (0 + x * 2 ^ 0) (0 + y * 2 ^ 0)) := parts_at (At.root (isSq_of_lev hw hst.p 2 id hl)) g1 fun i hi => (g2 i hi).2
  have HS : Hid (NxSt PR t q A ∧ IsSq (QV (view A t)) 2 id) := ⟨hst, isSq_of_lev hw hst.p 2 id hl⟩
  have HCL : Hid (Cl (lifeR rb rl) (rnum rb rl) S (view A t)) := hcl
  have HT : Hid (j ≤ 0) := hj
  obtain ⟨f, hfe⟩ : ∃ f, f = gvf P 16 := ⟨_, rfl⟩
  rw [← hfe] at hg hbits HA
  obtain ⟨J, hJ⟩ : ∃ J : Int, J = (j : Int) := ⟨_, rfl⟩
  rw [← hJ]
  have HB : Hid (∀ p, 0 ≤ f p ∧ f p ≤ 1) := hbits
  have hSd := hst.s
  clear hfe g1 g2 g3 hw h hst hl hJ h0 h1 hn hbits hj hcl
  show Calls Tryz.prog _ #[.pointer (some ⟨lb, 0, none⟩), .int .i64 id, .int .i64 2, .int .i64 J] w _
  go_enter Tryz.func101, Tryz.ntmps101
  go_wp2_with fail
  refine hg.mono ?_
  rintro v w1 ⟨rfl, o1, k1, k2⟩
  have HK : Hid (LS w1 o1 lb b t rb rl 0 A ∧ Ch AL o w o1 w1) := ⟨k1, k2⟩
  clear k1 k2
  unfold gridV Sx
  go_wp2_with fail
  have hb1 : Below w1.heap.size w1 (w1.alloc (.cells (Sx f) 160)) := (Below.refl _ _).alloc (Nat.le_refl _) _
  have HB1 : Hid (Ch AL o w (ext o1 w1.heap.size 0) (w1.alloc (.cells (Sx f) 160))) := HK.out.2.trans (Ch.ofBelow hb1 0)
  have hs1 := lpStep_any (HK.out.1.below hb1) hSd ht f HB.out
  unfold gridV Sx at hs1
  clear hb1
  refine hs1.mono ?_
  rintro r w2 ⟨rfl, hkp⟩
  have HKP : Hid (Kp (ext o1 w1.heap.size 0) (w1.alloc (.cells (Sx f) 160)) lb b t rb rl (jn 0 A t (stq rb rl f 5) (stq rb rl f 6) (stq rb rl f 9) (stq rb rl f 10)).2.2 (jn 0 A t (stq rb rl f 5) (stq rb rl f 6) (stq rb rl f 9) (stq rb rl f 10)).1 w2) := hkp
  clear hkp hs1
  go_wp2_with fail
  go_ret
  have hkp := HKP.out
  unfold jn at hkp ⊢
  rw [if_pos rfl] at hkp ⊢
  have l := fun p => lev_bit (view A t) (stq_bit rb rl f p)
  have fs := fun p => lev_fits (t := t) hSd (l p)
  obtain ⟨a1, a2, a3⟩ := join_sem HS.out.1 ht (n := 0) (by omega) (l 5) (l 6) (l 9) (l 10) (fs 5) (fs 6) (fs 9) (fs 10)
  have hj0 : j = 0 := by have := HT.out; omega
  subst hj0
  have hgx : Gx t A (A.joinP t (stq rb rl f 5) (stq rb rl f 6) (stq rb rl f 9) (stq rb rl f 10)).1 0 (A.joinP t (stq rb rl f 5) (stq rb rl f 6) (stq rb rl f 9) (stq rb rl f 10)).2.2 (FindD (lifeR rb rl) (rnum rb rl) S 0 (picQ (QV (view A t)) 2 id) 0) := by
    refine a2.eqv (fun _ i => ?_) (.inl rfl)
    unfold joinD
    rw [step_pic HB.out HA.out]
    exact Iff.rfl
  refine ⟨_, rfl, _, _, Kp.trans HB1.out hkp, a1, hgx, ?_⟩
  rcases a3 with a3 | ⟨a3, a4, a5⟩
  · exact .inl a3
  · refine .inr ⟨a3, ?_, a5, HCL.out.more HS.out.1 ht a2 joinD_sq⟩
    have hx := a2.sees.ext
    have k5 := (step_at HB.out HA.out 1 1 (by omega) (by omega) (by omega) (by omega)).ext HS.out.2 hx
    have k6 := (step_at HB.out HA.out 2 1 (by omega) (by omega) (by omega) (by omega)).ext HS.out.2 hx
    have k9 := (step_at HB.out HA.out 1 2 (by omega) (by omega) (by omega) (by omega)).ext HS.out.2 hx
    have k10 := (step_at HB.out HA.out 2 2 (by omega) (by omega) (by omega) (by omega)).ext HS.out.2 hx
    exact Nx.of (At.join (dx := 1) (dy := 1) (k := 0) (T := 1) a4 (k5.to rfl rfl rfl) (k6.to rfl rfl rfl) (k9.to rfl rfl rfl) (k10.to rfl rfl rfl))
end Go.Proofs.YtofbcngcblleaaaGreat.A
