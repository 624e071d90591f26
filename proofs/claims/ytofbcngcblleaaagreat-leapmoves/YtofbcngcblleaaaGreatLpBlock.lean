/- Four cells that stay; few cells are few. -/
import Derived.Test.YtofbcngcblleaaaGreatLpStep
import Derived.Test.YtofbcngcblleaaaGreatLpFrom
import Derived.Test.YtofbcngcblleaaaGreatLpStepsX
import Derived.Test.YtofbcngcblleaaaGreatArReach
import Derived.Deep.QuietTactic
import Derived.Test.YtofbcngcblleaaaGreatArBackG
import Derived.Test.YtofbcngcblleaaaGreatLpSteps
namespace Go.Proofs.YtofbcngcblleaaaGreat.A
open Go.RowKit Go.Proofs.YtofbcngcblleaaaGreat.L

theorem inj_len {α : Type} (P : Int → α → Prop) : ∀ (X : List α) (l : List Int), l.Nodup → (∀ id ∈ l, ∃ i ∈ X, P id i) → (∀ i a c, P a i → P c i → a = c) → l.length ≤ X.length
  | [], l, _, h, _ => by
    cases l with
    | nil => exact Nat.le_refl _
    | cons a l => obtain ⟨i, hi, _⟩ := h a (by simp); cases hi
  | x :: X, l, hn, h, hu => by
    by_cases hx : ∃ id ∈ l, P id x
    · obtain ⟨id, h1, h2⟩ := hx
      have := inj_len P X (l.erase id) (hn.erase id) (fun c hc => by
        obtain ⟨hne, hc⟩ := (hn.mem_erase_iff).1 hc
        obtain ⟨i, hi, hp⟩ := h c hc
        rcases List.mem_cons.1 hi with rfl | hi
        · exact absurd (hu _ _ _ hp h2) hne
        · exact ⟨i, hi, hp⟩) hu
      have hl := List.length_erase_of_mem h1
      have := List.length_pos_of_mem h1
      simp only [List.length_cons]
      omega
    · have := inj_len P X l hn (fun c hc => by
        obtain ⟨i, hi, hp⟩ := h c hc
        rcases List.mem_cons.1 hi with rfl | hi
        · exact absurd ⟨c, hc, hp⟩ hx
        · exact ⟨i, hi, hp⟩) hu
      simp only [List.length_cons]
      omega
theorem view_keys {A : Ar} (hS : Sound A) (t : Nat) : ∀ a c f g, (view A t).V a = some f → (view A t).V c = some g → f.1.k ≠ 0 → f.1 = g.1 → a = c := fun a c f g ha hc hk e => by
  obtain ⟨h1, x, hx, _, hf⟩ := ownV_iff.1 ha
  obtain ⟨k1, y, hy, _, hg⟩ := ownV_iff.1 hc
  have e1 : x.key = f.1 := by rw [← hf]; rfl
  have e2 : y.key = g.1 := by rw [← hg]; rfl
  have := hS.uniq _ _ x y hx hy (by show x.key.k ≠ 0; rw [e1]; exact hk) (by rw [e1, e2, e])
  omega
/-- no thing is two of a tenant's -/
theorem is_two {PR : (Bool → Nat → Bool) → Int → Prop} {t : Nat} {q : Nat → Int} {A : Ar} (h : NxSt PR t q A) (ht : t < 64) {a c : Int} {i : Item} (h1 : Is (view A t) a i) (h2 : Is (view A t) c i) : a = c := by
  cases i with
  | sq n p =>
    obtain ⟨b1, b2, b3⟩ := h1
    obtain ⟨c1, c2, c3⟩ := h2
    have hw := h.g.wel t ht
    exact sq_one (uq_view h.s t) n (isSq_of_lev hw h.p _ _ b2) (isSq_of_lev hw h.p _ _ c2) (picQ_cells (b3.trans c3.symm))
  | nt rn n p j =>
    obtain ⟨f, f1, f2, f3, f4, fz, f5, f6⟩ := h1
    obtain ⟨g, g1, g2, g3, g4, gz, g5, g6⟩ := h2
    have hw := h.g.wel t ht
    have e0 : f.1.p0 = g.1.p0 := sq_one (uq_view h.s t) n (isSq_of_lev hw h.p _ _ f5) (isSq_of_lev hw h.p _ _ g5) (picQ_cells (f6.trans g6.symm))
    refine view_keys h.s t a c f g f1 g1 (by rw [f2]; decide) ?_
    have e3 := fz.trans gz.symm
    cases hf : f.1 with
    | mk a0 a1 a2 a3 a4 =>
      cases hg : g.1 with
      | mk b0 b1 b2 b3 b4 =>
        rw [hf] at f2 f3 f4 e0 e3
        rw [hg] at g2 g3 g4 e0 e3
        simp only at f2 f3 f4 g2 g3 g4 e0 e3
        rw [f2, g2, f3, g3, f4, g4, e0, e3]
/-- what was made is no more than a list that has it all -/
theorem gx_count {PR : (Bool → Nat → Bool) → Int → Prop} {t : Nat} {q : Nat → Int} {A A' : Ar} {e e' : Int} {D : Item → Prop} (g : Gx t A A' e e' D) (h : NxSt PR t q A') (ht : t < 64) (X : List Item) (hX : ∀ i, D i → i ∈ X) : A'.cnt t ≤ A.cnt t + (X.length : Int) := by
  obtain ⟨l, hl, _, hb, hc⟩ := g.fresh
  obtain ⟨h1, h2⟩ := fresh_own h.s ht
  rw [hl] at h1
  have hn : l.Nodup := h1.sublist (List.sublist_append_right _ _)
  have := inj_len (fun id i => Is (view A' t) id i) X l hn (fun id hid => by
    obtain ⟨k2, x, hx, hb'⟩ := h2 id (by rw [hl]; exact List.mem_append_right _ hid)
    have hV : (view A' t).V id = some x.face := ownV_iff.2 ⟨k2, x, hx, hb', rfl⟩
    rcases g.new id _ hV with h3 | ⟨i, h3, h4⟩
    · rw [hb id hid] at h3; cases h3
    · exact ⟨i, hX i h4, h3⟩) (fun i a c h3 h4 => is_two h ht h3 h4)
  omega
end Go.Proofs.YtofbcngcblleaaaGreat.A

namespace Go.Proofs.YtofbcngcblleaaaGreat.A
open Go.RowKit Go.Maps Go.Proofs.YtofbcngcblleaaaGreat.L

def spotJ (v n : Int) : Int := if v.tmod n < 0 then v.tmod n + n else v.tmod n
theorem spotJ_bound (v n : Int) (hn : 0 < n) : 0 ≤ spotJ v n ∧ spotJ v n < n := by
  have h1 := Int.lt_tmod_of_pos v hn
  have h2 := Int.tmod_lt_of_pos v hn
  unfold spotJ
  split <;> omega
set_option maxHeartbeats 1000000 in
theorem spotJ_any (v n : Int) (w : World) (hn : 0 < n) (hn2 : n ≤ 4611686018427387904) : Calls Tryz.prog 20 #[.int .i64 v, .int .i64 n] w fun e w' => e = .returned (.int .i64 (spotJ v n)) ∧ w' = w := by
  have h1 := Int.lt_tmod_of_pos v hn
  have h2 := Int.tmod_lt_of_pos v hn
  have hz : (n == 0) = false := by simp; omega
  by_cases h0 : v.tmod n < 0
  · have e : spotJ v n = v.tmod n + n := by rw [spotJ, if_pos h0]
    rw [e]
    go_enter Tryz.func20, Tryz.ntmps20
    go_wp2
    go_ret
    exact ⟨rfl, rfl⟩
  · have e : spotJ v n = v.tmod n := by rw [spotJ, if_neg h0]
    rw [e]
    go_enter Tryz.func20, Tryz.ntmps20
    go_wp2
    go_ret
    exact ⟨rfl, rfl⟩
def arBegL : Ar := ((arNew 200000).joinP 63 1 0 0 1).1
theorem begL_cnt : arBegL.cnt 63 = 1 := by decide +kernel
theorem begL_full : ((arNew 200000).joinP 63 1 0 0 1).2 = (2, 0) := by decide +kernel
theorem oneL_fits : Fits 1 := ⟨by omega, by omega⟩
theorem begL_snd : Sound arBegL := join_sound (new_sound (by omega) (by omega)) (by omega) oneL_fits fits_zero fits_zero oneL_fits
theorem begL_glob : Glob arBegL := glob_join (glob_new 200000) (new_sound (by omega) (by omega)) (by omega) (by rw [begL_full]; decide)
theorem begL_lim : arBegL.lim 1 = 200000 := by decide +kernel
theorem begL_zero : arBegL.cnt 1 = 0 := by decide +kernel
theorem begL_kinds : arBegL.ths.all (fun x => x.k == 1) = true := by decide +kernel
theorem begL_room : RoomT 1 199999 arBegL := by
  show lsum tens (fun u => if u = 1 then (199999 : Int) else arBegL.cnt u) ≤ arBegL.room
  decide +kernel
theorem begL_st {PR : (Bool → Nat → Bool) → Int → Prop} (hu : ∀ R R' rn, PR R rn → PR R' rn → R = R') : NxSt PR 1 (fun _ => 199999) arBegL := by
  refine ⟨begL_snd, begL_glob, fun id f hf _ => ?_, fun R rn _ x hx hk => ?_, hu, begL_room⟩
  · obtain ⟨_, x, hx, hb, _⟩ := ownV_iff.1 hf
    have h0 := begL_snd.cnt 1 (by omega)
    rw [begL_zero] at h0
    have h1 : ownN arBegL.ths 1 = 0 := by omega
    have := List.countP_eq_zero.1 h1 x (List.mem_of_getElem? hx)
    exact absurd hb this
  · have := List.all_eq_true.1 begL_kinds x hx
    rw [hk] at this
    cases this
set_option maxRecDepth 20000 in
set_option maxHeartbeats 1000000 in
theorem begL_any (w : World) : Calls Tryz.prog 21 #[] w fun e w' => e = .returned (.tuple #[.pointer (some ⟨w.heap.size + 1, 0, none⟩), .bool true]) ∧ ArL w' (fun k => if k < w.heap.size then 0 else 1) (w.heap.size + 1) arBegL ∧ Below w.heap.size w w' := by
  have hnew := newP_any 200000 w (by omega) (by omega)
  have HE := begL_full
  have HC := begL_cnt
  unfold arBegL at HC ⊢
  generalize hA2 : ((arNew 200000).joinP 63 1 0 0 1).1 = A2 at HC ⊢
  have HA2 : Hid (((arNew 200000).joinP 63 1 0 0 1).1 = A2) := hA2
  clear hA2
  go_enter Tryz.func21, Tryz.ntmps21
  go_wp2_with fail
  refine hnew.mono ?_
  rintro e w1 ⟨rfl, ⟨F1, hF1, A1⟩, hb1⟩
  have hj := joinP_any (w.heap.size + 1) 63 1 0 0 1 F1 (arNew 200000) w1 A1 (new_sound (by omega) (by omega)) (by omega) oneL_fits fits_zero fits_zero oneL_fits
  unfold JoinPOut at hj
  rw [HE, HA2.out] at hj
  unfold quad4 at hj
  clear HE A1
  go_wp2_with fail
  refine hj.mono ?_
  rintro e w2 ⟨rfl, F2, hF2, A2', P2⟩
  have hcn := countP_any (w.heap.size + 1) 63 F2 A2 w2 A2' (by omega)
  rw [HC] at hcn
  have HFIN : Hid (ArL w2 (fun k => if k < w.heap.size then 0 else 1) (w.heap.size + 1) A2 ∧ Below w.heap.size w w2) := ⟨⟨F2, A2', fun k hk => by
      have : w.heap.size ≤ k := by
        rcases hF2 k hk with e | e
        · exact hF1 k e
        · exact Nat.le_trans hb1.size e
      simp only
      rw [if_neg (by omega)]⟩, ⟨P2.os.trans hb1.os, P2.tape.trans hb1.tape, P2.output.trans hb1.output, Nat.le_trans hb1.size P2.size, fun k hk => (P2.block k (Nat.lt_of_lt_of_le hk hb1.size) fun hf => by have := hF1 k hf; omega).trans (hb1.block k hk)⟩⟩
  clear A2' P2 hF2 hF1 hb1 hj hnew HC
  go_wp2_with fail
  all_goals
    refine hcn.mono ?_
    rintro e w3 ⟨rfl, rfl⟩
    go_wp2_with fail
    go_ret2
    exact ⟨rfl, HFIN.out⟩
/-- all the squares of cells that are made, in a list -/
def sqL : Nat → List (Int × Int) → Int → Int → List Item
  | 0, _, _, _ => []
  | n + 1, zs, x, y => if zs = [] then [] else .sq (n + 1) (litP (n + 1) .no zs x y) :: (sqL n (part (x + 2 ^ n) (y + 2 ^ n) zs 0) (qx n x 0) (qy n y 0) ++ sqL n (part (x + 2 ^ n) (y + 2 ^ n) zs 1) (qx n x 1) (qy n y 1) ++ sqL n (part (x + 2 ^ n) (y + 2 ^ n) zs 2) (qx n x 2) (qy n y 2) ++ sqL n (part (x + 2 ^ n) (y + 2 ^ n) zs 3) (qx n x 3) (qy n y 3))
theorem sqL_len : ∀ (n : Nat) (zs : List (Int × Int)) (x y : Int), (sqL n zs x y).length ≤ n * zs.length
  | 0, zs, _, _ => by simp [sqL]
  | n + 1, zs, x, y => by
    unfold sqL
    split
    · simp
    · rename_i h0
      have hl : 1 ≤ zs.length := List.length_pos_iff.2 h0
      have h := parts_len (x + 2 ^ n) (y + 2 ^ n) zs
      have a0 := sqL_len n (part (x + 2 ^ n) (y + 2 ^ n) zs 0) (qx n x 0) (qy n y 0)
      have a1 := sqL_len n (part (x + 2 ^ n) (y + 2 ^ n) zs 1) (qx n x 1) (qy n y 1)
      have a2 := sqL_len n (part (x + 2 ^ n) (y + 2 ^ n) zs 2) (qx n x 2) (qy n y 2)
      have a3 := sqL_len n (part (x + 2 ^ n) (y + 2 ^ n) zs 3) (qx n x 3) (qy n y 3)
      have hs : n * (part (x + 2 ^ n) (y + 2 ^ n) zs 0).length + n * (part (x + 2 ^ n) (y + 2 ^ n) zs 1).length + n * (part (x + 2 ^ n) (y + 2 ^ n) zs 2).length + n * (part (x + 2 ^ n) (y + 2 ^ n) zs 3).length = n * zs.length := by
        rw [← h, Nat.mul_add, Nat.mul_add, Nat.mul_add]
      rw [Nat.add_mul, Nat.one_mul]
      simp only [List.length_cons, List.length_append]
      omega
def empL : List Item := (List.range 45).map fun k => .sq k noP
theorem sqD_in : ∀ (n : Nat) {zs : List (Int × Int)} {x y : Int} {i : Item}, n ≤ 44 → SqD n .no zs x y i → i ∈ empL ++ sqL n zs x y
  | 0, _, _, _, _, _, h => h.elim
  | n + 1, zs, x, y, i, hn, h => by
    rcases h with ⟨_, _, k, h1, h2, rfl⟩ | ⟨h0, h⟩
    · exact List.mem_append_left _ (List.mem_map.2 ⟨k, List.mem_range.2 (by omega), rfl⟩)
    · have hz : ¬ zs = [] := fun e => h0 ⟨e, trivial⟩
      rw [sqL, if_neg hz]
      rcases h with rfl | ⟨r, hr, h⟩
      · exact List.mem_append_right _ List.mem_cons_self
      · have := sqD_in n (by omega) h
        rcases List.mem_append.1 this with h1 | h1
        · exact List.mem_append_left _ h1
        · refine List.mem_append_right _ (List.mem_cons_of_mem _ ?_)
          have hr' : r = 0 ∨ r = 1 ∨ r = 2 ∨ r = 3 := by omega
          simp only [List.mem_append]
          rcases hr' with rfl | rfl | rfl | rfl
          · exact .inl (.inl (.inl h1))
          · exact .inl (.inl (.inr h1))
          · exact .inl (.inr h1)
          · exact .inr h1
/-- From makes no more than this -/
theorem from_count {PR : (Bool → Nat → Bool) → Int → Prop} {t : Nat} {q : Nat → Int} {A A' : Ar} {e e' : Int} {n : Nat} {ys : List (Int × Int)} {x y : Int} (g : Gx t A A' e e' (SqD n .no ys x y)) (h : NxSt PR t q A') (ht : t < 64) (hn : n ≤ 44) : A'.cnt t ≤ A.cnt t + (45 + n * ys.length : Nat) := by
  have h1 := gx_count g h ht (empL ++ sqL n ys x y) fun i hi => sqD_in n hn hi
  have h2 := sqL_len n ys x y
  rw [List.length_append] at h1
  have h3 : empL.length = 45 := by simp [empL]
  omega
/-- where there is enough, nothing is refused -/
theorem gx_fine {PR : (Bool → Nat → Bool) → Int → Prop} {t : Nat} {q : Nat → Int} {A A' : Ar} {e' : Int} {D : Item → Prop} (g : Gx t A A' 0 e' D) (h : NxSt PR t q A') (h1 : A'.cnt t < q t) (h2 : A'.cnt t < A'.lim t) : ¬ Er e' := fun he => by
  rcases g.bad he with h3 | ⟨h3, _⟩
  · exact absurd rfl h3.ne
  · rcases h3 with ⟨_, h3⟩ | ⟨_, _, h3⟩
    · omega
    · have := h3 (q t) h.r
      omega
end Go.Proofs.YtofbcngcblleaaaGreat.A

namespace Go.Proofs.YtofbcngcblleaaaGreat.A
open Go.RowKit Go.Proofs.YtofbcngcblleaaaGreat.L

variable {R : Bool → Nat → Bool} {rn : Int} {S : Item → Prop} {G : Gr}
theorem step_mv (g : Gr) (a b : Int) : L.stepG R (fun x y => g (a + x) (b + y)) = fun x y => L.stepG R g (a + x) (b + y) := by
  funext x y
  unfold L.stepG nbr
  simp only [Int.add_sub_assoc, Int.add_assoc]
theorem iter_mv (a b : Int) : ∀ (n : Nat) (g : Gr), iter R n (fun x y => g (a + x) (b + y)) = fun x y => iter R n g (a + x) (b + y)
  | 0, _ => rfl
  | n + 1, g => by
    rw [iter, step_mv, iter_mv a b n]
    rfl
/-- a picture's middle later is a picture of the plane later -/
theorem pic_iter {H : Gr} {a b x y : Int} {N M t : Nat} (h1 : (t : Int) ≤ x) (h2 : x + 2 ^ M + t ≤ 2 ^ N) (h3 : (t : Int) ≤ y) (h4 : y + 2 ^ M + t ≤ 2 ^ N) : pic (iter R t (pic H a b N)) x y M = pic (iter R t H) (a + x) (b + y) M := by
  refine pic_agr fun X Y hX hY => ?_
  have hp := powI M
  have h := iter_agr (R := R) t (g := pic H a b N) (h := fun x y => H (a + x) (b + y)) (a := 0) (b := 2 ^ N) (c := 0) (d := 2 ^ N) (fun u v h1 h2 h3 h4 => by unfold pic; rw [if_pos ⟨h1, h2, h3, h4⟩])
  have h5 := h (x + X) (y + Y) (by omega) (by omega) (by omega) (by omega)
  rw [iter_mv] at h5
  rw [h5]
  show iter R t H (a + (x + X)) (b + (y + Y)) = _
  rw [← Int.add_assoc, ← Int.add_assoc]
/-- one of the squares that a leap looks at: of level k + 2, at a time and a place -/
def Node (s : Nat) (a b : Int) (n j k s' : Nat) (a' b' : Int) : Prop :=
  k ≤ n ∧ s ≤ s' ∧ s' + 2 ^ (min j k) ≤ s + 2 ^ j ∧ (∃ u : Nat, s' = s + u * 2 ^ (min j k)) ∧ (∃ x : Int, a' = a + ((s' : Int) - s) + x * 2 ^ (k + 1)) ∧ ∃ y : Int, b' = b + ((s' : Int) - s) + y * 2 ^ (k + 1)
/-- what is made of it -/
def NodeI (R : Bool → Nat → Bool) (rn : Int) (G : Gr) (j k s : Nat) (a b : Int) (i : Item) : Prop :=
  i = .nt rn (k + 2) (pic (iter R s G) a b (k + 2)) ((min j k : Nat) : Int) ∨ i = .sq (k + 2) (pic (iter R s G) a b (k + 2)) ∨ i = .sq (k + 1) (pic (iter R (s + 2 ^ (min j k)) G) (a + 2 ^ k) (b + 2 ^ k) (k + 1)) ∨ (j < k ∧ ∃ r : Nat, r < 4 ∧ i = .sq k (pic (iter R (s + 2 ^ j) G) (a + 2 ^ k + (r % 2 : Nat) * 2 ^ k) (b + 2 ^ k + (r / 2 : Nat) * 2 ^ k) k))
theorem node_self {s n j : Nat} {a b : Int} (hj : j ≤ n) : Node s a b n j n s a b :=
  ⟨Nat.le_refl _, Nat.le_refl _, by rw [Nat.min_eq_left hj]; exact Nat.le_refl _, ⟨0, by simp⟩, ⟨0, by simp⟩, ⟨0, by simp⟩⟩
theorem pow_split {k m : Nat} (h : k ≤ m) : ∃ c : Nat, (2 : Nat) ^ m = c * 2 ^ k := ⟨2 ^ (m - k), by rw [← Nat.pow_add]; congr 1; omega⟩
/-- a square's squares at the same time -/
theorem node_nine {s m j k s' : Nat} {a b a' b' : Int} (p q : Nat) (h : Node s (a + (p : Int) * 2 ^ (m + 1)) (b + (q : Int) * 2 ^ (m + 1)) m (jf m j) k s' a' b') : Node s a b (m + 1) j k s' a' b' := by
  obtain ⟨h1, h2, h3, ⟨u, h4⟩, ⟨x, h5⟩, y, h6⟩ := h
  have hmin : min (jf m j) k = min j k := by unfold jf; split <;> omega
  have hle : 2 ^ (jf m j) ≤ 2 ^ j := Nat.pow_le_pow_right (by omega) (by unfold jf; split <;> omega)
  rw [hmin] at h3 h4
  obtain ⟨c, hc⟩ := pow_split (show k + 1 ≤ m + 1 by omega)
  have hcI : (2 : Int) ^ (m + 1) = (c : Int) * 2 ^ (k + 1) := by rw [← powI, ← powI, hc, Int.natCast_mul]
  refine ⟨by omega, h2, by omega, ⟨u, h4⟩, ⟨(p : Int) * c + x, ?_⟩, (q : Int) * c + y, ?_⟩
  · rw [h5, hcI, Int.add_mul, Int.mul_assoc]; omega
  · rw [h6, hcI, Int.add_mul, Int.mul_assoc]; omega
/-- a square's squares half of the way later -/
theorem node_four {s m k s' : Nat} {a b a' b' : Int} (p q : Nat) (h : Node (s + 2 ^ m) (a + 2 ^ m + (p : Int) * 2 ^ (m + 1)) (b + 2 ^ m + (q : Int) * 2 ^ (m + 1)) m m k s' a' b') : Node s a b (m + 1) (m + 1) k s' a' b' := by
  obtain ⟨h1, h2, h3, ⟨u, h4⟩, ⟨x, h5⟩, y, h6⟩ := h
  have e1 : min m k = k := by omega
  have e2 : min (m + 1) k = k := by omega
  rw [e1] at h3 h4
  obtain ⟨c, hc⟩ := pow_split (show k + 1 ≤ m + 1 by omega)
  have hcI : (2 : Int) ^ (m + 1) = (c : Int) * 2 ^ (k + 1) := by rw [← powI, ← powI, hc, Int.natCast_mul]
  obtain ⟨d, hd⟩ := pow_split h1
  have hpm := powI m
  have h22 := two_pow m
  refine ⟨by omega, by omega, by rw [e2]; omega, ⟨d + u, by rw [e2, Nat.add_mul, ← hd]; omega⟩, ⟨(p : Int) * c + x, ?_⟩, (q : Int) * c + y, ?_⟩
  · rw [h5, hcI, Int.add_mul, Int.mul_assoc]; push_cast at *; omega
  · rw [h6, hcI, Int.add_mul, Int.mul_assoc]; push_cast at *; omega
theorem nodeI_nine {m j k s : Nat} {a b : Int} {i : Item} (hk : k ≤ m) (h : NodeI R rn G (jf m j) k s a b i) : NodeI R rn G j k s a b i := by
  have hmin : min (jf m j) k = min j k := by unfold jf; split <;> omega
  unfold NodeI at *
  rw [hmin] at h
  rcases h with h | h | h | ⟨h1, h2⟩
  · exact .inl h
  · exact .inr (.inl h)
  · exact .inr (.inr (.inl h))
  · have : jf m j = j := by
      unfold jf at h1 ⊢
      split at h1
      · omega
      · rename_i h0; rw [if_neg h0]
    rw [this] at h1 h2
    exact .inr (.inr (.inr ⟨h1, h2⟩))
/-- all that a leap makes lies at such places -/
theorem dem_node : ∀ (n : Nat) {s j : Nat} {a b : Int} {i : Item}, j ≤ n → Dem R rn S n (pic (iter R s G) a b (n + 2)) j i → ∃ k s' a' b', Node s a b n j k s' a' b' ∧ NodeI R rn G j k s' a' b' i
  | 0, s, j, a, b, i, hj, h => by
    have hj0 : j = 0 := by omega
    subst hj0
    refine ⟨0, s, a, b, node_self (Nat.le_refl _), ?_⟩
    rcases h.2 with h | h
    · exact .inl h
    · refine .inr (.inr (.inl ?_))
      rw [pic_iter (by decide) (by decide) (by decide) (by decide), iter_add] at h
      exact h
  | m + 1, s, j, a, b, i, hj, h => by
    have p0 : (0 : Int) < 2 ^ m := by have := powI m; have : 0 < 2 ^ m := Nat.pow_pos (by omega); omega
    have p1 := two_powI m
    have p2 : (2 : Int) ^ (m + 2) = 2 ^ (m + 1) + 2 ^ (m + 1) := two_powI (m + 1)
    have p3 : (2 : Int) ^ (m + 1 + 2) = 2 ^ (m + 2) + 2 ^ (m + 2) := two_powI (m + 2)
    have p4 : (2 : Int) ^ (m + 3) = 2 ^ (m + 2) + 2 ^ (m + 2) := two_powI (m + 2)
    have hself : Node s a b (m + 1) j (m + 1) s a b := node_self hj
    have hmin : min j (m + 1) = j := by omega
    rcases h.2 with h | h | ⟨r, hr, h⟩ | ⟨r, hr, h⟩
    · refine ⟨m + 1, s, a, b, hself, .inl ?_⟩
      rw [hmin]
      exact h
    · refine ⟨m + 1, s, a, b, hself, .inr (.inr (.inl ?_))⟩
      have hle : ((2 ^ j : Nat) : Int) ≤ 2 ^ (m + 1) := by
        have : 2 ^ j ≤ 2 ^ (m + 1) := Nat.pow_le_pow_right (by omega) hj
        have := powI (m + 1)
        omega
      rw [pic_iter hle (by omega) hle (by omega), iter_add] at h
      rw [hmin]
      exact h
    · have hW : W9 m (pic (iter R s G) a b (m + 1 + 2)) r = pic (iter R s G) (a + ((r % 3 : Nat) : Int) * 2 ^ (m + 1)) (b + ((r / 3 : Nat) : Int) * 2 ^ (m + 1)) (m + 2) := by
        unfold W9
        have hb : ∀ c : Nat, c ≤ 2 → (0 : Int) ≤ (c : Int) * 2 ^ (m + 1) ∧ (c : Int) * 2 ^ (m + 1) ≤ 2 ^ (m + 2) := fun c hc => by
          have : c = 0 ∨ c = 1 ∨ c = 2 := by omega
          rcases this with rfl | rfl | rfl <;> simp <;> omega
        obtain ⟨a1, a2⟩ := hb (r % 3) (by omega)
        obtain ⟨a3, a4⟩ := hb (r / 3) (by omega)
        have := pic_iter (R := R) (H := iter R s G) (a := a) (b := b) (x := ((r % 3 : Nat) : Int) * 2 ^ (m + 1)) (y := ((r / 3 : Nat) : Int) * 2 ^ (m + 1)) (N := m + 3) (M := m + 2) (t := 0) (by simpa using a1) (by show _ + _ + (0 : Int) ≤ _; omega) (by simpa using a3) (by show _ + _ + (0 : Int) ≤ _; omega)
        exact this
      rw [hW] at h
      rcases h with h | h
      · refine ⟨m, s, _, _, node_nine (r % 3) (r / 3) (node_self (by unfold jf; split <;> omega)), .inr (.inl h)⟩
      · obtain ⟨k, s', a', b', n1, n2⟩ := dem_node m (by unfold jf; split <;> omega) h
        exact ⟨k, s', a', b', node_nine (r % 3) (r / 3) n1, nodeI_nine n1.1 n2⟩
    · have hb2 : ∀ c : Nat, c ≤ 1 → (0 : Int) ≤ (c : Int) * 2 ^ (m + 1) ∧ (c : Int) * 2 ^ (m + 1) ≤ 2 ^ (m + 1) := fun c hc => by
        have : c = 0 ∨ c = 1 := by omega
        rcases this with rfl | rfl <;> simp <;> omega
      obtain ⟨a1, a2⟩ := hb2 (r % 2) (by omega)
      obtain ⟨a3, a4⟩ := hb2 (r / 2) (by omega)
      by_cases hjm : j = m + 1
      · subst hjm
        have hjf : jf m (m + 1) = m := by unfold jf; rw [if_pos rfl]
        rw [hjf, if_neg (by omega)] at h
        have hmI := powI m
        have hW : W4 R m m (pic (iter R s G) a b (m + 1 + 2)) r = pic (iter R (s + 2 ^ m) G) (a + 2 ^ m + ((r % 2 : Nat) : Int) * 2 ^ (m + 1)) (b + 2 ^ m + ((r / 2 : Nat) : Int) * 2 ^ (m + 1)) (m + 2) := by
          unfold W4
          rw [pic_iter (by omega) (by omega) (by omega) (by omega), iter_add, ← Int.add_assoc, ← Int.add_assoc]
        rw [hW] at h
        rcases h with h | h
        · exact ⟨m, s + 2 ^ m, _, _, node_four (r % 2) (r / 2) (node_self (Nat.le_refl _)), .inr (.inl h)⟩
        · obtain ⟨k, s', a', b', n1, n2⟩ := dem_node m (Nat.le_refl _) h
          refine ⟨k, s', a', b', node_four (r % 2) (r / 2) n1, ?_⟩
          refine nodeI_nine (m := m) n1.1 ?_
          rw [hjf]
          exact n2
      · have hjf : jf m j = j := by unfold jf; rw [if_neg hjm]
        rw [hjf, if_pos rfl] at h
        refine ⟨m + 1, s, a, b, hself, .inr (.inr (.inr ⟨by omega, r, hr, ?_⟩))⟩
        have hle : ((2 ^ j : Nat) : Int) ≤ 2 ^ m := by
          have : 2 ^ j ≤ 2 ^ m := Nat.pow_le_pow_right (by omega) (by omega)
          have := powI m
          omega
        unfold M4 at h
        rw [pic_iter (by omega) (by omega) (by omega) (by omega), iter_add, ← Int.add_assoc, ← Int.add_assoc] at h
        exact h
end Go.Proofs.YtofbcngcblleaaaGreat.A

namespace Go.Proofs.YtofbcngcblleaaaGreat.A
open Go.RowKit Go.Maps Go.Proofs.YtofbcngcblleaaaGreat.L

variable {R : Bool → Nat → Bool} {rn : Int} {S : Item → Prop} {g : Gr} {dx dy : Int}
def gs (k : Nat) : Nat := 2 ^ (k - 2)
def posL (d : Int) (k : Nat) : List Int := (List.range 6).map fun (i : Nat) => (d / (gs k : Int) - 4 + (i : Int)) * (gs k : Int)
def picL (g : Gr) (dx dy : Int) (k : Nat) : List Gr := noP :: (posL dx k).flatMap fun a => (posL dy k).map fun b => pic g a b k
def oneL (rn : Int) (k : Nat) (P : Gr) : List Item := .sq k P :: (List.range 31).map fun (j : Nat) => .nt rn k P (j : Int)
def stillL (g : Gr) (rn dx dy : Int) : List Item := (List.range 41).flatMap fun k => (picL g dx dy k).flatMap fun P => oneL rn k P
theorem flat_len {α β : Type} (f : α → List β) (c : Nat) : ∀ l : List α, (∀ x ∈ l, (f x).length = c) → (l.flatMap f).length = l.length * c
  | [], _ => by simp
  | x :: l, h => by
    rw [List.flatMap_cons, List.length_append, h x (by simp), flat_len f c l fun y hy => h y (by simp [hy]), List.length_cons, Nat.add_mul, Nat.one_mul]
    omega
theorem still_len : (stillL g rn dx dy).length = 48544 := by
  have h1 : ∀ P k, (oneL rn k P).length = 32 := fun P k => by simp [oneL]
  have h2 : ∀ k, (picL g dx dy k).length = 37 := fun k => by
    unfold picL
    rw [List.length_cons, flat_len _ 6 _ fun a _ => by simp [posL]]
    simp [posL]
  unfold stillL
  rw [flat_len _ (37 * 32) _ fun k _ => by rw [flat_len _ 32 _ fun P _ => h1 P k, h2]]
  simp
theorem gs_mul {k e : Nat} (h : k - 2 ≤ e) (x : Int) : ∃ m : Int, x * 2 ^ e = m * (gs k : Int) := by
  refine ⟨x * 2 ^ (e - (k - 2)), ?_⟩
  unfold gs
  rw [powI, Int.mul_assoc, ← Int.pow_add]
  congr 2
  omega
theorem pos_in {a d : Int} {k : Nat} (hk : 1 ≤ k) (ha : ∃ m : Int, a = m * (gs k : Int)) (h1 : a ≤ d + 1) (h2 : d < a + 2 ^ k) : a ∈ posL d k := by
  obtain ⟨m, rfl⟩ := ha
  have hp : 0 < gs k := Nat.pow_pos (by omega)
  have h4 : (2 : Int) ^ k ≤ 4 * (gs k : Int) := by
    unfold gs
    rw [powI]
    have : k = 1 ∨ ∃ c, k = c + 2 := by
      rcases Nat.lt_or_ge k 2 with h | h
      · exact .inl (by omega)
      · exact .inr ⟨k - 2, by omega⟩
    rcases this with rfl | ⟨c, rfl⟩
    · decide
    · rw [Nat.add_sub_cancel, Int.pow_add]
      omega
  have hp' : (0 : Int) < (gs k : Int) := by omega
  unfold posL
  generalize (gs k : Int) = st at *
  have e1 := Int.mul_ediv_add_emod d st
  have e2 := Int.emod_nonneg d (show st ≠ 0 by omega)
  have e3 := Int.emod_lt_of_pos d hp'
  have b1 : m < d / st + 2 := Int.lt_of_mul_lt_mul_right (a := st) (by rw [Int.add_mul, Int.mul_comm (d / st) st]; omega) (by omega)
  have b2 : d / st < m + 4 := Int.lt_of_mul_lt_mul_right (a := st) (by rw [Int.add_mul, Int.mul_comm (d / st) st]; omega) (by omega)
  refine List.mem_map.2 ⟨(m - d / st + 4).toNat, List.mem_range.2 (by omega), ?_⟩
  congr 1
  omega
theorem pic_in {a b : Int} {k : Nat} (hg : ∀ X Y, g X Y = true → dx ≤ X ∧ X ≤ dx + 1 ∧ dy ≤ Y ∧ Y ≤ dy + 1) (hk : 1 ≤ k) (ha : ∃ m : Int, a = m * (gs k : Int)) (hb : ∃ m : Int, b = m * (gs k : Int)) : pic g a b k ∈ picL g dx dy k := by
  have hp := powI k
  unfold picL
  by_cases h : a ≤ dx + 1 ∧ dx < a + 2 ^ k ∧ b ≤ dy + 1 ∧ dy < b + 2 ^ k
  · exact List.mem_cons_of_mem _ (List.mem_flatMap.2 ⟨a, pos_in hk ha h.1 h.2.1, List.mem_map.2 ⟨b, pos_in hk hb h.2.2.1 h.2.2.2, rfl⟩⟩)
  · rw [pic_no fun x y hx hy => ?_]
    · exact List.mem_cons_self
    · cases hv : g (a + x) (b + y) with
      | false => rfl
      | true => exact absurd (hg _ _ hv) (by omega)
theorem in_sq {k : Nat} {P : Gr} (hk : k ≤ 40) (hP : P ∈ picL g dx dy k) : Item.sq k P ∈ stillL g rn dx dy :=
  List.mem_flatMap.2 ⟨k, List.mem_range.2 (by omega), List.mem_flatMap.2 ⟨P, hP, List.mem_cons_self⟩⟩
theorem in_nt {k j : Nat} {P : Gr} (hk : k ≤ 40) (hj : j ≤ 30) (hP : P ∈ picL g dx dy k) : Item.nt rn k P (j : Int) ∈ stillL g rn dx dy :=
  List.mem_flatMap.2 ⟨k, List.mem_range.2 (by omega), List.mem_flatMap.2 ⟨P, hP, List.mem_cons_of_mem _ (List.mem_map.2 ⟨j, List.mem_range.2 (by omega), rfl⟩)⟩⟩
theorem no_in {k : Nat} : noP ∈ picL g dx dy k := List.mem_cons_self
theorem still_dem (hs : ∀ s, iter R s g = g) (hg : ∀ X Y, g X Y = true → dx ≤ X ∧ X ≤ dx + 1 ∧ dy ≤ Y ∧ Y ≤ dy + 1) {n j : Nat} (hn : n ≤ 38) (hj : j ≤ n) (hj30 : j ≤ 30) {i : Item} (h : Dem R rn S n (pic g (-(2 ^ (n + 1))) (-(2 ^ (n + 1))) (n + 2)) j i) : i ∈ stillL g rn dx dy := by
  obtain ⟨k, s', a', b', ⟨n1, n2, n3, ⟨u, n4⟩, ⟨x, n5⟩, y, n6⟩, hi⟩ := dem_node (R := R) (G := g) (s := 0) n hj h
  have hmul : ∃ m : Int, (s' : Int) = m * 2 ^ k := by
    rcases Nat.lt_or_ge j k with hjk | hjk
    · rw [Nat.min_eq_left (by omega)] at n3
      exact ⟨0, by omega⟩
    · rw [Nat.min_eq_right hjk, Nat.zero_add] at n4
      exact ⟨u, by rw [n4, Int.natCast_mul, powI]⟩
  obtain ⟨m, hm⟩ := hmul
  have hbase : ∀ c : Int, -(2 ^ (n + 1)) + ((s' : Int) - (0 : Nat)) + c * 2 ^ (k + 1) = (-(2 ^ (n + 1 - k)) + m + 2 * c) * 2 ^ k := fun c => by
    rw [hm, Int.add_mul, Int.add_mul, Int.neg_mul, ← Int.pow_add, show n + 1 - k + k = n + 1 by omega, Int.mul_comm 2 c, Int.mul_assoc c 2, two_powI k, Int.two_mul]
    simp
  have ha : ∃ m, a' = m * 2 ^ k := ⟨_, n5.trans (hbase x)⟩
  have hb : ∃ m, b' = m * 2 ^ k := ⟨_, n6.trans (hbase y)⟩
  obtain ⟨ma, rfl⟩ := ha
  obtain ⟨mb, rfl⟩ := hb
  have mul : ∀ (c : Int) (z : Nat), c * 2 ^ k + 2 ^ k + (z : Int) * 2 ^ k = (c + 1 + z) * 2 ^ k := fun c z => by rw [Int.add_mul, Int.add_mul, Int.one_mul]
  have mul1 : ∀ c : Int, c * 2 ^ k + 2 ^ k = (c + 1) * 2 ^ k := fun c => by rw [Int.add_mul, Int.one_mul]
  rcases hi with rfl | rfl | rfl | ⟨hjk, r, hr, rfl⟩
  · rw [hs]
    have := in_nt (g := g) (rn := rn) (dx := dx) (dy := dy) (k := k + 2) (j := min j k) (by omega) (by omega) (pic_in hg (by omega) (gs_mul (e := k) (by omega) ma) (gs_mul (e := k) (by omega) mb))
    exact this
  · rw [hs]
    exact in_sq (by omega) (pic_in hg (by omega) (gs_mul (e := k) (by omega) ma) (gs_mul (e := k) (by omega) mb))
  · rw [hs, mul1 ma, mul1 mb]
    exact in_sq (by omega) (pic_in hg (by omega) (gs_mul (e := k) (by omega) (ma + 1)) (gs_mul (e := k) (by omega) (mb + 1)))
  · rw [hs, mul ma, mul mb]
    exact in_sq (by omega) (pic_in hg (by omega) (gs_mul (e := k) (by omega) (ma + 1 + (r % 2 : Nat))) (gs_mul (e := k) (by omega) (mb + 1 + (r / 2 : Nat))))
/-- all that many steps make -/
theorem still_steps (hs : ∀ s, iter R s g = g) (hg : ∀ X Y, g X Y = true → dx ≤ X ∧ X ≤ dx + 1 ∧ dy ≤ Y ∧ Y ≤ dy + 1) (hd : 0 ≤ dx ∧ dx < 2 ^ 30 ∧ 0 ≤ dy ∧ dy < 2 ^ 30) {n : Nat} {i : Item} (h : StepsD R rn S g n i) : i ∈ stillL g rn dx dy := by
  have hlv : ∀ N, LeastG (N + 1) g → 1 ≤ N ∧ N ≤ 31 := fun N hN => by
    have h1 := hN.two
    have h2 := least_le hN (M := 31) (by omega) fun X Y hXY => by
      have := hg X Y hXY
      omega
    omega
  have half : ∀ (e k : Nat), k - 2 ≤ e → ∃ m : Int, -(2 ^ e) = m * (gs k : Int) := fun e k hk => by
    obtain ⟨m, hm⟩ := gs_mul hk (-1)
    exact ⟨m, by rw [← hm]; omega⟩
  have zero : ∀ k : Nat, ∃ m : Int, (0 : Int) = m * (gs k : Int) := fun k => ⟨0, by simp⟩
  have peel : ∀ it, PeelP g it → it ∈ stillL g rn dx dy := fun it ⟨N, h1, h2⟩ => by
    have := hlv N h1
    rw [h2]
    exact in_sq (by omega) (pic_in hg (by omega) (half _ _ (by omega)) (half _ _ (by omega)))
  have wrap : ∀ k it, k ≤ 37 → WrapD k g it → it ∈ stillL g rn dx dy := fun k it hk h => by
    rcases h with (⟨_, c, h1, h2, rfl⟩ | ⟨r, hr, rfl⟩) | rfl
    · exact in_sq (by omega) no_in
    · unfold QP
      refine in_sq (by omega) (pic_in hg (by omega) ?_ ?_)
      · split
        · exact half _ _ (by omega)
        · exact zero _
      · split
        · exact half _ _ (by omega)
        · exact zero _
    · exact in_sq (by omega) (pic_in hg (by omega) (half _ _ (by omega)) (half _ _ (by omega)))
  rcases h with ⟨j, hj, _, h⟩ | h
  · rw [hs] at h
    rcases h with h | ⟨N, h1, ⟨k, h2, h3, h4⟩ | h⟩
    · exact peel i h
    · have := hlv N h1
      exact wrap k i (by unfold wideOf at h3; omega) h4
    · have := hlv N h1
      have hw : wideOf N j = max (N + 3) (j + 3) := rfl
      generalize wideOf N j = W at *
      obtain ⟨n', rfl⟩ : ∃ n', W = n' + 2 := ⟨W - 2, by omega⟩
      exact still_dem hs hg (by omega) (by omega) (by omega) h
  · rw [hs] at h
    exact peel i h
end Go.Proofs.YtofbcngcblleaaaGreat.A

namespace Go.Proofs.YtofbcngcblleaaaGreat.A
open Go.RowKit Go.Maps Go.Proofs.YtofbcngcblleaaaGreat.L

/-- the block at 0, 0 -/
def gB : Gr := fun u v => decide ((u = 0 ∨ u = 1) ∧ (v = 0 ∨ v = 1))
theorem gB_out {u v : Int} (h : ¬ (0 ≤ u ∧ u ≤ 1 ∧ 0 ≤ v ∧ v ≤ 1)) : gB u v = false := decide_eq_false (by omega)
set_option maxRecDepth 20000 in
theorem block_step : L.stepG (lifeR 8 12) gB = gB := by
  funext u v
  by_cases h : -1 ≤ u ∧ u ≤ 2 ∧ -1 ≤ v ∧ v ≤ 2
  · have hu : u = -1 ∨ u = 0 ∨ u = 1 ∨ u = 2 := by omega
    have hv : v = -1 ∨ v = 0 ∨ v = 1 ∨ v = 2 := by omega
    rcases hu with rfl | rfl | rfl | rfl <;> rcases hv with rfl | rfl | rfl | rfl <;> decide +kernel
  · rw [gB_out (by omega)]
    unfold L.stepG nbr
    rw [gB_out (by omega), gB_out (by omega), gB_out (by omega), gB_out (by omega), gB_out (by omega), gB_out (by omega), gB_out (by omega), gB_out (by omega), gB_out (by omega)]
    decide +kernel
theorem block_iter (dx dy : Int) : ∀ s, iter (lifeR 8 12) s (fun x y => gB (-dx + x) (-dy + y)) = fun x y => gB (-dx + x) (-dy + y)
  | 0 => rfl
  | s + 1 => by
    rw [iter, step_mv, block_step]
    exact block_iter dx dy s
def blockL (dx dy : Int) : List (Int × Int) := [(dx, dy), (dx + 1, dy), (dx, dy + 1), (dx + 1, dy + 1)]
theorem block_plane (dx dy : Int) {ys : List (Int × Int)} (h : ∀ p, p ∈ ys ↔ p ∈ blockL dx dy) : cellsG ys = fun x y => gB (-dx + x) (-dy + y) := by
  funext x y
  unfold cellsG gB
  refine decide_eq_decide.2 ?_
  rw [h]
  simp only [blockL, List.mem_cons, Prod.mk.injEq, List.not_mem_nil, or_false]
  omega
/-- a square's cells are no more than the plane's -/
theorem cells_few {PR : (Bool → Nat → Bool) → Int → Prop} {t : Nat} {q : Nat → Int} {A : Ar} {m : Nat} {x : Int} {g : Gr} (hst : NxSt PR t q A) (ht : t < 64) (h : Rt A t m x g) (X : List (Int × Int)) (hX : ∀ X' Y', g X' Y' = true → (X', Y') ∈ X) : (cellsF A.ths (m + 1) x).length ≤ X.length := by
  have hg : glevel A.ths x = some ((m + 1 : Nat) : Int) := glevel_of (t := t) (by rw [levelF_V]; exact h.lev)
  have hn := cells_nodup (good_of hst.s hst.g) (m + 1) x hg
  have hl : (shiftL (halfN (m + 1) : Int) (halfN (m + 1) : Int) X).length = X.length := by unfold shiftL; rw [List.length_map]
  rw [← hl]
  refine hn.length_le_of_subset fun p hp => mem_shift.2 (hX _ _ ?_)
  have := (h.cells hst ht (p.1 - (halfN (m + 1) : Int), p.2 - (halfN (m + 1) : Int))).1 (mem_abs.2 (by simp only [Int.sub_add_cancel]; exact hp))
  exact this
end Go.Proofs.YtofbcngcblleaaaGreat.A
