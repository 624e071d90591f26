/- How many things Add makes at most. -/
import Derived.Test.YtgipjplifndniaaGreatDoorLpStep
import Derived.Test.YtgipjplifndniaaGreatDoorHaPut
import Derived.Test.YtgipjplifndniaaGreatDoorLpGood
import Derived.Test.YtgipjplifndniaaGreatDoorArReach
import Derived.Deep.QuietTactic
import Derived.Test.YtgipjplifndniaaGreatDoorLpAdd
namespace Go.Proofs.YtgipjplifndniaaGreatDoor.A
open Go.RowKit Go.Proofs.YtgipjplifndniaaGreatDoor.L

theorem notes_lose {R : Bool → Nat → Bool} {rn : Int} {A : Ar} {t : Nat} {ids f : List Int} (h : NotesG R rn A.ths) (hg : GL A.ths) (hS : Sound A) (ht : t < 64) (ho : OwnIds A.ths t ids) : NotesG R rn (A.lose t ids f).ths := by
  have hl : (A.lose t ids f).ths = (A.takes t ids).ths := rfl
  have hlen := takes_len A t ids
  have hids : ∀ id ∈ ids, 2 ≤ id ∧ (id - 2).toNat < A.ths.length := fun id hid => by
    obtain ⟨h2, x, hx, _⟩ := ho.2 id hid
    exact ⟨h2, (List.getElem?_eq_some_iff.1 hx).1⟩
  have hget := takes_get t ht ids A hids hS.mask
  have hface : ∀ (j : Nat) (x : Th), A.ths[j]? = some x → ∃ y, (A.takes t ids).ths[j]? = some y ∧ y.face = x.face := fun j x hx => by
    obtain ⟨y, h1, h2, h3, h4, _⟩ := hget j x hx
    exact ⟨y, h1, by unfold Th.face; rw [h2, h3, h4]⟩
  have hi : Inc A.ths (A.takes t ids).ths := fun j x hx _ => hface j x hx
  rw [hl]
  intro y hy hk
  obtain ⟨j, hj⟩ := mem_get hy
  have hlt : j < A.ths.length := by rw [← hlen]; exact (List.getElem?_eq_some_iff.1 hj).1
  obtain ⟨y', h1, h2⟩ := hface j _ (List.getElem?_eq_getElem hlt)
  rw [hj] at h1
  cases h1
  have hk' := (face_all h2).1
  exact (h _ (List.getElem_mem hlt) (by rw [← hk']; exact hk)).inc h2 hi hg (lv0_of hS)
theorem back_st {PR : (Bool → Nat → Bool) → Int → Prop} {t : Nat} {q : Nat → Int} {A A' : Ar} (hst0 : NxSt PR t q A) (ht : t < 64) (hst : NxSt PR t q A') (g : Goes1 t A A') :
    NxSt PR t q (A'.lose t ((A'.fresh t).drop (A.fresh t).length) ((A'.fresh t).take (A.fresh t).length)) ∧ (∀ u, view (A'.lose t ((A'.fresh t).drop (A.fresh t).length) ((A'.fresh t).take (A.fresh t).length)) u = view A u) ∧ backK (A.fresh t).length (A'.fresh t) = (A.fresh t).length := by
  obtain ⟨l, hl, ha, hb, hc⟩ := g.fresh
  have ho : OwnIds A'.ths t ((A'.fresh t).drop (A.fresh t).length) := by
    obtain ⟨h1, h2⟩ := fresh_own hst.s ht
    exact ⟨h1.sublist (List.drop_sublist _ _), fun id hid => h2 id (List.mem_of_mem_drop hid)⟩
  have hd : (A'.fresh t).drop (A.fresh t).length = l := by rw [hl, List.drop_left]
  have hk : (A'.fresh t).take (A.fresh t).length = A.fresh t := by rw [hl, List.take_left]
  obtain ⟨v1, v2⟩ := view_lose (f := (A'.fresh t).take (A.fresh t).length) hst.s ht ho
  have hv : view (A'.lose t ((A'.fresh t).drop (A.fresh t).length) ((A'.fresh t).take (A.fresh t).length)) t = view A t := by
    rw [v1]
    unfold Vw.less
    rw [hd, hk]
    have e1 : (fun k => if k ∈ l then none else (view A' t).V k) = (view A t).V := by
      funext id
      by_cases hi : id ∈ l
      · rw [if_pos hi, hb id hi]
      · rw [if_neg hi]
        cases hv : (view A' t).V id with
        | none =>
          cases hv0 : (view A t).V id with
          | none => rfl
          | some f => rw [g.sees id f hv0] at hv; cases hv
        | some f =>
          rcases ha id f hv with h | h
          · exact absurd h hi
          · exact h.symm
    rw [e1]
    have e2 : (view A' t).cnt - (l.length : Int) = (view A t).cnt := by show A'.cnt t - _ = A.cnt t; omega
    have e3 : (view A' t).lim = (view A t).lim := g.lim
    rw [e2, e3]
    rfl
  have hall : ∀ u, view (A'.lose t ((A'.fresh t).drop (A.fresh t).length) ((A'.fresh t).take (A.fresh t).length)) u = view A u := fun u => by
    by_cases hu : u = t
    · subst hu; exact hv
    · rw [v2 u hu]; exact g.oth u hu
  have hlim := (lose_rest A' t ((A'.fresh t).drop (A.fresh t).length) ((A'.fresh t).take (A.fresh t).length)).1
  refine ⟨⟨backN_sound hst.s ht _, glob_back hst.g hst.s ht _, ?_, fun R rn hP => notes_lose (hst.n R rn hP) hst.g.gl hst.s ht ho, hst.u, ?_⟩, hall, ?_⟩
  · rw [hv]; exact hst0.p
  · exact hst.r.same (lose_rest A' t _ _).2 fun u _ => (congrArg Vw.cnt (hall u)).trans (congrArg Vw.cnt (g.oth u ‹_›)).symm
  · unfold backK
    rw [hl, List.length_append]
    omega
end Go.Proofs.YtgipjplifndniaaGreatDoor.A

namespace Go.Proofs.YtgipjplifndniaaGreatDoor.U
open Go.RowKit Go.Maps Go.Proofs.YtgipjplifndniaaGreatDoor.L Go.Proofs.YtgipjplifndniaaGreatDoor.A

variable {w w1 : World} {o o1 : Nat → Nat} {b t m : Nat} {A A' : Ar} {PR : (Bool → Nat → Bool) → Int → Prop} {q : Nat → Int} {g : Gr} {x : Int}
def mk (A : Ar) (t : Nat) : Ar := A.lose t [] []
def un (A : Ar) (t : Nat) : Ar := A.lose t (A.fresh t) []
theorem mk_view (hS : Sound A) (ht : t < 64) : view (mk A t) t = (view A t).less [] [] ∧ ∀ u, u ≠ t → view (mk A t) u = view A u := view_lose hS ht (own_nil _ _)
theorem mk_V (hS : Sound A) (ht : t < 64) : (view (mk A t) t).V = (view A t).V := by
  rw [(mk_view hS ht).1]
  unfold Vw.less
  funext k
  show (if k ∈ ([] : List Int) then none else (view A t).V k) = (view A t).V k
  exact if_neg List.not_mem_nil
theorem mk_cnt (hS : Sound A) (ht : t < 64) : (mk A t).cnt t = A.cnt t := by
  have h := congrArg Vw.cnt (mk_view hS ht).1
  have h2 : (mk A t).cnt t = A.cnt t - (([] : List Int).length : Int) := h
  simpa using h2
theorem mk_fresh (A : Ar) (t : Nat) : (mk A t).fresh t = [] := by
  show upd _ t [] t = []
  unfold upd
  rw [if_pos rfl]
theorem mk_lim (A : Ar) (t : Nat) : (mk A t).lim = A.lim := (lose_rest A t [] []).1
theorem mk_st (h : NxSt PR t q A) (ht : t < 64) : NxSt PR t q (mk A t) := by
  have hV := mk_V h.s ht
  refine ⟨mark_sound h.s ht, glob_mark h.g h.s ht, ?_, fun R rn hP => notes_lose (h.n R rn hP) h.g.gl h.s ht (own_nil _ _), h.u, h.r.same (lose_rest A t [] []).2 fun u hu => congrArg Vw.cnt ((mk_view h.s ht).2 u hu)⟩
  have hp := h.p
  unfold PosL at hp ⊢
  rw [hV]
  exact hp
theorem mk_rt (hS : Sound A) (ht : t < 64) (h : Rt A t m x g) : Rt (mk A t) t m x g := by
  have hV := mk_V hS ht
  have hQ : QV (view (mk A t) t) = QV (view A t) := by
    unfold QV
    rw [hV]
  refine ⟨?_, ?_, h.out⟩
  · rw [hV]; exact h.lev
  · rw [hQ]; exact h.shows
theorem un_st (h : NxSt PR t q A) (ht : t < 64) (h' : NxSt PR t q A') (k : Goes1 t (mk A t) A') : NxSt PR t q (un A' t) ∧ ∀ u, view (un A' t) u = view (mk A t) u := by
  have hb := back_st (mk_st h ht) ht h' k
  rw [mk_fresh] at hb
  simp only [List.length_nil, List.drop_zero, List.take_zero] at hb
  exact ⟨hb.1, hb.2.1⟩
theorem un_same (A : Ar) (t : Nat) : un (mk A t) t = mk (mk A t) t := by
  unfold un
  rw [mk_fresh]
  rfl
theorem mark_call (hA : ArL w o b A) (ht : t < 64) : Calls Tryz.prog 14 #[.pointer (some ⟨b, 0, none⟩), .int .i64 t] w fun e w' => e = .returned (.int .i64 0) ∧ ∃ o', ArL w' o' b (mk A t) ∧ Ch (fun l => l = 1) o w o' w' := by
  obtain ⟨F, h1, h2⟩ := hA
  refine (markP_any b t F A w h1 ht).mono ?_
  rintro e w' ⟨rfl, hl⟩
  exact ⟨rfl, _, led_ch h2 hl⟩
theorem undo_call (hA : ArL w o b A) (hS : Sound A) (ht : t < 64) : Calls Tryz.prog 16 #[.pointer (some ⟨b, 0, none⟩), .int .i64 t] w fun e w' => ∃ n, e = .returned (.int .i64 n) ∧ ∃ o', ArL w' o' b (un A t) ∧ Ch (fun l => l = 1) o w o' w' := by
  obtain ⟨F, h1, h2⟩ := hA
  refine (undoP_any b t F A w h1 hS ht).mono ?_
  rintro e w' ⟨rfl, hl⟩
  exact ⟨_, rfl, _, led_ch h2 hl⟩
end Go.Proofs.YtgipjplifndniaaGreatDoor.U

namespace Go.Proofs.YtgipjplifndniaaGreatDoor.A
open Go.RowKit Go.Proofs.YtgipjplifndniaaGreatDoor.L

theorem inj_len {α : Type} (P : Int → α → Prop) : ∀ (X : List α) (l : List Int), l.Nodup → (∀ id ∈ l, ∃ i ∈ X, P id i) → (∀ i a c, P a i → P c i → a = c) → l.length ≤ X.length
  | [], l, _, h, _ => by
    cases l with
    | nil => exact Nat.le_refl _
    | cons a l => obtain ⟨i, hi, _⟩ := h a (by simp); cases hi
  | x :: X, l, hn, h, hu => by
    by_cases hx : ∃ id ∈ l, P id x
    · obtain ⟨id, h1, h2⟩ := hx
      have := inj_len P X (l.erase id) (hn.erase id) (fun c hc => by
        obtain ⟨hne, hc⟩ := (hn.mem_erase_iff).1 hc
        obtain ⟨i, hi, hp⟩ := h c hc
        rcases List.mem_cons.1 hi with rfl | hi
        · exact absurd (hu _ _ _ hp h2) hne
        · exact ⟨i, hi, hp⟩) hu
      have hl := List.length_erase_of_mem h1
      have := List.length_pos_of_mem h1
      simp only [List.length_cons]
      omega
    · have := inj_len P X l hn (fun c hc => by
        obtain ⟨i, hi, hp⟩ := h c hc
        rcases List.mem_cons.1 hi with rfl | hi
        · exact absurd ⟨c, hc, hp⟩ hx
        · exact ⟨i, hi, hp⟩) hu
      simp only [List.length_cons]
      omega
theorem view_keys {A : Ar} (hS : Sound A) (t : Nat) : ∀ a c f g, (view A t).V a = some f → (view A t).V c = some g → f.1.k ≠ 0 → f.1 = g.1 → a = c := fun a c f g ha hc hk e => by
  obtain ⟨h1, x, hx, _, hf⟩ := ownV_iff.1 ha
  obtain ⟨k1, y, hy, _, hg⟩ := ownV_iff.1 hc
  have e1 : x.key = f.1 := by rw [← hf]; rfl
  have e2 : y.key = g.1 := by rw [← hg]; rfl
  have := hS.uniq _ _ x y hx hy (by show x.key.k ≠ 0; rw [e1]; exact hk) (by rw [e1, e2, e])
  omega
theorem is_two {PR : (Bool → Nat → Bool) → Int → Prop} {t : Nat} {q : Nat → Int} {A : Ar} (h : NxSt PR t q A) (ht : t < 64) {a c : Int} {i : Item} (h1 : Is (view A t) a i) (h2 : Is (view A t) c i) : a = c := by
  cases i with
  | sq n p =>
    obtain ⟨b1, b2, b3⟩ := h1
    obtain ⟨c1, c2, c3⟩ := h2
    have hw := h.g.wel t ht
    exact sq_one (uq_view h.s t) n (isSq_of_lev hw h.p _ _ b2) (isSq_of_lev hw h.p _ _ c2) (picQ_cells (b3.trans c3.symm))
  | nt rn n p j =>
    obtain ⟨f, f1, f2, f3, f4, fz, f5, f6⟩ := h1
    obtain ⟨g, g1, g2, g3, g4, gz, g5, g6⟩ := h2
    have hw := h.g.wel t ht
    have e0 : f.1.p0 = g.1.p0 := sq_one (uq_view h.s t) n (isSq_of_lev hw h.p _ _ f5) (isSq_of_lev hw h.p _ _ g5) (picQ_cells (f6.trans g6.symm))
    refine view_keys h.s t a c f g f1 g1 (by rw [f2]; decide) ?_
    have e3 := fz.trans gz.symm
    cases hf : f.1 with
    | mk a0 a1 a2 a3 a4 =>
      cases hg : g.1 with
      | mk b0 b1 b2 b3 b4 =>
        rw [hf] at f2 f3 f4 e0 e3
        rw [hg] at g2 g3 g4 e0 e3
        simp only at f2 f3 f4 g2 g3 g4 e0 e3
        rw [f2, g2, f3, g3, f4, g4, e0, e3]
theorem gx_count {PR : (Bool → Nat → Bool) → Int → Prop} {t : Nat} {q : Nat → Int} {A A' : Ar} {e e' : Int} {D : Item → Prop} (g : Gx t A A' e e' D) (h : NxSt PR t q A') (ht : t < 64) (X : List Item) (hX : ∀ i, D i → i ∈ X) : A'.cnt t ≤ A.cnt t + (X.length : Int) := by
  obtain ⟨l, hl, _, hb, hc⟩ := g.fresh
  obtain ⟨h1, h2⟩ := fresh_own h.s ht
  rw [hl] at h1
  have hn : l.Nodup := h1.sublist (List.sublist_append_right _ _)
  have := inj_len (fun id i => Is (view A' t) id i) X l hn (fun id hid => by
    obtain ⟨k2, x, hx, hb'⟩ := h2 id (by rw [hl]; exact List.mem_append_right _ hid)
    have hV : (view A' t).V id = some x.face := ownV_iff.2 ⟨k2, x, hx, hb', rfl⟩
    rcases g.new id _ hV with h3 | ⟨i, h3, h4⟩
    · rw [hb id hid] at h3; cases h3
    · exact ⟨i, hX i h4, h3⟩) (fun i a c h3 h4 => is_two h ht h3 h4)
  omega
end Go.Proofs.YtgipjplifndniaaGreatDoor.A

namespace Go.Proofs.YtgipjplifndniaaGreatDoor.A
open Go.RowKit Go.Maps Go.Proofs.YtgipjplifndniaaGreatDoor.L

def arBegL : Ar := ((arNew 200000).joinP 63 1 0 0 1).1
theorem begL_cnt : arBegL.cnt 63 = 1 := by decide +kernel
theorem begL_full : ((arNew 200000).joinP 63 1 0 0 1).2 = (2, 0) := by decide +kernel
theorem oneL_fits : Fits 1 := ⟨by omega, by omega⟩
theorem begL_snd : Sound arBegL := join_sound (new_sound (by omega) (by omega)) (by omega) oneL_fits fits_zero fits_zero oneL_fits
theorem begL_glob : Glob arBegL := glob_join (glob_new 200000) (new_sound (by omega) (by omega)) (by omega) (by rw [begL_full]; decide)
theorem begL_kinds : arBegL.ths.all (fun x => x.k == 1) = true := by decide +kernel
set_option maxRecDepth 20000 in
set_option maxHeartbeats 1000000 in
theorem begL_any (w : World) : Calls Tryz.prog 11 #[] w fun e w' => e = .returned (.tuple #[.pointer (some ⟨w.heap.size + 1, 0, none⟩), .bool true]) ∧ ArL w' (fun k => if k < w.heap.size then 0 else 1) (w.heap.size + 1) arBegL ∧ Below w.heap.size w w' := by
  have hnew := newP_any 200000 w (by omega) (by omega)
  have HE := begL_full
  have HC := begL_cnt
  unfold arBegL at HC ⊢
  generalize hA2 : ((arNew 200000).joinP 63 1 0 0 1).1 = A2 at HC ⊢
  have HA2 : Hid (((arNew 200000).joinP 63 1 0 0 1).1 = A2) := hA2
  clear hA2
  go_enter Tryz.func11, Tryz.ntmps11
  go_wp2_with fail
  refine hnew.mono ?_
  rintro e w1 ⟨rfl, ⟨F1, hF1, A1⟩, hb1⟩
  have hj := joinP_any (w.heap.size + 1) 63 1 0 0 1 F1 (arNew 200000) w1 A1 (new_sound (by omega) (by omega)) (by omega) oneL_fits fits_zero fits_zero oneL_fits
  unfold JoinPOut at hj
  rw [HE, HA2.out] at hj
  unfold quad4 at hj
  clear HE A1
  go_wp2_with fail
  refine hj.mono ?_
  rintro e w2 ⟨rfl, F2, hF2, A2', P2⟩
  have hcn := countP_any (w.heap.size + 1) 63 F2 A2 w2 A2' (by omega)
  rw [HC] at hcn
  have HFIN : Hid (ArL w2 (fun k => if k < w.heap.size then 0 else 1) (w.heap.size + 1) A2 ∧ Below w.heap.size w w2) := ⟨⟨F2, A2', fun k hk => by
      have : w.heap.size ≤ k := by
        rcases hF2 k hk with e | e
        · exact hF1 k e
        · exact Nat.le_trans hb1.size e
      simp only
      rw [if_neg (by omega)]⟩, ⟨P2.os.trans hb1.os, P2.tape.trans hb1.tape, P2.output.trans hb1.output, Nat.le_trans hb1.size P2.size, fun k hk => (P2.block k (Nat.lt_of_lt_of_le hk hb1.size) fun hf => by have := hF1 k hf; omega).trans (hb1.block k hk)⟩⟩
  clear A2' P2 hF2 hF1 hb1 hj hnew HC
  go_wp2_with fail
  all_goals
    refine hcn.mono ?_
    rintro e w3 ⟨rfl, rfl⟩
    go_wp2_with fail
    go_ret2
    exact ⟨rfl, HFIN.out⟩
def sqL : Nat → List (Int × Int) → Int → Int → List Item
  | 0, _, _, _ => []
  | n + 1, zs, x, y => if zs = [] then [] else .sq (n + 1) (litP (n + 1) .no zs x y) :: (sqL n (part (x + 2 ^ n) (y + 2 ^ n) zs 0) (qx n x 0) (qy n y 0) ++ sqL n (part (x + 2 ^ n) (y + 2 ^ n) zs 1) (qx n x 1) (qy n y 1) ++ sqL n (part (x + 2 ^ n) (y + 2 ^ n) zs 2) (qx n x 2) (qy n y 2) ++ sqL n (part (x + 2 ^ n) (y + 2 ^ n) zs 3) (qx n x 3) (qy n y 3))
theorem sqL_len : ∀ (n : Nat) (zs : List (Int × Int)) (x y : Int), (sqL n zs x y).length ≤ n * zs.length
  | 0, zs, _, _ => by simp [sqL]
  | n + 1, zs, x, y => by
    unfold sqL
    split
    · simp
    · rename_i h0
      have hl : 1 ≤ zs.length := List.length_pos_iff.2 h0
      have h := parts_len (x + 2 ^ n) (y + 2 ^ n) zs
      have a0 := sqL_len n (part (x + 2 ^ n) (y + 2 ^ n) zs 0) (qx n x 0) (qy n y 0)
      have a1 := sqL_len n (part (x + 2 ^ n) (y + 2 ^ n) zs 1) (qx n x 1) (qy n y 1)
      have a2 := sqL_len n (part (x + 2 ^ n) (y + 2 ^ n) zs 2) (qx n x 2) (qy n y 2)
      have a3 := sqL_len n (part (x + 2 ^ n) (y + 2 ^ n) zs 3) (qx n x 3) (qy n y 3)
      have hs : n * (part (x + 2 ^ n) (y + 2 ^ n) zs 0).length + n * (part (x + 2 ^ n) (y + 2 ^ n) zs 1).length + n * (part (x + 2 ^ n) (y + 2 ^ n) zs 2).length + n * (part (x + 2 ^ n) (y + 2 ^ n) zs 3).length = n * zs.length := by
        rw [← h, Nat.mul_add, Nat.mul_add, Nat.mul_add]
      rw [Nat.add_mul, Nat.one_mul]
      simp only [List.length_cons, List.length_append]
      omega
def empL : List Item := (List.range 45).map fun k => .sq k noP
theorem sqD_in : ∀ (n : Nat) {zs : List (Int × Int)} {x y : Int} {i : Item}, n ≤ 44 → SqD n .no zs x y i → i ∈ empL ++ sqL n zs x y
  | 0, _, _, _, _, _, h => h.elim
  | n + 1, zs, x, y, i, hn, h => by
    rcases h with ⟨_, _, k, h1, h2, rfl⟩ | ⟨h0, h⟩
    · exact List.mem_append_left _ (List.mem_map.2 ⟨k, List.mem_range.2 (by omega), rfl⟩)
    · have hz : ¬ zs = [] := fun e => h0 ⟨e, trivial⟩
      rw [sqL, if_neg hz]
      rcases h with rfl | ⟨r, hr, h⟩
      · exact List.mem_append_right _ List.mem_cons_self
      · have := sqD_in n (by omega) h
        rcases List.mem_append.1 this with h1 | h1
        · exact List.mem_append_left _ h1
        · refine List.mem_append_right _ (List.mem_cons_of_mem _ ?_)
          have hr' : r = 0 ∨ r = 1 ∨ r = 2 ∨ r = 3 := by omega
          simp only [List.mem_append]
          rcases hr' with rfl | rfl | rfl | rfl
          · exact .inl (.inl (.inl h1))
          · exact .inl (.inl (.inr h1))
          · exact .inl (.inr h1)
          · exact .inr h1
theorem from_count {PR : (Bool → Nat → Bool) → Int → Prop} {t : Nat} {q : Nat → Int} {A A' : Ar} {e e' : Int} {n : Nat} {ys : List (Int × Int)} {x y : Int} (g : Gx t A A' e e' (SqD n .no ys x y)) (h : NxSt PR t q A') (ht : t < 64) (hn : n ≤ 44) : A'.cnt t ≤ A.cnt t + (45 + n * ys.length : Nat) := by
  have h1 := gx_count g h ht (empL ++ sqL n ys x y) fun i hi => sqD_in n hn hi
  have h2 := sqL_len n ys x y
  rw [List.length_append] at h1
  have h3 : empL.length = 45 := by simp [empL]
  omega
theorem gx_fine {PR : (Bool → Nat → Bool) → Int → Prop} {t : Nat} {q : Nat → Int} {A A' : Ar} {e' : Int} {D : Item → Prop} (g : Gx t A A' 0 e' D) (h : NxSt PR t q A') (h1 : A'.cnt t < q t) (h2 : A'.cnt t < A'.lim t) : ¬ Er e' := fun he => by
  rcases g.bad he with h3 | ⟨h3, _⟩
  · exact absurd rfl h3.ne
  · rcases h3 with ⟨_, h3⟩ | ⟨_, _, h3⟩
    · omega
    · have := h3 (q t) h.r
      omega
end Go.Proofs.YtgipjplifndniaaGreatDoor.A

namespace Go.Proofs.YtgipjplifndniaaGreatDoor.A
open Go.RowKit Go.Maps Go.Proofs.YtgipjplifndniaaGreatDoor.L

def Gd.flatB : Gd → Bool
  | .dn _ _ => false
  | .four _ => false
  | _ => true
theorem flatB_iff (g : Gd) : g.flatB = true ↔ g.flat := by cases g <;> simp [Gd.flatB, Gd.flat]
def Gd.wt : Gd → Nat
  | .no => 0
  | .here _ => 0
  | .dn _ g => max 1 g.wt
  | .four f => max 1 ((f 0).wt + (f 1).wt + (f 2).wt + (f 3).wt)
theorem wt_one {g : Gd} (h : ¬ g.flatB = true) : 1 ≤ g.wt := by
  cases g with
  | no => exact absurd rfl h
  | here P => exact absurd rfl h
  | dn c g => exact Nat.le_max_left _ _
  | four f => exact Nat.le_max_left _ _
theorem wt_sub (n : Nat) (g : Gd) : (g.sub n 0).wt + (g.sub n 1).wt + (g.sub n 2).wt + (g.sub n 3).wt ≤ g.wt := by
  cases g with
  | no => exact Nat.le_refl _
  | here P => exact Nat.le_refl _
  | dn c g =>
    have h : ∀ r, (Gd.sub n (.dn c g) r).wt = if r = c then g.wt else 0 := fun r => by
      show Gd.wt (if r = c then g else .no) = _
      split <;> rfl
    have hm : g.wt ≤ (Gd.dn c g).wt := Nat.le_max_right _ _
    rw [h, h, h, h]
    by_cases h0 : 0 = c
    · subst h0; simp; omega
    · by_cases h1 : 1 = c
      · subst h1; simp; omega
      · by_cases h2 : 2 = c
        · subst h2; simp; omega
        · rw [if_neg h0, if_neg h1, if_neg h2]
          split <;> omega
  | four f => exact Nat.le_max_right _ _
theorem wt_dnk (c : Nat) (P : Gr) : ∀ k : Nat, (dnk c k (.here P)).wt ≤ 1
  | 0 => Nat.zero_le _
  | k + 1 => by
    have := wt_dnk c P k
    show max 1 (dnk c k (.here P)).wt ≤ 1
    omega
theorem wt_root (g : Gr) (m k : Nat) : (rootG g m k).wt ≤ 4 := by
  have h := fun i => wt_dnk (3 - i) (qpic m (pic g (-(2 ^ m)) (-(2 ^ m)) (m + 1)) i) k
  have h0 := h 0
  have h1 := h 1
  have h2 := h 2
  have h3 := h 3
  unfold rootG
  show max 1 (_ + _ + _ + _) ≤ 4
  dsimp only
  omega
def sqG : Nat → Gd → List (Int × Int) → Int → Int → List Item
  | 0, _, _, _, _ => []
  | n + 1, g, zs, x, y => if zs = [] ∧ g.flatB = true then [] else .sq (n + 1) (litP (n + 1) g zs x y) :: (sqG n (g.sub n 0) (part (x + 2 ^ n) (y + 2 ^ n) zs 0) (qx n x 0) (qy n y 0) ++ sqG n (g.sub n 1) (part (x + 2 ^ n) (y + 2 ^ n) zs 1) (qx n x 1) (qy n y 1) ++ sqG n (g.sub n 2) (part (x + 2 ^ n) (y + 2 ^ n) zs 2) (qx n x 2) (qy n y 2) ++ sqG n (g.sub n 3) (part (x + 2 ^ n) (y + 2 ^ n) zs 3) (qx n x 3) (qy n y 3))
theorem four_len (n : Nat) (g : Gd) (zs : List (Int × Int)) (x y : Int) (len : ∀ (g : Gd) (zs : List (Int × Int)) (x y : Int), (sqG n g zs x y).length ≤ n * (zs.length + g.wt)) :
    (sqG n (g.sub n 0) (part (x + 2 ^ n) (y + 2 ^ n) zs 0) (qx n x 0) (qy n y 0) ++ sqG n (g.sub n 1) (part (x + 2 ^ n) (y + 2 ^ n) zs 1) (qx n x 1) (qy n y 1) ++ sqG n (g.sub n 2) (part (x + 2 ^ n) (y + 2 ^ n) zs 2) (qx n x 2) (qy n y 2) ++ sqG n (g.sub n 3) (part (x + 2 ^ n) (y + 2 ^ n) zs 3) (qx n x 3) (qy n y 3)).length ≤ n * (zs.length + g.wt) := by
  have h := parts_len (x + 2 ^ n) (y + 2 ^ n) zs
  have hw := wt_sub n g
  have a0 := len (g.sub n 0) (part (x + 2 ^ n) (y + 2 ^ n) zs 0) (qx n x 0) (qy n y 0)
  have a1 := len (g.sub n 1) (part (x + 2 ^ n) (y + 2 ^ n) zs 1) (qx n x 1) (qy n y 1)
  have a2 := len (g.sub n 2) (part (x + 2 ^ n) (y + 2 ^ n) zs 2) (qx n x 2) (qy n y 2)
  have a3 := len (g.sub n 3) (part (x + 2 ^ n) (y + 2 ^ n) zs 3) (qx n x 3) (qy n y 3)
  have hs : n * ((part (x + 2 ^ n) (y + 2 ^ n) zs 0).length + (g.sub n 0).wt) + n * ((part (x + 2 ^ n) (y + 2 ^ n) zs 1).length + (g.sub n 1).wt) + n * ((part (x + 2 ^ n) (y + 2 ^ n) zs 2).length + (g.sub n 2).wt) + n * ((part (x + 2 ^ n) (y + 2 ^ n) zs 3).length + (g.sub n 3).wt) ≤ n * (zs.length + g.wt) := by
    rw [← Nat.mul_add, ← Nat.mul_add, ← Nat.mul_add]
    exact Nat.mul_le_mul_left n (by omega)
  simp only [List.length_append]
  omega
theorem sqG_len : ∀ (n : Nat) (g : Gd) (zs : List (Int × Int)) (x y : Int), (sqG n g zs x y).length ≤ n * (zs.length + g.wt)
  | 0, g, zs, x, y => by simp [sqG]
  | n + 1, g, zs, x, y => by
    have h4 := four_len n g zs x y (sqG_len n)
    unfold sqG
    split
    · simp
    · rename_i h0
      have hl : 1 ≤ zs.length + g.wt := by
        by_cases hz : zs = []
        · have := wt_one (g := g) fun h => h0 ⟨hz, h⟩
          omega
        · have := List.length_pos_iff.2 hz
          omega
      rw [Nat.add_mul, Nat.one_mul]
      simp only [List.length_cons]
      omega
theorem sqG_in : ∀ (n : Nat) {g : Gd} {zs : List (Int × Int)} {x y : Int} {i : Item}, n ≤ 44 → SqD n g zs x y i → i ∈ empL ++ sqG n g zs x y
  | 0, _, _, _, _, _, _, h => h.elim
  | n + 1, g, zs, x, y, i, hn, h => by
    rcases h with ⟨_, _, k, h1, h2, rfl⟩ | ⟨h0, h⟩
    · exact List.mem_append_left _ (List.mem_map.2 ⟨k, List.mem_range.2 (by omega), rfl⟩)
    · have hz : ¬ (zs = [] ∧ g.flatB = true) := fun ⟨e1, e2⟩ => h0 ⟨e1, (flatB_iff g).1 e2⟩
      rw [sqG, if_neg hz]
      rcases h with rfl | ⟨r, hr, h⟩
      · exact List.mem_append_right _ List.mem_cons_self
      · have := sqG_in n (by omega) h
        rcases List.mem_append.1 this with h1 | h1
        · exact List.mem_append_left _ h1
        · refine List.mem_append_right _ (List.mem_cons_of_mem _ ?_)
          have hr' : r = 0 ∨ r = 1 ∨ r = 2 ∨ r = 3 := by omega
          simp only [List.mem_append]
          rcases hr' with rfl | rfl | rfl | rfl
          · exact .inl (.inl (.inl h1))
          · exact .inl (.inl (.inr h1))
          · exact .inl (.inr h1)
          · exact .inr h1
theorem lit_count {PR : (Bool → Nat → Bool) → Int → Prop} {t : Nat} {q : Nat → Int} {A A' : Ar} {e e' : Int} {n : Nat} {G : Gd} {ys : List (Int × Int)} {x y : Int} (g : Gx t A A' e e' (LitD n G ys x y)) (h : NxSt PR t q A') (ht : t < 64) (hn : n ≤ 44) : A'.cnt t ≤ A.cnt t + ((46 + n * (ys.length + G.wt) : Nat) : Int) := by
  have h4 := four_len n G ys x y (sqG_len n)
  have h1 := gx_count g h ht (empL ++ .sq (n + 1) (litP (n + 1) G ys x y) :: (sqG n (G.sub n 0) (part (x + 2 ^ n) (y + 2 ^ n) ys 0) (qx n x 0) (qy n y 0) ++ sqG n (G.sub n 1) (part (x + 2 ^ n) (y + 2 ^ n) ys 1) (qx n x 1) (qy n y 1) ++ sqG n (G.sub n 2) (part (x + 2 ^ n) (y + 2 ^ n) ys 2) (qx n x 2) (qy n y 2) ++ sqG n (G.sub n 3) (part (x + 2 ^ n) (y + 2 ^ n) ys 3) (qx n x 3) (qy n y 3))) fun i hi => by
    rcases hi with rfl | ⟨r, hr, hi⟩
    · exact List.mem_append_right _ List.mem_cons_self
    · rcases List.mem_append.1 (sqG_in n hn hi) with h1 | h1
      · exact List.mem_append_left _ h1
      · refine List.mem_append_right _ (List.mem_cons_of_mem _ ?_)
        have hr' : r = 0 ∨ r = 1 ∨ r = 2 ∨ r = 3 := by omega
        simp only [List.mem_append]
        rcases hr' with rfl | rfl | rfl | rfl
        · exact .inl (.inl (.inl h1))
        · exact .inl (.inl (.inr h1))
        · exact .inl (.inr h1)
        · exact .inr h1
  have h3 : empL.length = 45 := by simp [empL]
  rw [List.length_append, List.length_cons] at h1
  omega
theorem add_count {PR : (Bool → Nat → Bool) → Int → Prop} {t : Nat} {q : Nat → Int} {A A' : Ar} {g : Gr} {m : Nat} {ys : List (Int × Int)} {id e' : Int} (a : AddR t A A' g m ys id e') (h : NxSt PR t q A') (ht : t < 64) : A'.cnt t ≤ A.cnt t + ((46 + 43 * (ys.length + 4) : Nat) : Int) := by
  obtain ⟨N, h1, h2, _, h3, _⟩ := a
  have h4 := lit_count h3 h ht (by omega)
  have h5 := wt_root g m (N - m)
  have h6 : N * (ys.length + (rootG g m (N - m)).wt) ≤ 43 * (ys.length + 4) := Nat.mul_le_mul h2 (by omega)
  omega
theorem add_fine {PR : (Bool → Nat → Bool) → Int → Prop} {t : Nat} {q : Nat → Int} {A A' : Ar} {g : Gr} {m : Nat} {ys : List (Int × Int)} {id e' : Int} (a : AddR t A A' g m ys id e') (h : NxSt PR t q A') (ht : t < 64) (hq : A.cnt t + ((46 + 43 * (ys.length + 4) : Nat) : Int) < q t) (hl : A.cnt t + ((46 + 43 * (ys.length + 4) : Nat) : Int) < A'.lim t) : ∃ N, e' = 0 ∧ m ≤ N ∧ N ≤ 43 ∧ Rt A' t N id (addG g ys) := by
  have h0 := add_count a h ht
  obtain ⟨N, h1, h2, _, h3, h4⟩ := a
  have h5 := gx_fine h3 h (by omega) (by omega)
  rcases h4 with ⟨h4, _⟩ | ⟨h4, h6⟩
  · exact absurd h4 h5
  · exact ⟨N, h4, h1, h2, h6⟩
end Go.Proofs.YtgipjplifndniaaGreatDoor.A
