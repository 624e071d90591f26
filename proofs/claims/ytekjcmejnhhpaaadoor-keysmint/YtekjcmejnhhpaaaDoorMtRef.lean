/- The document's Mint that goes well. -/
import Derived.Test.YtekjcmejnhhpaaaDoorMtKeyText
import Derived.Test.YtekjcmejnhhpaaaDoorKyMint
namespace Go.Proofs.YtekjcmejnhhpaaaDoor
open Go.RowKit

def kO (TX name : ByteArray) (rights : Int) : Obj := .cells #[.string TX, .string name, .int .i64 rights] 33 (0, 0)
def tO : Obj := .cells #[.int .i64 0, .slice none 0 0] 24 (0, 0)
theorem newsK {W : World} {kb : Nat} {TX name : ByteArray} {rights : Int} (h : W.heap[kb]? = some (kO TX name rights)) : ∀ (j : Nat) u, [Value.string TX, .string name, .int .i64 rights][j]? = some u → W.cell? ((⟨kb, 0, none⟩ : Addr).add j) = some u :=
  World.news_of_block h
section
variable {X w1 w3 : World} {K O : Obj}
theorem kA : (w3.alloc K).heap[w3.heap.size]? = some K := by rw [hat, if_pos rfl]
theorem kB : ((w3.alloc O).alloc K).heap[w3.heap.size + 1]? = some K := by rw [hat, if_pos (hsz _ _).symm]
theorem kC : ((w3.alloc K).alloc O).heap[w3.heap.size]? = some K := by rw [hat, if_neg (by rw [hsz]; omega), hat, if_pos rfl]
theorem kD (hg : (w1.alloc K).drew.grownBy w3 none) : w3.heap[w1.heap.size]? = some K := (hg.block _ (by rw [hdr, hsz]; omega) (by simp)).trans (by rw [hdr]; exact kA)
theorem kE (hg : ((w1.alloc O).alloc K).drew.grownBy w3 none) : w3.heap[w1.heap.size + 1]? = some K := (hg.block _ (by rw [hdr, hsz, hsz]; omega) (by simp)).trans (by rw [hdr]; exact kB)
theorem kF (hg : ((w1.alloc K).alloc O).drew.grownBy w3 none) : w3.heap[w1.heap.size]? = some K := (hg.block _ (by rw [hdr, hsz, hsz]; omega) (by simp)).trans (by rw [hdr]; exact kC)
theorem kG (hg : (w1.alloc K).drew.grownBy w3 none) : (w3.alloc O).heap[w1.heap.size]? = some K := by
  have h := kD hg
  rw [hat, if_neg (by have := (Array.getElem?_eq_some_iff.1 h).1; omega)]
  exact h
end
theorem kA' {w3 : World} {K : Obj} : (w3.alloc K).drew.heap[w3.heap.size]? = some K := by rw [hdr]; exact kA
theorem kB' {w3 : World} {K O : Obj} : ((w3.alloc O).alloc K).drew.heap[w3.heap.size + 1]? = some K := by rw [hdr]; exact kB
theorem kC' {w3 : World} {K O : Obj} : ((w3.alloc K).alloc O).drew.heap[w3.heap.size]? = some K := by rw [hdr]; exact kC
theorem obk {Y w5 : World} {r : Option Nat} {ob : Nat} (h : Y.heap[ob]? = some tO) (hg : Y.grownBy w5 r) (hne : r ≠ some ob) : T2 ob 0 (.slice none 0 0) w5 := by
  have hb := (hg.block ob (Array.getElem?_eq_some_iff.1 h).1 (fun e => hne e.symm)).trans h
  unfold tO at hb
  exact ⟨by rw [Lib.cell_of_heap hb]; rfl, by rw [Lib.cell_of_heap hb]; rfl, Lib.frozen_of_heap hb 0, Lib.frozen_of_heap hb 1, (Array.getElem?_eq_some_iff.1 hb).1⟩
theorem obk_then {Y w5 : World} {r : Option Nat} {G : Prop} (ob : Nat) (h : Y.heap[ob]? = some tO) (hg : Y.grownBy w5 r) (hne : r ≠ some ob) (k : w5.cell? ⟨ob, 0, none⟩ = some (.int .i64 0) → w5.cell? ⟨ob, 1, none⟩ = some (.slice none 0 0) → w5.frozen? ⟨ob, 0, none⟩ = false → w5.frozen? ⟨ob, 1, none⟩ = false → Hid (T2 ob 0 (.slice none 0 0) w5 ∧ r ≠ some ob ∧ ob < Y.heap.size) → G) : G := by
  have h2 := obk h hg hne
  exact k h2.1 h2.2.1 h2.2.2.1 h2.2.2.2.1 ⟨h2, hne, (Array.getElem?_eq_some_iff.1 h).1⟩
/-- behind the table's making -/
def MkOut (w1 : World) (sp : Int) (B : Nat) (ks : List Ky) (s12 : Value) (wq : World) : Prop := ∃ ob p n c, s12 = .pointer (some ⟨ob, 0, none⟩) ∧ T2 ob sp (.slice p n c) wq ∧ KRow wq B (.slice p n c) ks ∧ Below w1.heap.size w1 wq ∧ w1.heap.size ≤ ob
theorem ne_at {r : Option Nat} {g ob H : Nat} (hat : r = some g ∨ g = H) (h1 : r ≠ some ob) (h2 : ob < H) : g ≠ ob := fun e => by
  rcases hat with h | h
  · exact h1 (e ▸ h)
  · omega
theorem mk_set {P : Prop} {w1 w5 : World} {ob g5 cap5 m B : Nat} {sp : Int} {L : List Value} {ks : List Ky} (hT : T2 ob 0 (.slice none 0 0) w5) (hK : w5.ownsRow B 33 3 (.slice (some ⟨g5, 0, none⟩) m cap5) m L) (hm : m = ks.length) (hL : L = keysL ks) (hB : w1.heap.size ≤ B) (hob : w1.heap.size ≤ ob) (hne : g5 ≠ ob)
    (hS : P ∧ Below w1.heap.size w1 ((w5.setCell ⟨ob, 0, none⟩ (.int .i64 sp)).setCell ⟨ob, 1, none⟩ (.slice (some ⟨g5, 0, none⟩) m cap5))) :
    MkOut w1 sp w1.heap.size ks (.pointer (some ⟨ob, 0, none⟩)) ((w5.setCell ⟨ob, 0, none⟩ (.int .i64 sp)).setCell ⟨ob, 1, none⟩ (.slice (some ⟨g5, 0, none⟩) m cap5)) := by
  subst hm hL
  have hk1 : KRow w5 w1.heap.size (.slice (some ⟨g5, 0, none⟩) ks.length cap5) ks := KRow.mono (B := B) hK hB
  refine ⟨ob, _, _, _, rfl, hT.both, ?_, hS.2, hob⟩
  exact World.ownsRow.kept (World.ownsRow.kept hk1 (grown_set w5 ob 0 _) (Or.inr fun e => hne (by simpa [Value.ownBlock] using e))) (grown_set _ ob 1 _) (Or.inr fun e => hne (by simpa [Value.ownBlock] using e))
theorem mk_new {P : Prop} {w1 w5 : World} {g5 cap5 m B : Nat} {sp : Int} {L : List Value} {ks : List Ky} (hK : w5.ownsRow B 33 3 (.slice (some ⟨g5, 0, none⟩) m cap5) m L) (hm : m = ks.length) (hL : L = keysL ks) (hB : w1.heap.size ≤ B) (hw : w1.heap.size ≤ w5.heap.size)
    (hS : P ∧ Below w1.heap.size w1 (w5.alloc (.cells #[.int .i64 sp, .slice (some ⟨g5, 0, none⟩) m cap5] 24))) :
    MkOut w1 sp w1.heap.size ks (.pointer (some ⟨w5.heap.size, 0, none⟩)) (w5.alloc (.cells #[.int .i64 sp, .slice (some ⟨g5, 0, none⟩) m cap5] 24)) := by
  subst hm hL
  have hk1 : KRow w5 w1.heap.size (.slice (some ⟨g5, 0, none⟩) ks.length cap5) ks := KRow.mono (B := B) hK hB
  have hb6 : Below w5.heap.size w5 (w5.alloc (.cells #[.int .i64 sp, .slice (some ⟨g5, 0, none⟩) ks.length cap5] 24)) := (Below.refl _ _).alloc (Nat.le_refl _) _
  exact ⟨_, _, _, _, rfl, T2.born w5 sp _ _, hk1.below hb6, hS.2, hw⟩
set_option maxRecDepth 20000 in
set_option maxHeartbeats 8000000 in
theorem refMint_any (serial : Int) (v : Value) (ks : List Ky) (name : ByteArray) (rights draw : Int) (w : World) (h : HK w v ks) (h0 : 0 ≤ serial) (h1 : serial ≤ 2147483647) (hr0 : 1 ≤ rights) (hr1 : rights ≤ 3) (hl : ks.length < 32) (hd0 : -9223372036854775808 ≤ draw) (hd1 : draw ≤ 9223372036854775807) :
    Calls Tryd.prog 6 #[.agg #[.int .i64 serial, v], .string name, .int .i64 rights, .int .i64 draw] w fun e w' => ∃ u, e = .returned (.tuple #[.agg #[.int .i64 (serial + 1), u], .string ⟨(keyT serial draw).toArray⟩, .int .i64 0]) ∧ KRow w' w.heap.size u (ks ++ [⟨⟨(keyT serial draw).toArray⟩, name, rights⟩]) ∧ Below w.heap.size w w' := by
  obtain ⟨i0, hi, hz0, hz1, hz2⟩ := info_parts Tryd.infoKey
  have t0 := T2.born w serial v 24
  have hb0 : Below w.heap.size w (w.alloc (.cells #[.int .i64 serial, v] 24)) := (Below.refl _ _).alloc (Nat.le_refl _) _
  generalize hwA : w.alloc (.cells #[.int .i64 serial, v] 24) = wA at *
  have hsA : wA.heap.size = w.heap.size + 1 := by rw [← hwA]; simp
  have hb1 : Below wA.heap.size wA (wA.alloc (.cells #[.int .i64 0, .slice none 0 0] 24)) := (Below.refl _ _).alloc (Nat.le_refl _) _
  have r0 := T2.born wA 0 (.slice none 0 0) 24
  have hsB : (wA.alloc (.cells #[.int .i64 0, .slice none 0 0] 24)).heap.size = w.heap.size + 2 := by simp; omega
  have t1 := t0.below hb1
  have hb := hb0.trans (hb1.mono hb0.size)
  rw [hsA] at r0
  generalize hwB : wA.alloc (.cells #[.int .i64 0, .slice none 0 0] 24) = w0 at *
  have ct := keyText_any serial draw w0 h0 h1 hd0 hd1
  generalize (⟨(keyT serial draw).toArray⟩ : ByteArray) = TX at *
  have HT : Hid (T2 w.heap.size serial v w0 ∧ T2 (w.heap.size + 1) 0 (.slice none 0 0) w0 ∧ w0.heap.size = w.heap.size + 2 ∧ Below w.heap.size w w0 ∧ HK w0 v ks) := ⟨t1, r0, hsB, hb, h.below hb⟩
  obtain ⟨p, cap, hv0, hcap, hcm, hnil, -⟩ := h
  obtain ⟨n, hn0⟩ : ∃ n, n = ks.length := ⟨_, rfl⟩
  have HN : Hid (n = ks.length) := hn0
  rw [← hn0] at hv0 hl hcap
  obtain ⟨a1, a2, -, -, -⟩ := t1
  have q1 : ¬ rights < 1 := by omega
  have q2 : ¬ 3 < rights := by omega
  have q3 : ¬ serial < 0 := by omega
  have q4 : ¬ 2147483647 < serial := by omega
  have q5 : ¬ (32 : Int) ≤ (n : Int) := by omega
  have hws : IntKind.i64.wrap (serial + 1) = serial + 1 := by rw [IntKind.wrap_i64]; omega
  clear hb0 hb1 t0 r0 hb hn0 hd0 hd1 hr0 hr1
  subst hv0
  go_enter Tryd.func6, Tryd.ntmps6
  go_wp2_with fail
  refine ct.mono ?_
  rintro e w1 ⟨rfl, hb1⟩
  clear hwA hwB a1 a2 ct hsA hsB q1 q2 q3 q4 q5
  have HB1 : Hid (Below w0.heap.size w0 w1 ∧ w.heap.size + 2 ≤ w1.heap.size) := ⟨hb1, by have := HT.out.2.2.1; have := hb1.size; omega⟩
  have hT1 : T2 w.heap.size serial (.slice p n cap) w1 := HT.out.1.below hb1
  have HK1 : Hid (HK w1 (.slice p n cap) ks) := HT.out.2.2.2.2.below hb1
  clear hb1
  go_wp2_with fail
  go_cut [12] from 39 to 51 (fun s12 wq => MkOut w1 (serial + 1) w1.heap.size (ks ++ [⟨TX, name, rights⟩]) s12 wq)
  case first =>
    have S0 : (w1.drew.cell? ⟨w.heap.size, 0, none⟩ = some (.int .i64 serial) ∧ w1.drew.cell? ⟨w.heap.size, 1, none⟩ = some (.slice p n cap)) ∧ Below w1.heap.size w1 w1.drew := ⟨⟨hT1.1, hT1.2.1⟩, (Below.refl _ _).drew⟩
    have HR0 : Hid (w.heap.size < w1.heap.size) := hT1.2.2.2.2
    have kp : ∀ W W' : World, ((W.cell? ⟨w.heap.size, 0, none⟩ = some (.int .i64 serial) ∧ W.cell? ⟨w.heap.size, 1, none⟩ = some (.slice p n cap)) ∧ Below w1.heap.size w1 W) → Below w1.heap.size W W' → ((W'.cell? ⟨w.heap.size, 0, none⟩ = some (.int .i64 serial) ∧ W'.cell? ⟨w.heap.size, 1, none⟩ = some (.slice p n cap)) ∧ Below w1.heap.size w1 W') := fun W W' hS hb => ⟨⟨(hb.cell (p := ⟨w.heap.size, 0, none⟩) HR0.out).trans hS.1.1, (hb.cell (p := ⟨w.heap.size, 1, none⟩) HR0.out).trans hS.1.2⟩, hS.2.trans hb⟩
    have ka : ∀ (W : World) (o : Obj), ((W.cell? ⟨w.heap.size, 0, none⟩ = some (.int .i64 serial) ∧ W.cell? ⟨w.heap.size, 1, none⟩ = some (.slice p n cap)) ∧ Below w1.heap.size w1 W) → (((W.alloc o).cell? ⟨w.heap.size, 0, none⟩ = some (.int .i64 serial) ∧ (W.alloc o).cell? ⟨w.heap.size, 1, none⟩ = some (.slice p n cap)) ∧ Below w1.heap.size w1 (W.alloc o)) := fun W o hS => kp W _ hS ((Below.refl _ _).alloc hS.2.size o)
    have kg : ∀ (W W' : World) (u : Value), ((W.cell? ⟨w.heap.size, 0, none⟩ = some (.int .i64 serial) ∧ W.cell? ⟨w.heap.size, 1, none⟩ = some (.slice p n cap)) ∧ Below w1.heap.size w1 W) → W.grownBy W' u.ownBlock → (∀ q, u.ownBlock = some q → w1.heap.size ≤ q) → ((W'.cell? ⟨w.heap.size, 0, none⟩ = some (.int .i64 serial) ∧ W'.cell? ⟨w.heap.size, 1, none⟩ = some (.slice p n cap)) ∧ Below w1.heap.size w1 W') := fun W W' u hS hg hq => kp W W' hS ⟨hg.os, hg.tape, hg.output, hg.size, fun k hk => hg.block k (Nat.lt_of_lt_of_le hk hS.2.size) (fun e => by have := hq k e.symm; omega)⟩
    have kst : ∀ (W : World) (ob : Nat) (a b : Value), ((W.cell? ⟨w.heap.size, 0, none⟩ = some (.int .i64 serial) ∧ W.cell? ⟨w.heap.size, 1, none⟩ = some (.slice p n cap)) ∧ Below w1.heap.size w1 W) → w1.heap.size ≤ ob → (((W.setCell ⟨ob, 0, none⟩ a).setCell ⟨ob, 1, none⟩ b).cell? ⟨w.heap.size, 0, none⟩ = some (.int .i64 serial) ∧ ((W.setCell ⟨ob, 0, none⟩ a).setCell ⟨ob, 1, none⟩ b).cell? ⟨w.heap.size, 1, none⟩ = some (.slice p n cap)) ∧ Below w1.heap.size w1 ((W.setCell ⟨ob, 0, none⟩ a).setCell ⟨ob, 1, none⟩ b) := fun W ob a b hS ho => kp W _ hS (((Below.refl _ _).setCell (p := ⟨ob, 0, none⟩) ho _).setCell (p := ⟨ob, 1, none⟩) ho _)
    have kal : ∀ (W : World) (o o' : Obj), (((W.alloc o).cell? ⟨w.heap.size, 0, none⟩ = some (.int .i64 serial) ∧ (W.alloc o).cell? ⟨w.heap.size, 1, none⟩ = some (.slice p n cap)) ∧ Below w1.heap.size w1 (W.alloc o)) → w1.heap.size ≤ W.heap.size → (((W.alloc o').cell? ⟨w.heap.size, 0, none⟩ = some (.int .i64 serial) ∧ (W.alloc o').cell? ⟨w.heap.size, 1, none⟩ = some (.slice p n cap)) ∧ Below w1.heap.size w1 (W.alloc o')) := fun W o o' hS hl => kp _ _ hS ⟨rfl, rfl, rfl, by rw [hsz, hsz]; omega, fun k hk => by rw [hat, hat, if_neg (by omega), if_neg (by omega)]⟩
    rcases p with _ | ad
    · have hks : ks = [] ∧ n = 0 := by
        obtain ⟨p', cap', e1, _, _, _, hrow⟩ := HK1.out
        have hn : n = 0 := by
          rcases hrow with e | ⟨b, off, e, _⟩
          · rw [HN.out]; exact e
          · rw [e] at e1; simp at e1
        exact ⟨List.eq_nil_of_length_eq_zero (by rw [← HN.out]; exact hn), hn⟩
      obtain ⟨hk, hn⟩ := hks
      subst hk hn
      have hc0 := hnil rfl
      subst hc0
      go_region_held3 (fun W => (W.cell? ⟨w.heap.size, 0, none⟩ = some (.int .i64 serial) ∧ W.cell? ⟨w.heap.size, 1, none⟩ = some (.slice none 0 0)) ∧ Below w1.heap.size w1 W) (first | assumption | exact S0 | exact ka _ _ (by assumption) | exact kg _ _ (.slice none 0 0) (by assumption) hgrow5 (fun q hq => by simp [Value.ownBlock] at hq) | exact kg _ _ v3 (by assumption) hgrow5 (fun q hq => Nat.le_trans HS3.out (hq3 q hq).1) | exact kg _ _ (.slice none 0 0) (by assumption) hgrow3 (fun q hq => by simp [Value.ownBlock] at hq) | exact kst _ _ _ _ (by assumption) (by omega) | exact kal _ _ _ (by assumption) (by have e1 := hgrow5.size; first | omega | (simp at e1; omega))) ((first | (refine step_append_lies _ (by rfl) (.tmp 44) (.tmp 49) 22 rfl w1.heap.size 33 i0 _ 3 40 Tryd.underlying22 hi hz0 hz1 hz2 rfl (by decide) (.slice none 0 0) 0 [] (by rfl) (World.ownsRow_nil _ _ _ _) ⟨w1.heap.size, 0, none⟩ 1 1 [.string TX, .string name, .int .i64 rights] (by rfl) rfl (newsK kA') (by intro u hu; simp at hu; rcases hu with rfl | rfl | rfl <;> rfl) (by omega) (by unfold maxLen; omega) (by omega) (by simp <;> omega) _ rfl ?_; intro g5 cap5 w5 hown5 hgrow5 hat5 hlt5) | (refine step_append_lies _ (by rfl) (.tmp 44) (.tmp 49) 22 rfl w1.heap.size 33 i0 _ 3 40 Tryd.underlying22 hi hz0 hz1 hz2 rfl (by decide) (.slice none 0 0) 0 [] (by rfl) (World.ownsRow_nil _ _ _ _) ⟨w1.heap.size, 0, none⟩ 1 1 [.string TX, .string name, .int .i64 rights] (by rfl) rfl (newsK kC') (by intro u hu; simp at hu; rcases hu with rfl | rfl | rfl <;> rfl) (by omega) (by unfold maxLen; omega) (by omega) (by simp <;> omega) _ rfl ?_; intro g5 cap5 w5 hown5 hgrow5 hat5 hlt5; refine obk_then (w1.heap.size + 1) kB' hgrow5 (by simp [Value.ownBlock]) ?_; intro d1 d2 d3 d4 D5) | (refine step_append_lies _ (by rfl) (.tmp 44) (.tmp 49) 22 rfl w1.heap.size 33 i0 _ 3 40 Tryd.underlying22 hi hz0 hz1 hz2 rfl (by decide) (.slice none 0 0) 0 [] (by rfl) (World.ownsRow_nil _ _ _ _) ⟨w1.heap.size + 1, 0, none⟩ 1 1 [.string TX, .string name, .int .i64 rights] (by rfl) rfl (newsK kB') (by intro u hu; simp at hu; rcases hu with rfl | rfl | rfl <;> rfl) (by omega) (by unfold maxLen; omega) (by omega) (by simp <;> omega) _ rfl ?_; intro g5 cap5 w5 hown5 hgrow5 hat5 hlt5; refine obk_then (w1.heap.size) kC' hgrow5 (by simp [Value.ownBlock]) ?_; intro d1 d2 d3 d4 D5)))
      all_goals
        have hs5 : w1.heap.size ≤ w5.heap.size := by have e1 := hgrow5.size; first | omega | (simp at e1; omega)
        go_wp2_with fail
        go_meet
        case rel => first | exact mk_new hown5 rfl rfl (Nat.le_refl _) hs5 (by assumption) | exact mk_set D5.out.1 hown5 rfl rfl (Nat.le_refl _) (by omega) (ne_at hat5 D5.out.2.1 D5.out.2.2) (by assumption)
    · obtain ⟨hkl, HNEWS⟩ : (keysL ks).length = n * 3 ∧ Hid (∀ W : World, ((W.cell? ⟨w.heap.size, 0, none⟩ = some (.int .i64 serial) ∧ W.cell? ⟨w.heap.size, 1, none⟩ = some (.slice (some ad) n cap)) ∧ Below w1.heap.size w1 W) → ∀ (j : Nat) u, (keysL ks)[j]? = some u → W.cell? (ad.add j) = some u) := by
        refine ⟨by rw [keysL_len, HN.out], fun W hS => ?_⟩
        obtain ⟨p', cap', e1, _, _, _, hrow⟩ := HK1.out
        have e2 : p' = some ad := by injection e1 with e; exact e.symm
        rcases hrow with e | ⟨b, off, e, hbl, hc⟩
        · have hks := List.eq_nil_of_length_eq_zero e
          intro j u hu
          rw [hks] at hu
          simp [keysL] at hu
        · rw [e2] at e
          cases e
          exact HK.news fun k x hk => (hc k x hk).keep (hS.2.block b hbl)
      have HS3 : Hid (w1.heap.size ≤ w1.heap.size) := Nat.le_refl _
      go_region_held3 (fun W => (W.cell? ⟨w.heap.size, 0, none⟩ = some (.int .i64 serial) ∧ W.cell? ⟨w.heap.size, 1, none⟩ = some (.slice (some ad) n cap)) ∧ Below w1.heap.size w1 W) (first | assumption | exact S0 | exact ka _ _ (by assumption) | exact kg _ _ (.slice none 0 0) (by assumption) hgrow5 (fun q hq => by simp [Value.ownBlock] at hq) | exact kg _ _ v3 (by assumption) hgrow5 (fun q hq => (by first | exact (hq3 q hq).1 | (have e1 := (hq3 q hq).1; rw [hdr, hsz] at e1; omega) | (have e1 := (hq3 q hq).1; rw [hdr, hsz, hsz] at e1; omega))) | exact kg _ _ (.slice none 0 0) (by assumption) hgrow3 (fun q hq => by simp [Value.ownBlock] at hq) | exact kst _ _ _ _ (by assumption) (by omega) | exact kal _ _ _ (by assumption) (by have e1 := hgrow5.size; first | omega | (simp at e1; omega))) ((first | (refine step_append_own _ (by rfl) (.const (.slice none 0 0)) (.tmp 43) 22 rfl _ 33 i0 _ 3 40 Tryd.underlying22 hi hz0 hz1 hz2 rfl (by decide) (.slice none 0 0) 0 [] (by rfl) (World.ownsRow_nil _ _ _ _) ad n cap (keysL ks) (by rfl) hkl (HNEWS.out _ (by assumption)) (keysL_one ks) (by unfold maxLen; omega) (by omega) (Nat.le_refl _) ?_; intro v3 w3 hown3 hgrow3 hnil3; have hq3 := fun q hq => hown3.lt q hq; have hs3 : w1.heap.size ≤ w3.heap.size := (by first | exact hgrow3.size | (have e1 := hgrow3.size; simp at e1; omega))) | (refine step_append_lies _ (by rfl) (.tmp 44) (.tmp 49) 22 rfl _ 33 i0 _ 3 40 Tryd.underlying22 hi hz0 hz1 hz2 rfl (by decide) v3 (0 + n) ([] ++ keysL ks) (by rfl) (by first | exact hown3 | exact World.ownsRow.alloc hown3 _ | exact World.ownsRow.alloc (World.ownsRow.alloc hown3 _) _) ⟨w3.heap.size, 0, none⟩ 1 1 [.string TX, .string name, .int .i64 rights] (by rfl) rfl (newsK kC) (by intro u hu; simp at hu; rcases hu with rfl | rfl | rfl <;> rfl) (by omega) (by unfold maxLen; omega) (by omega) (by have e1 := hgrow3.size; simp at e1 ⊢ <;> omega) _ rfl ?_; intro g5 cap5 w5 hown5 hgrow5 hat5 hlt5; refine obk_then (w3.heap.size + 1) kB hgrow5 (fun e => by have e1 := hq3 _ e; first | omega | (simp at e1; done) | (simp at e1; omega)) ?_; intro d1 d2 d3 d4 D5) | (refine step_append_lies _ (by rfl) (.tmp 44) (.tmp 49) 22 rfl _ 33 i0 _ 3 40 Tryd.underlying22 hi hz0 hz1 hz2 rfl (by decide) v3 (0 + n) ([] ++ keysL ks) (by rfl) (by first | exact hown3 | exact World.ownsRow.alloc hown3 _ | exact World.ownsRow.alloc (World.ownsRow.alloc hown3 _) _) ⟨w3.heap.size + 1, 0, none⟩ 1 1 [.string TX, .string name, .int .i64 rights] (by rfl) rfl (newsK kB) (by intro u hu; simp at hu; rcases hu with rfl | rfl | rfl <;> rfl) (by omega) (by unfold maxLen; omega) (by omega) (by have e1 := hgrow3.size; simp at e1 ⊢ <;> omega) _ rfl ?_; intro g5 cap5 w5 hown5 hgrow5 hat5 hlt5; refine obk_then (w3.heap.size) kC hgrow5 (fun e => by have e1 := hq3 _ e; first | omega | (simp at e1; done) | (simp at e1; omega)) ?_; intro d1 d2 d3 d4 D5) | (refine step_append_lies _ (by rfl) (.tmp 44) (.tmp 49) 22 rfl _ 33 i0 _ 3 40 Tryd.underlying22 hi hz0 hz1 hz2 rfl (by decide) v3 (0 + n) ([] ++ keysL ks) (by rfl) (by first | exact hown3 | exact World.ownsRow.alloc hown3 _ | exact World.ownsRow.alloc (World.ownsRow.alloc hown3 _) _) ⟨w3.heap.size, 0, none⟩ 1 1 [.string TX, .string name, .int .i64 rights] (by rfl) rfl (newsK kA) (by intro u hu; simp at hu; rcases hu with rfl | rfl | rfl <;> rfl) (by omega) (by unfold maxLen; omega) (by omega) (by have e1 := hgrow3.size; simp at e1 ⊢ <;> omega) _ rfl ?_; intro g5 cap5 w5 hown5 hgrow5 hat5 hlt5; refine obk_then (w1.heap.size) (kG hgrow3) hgrow5 (fun e => by have e1 := hq3 _ e; first | omega | (simp at e1; done) | (simp at e1; omega)) ?_; intro d1 d2 d3 d4 D5) | (refine step_append_lies _ (by rfl) (.tmp 44) (.tmp 49) 22 rfl _ 33 i0 _ 3 40 Tryd.underlying22 hi hz0 hz1 hz2 rfl (by decide) v3 (0 + n) ([] ++ keysL ks) (by rfl) (by first | exact hown3 | exact World.ownsRow.alloc hown3 _ | exact World.ownsRow.alloc (World.ownsRow.alloc hown3 _) _) ⟨w3.heap.size, 0, none⟩ 1 1 [.string TX, .string name, .int .i64 rights] (by rfl) rfl (newsK kA) (by intro u hu; simp at hu; rcases hu with rfl | rfl | rfl <;> rfl) (by omega) (by unfold maxLen; omega) (by omega) (by have e1 := hgrow3.size; simp at e1 ⊢ <;> omega) _ rfl ?_; intro g5 cap5 w5 hown5 hgrow5 hat5 hlt5) | (refine step_append_lies _ (by rfl) (.tmp 44) (.tmp 49) 22 rfl _ 33 i0 _ 3 40 Tryd.underlying22 hi hz0 hz1 hz2 rfl (by decide) v3 (0 + n) ([] ++ keysL ks) (by rfl) (by first | exact hown3 | exact World.ownsRow.alloc hown3 _ | exact World.ownsRow.alloc (World.ownsRow.alloc hown3 _) _) ⟨w1.heap.size, 0, none⟩ 1 1 [.string TX, .string name, .int .i64 rights] (by rfl) rfl (newsK (kG hgrow3)) (by intro u hu; simp at hu; rcases hu with rfl | rfl | rfl <;> rfl) (by omega) (by unfold maxLen; omega) (by omega) (by have e1 := hgrow3.size; simp at e1 ⊢ <;> omega) _ rfl ?_; intro g5 cap5 w5 hown5 hgrow5 hat5 hlt5; refine obk_then (w3.heap.size) kA hgrow5 (fun e => by have e1 := hq3 _ e; first | omega | (simp at e1; done) | (simp at e1; omega)) ?_; intro d1 d2 d3 d4 D5) | (refine step_append_lies _ (by rfl) (.tmp 44) (.tmp 49) 22 rfl _ 33 i0 _ 3 40 Tryd.underlying22 hi hz0 hz1 hz2 rfl (by decide) v3 (0 + n) ([] ++ keysL ks) (by rfl) (by first | exact hown3 | exact World.ownsRow.alloc hown3 _ | exact World.ownsRow.alloc (World.ownsRow.alloc hown3 _) _) ⟨w1.heap.size, 0, none⟩ 1 1 [.string TX, .string name, .int .i64 rights] (by rfl) rfl (newsK (kF hgrow3)) (by intro u hu; simp at hu; rcases hu with rfl | rfl | rfl <;> rfl) (by omega) (by unfold maxLen; omega) (by omega) (by have e1 := hgrow3.size; simp at e1 ⊢ <;> omega) _ rfl ?_; intro g5 cap5 w5 hown5 hgrow5 hat5 hlt5; refine obk_then (w1.heap.size + 1) (kE hgrow3) hgrow5 (fun e => by have e1 := hq3 _ e; first | omega | (simp at e1; done) | (simp at e1; omega)) ?_; intro d1 d2 d3 d4 D5) | (refine step_append_lies _ (by rfl) (.tmp 44) (.tmp 49) 22 rfl _ 33 i0 _ 3 40 Tryd.underlying22 hi hz0 hz1 hz2 rfl (by decide) v3 (0 + n) ([] ++ keysL ks) (by rfl) (by first | exact hown3 | exact World.ownsRow.alloc hown3 _ | exact World.ownsRow.alloc (World.ownsRow.alloc hown3 _) _) ⟨w1.heap.size + 1, 0, none⟩ 1 1 [.string TX, .string name, .int .i64 rights] (by rfl) rfl (newsK (kE hgrow3)) (by intro u hu; simp at hu; rcases hu with rfl | rfl | rfl <;> rfl) (by omega) (by unfold maxLen; omega) (by omega) (by have e1 := hgrow3.size; simp at e1 ⊢ <;> omega) _ rfl ?_; intro g5 cap5 w5 hown5 hgrow5 hat5 hlt5; refine obk_then (w1.heap.size) (kF hgrow3) hgrow5 (fun e => by have e1 := hq3 _ e; first | omega | (simp at e1; done) | (simp at e1; omega)) ?_; intro d1 d2 d3 d4 D5) | (refine step_append_lies _ (by rfl) (.tmp 44) (.tmp 49) 22 rfl _ 33 i0 _ 3 40 Tryd.underlying22 hi hz0 hz1 hz2 rfl (by decide) v3 (0 + n) ([] ++ keysL ks) (by rfl) (by first | exact hown3 | exact World.ownsRow.alloc hown3 _ | exact World.ownsRow.alloc (World.ownsRow.alloc hown3 _) _) ⟨w1.heap.size, 0, none⟩ 1 1 [.string TX, .string name, .int .i64 rights] (by rfl) rfl (newsK (kD hgrow3)) (by intro u hu; simp at hu; rcases hu with rfl | rfl | rfl <;> rfl) (by omega) (by unfold maxLen; omega) (by omega) (by have e1 := hgrow3.size; simp at e1 ⊢ <;> omega) _ rfl ?_; intro g5 cap5 w5 hown5 hgrow5 hat5 hlt5) | fail))
      all_goals
        have hs5 : w1.heap.size ≤ w5.heap.size := by have e1 := hgrow5.size; first | omega | (simp at e1; omega)
        have HM5 : Hid (n + 1 = (ks ++ [(⟨TX, name, rights⟩ : Ky)]).length) := show _ = _ by rw [List.length_append, HN.out]; rfl
        have HL5 : Hid (keysL ks ++ [.string TX, .string name, .int .i64 rights] = keysL (ks ++ [⟨TX, name, rights⟩])) := show _ = _ by rw [keysL_append]; rfl
        rw [Nat.zero_add, List.nil_append] at hown5
        have HOW : Hid (w5.ownsRow _ 33 3 (.slice (some ⟨g5, 0, none⟩) (n + 1) cap5) (n + 1) _) := hown5
        clear hown5
        go_wp2_with fail
        go_meet
        case rel => first | exact mk_new HOW.out HM5.out HL5.out (by first | exact Nat.le_refl _ | (rw [hdr, hsz]; omega) | (rw [hdr, hsz, hsz]; omega)) hs5 (by assumption) | exact mk_set D5.out.1 HOW.out HM5.out HL5.out (by first | exact Nat.le_refl _ | (rw [hdr, hsz]; omega) | (rw [hdr, hsz, hsz]; omega)) (by omega) (ne_at hat5 D5.out.2.1 D5.out.2.2) (by assumption)
  case rest =>
    obtain ⟨ob, p5, n5, c5, rfl, hT5, hK5, hb5, hob⟩ := hcut
    have hR5 : T2 (w.heap.size + 1) 0 (.slice none 0 0) wc := (HT.out.2.1.below HB1.out.1).under hb5 (by have := HB1.out.2; omega)
    obtain ⟨o1, o2, -, -, -⟩ := hT5
    obtain ⟨r1, r2, r3, r4, -⟩ := hR5
    have HE : Hid (KRow ((wc.setCell ⟨w.heap.size + 1, 0, none⟩ (.int .i64 (serial + 1))).setCell ⟨w.heap.size + 1, 1, none⟩ (.slice p5 n5 c5)) w.heap.size (.slice p5 n5 c5) (ks ++ [⟨TX, name, rights⟩]) ∧ Below w.heap.size w ((wc.setCell ⟨w.heap.size + 1, 0, none⟩ (.int .i64 (serial + 1))).setCell ⟨w.heap.size + 1, 1, none⟩ (.slice p5 n5 c5)) ∧ T2 (w.heap.size + 1) (serial + 1) (.slice p5 n5 c5) ((wc.setCell ⟨w.heap.size + 1, 0, none⟩ (.int .i64 (serial + 1))).setCell ⟨w.heap.size + 1, 1, none⟩ (.slice p5 n5 c5))) := by
      have hB : Below w.heap.size w wc := (HT.out.2.2.2.1.trans (HB1.out.1.mono HT.out.2.2.2.1.size)).trans (hb5.mono (by have := HB1.out.2; omega))
      have hs := HB1.out.2
      refine ⟨((hK5.set (R := w.heap.size + 1) (by omega) 0 _).set (R := w.heap.size + 1) (by omega) 1 _).mono (by omega), (hB.setCell (p := ⟨w.heap.size + 1, 0, none⟩) (Nat.le_succ _) _).setCell (p := ⟨w.heap.size + 1, 1, none⟩) (Nat.le_succ _) _, ?_⟩
      exact T2.both (s := 0) (v := .slice none 0 0) ((HT.out.2.1.below HB1.out.1).under hb5 (by omega))
    have hne : ob ≠ w.heap.size + 1 := by have := HB1.out.2; omega
    clear hK5 hb5
    go_wp2_with fail
    obtain ⟨f1, f2, f3⟩ := HE.out
    refine bodyPost_ret (v := .tuple #[.agg #[.int .i64 (serial + 1), .slice p5 n5 c5], .string TX, .int .i64 0]) (by simp [results, Tryd.results6, go_sem, f3.1, f3.2.1]) rfl ⟨_, rfl, f1, f2⟩
end Go.Proofs.YtekjcmejnhhpaaaDoor
