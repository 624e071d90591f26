/- KeyText's two closures. -/
import Derived.Test.YtekjcmejnhhpaaaDoorMtMod
import Derived.Test.YtekjcmejnhhpaaaDoorMtHex
namespace Go.Proofs.YtekjcmejnhhpaaaDoor
open Go.RowKit

abbrev intO : Obj := .cells #[.bool false, .slice none 0 0] 44
theorem hat (W : World) (o : Obj) (k : Nat) : (W.alloc o).heap[k]? = if k = W.heap.size then some o else W.heap[k]? := by
  show (W.heap.push o)[k]? = _
  rw [Array.getElem?_push]
theorem hsz (W : World) (o : Obj) : (W.alloc o).heap.size = W.heap.size + 1 := by
  show (W.heap.push o).size = _
  exact Array.size_push _
theorem hdr (W : World) : W.drew.heap = W.heap := rfl
theorem ib1 (W : World) : Ib W.heap.size (W.alloc intO).drew := ⟨_, _, _, _, heap_alloc_new W _⟩
theorem ib2a (W : World) : Ib W.heap.size ((W.alloc intO).alloc intO).drew := ⟨false, none, 0, 0, by rw [hdr, hat, if_neg (by rw [hsz]; omega), hat, if_pos rfl]⟩
theorem ib2b (W : World) : Ib (W.heap.size + 1) ((W.alloc intO).alloc intO).drew := ⟨false, none, 0, 0, by rw [hdr, hat, if_pos (by rw [hsz])]⟩
theorem bl1 (W : World) : Below W.heap.size W (W.alloc intO).drew := ((Below.refl _ _).alloc (Nat.le_refl _) _).drew
theorem bl2 (W : World) : Below W.heap.size W ((W.alloc intO).alloc intO).drew := (((Below.refl _ _).alloc (Nat.le_refl _) _).alloc (by rw [hsz]; omega) _).drew
/-- the first closure: a number by its hexadecimal digits -/
theorem hexIn_any (D : List UInt8) (w : World) (hn0 : 0 < D.length) (hn6 : D.length ≤ 16) (hD : ∀ c ∈ D, isHex c) :
    Calls Tryd.prog 18 #[.string ⟨D.toArray⟩] w fun e w' => e = .returned (.pointer (some ⟨w.heap.size, 0, none⟩)) ∧ Sg w.heap.size false (hexV D) w' ∧ Below w.heap.size w w' := by
  have hst := setHex_any w.heap.size D (w.alloc intO) (Ib.born w) _ rfl hn0 hn6 hD
  have HB : Hid (Below w.heap.size w (w.alloc intO)) := (Below.refl _ _).alloc (Nat.le_refl _) _
  generalize (⟨D.toArray⟩ : ByteArray) = S at *
  go_enter Tryd.func18, Tryd.ntmps18
  go_wp2_with fail
  refine hst.mono ?_
  rintro e w2 ⟨rfl, h2, hg2⟩
  have HE : Hid (Sg w.heap.size false (hexV D) w2 ∧ Below w.heap.size w w2) := ⟨h2, HB.out.trans (grown_to_below hg2 (Nat.le_refl _) HB.out.size)⟩
  clear h2 hg2 hst
  go_wp2_with fail
  go_ret
  exact ⟨rfl, HE.out⟩
/-- the variable z -/
def Zv (zb p : Nat) (w : World) : Prop := w.heap[zb]? = some (.cells #[.pointer (some ⟨p, 0, none⟩)] 41 (0, 0))
def FoldOut (zb N : Nat) (w w' : World) : Prop := ∃ p, Zv zb p w' ∧ Sg p false N w' ∧ w.heap.size ≤ p ∧ Fr (fun k => k = zb) w w'
theorem xorG_any (b0 b1 b2 n m : Nat) (w : World) (h0 : Ib b0 w) (h1 : Sg b1 false n w) (h2 : Sg b2 false m w) (hs : Few n ∧ Few m) :
    Calls Tryd.prog 24 #[.pointer (some ⟨b0, 0, none⟩), .pointer (some ⟨b1, 0, none⟩), .pointer (some ⟨b2, 0, none⟩)] w fun e w' => e = .returned (.pointer (some ⟨b0, 0, none⟩)) ∧ Sg b0 false (n ^^^ m) w' ∧ w.grownBy w' (some b0) := by
  obtain ⟨x, a, k, c, h0⟩ := h0
  exact (xor_any b0 b1 b2 n m _ _ w h0 h1.int h2.int hs).mono fun e w' ⟨p, q, r⟩ => ⟨p, Sg.of q, r⟩
/-- midway -/
structure F2 (w : World) (zb p n m z : Nat) (W : World) : Prop where
  rs : Sg z false m W
  pp : Sg p false n W
  zv : Zv zb p W
  bel : Below w.heap.size w W
  zl : w.heap.size ≤ z
theorem F2.alloc {w W : World} {zb p n m z : Nat} (h : F2 w zb p n m z W) (o : Obj) : F2 w zb p n m z (W.alloc o) := by
  have hb : Below W.heap.size W (W.alloc o) := (Below.refl _ _).alloc (Nat.le_refl _) _
  exact ⟨h.rs.go hb, h.pp.go hb, (hb.block zb (Array.getElem?_eq_some_iff.1 h.zv).1).trans h.zv, h.bel.trans (hb.mono h.bel.size), h.zl⟩
theorem Zv.cell {zb p : Nat} {w : World} (h : Zv zb p w) : w.cell? ⟨zb, 0, none⟩ = some (.pointer (some ⟨p, 0, none⟩)) ∧ w.frozen? ⟨zb, 0, none⟩ = false := ⟨by rw [Lib.cell_of_heap h]; rfl, Lib.frozen_of_heap h 0⟩
theorem Zv.lt {zb p : Nat} {w : World} (h : Zv zb p w) : zb < w.heap.size := (Array.getElem?_eq_some_iff.1 h).1
theorem fold_end {zb p N b0 : Nat} {w w3 : World} (h : Sg b0 false N w3 ∧ Zv zb p w3 ∧ Below w.heap.size w w3 ∧ w.heap.size ≤ b0) (hz : zb < w.heap.size) : FoldOut zb N w (w3.setCell ⟨zb, 0, none⟩ (.pointer (some ⟨b0, 0, none⟩))) := by
  obtain ⟨h1, h2, h3, h4⟩ := h
  have hg := gset w3 zb 0 (.pointer (some ⟨b0, 0, none⟩))
  refine ⟨b0, Go.Joins.block_setCell h2 _, ?_, h4, (Fr.of h3).trans (Fr.ofG hg rfl)⟩
  obtain ⟨a, k, c, e1, e2⟩ := h1
  exact ⟨a, k, c, (hg.block b0 (Array.getElem?_eq_some_iff.1 e1).1 (fun e => by have := Option.some.inj e; omega)).trans e1, e2.setCell (by omega)⟩
set_option maxRecDepth 20000 in
set_option maxHeartbeats 8000000 in
theorem fold_any (zb p n s : Nat) (w : World) (hz : Zv zb p w) (hp : Sg p false n w) (hn : n < 18446744073709551616) (hs : s < 32) :
    Calls Tryd.prog 23 #[.int .u64 s, .pointer (some ⟨zb, 0, none⟩)] w fun e w' => e = .returned (.tuple #[]) ∧ FoldOut zb (n ^^^ n / 2 ^ s) w w' := by
  have hfew : Few n := Nat.lt_of_lt_of_le hn (by unfold lim; decide +kernel)
  have hfew2 : Few (n / 2 ^ s) := Nat.lt_of_le_of_lt (Nat.div_le_self _ _) hfew
  have hzl := hz.lt
  have hpl := hp.lt
  have HRS : Hid (∀ z W, Below w.heap.size w W → Ib z W → w.heap.size ≤ z → Calls Tryd.prog 25 #[.pointer (some ⟨z, 0, none⟩), .pointer (some ⟨p, 0, none⟩), .int .u64 s] W fun e w' => e = .returned (.pointer (some ⟨z, 0, none⟩)) ∧ Hid (F2 w zb p n (n / 2 ^ s) z w' ∧ ∀ k, Ib k W → k ≠ z → Ib k w') ∧ w'.cell? ⟨zb, 0, none⟩ = some (.pointer (some ⟨p, 0, none⟩))) := fun z W hb hi hl => (rshG_any z p n s W hi (hp.go hb) hfew hs).mono fun e w' ⟨h1, h2, h3⟩ => by
    have hz' : Zv zb p w' := (h3.block zb (Nat.lt_of_lt_of_le hzl hb.size) (fun e => by have := Option.some.inj e; omega)).trans ((hb.block zb hzl).trans hz)
    exact ⟨h1, ⟨⟨h2, (hp.go hb).other h3 (by omega) hi, hz', hb.trans (grown_to_below h3 hl hb.size), hl⟩, fun k hk hne => hk.other h3 hne⟩, hz'.cell.1⟩
  have HXR : Hid (∀ b0 z W, F2 w zb p n (n / 2 ^ s) z W → Ib b0 W → b0 ≠ z → w.heap.size ≤ b0 → Calls Tryd.prog 24 #[.pointer (some ⟨b0, 0, none⟩), .pointer (some ⟨p, 0, none⟩), .pointer (some ⟨z, 0, none⟩)] W fun e w' => e = .returned (.pointer (some ⟨b0, 0, none⟩)) ∧ Hid (Sg b0 false (n ^^^ n / 2 ^ s) w' ∧ Zv zb p w' ∧ Below w.heap.size w w' ∧ w.heap.size ≤ b0) ∧ w'.cell? ⟨zb, 0, none⟩ = some (.pointer (some ⟨p, 0, none⟩)) ∧ w'.frozen? ⟨zb, 0, none⟩ = false) := fun b0 z W h hi hne hl => (xorG_any b0 p z n (n / 2 ^ s) W hi h.pp h.rs ⟨hfew, hfew2⟩).mono fun e w' ⟨h1, h2, h3⟩ => by
    have hz' : Zv zb p w' := (h3.block zb h.zv.lt (fun e => by have := Option.some.inj e; omega)).trans h.zv
    exact ⟨h1, ⟨h2, hz', h.bel.trans (grown_to_below h3 hl h.bel.size), hl⟩, hz'.cell⟩
  have z0 := hz.cell.1
  have HZL : Hid (zb < w.heap.size) := hzl
  generalize n ^^^ n / 2 ^ s = N at *
  generalize n / 2 ^ s = m at *
  have hzn : zb ≠ w.heap.size := by omega
  have hzn1 : zb ≠ w.heap.size + 1 := by omega
  clear hfew hfew2 hz hp hn hs hpl
  go_enter Tryd.func23, Tryd.ntmps23
  go_wp2_with fail
  go_region_with ((first
    | (go_at_call 25; refine (HRS.out _ _ (by first | exact bl2 w | exact bl1 w) (by first | exact ib2b w | exact ib2a w | exact ib1 w) (by first | exact Nat.le_refl _ | exact Nat.le_succ _)).mono ?_; rintro e w2 ⟨rfl, H2, z2⟩; have hs2 := H2.out.1.bel.size; have hzl2 : zb < w2.heap.size := (by omega); have hzn2 : zb ≠ w2.heap.size := (by omega))
    | (go_at_call 24; refine (HXR.out _ _ _ (by first | exact H2.out.1 | exact H2.out.1.alloc _) (by first | exact H2.out.2 _ (ib2a w) (by omega) | exact H2.out.2 _ (ib2b w) (by omega) | exact Ib.born _) (by first | omega | (have := H2.out.1.rs.lt; omega)) (by first | exact Nat.le_refl _ | exact Nat.le_succ _ | exact hs2)).mono ?_; rintro e w3 ⟨rfl, H3, z3, f3⟩)))
  all_goals
    have HE : Hid (FoldOut zb N w (w3.setCell ⟨zb, 0, none⟩ (.pointer (some ⟨_, 0, none⟩)))) := fold_end H3.out HZL.out
    clear z0 z2 z3 f3 HRS HXR H2 H3
    go_wp2_with fail
    go_end0
    exact ⟨rfl, HE.out⟩
end Go.Proofs.YtekjcmejnhhpaaaDoor
