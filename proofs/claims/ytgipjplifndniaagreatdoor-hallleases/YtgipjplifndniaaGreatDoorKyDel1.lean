/- Keys put into a row, a row cleared and cut. -/
import Derived.Test.YtgipjplifndniaaGreatDoorKyCopies
import Derived.Shelf.SlicesQ.IndexFunc
import Derived.Deep.Upon
import Derived.Laws.IdiomCopy
namespace Go.Proofs.YtgipjplifndniaaGreatDoor.K
open Go.RowKit

theorem predText_any (t : ByteArray) (B : Nat) (x : Ky) (W : World) (hc : W.cell? ⟨B, 0, none⟩ = some (.string t)) (hB : B < W.heap.size) :
    Calls Tryz.prog 98 (#[x.val] ++ #[.pointer (some ⟨B, 0, none⟩)]) W fun e w' => e = .returned (.bool (decide (x.text = t))) ∧ Below W.heap.size W w' := by
  obtain ⟨tx, nm, rt⟩ := x
  show Calls _ _ #[.agg #[.string tx, .string nm, .int .i64 rt], .pointer (some ⟨B, 0, none⟩)] W _
  have hne : B ≠ W.heap.size := by omega
  have hbq := beq_ba tx t
  go_enter Tryz.func98, Tryz.ntmps98
  go_wp2_with fail
  go_ret
  exact ⟨by simp, (Below.refl _ _).alloc (Nat.le_refl _) _⟩

theorem predName_any (t : ByteArray) (B : Nat) (x : Ky) (W : World) (hc : W.cell? ⟨B, 0, none⟩ = some (.string t)) (hB : B < W.heap.size) :
    Calls Tryz.prog 102 (#[x.val] ++ #[.pointer (some ⟨B, 0, none⟩)]) W fun e w' => e = .returned (.bool (decide (x.name = t))) ∧ Below W.heap.size W w' := by
  obtain ⟨tx, nm, rt⟩ := x
  show Calls _ _ #[.agg #[.string tx, .string nm, .int .i64 rt], .pointer (some ⟨B, 0, none⟩)] W _
  have hne : B ≠ W.heap.size := by omega
  have hbq := beq_ba nm t
  go_enter Tryz.func102, Tryz.ntmps102
  go_wp2_with fail
  go_ret
  exact ⟨by simp, (Below.refl _ _).alloc (Nat.le_refl _) _⟩

def idxP (p : Ky → Bool) (ks : List Ky) : Int :=
  match ks.findIdx? p with
  | some i => (i : Int)
  | none => -1
theorem idxP_hit {p : Ky → Bool} {ks : List Ky} {j : Nat} {x : Ky} (hx : ks[j]? = some x) (hp : p x = true) (hl : ∀ i y, i < j → ks[i]? = some y → p y = false) : idxP p ks = j := by
  unfold idxP
  have : ks.findIdx? p = some j := by
    obtain ⟨h1, h2⟩ := List.getElem?_eq_some_iff.1 hx
    rw [List.findIdx?_eq_some_iff_getElem]
    refine ⟨h1, by rw [h2]; exact hp, fun i hi => ?_⟩
    rw [hl i _ hi (List.getElem?_eq_getElem (by omega))]
    simp
  rw [this]
theorem idxP_miss {p : Ky → Bool} {ks : List Ky} (hl : ∀ (i : Nat) y, ks[i]? = some y → p y = false) : idxP p ks = -1 := by
  unfold idxP
  have : ks.findIdx? p = none := by
    rw [List.findIdx?_eq_none_iff]
    intro x hx
    obtain ⟨i, hi⟩ := List.mem_iff_getElem?.1 hx
    exact hl i x hi
  rw [this]

set_option maxRecDepth 20000 in
set_option maxHeartbeats 1000000 in
theorem indexFunc_any (g : Nat) (lb : Array Value) (eg : ∀ args w, (callFunc g args).run Tryz.prog w = .ok (.enter g args) w) (p : Ky → Bool) (v : Value) (ks : List Ky) (w : World) (h : HK w v ks)
    (hp : ∀ (W : World) (x : Ky), Below w.heap.size w W → Calls Tryz.prog g (#[x.val] ++ lb) W fun e w' => e = .returned (.bool (p x)) ∧ Below w.heap.size w w') :
    Calls Tryz.prog 97 #[v, .func (.func g) #[] lb] w fun e w' => e = .returned (.int .i64 (idxP p ks)) ∧ Below w.heap.size w w' := by
  obtain ⟨pp, cap, rfl, hcap, hcm, -, hrow⟩ := h
  obtain ⟨n, hn⟩ : ∃ n, n = ks.length := ⟨_, rfl⟩
  rw [← hn] at hcap hrow ⊢
  have HROW : Hid (n = 0 ∨ ∃ b off, pp = some ⟨b, off, none⟩ ∧ b < w.heap.size ∧ ∀ k x, ks[k]? = some x → KAt w b (off + k * 3) x) := hrow
  have HN : Hid (n = ks.length) := hn
  have HP : Hid (∀ (W : World) (x : Ky), Below w.heap.size w W → Calls Tryz.prog g (#[x.val] ++ lb) W fun e w' => e = .returned (.bool (p x)) ∧ Below w.heap.size w w') := hp
  clear hrow hn hp
  go_enter Tryz.func97, Tryz.ntmps97
  go_wp2_with fail
  go_loopg [5, 8] n (fun gk _ s8 wr => ∃ j : Nat, j + gk = n ∧ s8 = .int .i64 j ∧ Below w.heap.size w wr ∧ (∀ i y, i < j → ks[i]? = some y → p y = false))
  case atStart => exact ⟨0, by omega, rfl, Below.refl _ _, fun i y hi => absurd hi (by omega)⟩
  case round =>
    obtain ⟨j, hj, rfl, hbr, hall⟩ := hrel
    have HJ : Hid (j + gk = n) := hj
    have HA : Hid (∀ i y, i < j → ks[i]? = some y → p y = false) := hall
    have HBR : Hid (Below w.heap.size w wr) := hbr
    have hjn : j ≤ n := by omega
    clear hj hall
    by_cases hlt : j < n
    · obtain ⟨b, off, rfl, hbl, hc⟩ : ∃ b off, pp = some ⟨b, off, none⟩ ∧ b < w.heap.size ∧ ∀ k x, ks[k]? = some x → KAt w b (off + k * 3) x := by
        rcases HROW.out with h | h
        · omega
        · exact h
      have hjk : j < ks.length := by have := HN.out; omega
      obtain ⟨x, hx⟩ : ∃ x, x = ks[j] := ⟨_, rfl⟩
      have hxg : ks[j]? = some x := by rw [hx]; exact List.getElem?_eq_getElem hjk
      obtain ⟨c0, c1, c2⟩ := (hc j x hxg).keep (hbr.block b hbl)
      have cc := HP.out wr x hbr
      have HX : Hid (ks[j]? = some x) := hxg
      clear hc hxg hx hbr
      have HPX : Hid (∀ b, p x = b → p x = b) := fun _ h => h
      cases hq : p x with
      | true =>
        rw [hq] at cc
        have HQ : Hid (p x = true) := hq
        clear hq
        obtain ⟨tx, nm, rt⟩ := x
        simp only at c0 c1 c2
        simp only [Ky.val] at cc
        have hi1 : (0 : Int) ≤ (j : Int) := by omega
        have hi2 : (j : Int) < (n : Int) := by omega
        go_wp2_with (go_at_fn g; refine cc.mono ?_; rintro e w2 ⟨rfl, hb2⟩)
        go_ret
        exact ⟨by rw [idxP_hit HX.out HQ.out HA.out]; rfl, hb2⟩
      | false =>
        rw [hq] at cc
        have HQ : Hid (p x = false) := hq
        clear hq
        obtain ⟨tx, nm, rt⟩ := x
        simp only at c0 c1 c2
        simp only [Ky.val] at cc
        have hi1 : (0 : Int) ≤ (j : Int) := by omega
        have hi2 : (j : Int) < (n : Int) := by omega
        go_wp2_with (go_at_fn g; refine cc.mono ?_; rintro e w2 ⟨rfl, hb2⟩)
        go_roundg (gk - 1)
        case measure => have := HJ.out; omega
        case rel =>
          have h1 := HJ.out
          refine ⟨j + 1, by omega, by go_num, hb2, fun i y hi hy => ?_⟩
          rcases Nat.lt_succ_iff_lt_or_eq.1 hi with h | h
          · exact HA.out i y h hy
          · subst h
            rw [HX.out] at hy
            cases hy
            exact HQ.out
    · have hq : ¬ (j : Int) < (n : Int) := by omega
      have HE : Hid (j = n) := by show j = n; omega
      go_wp2_with fail
      go_ret
      refine ⟨?_, HBR.out⟩
      rw [idxP_miss fun i y hy => HA.out i y (by have := (List.getElem?_eq_some_iff.1 hy).1; have := HE.out; have := HN.out; omega) hy]
      rfl
end Go.Proofs.YtgipjplifndniaaGreatDoor.K

namespace Go.Proofs.YtgipjplifndniaaGreatDoor.K
open Go.RowKit

def lacks (a b : Int) : Bool := bits BinOp.and IntKind.i64 a b != b
def findF (ks : List Ky) (text : ByteArray) (rights : Int) : ByteArray × Int :=
  match ks.find? (fun k => decide (k.text = text)) with
  | none => (⟨#[]⟩, 6)
  | some k => if lacks k.rights rights = true then (⟨#[]⟩, 10) else (k.name, 0)
theorem idx_find {p : Ky → Bool} : ∀ ks : List Ky, (ks.find? p = none ∧ idxP p ks = -1) ∨ ∃ (j : Nat) (k : Ky), ks.find? p = some k ∧ ks[j]? = some k ∧ idxP p ks = (j : Int)
  | [] => .inl ⟨rfl, rfl⟩
  | a :: r => by
    by_cases h : p a = true
    · exact .inr ⟨0, a, by simp [h], rfl, by simp [idxP, List.findIdx?_cons, h]⟩
    · have hn : p a = false := by simpa using h
      rcases idx_find r with ⟨h1, h2⟩ | ⟨j, k, h1, h2, h3⟩
      · left
        refine ⟨by rw [List.find?_cons, hn]; exact h1, ?_⟩
        have h4 : r.findIdx? p = none := by
          unfold idxP at h2
          cases hf : r.findIdx? p with
          | none => rfl
          | some i => rw [hf] at h2; simp at h2
        simp [idxP, List.findIdx?_cons, hn, h4]
      · right
        refine ⟨j + 1, k, by rw [List.find?_cons, hn]; exact h1, by simpa using h2, ?_⟩
        have h4 : r.findIdx? p = some j := by
          unfold idxP at h3
          cases hf : r.findIdx? p with
          | none => rw [hf] at h3; simp at h3
          | some i => rw [hf] at h3; simp at h3; rw [Int.ofNat_inj.1 h3]
        simp [idxP, List.findIdx?_cons, hn, h4]

def T2 (R : Nat) (s : Int) (v : Value) (w : World) : Prop :=
  w.cell? ⟨R, 0, none⟩ = some (.int .i64 s) ∧ w.cell? ⟨R, 1, none⟩ = some v ∧ w.frozen? ⟨R, 0, none⟩ = false ∧ w.frozen? ⟨R, 1, none⟩ = false ∧ R < w.heap.size
theorem T2.born (w : World) (s : Int) (v : Value) (t : TypeId) : T2 w.heap.size s v (w.alloc (.cells #[.int .i64 s, v] t)) :=
  ⟨by rw [World.cell?_alloc_new]; rfl, by rw [World.cell?_alloc_new]; rfl, by simp [World.frozen?_alloc_new], by simp [World.frozen?_alloc_new], by simp⟩
theorem T2.keep {R : Nat} {s : Int} {v : Value} {w w' : World} (h : T2 R s v w) (hb : w'.heap[R]? = w.heap[R]?) (hs : w.heap.size ≤ w'.heap.size) : T2 R s v w' := by
  obtain ⟨h1, h2, h3, h4, h5⟩ := h
  exact ⟨(World.cell?_of_block (a := ⟨R, 0, none⟩) hb).trans h1, (World.cell?_of_block (a := ⟨R, 1, none⟩) hb).trans h2, (World.frozen?_of_block (a := ⟨R, 0, none⟩) hb).trans h3, (World.frozen?_of_block (a := ⟨R, 1, none⟩) hb).trans h4, by omega⟩
theorem T2.below {R : Nat} {s : Int} {v : Value} {w w' : World} (h : T2 R s v w) (hb : Below w.heap.size w w') : T2 R s v w' := h.keep (hb.block R h.2.2.2.2) hb.size
theorem T2.under {R B : Nat} {s : Int} {v : Value} {w w' : World} (h : T2 R s v w) (hb : Below B w w') (hB : R < B) : T2 R s v w' := h.keep (hb.block R hB) hb.size

set_option maxRecDepth 20000 in
set_option maxHeartbeats 1000000 in
theorem find_any (serial : Int) (v : Value) (ks : List Ky) (text : ByteArray) (rights : Int) (w : World) (h : HK w v ks) (hok : ∀ k ∈ ks, k.ok) :
    Calls Tryz.prog 55 #[.agg #[.int .i64 serial, v], .string text, .int .i64 rights] w fun e w' => e = .returned (.tuple #[.string (findF ks text rights).1, .int .i64 (findF ks text rights).2]) ∧ Below w.heap.size w w' := by
  have t0 := T2.born w serial v 54
  have hb0 : Below w.heap.size w (w.alloc (.cells #[.int .i64 serial, v] 54)) := (Below.refl _ _).alloc (Nat.le_refl _) _
  have hb1 : Below (w.alloc (.cells #[.int .i64 serial, v] 54)).heap.size (w.alloc (.cells #[.int .i64 serial, v] 54)) ((w.alloc (.cells #[.int .i64 serial, v] 54)).alloc (.cells #[.string text] 9)) := (Below.refl _ _).alloc (Nat.le_refl _) _
  have t1 := t0.below hb1
  have hb : Below w.heap.size w ((w.alloc (.cells #[.int .i64 serial, v] 54)).alloc (.cells #[.string text] 9)) := hb0.trans (hb1.mono hb0.size)
  have hs : ((w.alloc (.cells #[.int .i64 serial, v] 54)).alloc (.cells #[.string text] 9)).heap.size = w.heap.size + 2 := by simp
  have ht : ((w.alloc (.cells #[.int .i64 serial, v] 54)).alloc (.cells #[.string text] 9)).cell? ⟨w.heap.size + 1, 0, none⟩ = some (.string text) := by
    simp
  clear t0 hb0 hb1
  generalize hw0 : (w.alloc (.cells #[.int .i64 serial, v] 54)).alloc (.cells #[.string text] 9) = w0 at *
  have hK0 := h.below hb
  have eg : ∀ args w, (callFunc 98 args).run Tryz.prog w = .ok (.enter 98 args) w := enters_of Tryz.func98 (by kernel_rfl) rfl
  have ci := indexFunc_any 98 #[.pointer (some ⟨w.heap.size + 1, 0, none⟩)] eg (fun k => decide (k.text = text)) v ks w0 hK0 (fun W x hbW => (predText_any text (w.heap.size + 1) x W ((hbW.cell (p := ⟨w.heap.size + 1, 0, none⟩) (by show w.heap.size + 1 < _; omega)).trans ht) (by have := hbW.size; omega)).mono fun e w' h => ⟨h.1, hbW.trans (h.2.mono hbW.size)⟩)
  clear eg ht
  have HB : Hid (Below w.heap.size w w0) := hb
  have HK0 : Hid (HK w0 v ks) := hK0
  have HT : Hid (T2 w.heap.size serial v w0) := t1
  have HOK : Hid (∀ k ∈ ks, k.ok) := hok
  obtain ⟨u1, u2, -, -, -⟩ := t1
  clear h hb hK0 hok
  rcases idx_find (p := fun k => decide (k.text = text)) ks with ⟨h1, h2⟩ | ⟨j, k, h1, h2, h3⟩
  · have hf : findF ks text rights = (⟨#[]⟩, 6) := by unfold findF; rw [h1]
    rw [hf]
    rw [h2] at ci
    clear h1 h2 hf
    go_enter Tryz.func55, Tryz.ntmps55
    go_wp2_with fail
    refine ci.mono ?_
    rintro e w1 ⟨rfl, hb1⟩
    go_wp2_with fail
    go_ret2
    exact ⟨rfl, HB.out.trans (hb1.mono HB.out.size)⟩
  · have hf : findF ks text rights = if lacks k.rights rights = true then (⟨#[]⟩, 10) else (k.name, 0) := by unfold findF; rw [h1]
    rw [hf]
    rw [h3] at ci
    obtain ⟨p, cap, rfl, hcap, hcm, -, hrow⟩ := HK0.out
    obtain ⟨hjl, -⟩ := List.getElem?_eq_some_iff.1 h2
    obtain ⟨b, off, rfl, hbl, hc⟩ : ∃ b off, p = some ⟨b, off, none⟩ ∧ b < w0.heap.size ∧ ∀ k x, ks[k]? = some x → KAt w0 b (off + k * 3) x := by
      rcases hrow with h | h
      · omega
      · exact h
    have HKA : Hid (KAt w0 b (off + j * 3) k ∧ b < w0.heap.size) := ⟨hc j k h2, hbl⟩
    have cn := fun W => clone_any k.name W (by have := (HOK.out k (List.mem_of_getElem? h2)).2; omega)
    have hjj : ¬ (j : Int) < 0 := by omega
    have hjj2 : (j : Int) < (ks.length : Int) := by omega
    have hjj0 : (0 : Int) ≤ (j : Int) := by omega
    clear hrow hc h1 h2 h3 hf hbl hjl HOK HK0
    generalize ks.length = n at *
    have HLT : Hid (w.heap.size < w0.heap.size) := HT.out.2.2.2.2
    clear hs
    by_cases hl : lacks k.rights rights = true
    · rw [if_pos hl]
      have hl2 : (bits BinOp.and IntKind.i64 k.rights rights != rights) = true := hl
      clear hl
      go_enter Tryz.func55, Tryz.ntmps55
      go_wp2_with fail
      refine ci.mono ?_
      rintro e w1 ⟨rfl, hb1⟩
      clear hw0 u1 u2
      obtain ⟨u1, u2, -, -, -⟩ := HT.out.below hb1
      obtain ⟨k0, k1, k2⟩ := HKA.out.1.keep (hb1.block b HKA.out.2)
      obtain ⟨kt, kn, kr⟩ := k
      simp only at k0 k1 k2 hl2
      go_wp2_with fail
      go_ret2
      have h3 := HB.out.trans (hb1.mono HB.out.size)
      exact ⟨rfl, h3.alloc h3.size _⟩
    · rw [if_neg hl]
      have hl2 : (bits BinOp.and IntKind.i64 k.rights rights != rights) = false := by simpa [lacks] using hl
      clear hl
      go_enter Tryz.func55, Tryz.ntmps55
      go_wp2_with fail
      refine ci.mono ?_
      rintro e w1 ⟨rfl, hb1⟩
      clear hw0 u1 u2
      obtain ⟨u1, u2, -, -, -⟩ := HT.out.below hb1
      obtain ⟨k0, k1, k2⟩ := HKA.out.1.keep (hb1.block b HKA.out.2)
      obtain ⟨kt, kn, kr⟩ := k
      simp only at k0 k1 k2 hl2 cn
      go_wp2_with fail
      refine (cn _).mono ?_
      rintro e w2 ⟨rfl, hb2⟩
      go_wp2_with fail
      go_ret2
      have h3 := HB.out.trans (hb1.mono HB.out.size)
      have h4 := h3.alloc h3.size (.cells #[.string kt, .string kn, .int .i64 kr] 157)
      exact ⟨rfl, h4.trans (hb2.mono h4.size)⟩
end Go.Proofs.YtgipjplifndniaaGreatDoor.K

namespace Go.Proofs.YtgipjplifndniaaGreatDoor.K
open Go.RowKit

theorem T2.put {R : Nat} {s : Int} {v : Value} {w : World} (h : T2 R s v w) (u : Value) : T2 R s u (w.setCell ⟨R, 1, none⟩ u) := by
  obtain ⟨h1, h2, h3, h4, h5⟩ := h
  refine ⟨?_, ?_, ?_, ?_, ?_⟩
  · simp [go_sem, h1]
  · simp [go_sem, h2]
  · simp [go_sem, h3]
  · simp [go_sem, h4]
  · simp [World.setCell]; exact h5
theorem T2.both {R : Nat} {s s' : Int} {v v' : Value} {w : World} (h : T2 R s v w) : T2 R s' v' ((w.setCell ⟨R, 0, none⟩ (.int .i64 s')).setCell ⟨R, 1, none⟩ v') := by
  obtain ⟨h1, h2, h3, h4, h5⟩ := h
  refine ⟨?_, ?_, ?_, ?_, ?_⟩
  · simp [go_sem, h1]
  · simp [go_sem, h2]
  · simp [go_sem, h3]
  · simp [go_sem, h4]
  · simp [World.setCell]; exact h5

theorem grown_set (w : World) (R i : Nat) (v : Value) : w.grownBy (w.setCell ⟨R, i, none⟩ v) (some R) :=
  ⟨rfl, rfl, rfl, by simp [World.setCell], fun k _ hne => Below.heap_setCell _ _ _ _ (fun e => hne (by rw [e]))⟩
theorem KRow.set {w : World} {B : Nat} {u : Value} {ks : List Ky} (h : KRow w B u ks) {R : Nat} (hR : R < B) (i : Nat) (v : Value) : KRow (w.setCell ⟨R, i, none⟩ v) B u ks :=
  World.ownsRow.kept h (grown_set w R i v) (Or.inr fun e => by have := (h.lt R e).1; omega)
theorem KRow.mono {w : World} {B B' : Nat} {u : Value} {ks : List Ky} (h : KRow w B u ks) (hB : B' ≤ B) : KRow w B' u ks := by
  refine ⟨h.1, ?_⟩
  rcases h.2 with h | ⟨g, cap, cur, hv, hb, rest⟩
  · exact .inl h
  · exact .inr ⟨g, cap, cur, hv, Nat.le_trans hB hb, rest⟩

theorem KRow.form {w : World} {B : Nat} {v : Value} {ks : List Ky} (h : KRow w B v ks) : ∃ p n c, v = .slice p n c := by
  rcases h.2 with ⟨h, _⟩ | ⟨g, cap, cur, h, _⟩
  · exact ⟨_, _, _, h⟩
  · exact ⟨_, _, _, h⟩

end Go.Proofs.YtgipjplifndniaaGreatDoor.K

namespace Go.Proofs.YtgipjplifndniaaGreatDoor.K
open Go.RowKit

theorem keysL_set (d : List Ky) (i : Nat) (x : Ky) (hi : i < d.length) : keysL (d.set i x) = (((keysL d).set (i * 3) (.string x.text)).set (i * 3 + 1) (.string x.name)).set (i * 3 + 2) (.int .i64 x.rights) := by
  induction d generalizing i with
  | nil => simp at hi
  | cons a r ih =>
    have hc : ∀ (y : Ky) (l : List Ky), keysL (y :: l) = .string y.text :: .string y.name :: .int .i64 y.rights :: keysL l := fun y l => rfl
    cases i with
    | zero => rw [List.set_cons_zero, hc, hc]; rfl
    | succ i =>
      rw [List.set_cons_succ, hc, hc, ih i (by simpa using hi), show (i + 1) * 3 = i * 3 + 1 + 1 + 1 by omega]
      simp only [List.set_cons_succ]
def putAt (w : World) (g o : Nat) (x : Ky) : World := ((w.setCell ⟨g, o, none⟩ (.string x.text)).setCell ⟨g, o + 1, none⟩ (.string x.name)).setCell ⟨g, o + 2, none⟩ (.int .i64 x.rights)
theorem KRow.put {w : World} {B g n cap : Nat} {d : List Ky} (h : KRow w B (.slice (some ⟨g, 0, none⟩) n cap) d) (i : Nat) (x : Ky) (hi : i < d.length) : KRow (putAt w g (i * 3) x) B (.slice (some ⟨g, 0, none⟩) n cap) (d.set i x) := by
  rcases h.2 with ⟨h0, _⟩ | ⟨g', cap', cur, hv, hb, hg, h1, h2, hs, ht⟩
  · cases h0
  · cases hv
    refine ⟨by rw [keysL_len], .inr ⟨g, cap, ((cur.setIfInBounds (i * 3) (.string x.text)).setIfInBounds (i * 3 + 1) (.string x.name)).setIfInBounds (i * 3 + 2) (.int .i64 x.rights), by rw [List.length_set], hb, Go.Joins.block_setCell (Go.Joins.block_setCell (Go.Joins.block_setCell hg _) _) _, by rw [List.length_set]; exact h1, h2, by simp [hs], ?_⟩⟩
    rw [keysL_set d i x hi, List.length_set, ← ht]
    simp only [Array.toList_setIfInBounds, List.take_set]
theorem putAt_far {w : World} {g o : Nat} {x : Ky} (k : Nat) (h : k ≠ g) : (putAt w g o x).heap[k]? = w.heap[k]? := by
  unfold putAt
  rw [Below.heap_setCell _ _ _ _ h, Below.heap_setCell _ _ _ _ h, Below.heap_setCell _ _ _ _ h]
theorem putAt_size {w : World} {g o : Nat} {x : Ky} : (putAt w g o x).heap.size = w.heap.size := by unfold putAt; simp [World.setCell]
theorem Only.putAt {g : Nat} {w w' : World} (h : Only g w w') (o : Nat) (x : Ky) : Only g w (putAt w' g o x) :=
  ⟨h.os, h.tape, h.output, by rw [putAt_size]; exact h.size, fun k hk hne => by rw [putAt_far k hne]; exact h.block k hk hne⟩
theorem Only.setCells {b : Nat} {w w' : World} (h : Only b w w') (o : Nat) (vs : List Value) : Only b w (w'.setCells b o vs) := by
  induction vs generalizing o w' with
  | nil => exact h
  | cons v r ih => exact ih (h.trans (Only.set w' o v)) (o + 1)
def zeroKy : Array Value := #[.string ⟨#[]⟩, .string ⟨#[]⟩, .int .i64 0]
theorem heap_setCells {w : World} {g : Nat} {cur : Array Value} {t : TypeId} {fr : Nat × Nat} (vs : List Value) (o : Nat) (h : w.heap[g]? = some (.cells cur t fr)) : ∃ cur', (w.setCells g o vs).heap[g]? = some (.cells cur' t fr) ∧ cur'.size = cur.size ∧ ∀ j, j < o → cur'[j]? = cur[j]? := by
  induction vs generalizing o w cur with
  | nil => exact ⟨cur, h, rfl, fun _ _ => rfl⟩
  | cons v r ih =>
    obtain ⟨cur', h1, h2, h3⟩ := ih (o + 1) (Go.Joins.block_setCell (i := o) h v)
    refine ⟨cur', h1, by rw [h2]; simp, fun j hj => ?_⟩
    rw [h3 j (by omega), Array.getElem?_setIfInBounds_ne (by omega)]
theorem KRow.cut {w : World} {B g n cap : Nat} {d : List Ky} (h : KRow w B (.slice (some ⟨g, 0, none⟩) n cap) d) (i : Nat) (hi : i ≤ d.length) (vs : List Value) : KRow (w.setCells g (i * 3) vs) B (.slice (some ⟨g, 0, none⟩) i cap) (d.take i) := by
  rcases h.2 with ⟨h0, _⟩ | ⟨g', cap', cur, hv, hb, hg, h1, h2, hs, ht⟩
  · cases h0
  · cases hv
    obtain ⟨cur', e1, e2, e3⟩ := heap_setCells vs (i * 3) hg
    have hl : (d.take i).length = i := by rw [List.length_take]; omega
    refine ⟨by rw [keysL_len], .inr ⟨g, cap, cur', by rw [hl], hb, e1, by omega, h2, by rw [e2, hs], ?_⟩⟩
    rw [hl]
    have hk : keysL (d.take i) = (keysL d).take (i * 3) := by
      have := keysL_append (d.take i) (d.drop i)
      rw [List.take_append_drop] at this
      have hkl : (keysL (d.take i)).length = i * 3 := by rw [keysL_len, hl]
      have h3 : (keysL (d.take i) ++ keysL (d.drop i)).take (i * 3) = keysL (d.take i) := by rw [← hkl, List.take_left]
      rw [← this] at h3
      exact h3.symm
    rw [hk, ← ht, List.take_take, Nat.min_eq_left (by omega)]
    apply List.ext_getElem?
    intro j
    rw [List.getElem?_take, List.getElem?_take]
    by_cases hj : j < i * 3
    · rw [if_pos hj, if_pos hj]; simpa using e3 j hj
    · rw [if_neg hj, if_neg hj]
theorem KRow.free {w : World} {B g n cap : Nat} {d : List Ky} (h : KRow w B (.slice (some ⟨g, 0, none⟩) n cap) d) (j : Nat) (hj : j < d.length * 3) : (w.cell? ⟨g, j, none⟩).isSome = true ∧ w.frozen? ⟨g, j, none⟩ = false := by
  rcases h.2 with ⟨h0, _⟩ | ⟨g', cap', cur, hv, hb, hg, h1, h2, hs, ht⟩
  · cases h0
  · cases hv
    have hjc : j < cur.size := by rw [hs]; omega
    refine ⟨?_, by simp [World.frozen?, hg]⟩
    rw [Lib.cell_of_heap hg, Array.getElem?_eq_getElem hjc]
    rfl
theorem KRow.at_ {w : World} {B g n cap : Nat} {d : List Ky} (h : KRow w B (.slice (some ⟨g, 0, none⟩) n cap) d) (k : Nat) (x : Ky) (hk : d[k]? = some x) : KAt w g (k * 3) x := by
  obtain ⟨p, cap', hv, _, _, _, h4⟩ := h.hk
  cases hv
  rcases h4 with h4 | ⟨b, off, e, _, hc⟩
  · have := (List.getElem?_eq_some_iff.1 hk).1; omega
  · cases e
    have := hc k x hk
    rwa [Nat.zero_add] at this
theorem KRow.cells {w : World} {B g n cap : Nat} {d : List Ky} (h : KRow w B (.slice (some ⟨g, 0, none⟩) n cap) d) (k : Nat) (hk : k < d.length) : ∃ x : Ky, w.cell? ⟨g, k * 3, none⟩ = some (.string x.text) ∧ w.cell? ⟨g, k * 3 + 1, none⟩ = some (.string x.name) ∧ w.cell? ⟨g, k * 3 + 2, none⟩ = some (.int .i64 x.rights) := ⟨d[k], h.at_ k _ (List.getElem?_eq_getElem hk)⟩
theorem KRow.frees {w : World} {B g n cap : Nat} {d : List Ky} (h : KRow w B (.slice (some ⟨g, 0, none⟩) n cap) d) (k : Nat) (hk : k < d.length) : w.frozen? ⟨g, k * 3, none⟩ = false ∧ w.frozen? ⟨g, k * 3 + 1, none⟩ = false ∧ w.frozen? ⟨g, k * 3 + 2, none⟩ = false := ⟨(h.free _ (by omega)).2, (h.free _ (by omega)).2, (h.free _ (by omega)).2⟩
theorem clear_run (w : World) (ty : TypeId) (b o n c : Nat) (hn : 0 < n) (hc : ∀ j, j < n * 3 → (w.cell? ⟨b, o + j, none⟩).isSome = true ∧ w.frozen? ⟨b, o + j, none⟩ = false) :
    (Builtin.clear_ #[52] ty #[.slice (some ⟨b, o, none⟩) n c]).run Tryz.prog w = .ok (.tuple #[]) (w.setCells b o (Builtin.zeroCells zeroKy n).toList) := by
  have hl : (Builtin.zeroCells zeroKy n).toList.length = n * 3 := by
    rw [Array.length_toList, size_zeroCells]; rfl
  have h1 : ∀ v ∈ (Builtin.zeroCells zeroKy n).toList, v.oneCell' = true := by
    intro v hv
    simp only [Builtin.zeroCells, Array.toList_map, List.mem_map] at hv
    obtain ⟨i, _, rfl⟩ := hv
    have : i % 3 < 3 := Nat.mod_lt _ (by omega)
    rcases (by omega : i % 3 = 0 ∨ i % 3 = 1 ∨ i % 3 = 2) with h | h | h <;> simp [h, zeroKy] <;> rfl
  have hst := run_storeCells_cells (P := Tryz.prog) b o (Builtin.zeroCells zeroKy n).toList 0 w (by rw [hl]; simpa using fun j hj => (hc j hj).1) (by rw [hl]; simpa using fun j hj => (hc j hj).2) h1
  simp only [Nat.add_zero] at hst
  obtain ⟨m, rfl⟩ : ∃ m, n = m + 1 := ⟨n - 1, by omega⟩
  unfold zeroKy at hst ⊢
  simp [Builtin.clear_, run_underlying Tryz.underlying52, Value.cells, hst]
end Go.Proofs.YtgipjplifndniaaGreatDoor.K
