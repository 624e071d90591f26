/- minted: a table with keys, and their texts. -/
import Derived.Test.YtpeffpgpiookpaaDoorKyWant
namespace Go.Proofs.YtpeffpgpiookpaaDoor
open Go.RowKit

/-- texts in a row of the call's own -/
def SRow (w : World) (B : Nat) (v : Value) (ts : List ByteArray) : Prop := w.ownsRow B 9 1 v ts.length (ts.map Value.string)
theorem SRow.below {w w' : World} {B : Nat} {v : Value} {ts : List ByteArray} (h : SRow w B v ts) (hb : Below w.heap.size w w') : SRow w' B v ts :=
  World.ownsRow.kept (row := none) h ⟨hb.os, hb.tape, hb.output, hb.size, fun k hk _ => hb.block k hk⟩ (Classical.em _)
theorem SRow.lt {w : World} {B : Nat} {v : Value} {ts : List ByteArray} (h : SRow w B v ts) (q : Nat) (hq : v.ownBlock = some q) : B ≤ q ∧ q < w.heap.size := by
  rcases h.2 with ⟨h0, _⟩ | ⟨g, cap, cur, hv, hb, hg, _⟩
  · rw [h0] at hq; cases hq
  · rw [hv] at hq
    have : g = q := by simpa [Value.ownBlock] using hq
    subst this
    exact ⟨hb, (Array.getElem?_eq_some_iff.1 hg).1⟩
theorem SRow.set {w : World} {B : Nat} {u : Value} {ts : List ByteArray} (h : SRow w B u ts) {R : Nat} (hR : R < B) (i : Nat) (v : Value) : SRow (w.setCell ⟨R, i, none⟩ v) B u ts :=
  World.ownsRow.kept h (grown_set w R i v) (Or.inr fun e => by have := (h.lt R e).1; omega)
theorem SRow.mono {w : World} {B B' : Nat} {u : Value} {ts : List ByteArray} (h : SRow w B u ts) (hB : B' ≤ B) : SRow w B' u ts := by
  refine ⟨h.1, ?_⟩
  rcases h.2 with h | ⟨g, cap, cur, hv, hb, rest⟩
  · exact .inl h
  · exact .inr ⟨g, cap, cur, hv, Nat.le_trans hB hb, rest⟩
theorem Tryd.infoStr : (Tryd.prog.info? 9).map (fun i => (i.zero, i.size, i.bytes)) = some (some (.string ByteArray.empty), 1, 16) := by kernel_rfl
theorem KRow.slice {w : World} {B : Nat} {v : Value} {ks : List Ky} (h : KRow w B v ks) : ∃ p c, v = .slice p ks.length c := by
  obtain ⟨p, cap, e, _⟩ := h.hk
  exact ⟨p, cap, e⟩
/-- the texts of keys -/
def textsOf (ls : List Wt) : List ByteArray := (keysOf ls).map (·.text)

set_option maxRecDepth 20000 in
set_option maxHeartbeats 4000000 in
theorem minted_any (v : Value) (ls : List Wt) (w : World) (hv : Vars w) (h : HWt w v ls) (hok : ∀ x ∈ ls, x.name.size ≤ 140737488355328) :
    Calls Tryd.prog 10 #[v] w fun e w' => ∃ u t, e = .returned (.tuple #[.agg #[.int .i64 (ls.take 32).length, u], t, .bool true]) ∧ KRow w' w.heap.size u (keysOf (ls.take 32)) ∧ SRow w' w.heap.size t (textsOf (ls.take 32)) ∧ Below w.heap.size w w' := by
  obtain ⟨i0, hi, hz0, hz1, hz2⟩ := info_parts Tryd.infoStr
  have r0 := T2.born w 0 (.slice none 0 0) 24
  have hb0 : Below w.heap.size w (w.alloc (.cells #[.int .i64 0, .slice none 0 0] 24)) := (Below.refl _ _).alloc (Nat.le_refl _) _
  generalize hwA : w.alloc (.cells #[.int .i64 0, .slice none 0 0] 24) = wA at *
  have hsA : wA.heap.size = w.heap.size + 1 := by rw [← hwA]; simp
  have hb1 : Below wA.heap.size wA (wA.alloc (.cells #[.int .i64 0, .slice none 0 0] 24)) := (Below.refl _ _).alloc (Nat.le_refl _) _
  have t0 := T2.born wA 0 (.slice none 0 0) 24
  rw [hsA] at t0
  have hsB : (wA.alloc (.cells #[.int .i64 0, .slice none 0 0] 24)).heap.size = w.heap.size + 2 := by simp; omega
  have r1 := r0.below hb1
  have hb := hb0.trans (hb1.mono hb0.size)
  generalize hwB : wA.alloc (.cells #[.int .i64 0, .slice none 0 0] 24) = w0 at *
  obtain ⟨p, cap, rfl, hcap, hcm, hrow⟩ := h
  obtain ⟨n, hn⟩ : ∃ n, n = ls.length := ⟨_, rfl⟩
  rw [← hn] at hrow hcap ⊢
  have HROW : Hid (n = 0 ∨ ∃ b off, p = some ⟨b, off, none⟩ ∧ b < w.heap.size ∧ ∀ k x, ls[k]? = some x → WAt w b (off + k * 3) x) := hrow
  have HN : Hid (n = ls.length) := hn
  have HOK : Hid (∀ x ∈ ls, x.name.size ≤ 140737488355328) := hok
  have HV : Hid (Vars w) := hv
  have H0 : Hid (T2 w.heap.size 0 (.slice none 0 0) w0 ∧ T2 (w.heap.size + 1) 0 (.slice none 0 0) w0 ∧ Below w.heap.size w w0 ∧ w0.heap.size = w.heap.size + 2) := ⟨r1, t0, hb, hsB⟩
  clear hrow hn hok hv r0 r1 t0 hb0 hb1 hb
  go_enter Tryd.func10, Tryd.ntmps10
  go_wp2_with fail
  clear hwA hwB hsA hsB
  go_loopg [6, 7, 8, 9, 10] 33 (fun gk s6 s7 _ _ _ wr => ∃ (j : Nat) (u : Value), j ≤ 32 ∧ j ≤ n ∧ 33 ≤ j + gk ∧ s7 = .int .i64 j ∧ KRow wr (w.heap.size + 2) u (keysOf (ls.take j)) ∧ SRow wr (w.heap.size + 2) s6 (textsOf (ls.take j)) ∧ T2 w.heap.size 0 (.slice none 0 0) wr ∧ T2 (w.heap.size + 1) j u wr ∧ Below w.heap.size w wr ∧ w.heap.size + 2 ≤ wr.heap.size)
  case atStart =>
    obtain ⟨g1, g2, g3, g4⟩ := H0.out
    exact ⟨0, .slice none 0 0, by omega, by omega, by omega, rfl, World.ownsRow_nil _ _ _ _, World.ownsRow_nil _ _ _ _, g1, g2, g3, by omega⟩
  case round =>
    obtain ⟨j, u, hj32, hjn, hgk, rfl, hk, hs, hr, ht, hbr, hsz⟩ := hrel
    have HGK : Hid (33 ≤ j + gk) := hgk
    have HK : Hid (KRow wr (w.heap.size + 2) u (keysOf (ls.take j)) ∧ SRow wr (w.heap.size + 2) u6 (textsOf (ls.take j)) ∧ T2 w.heap.size 0 (.slice none 0 0) wr ∧ T2 (w.heap.size + 1) j u wr ∧ Below w.heap.size w wr) := ⟨hk, hs, hr, ht, hbr⟩
    have hkl : (keysOf (ls.take j)).length = j := by rw [keysOf_len, List.length_take]; have := HN.out; omega
    obtain ⟨pu, cu, hu⟩ := hk.slice
    rw [hkl] at hu
    subst hu
    clear hgk
    by_cases hlt : j < n
    · by_cases h32 : j < 32
      · have hi2 : (j : Int) < (n : Int) := by omega
        have hi3 : (j : Int) < 32 := by omega
        have hi1 : (0 : Int) ≤ (j : Int) := by omega
        obtain ⟨b, off, rfl, hbl, hc⟩ : ∃ b off, p = some ⟨b, off, none⟩ ∧ b < w.heap.size ∧ ∀ k x, ls[k]? = some x → WAt w b (off + k * 3) x := by
          rcases HROW.out with h | h
          · omega
          · exact h
        have hjk : j < ls.length := by have := HN.out; omega
        obtain ⟨x, hx⟩ : ∃ x, x = ls[j] := ⟨_, rfl⟩
        have hxg : ls[j]? = some x := by rw [hx]; exact List.getElem?_eq_getElem hjk
        have hcx := (hc j x hxg).keep (hbr.block b hbl)
        have HX : Hid (keysOf (ls.take (j + 1)) = keysOf (ls.take j) ++ [mkKy j x]) := keysOf_step ls j x hxg
        have HOX := HOK.out x (List.mem_of_getElem? hxg)
        have hkok : ∀ k ∈ keysOf (ls.take j), k.ok := fun k hk => by
          obtain ⟨i, hi⟩ := List.mem_iff_getElem?.1 hk
          have hil := (List.getElem?_eq_some_iff.1 hi).1
          rw [hkl] at hil
          have hli : (ls.take j)[i]? = some ls[i] := by rw [List.getElem?_take, if_pos hil]; exact List.getElem?_eq_getElem (by omega)
          rw [keysOf_at _ i _ hli] at hi
          cases hi
          exact ⟨keyT_size i _ (by omega) (by omega), HOK.out _ (List.getElem_mem _)⟩
        have hd3 := sp3_lo x.rights
        have hd4 := sp3_hi x.rights
        have hbD : Below wr.heap.size wr wr.drew := (Below.refl _ _).drew
        have hbZ : Below wr.heap.size wr (wr.alloc (.cells #[.int .i64 0, .slice none 0 0] 24)).drew := ((Below.refl _ _).alloc (Nat.le_refl _) _).drew
        have cm0 := fun W (hW : Below wr.heap.size wr W) => mint_any j (.slice pu j cu) (keysOf (ls.take j)) x.name (1 + sp3 x.rights) x.draw W (HV.out.go (hbr.trans (hW.mono hbr.size)) HV.out.room) (hk.hk.below hW) hkok HOX (by omega) (by omega) (by omega) (by omega) (by rw [hkl]; exact h32)
        have cm1 := cm0 wr.drew hbD
        have cm2 := cm0 _ hbZ
        clear cm0
        have sp := fun W => spot_any x.rights W
        have HMK : Hid (mkKy j x = ⟨⟨(keyT j x.draw).toArray⟩, x.name, 1 + sp3 x.rights⟩) := rfl
        clear hc hx hxg hkok HOX hjk
        obtain ⟨nm, rt, dr⟩ := x
        obtain ⟨c0, c1, c2⟩ := hcx
        simp only at c0 c1 c2 cm1 cm2 sp hd3 hd4 HMK
        generalize sp3 rt = q at *
        generalize (⟨(keyT (j : Int) dr).toArray⟩ : ByteArray) = TX at *
        have hwq : IntKind.i64.wrap (1 + q) = 1 + q := by rw [IntKind.wrap_i64]; omega
        have S0 : (wr.drew.cell? ⟨b, off + j * 3, none⟩ = some (.string nm) ∧ wr.drew.cell? ⟨b, off + j * 3 + 1, none⟩ = some (.int .i64 rt) ∧ wr.drew.cell? ⟨b, off + j * 3 + 2, none⟩ = some (.int .i64 dr)) ∧ (wr.drew.cell? ⟨w.heap.size + 1, 0, none⟩ = some (.int .i64 j) ∧ wr.drew.cell? ⟨w.heap.size + 1, 1, none⟩ = some (.slice pu j cu)) ∧ wr.heap.size ≤ wr.drew.heap.size := ⟨⟨c0, c1, c2⟩, ⟨ht.1, ht.2.1⟩, Nat.le_refl _⟩
        have kp : ∀ W W', ((W.cell? ⟨b, off + j * 3, none⟩ = some (.string nm) ∧ W.cell? ⟨b, off + j * 3 + 1, none⟩ = some (.int .i64 rt) ∧ W.cell? ⟨b, off + j * 3 + 2, none⟩ = some (.int .i64 dr)) ∧ (W.cell? ⟨w.heap.size + 1, 0, none⟩ = some (.int .i64 j) ∧ W.cell? ⟨w.heap.size + 1, 1, none⟩ = some (.slice pu j cu)) ∧ wr.heap.size ≤ W.heap.size) → Below W.heap.size W W' → ((W'.cell? ⟨b, off + j * 3, none⟩ = some (.string nm) ∧ W'.cell? ⟨b, off + j * 3 + 1, none⟩ = some (.int .i64 rt) ∧ W'.cell? ⟨b, off + j * 3 + 2, none⟩ = some (.int .i64 dr)) ∧ (W'.cell? ⟨w.heap.size + 1, 0, none⟩ = some (.int .i64 j) ∧ W'.cell? ⟨w.heap.size + 1, 1, none⟩ = some (.slice pu j cu)) ∧ wr.heap.size ≤ W'.heap.size) := fun W W' h hb => ⟨⟨(hb.cell (p := ⟨b, off + j * 3, none⟩) (by show b < _; omega)).trans h.1.1, (hb.cell (p := ⟨b, off + j * 3 + 1, none⟩) (by show b < _; omega)).trans h.1.2.1, (hb.cell (p := ⟨b, off + j * 3 + 2, none⟩) (by show b < _; omega)).trans h.1.2.2⟩, ⟨(hb.cell (p := ⟨w.heap.size + 1, 0, none⟩) (by show w.heap.size + 1 < _; omega)).trans h.2.1.1, (hb.cell (p := ⟨w.heap.size + 1, 1, none⟩) (by show w.heap.size + 1 < _; omega)).trans h.2.1.2⟩, Nat.le_trans h.2.2 hb.size⟩
        obtain ⟨KS, hKS⟩ : ∃ KS, KS = keysOf (ls.take j) ++ [⟨TX, nm, 1 + q⟩] := ⟨_, rfl⟩
        rw [← hKS] at cm1 cm2
        have hNL : KS.length = j + 1 := by rw [hKS, List.length_append, hkl]; rfl
        obtain ⟨NL, hnl⟩ : ∃ NL, NL = KS.length := ⟨_, rfl⟩
        have HKS : Hid (KS = keysOf (ls.take j) ++ [⟨TX, nm, 1 + q⟩] ∧ KS.length = j + 1) := ⟨hKS, hNL⟩
        have HSL : Hid (∀ W B u, KRow W B u KS → ∃ p3 c3, u = .slice p3 NL c3) := fun W B u h => by rw [hnl]; exact h.slice
        clear hKS hNL hnl
        have S1 := kp wr (wr.alloc (.cells #[.int .i64 0, .slice none 0 0] 24)).drew S0 hbZ
        have zb := T2.born wr 0 (.slice none 0 0) 24
        have HZ : Hid (∀ W, Below (wr.alloc (.cells #[.int .i64 0, .slice none 0 0] 24)).drew.heap.size (wr.alloc (.cells #[.int .i64 0, .slice none 0 0] 24)).drew W → T2 wr.heap.size 0 (.slice none 0 0) W) := fun W hW => by
          have h1 : T2 wr.heap.size 0 (.slice none 0 0) (wr.alloc (.cells #[.int .i64 0, .slice none 0 0] 24)).drew := zb
          exact h1.below hW
        have HE1 : Hid (∀ (W : World) p3 c3, KRow W wr.drew.heap.size (.slice p3 NL c3) KS → Below wr.drew.heap.size wr.drew W → ∃ (g : Nat) (u3 : Value), Value.pointer (some ⟨W.heap.size, 0, none⟩) = .pointer (some ⟨g, 0, none⟩) ∧ wr.heap.size ≤ g ∧ T2 g (j + 1) u3 (W.alloc (.cells #[.int .i64 ((j : Int) + 1), .slice p3 NL c3] 24)) ∧ KRow (W.alloc (.cells #[.int .i64 ((j : Int) + 1), .slice p3 NL c3] 24)) wr.heap.size u3 KS ∧ Below wr.heap.size wr (W.alloc (.cells #[.int .i64 ((j : Int) + 1), .slice p3 NL c3] 24))) := fun W p3 c3 hk hb => by
          have h1 : Below wr.heap.size wr W := hbD.trans hb
          exact ⟨W.heap.size, _, rfl, h1.size, T2.born W _ _ _, hk.below ((Below.refl _ _).alloc (Nat.le_refl _) _), h1.alloc h1.size _⟩
        have HE2 : Hid (∀ (W : World) p3 c3, KRow W (wr.alloc (.cells #[.int .i64 0, .slice none 0 0] 24)).drew.heap.size (.slice p3 NL c3) KS → Below (wr.alloc (.cells #[.int .i64 0, .slice none 0 0] 24)).drew.heap.size (wr.alloc (.cells #[.int .i64 0, .slice none 0 0] 24)).drew W → ∃ (g : Nat) (u3 : Value), Value.pointer (some ⟨wr.heap.size, 0, none⟩) = .pointer (some ⟨g, 0, none⟩) ∧ wr.heap.size ≤ g ∧ T2 g (j + 1) u3 ((W.setCell ⟨wr.heap.size, 0, none⟩ (.int .i64 ((j : Int) + 1))).setCell ⟨wr.heap.size, 1, none⟩ (.slice p3 NL c3)) ∧ KRow ((W.setCell ⟨wr.heap.size, 0, none⟩ (.int .i64 ((j : Int) + 1))).setCell ⟨wr.heap.size, 1, none⟩ (.slice p3 NL c3)) wr.heap.size u3 KS ∧ Below wr.heap.size wr ((W.setCell ⟨wr.heap.size, 0, none⟩ (.int .i64 ((j : Int) + 1))).setCell ⟨wr.heap.size, 1, none⟩ (.slice p3 NL c3))) := fun W p3 c3 hk hb => by
          have h1 : Below wr.heap.size wr W := hbZ.trans (hb.mono hbZ.size)
          have hz : (wr.alloc (.cells #[.int .i64 0, .slice none 0 0] 24)).drew.heap.size = wr.heap.size + 1 := Array.size_push _
          rw [hz] at hk
          exact ⟨wr.heap.size, _, rfl, Nat.le_refl _, (HZ.out W hb).both, ((hk.set (R := wr.heap.size) (by omega) 0 _).set (R := wr.heap.size) (by omega) 1 _).mono (by omega), (h1.setCell (p := ⟨wr.heap.size, 0, none⟩) (Nat.le_refl _) _).setCell (p := ⟨wr.heap.size, 1, none⟩) (Nat.le_refl _) _⟩
        have kst : ∀ (W : World) (x y : Value), ((W.cell? ⟨b, off + j * 3, none⟩ = some (.string nm) ∧ W.cell? ⟨b, off + j * 3 + 1, none⟩ = some (.int .i64 rt) ∧ W.cell? ⟨b, off + j * 3 + 2, none⟩ = some (.int .i64 dr)) ∧ (W.cell? ⟨w.heap.size + 1, 0, none⟩ = some (.int .i64 j) ∧ W.cell? ⟨w.heap.size + 1, 1, none⟩ = some (.slice pu j cu)) ∧ wr.heap.size ≤ W.heap.size) → (fun (W : World) => (W.cell? ⟨b, off + j * 3, none⟩ = some (.string nm) ∧ W.cell? ⟨b, off + j * 3 + 1, none⟩ = some (.int .i64 rt) ∧ W.cell? ⟨b, off + j * 3 + 2, none⟩ = some (.int .i64 dr)) ∧ (W.cell? ⟨w.heap.size + 1, 0, none⟩ = some (.int .i64 j) ∧ W.cell? ⟨w.heap.size + 1, 1, none⟩ = some (.slice pu j cu)) ∧ wr.heap.size ≤ W.heap.size) ((W.setCell ⟨wr.heap.size, 0, none⟩ x).setCell ⟨wr.heap.size, 1, none⟩ y) := fun W x y h => by
          have e : ∀ k, k < wr.heap.size → ((W.setCell ⟨wr.heap.size, 0, none⟩ x).setCell ⟨wr.heap.size, 1, none⟩ y).heap[k]? = W.heap[k]? := fun k hk => by rw [Below.heap_setCell _ _ _ _ (by show k ≠ wr.heap.size; omega), Below.heap_setCell _ _ _ _ (by show k ≠ wr.heap.size; omega)]
          exact ⟨⟨(cell_heap (a := ⟨b, off + j * 3, none⟩) (e b (by omega))).trans h.1.1, (cell_heap (a := ⟨b, off + j * 3 + 1, none⟩) (e b (by omega))).trans h.1.2.1, (cell_heap (a := ⟨b, off + j * 3 + 2, none⟩) (e b (by omega))).trans h.1.2.2⟩, ⟨(cell_heap (a := ⟨w.heap.size + 1, 0, none⟩) (e (w.heap.size + 1) (by omega))).trans h.2.1.1, (cell_heap (a := ⟨w.heap.size + 1, 1, none⟩) (e (w.heap.size + 1) (by omega))).trans h.2.1.2⟩, by simp [World.setCell]; exact h.2.2⟩
        clear hk hs hr ht hbr c0 c1 c2 HN HOK HROW zb hbD hbZ
        go_wp2_with fail
        go_cut [8, 9, 10] from 21 to 43 (fun s8 s9 s10 wc => s9 = .string TX ∧ s10 = .int .i64 0 ∧ ∃ (g : Nat) (u3 : Value), s8 = .pointer (some ⟨g, 0, none⟩) ∧ wr.heap.size ≤ g ∧ T2 g (j + 1) u3 wc ∧ KRow wc wr.heap.size u3 KS ∧ Below wr.heap.size wr wc)
        case first =>
          go_region_held3 (fun W => (W.cell? ⟨b, off + j * 3, none⟩ = some (.string nm) ∧ W.cell? ⟨b, off + j * 3 + 1, none⟩ = some (.int .i64 rt) ∧ W.cell? ⟨b, off + j * 3 + 2, none⟩ = some (.int .i64 dr)) ∧ (W.cell? ⟨w.heap.size + 1, 0, none⟩ = some (.int .i64 j) ∧ W.cell? ⟨w.heap.size + 1, 1, none⟩ = some (.slice pu j cu)) ∧ wr.heap.size ≤ W.heap.size) (first | exact S0 | exact S1 | exact kp _ _ (by assumption) hb3 | exact kp _ _ (by assumption) ((Below.refl _ _).alloc (Nat.le_refl _) _) | exact kst _ _ _ (by assumption) | exact kp _ _ (kp _ _ S0 hb3) ((Below.refl _ _).alloc (Nat.le_refl _) _))
            (first | (go_at_call 12; refine (sp _).mono ?_; rintro e w9 ⟨rfl, hw9⟩; subst hw9) | (go_at_call 6; refine cm1.mono ?_; rintro e w3 ⟨u3, rfl, hk3, hb3⟩; obtain ⟨p3, c3, rfl⟩ := HSL.out _ _ _ hk3; have HE := HE1.out w3 p3 c3 hk3 hb3) | (go_at_call 6; refine cm2.mono ?_; rintro e w3 ⟨u3, rfl, hk3, hb3⟩; obtain ⟨p3, c3, rfl⟩ := HSL.out _ _ _ hk3; have HE := HE2.out w3 p3 c3 hk3 hb3; obtain ⟨d1, d2, d3, d4, -⟩ := HZ.out w3 hb3))
          all_goals
            go_wp2_with fail
            go_meet
            case rel => exact ⟨rfl, rfl, HE⟩
        case rest =>
          obtain ⟨rfl, rfl, g, u3, rfl, hg, tg, kg, bg⟩ := hcut
          obtain ⟨p3, c3, hu3⟩ := kg.slice
          rw [HKS.out.2] at hu3
          subst hu3
          have hgs := tg.2.2.2.2
          have HG : Hid (T2 g ((j : Int) + 1) (.slice p3 (j + 1) c3) wc ∧ KRow wc wr.heap.size (.slice p3 (j + 1) c3) KS ∧ Below wr.heap.size wr wc) := ⟨tg, kg, bg⟩
          obtain ⟨t1, t2, -, -, -⟩ := tg
          have hne : (((j : Int) + 1) != ((j : Int) + 1)) = false := by simp
          have hwj : IntKind.i64.wrap ((j : Int) + 1) = (j : Int) + 1 := by rw [IntKind.wrap_i64]; omega
          have S0 : (wc.drew.cell? ⟨g, 0, none⟩ = some (.int .i64 ((j : Int) + 1)) ∧ wc.drew.cell? ⟨g, 1, none⟩ = some (.slice p3 (j + 1) c3)) ∧ wc.heap.size ≤ wc.drew.heap.size := ⟨⟨t1, t2⟩, Nat.le_refl _⟩
          have S1 : ((wc.alloc (.cells #[.string TX] 9)).drew.cell? ⟨g, 0, none⟩ = some (.int .i64 ((j : Int) + 1)) ∧ (wc.alloc (.cells #[.string TX] 9)).drew.cell? ⟨g, 1, none⟩ = some (.slice p3 (j + 1) c3)) ∧ wc.heap.size ≤ (wc.alloc (.cells #[.string TX] 9)).drew.heap.size := by
            have h1 := HG.out.1.below ((Below.refl wc.heap.size wc).alloc (Nat.le_refl _) (.cells #[.string TX] 9))
            exact ⟨⟨h1.1, h1.2.1⟩, by show wc.heap.size ≤ (wc.heap.push _).size; rw [Array.size_push]; omega⟩
          have hsK : SRow wc (w.heap.size + 2) u6 (textsOf (ls.take j)) := HK.out.2.1.below bg
          have htl : (textsOf (ls.take j)).length = j := by unfold textsOf; rw [List.length_map, hkl]
          have OWN : Hid (∀ o, (wc.drew.alloc o).ownsRow (w.heap.size + 2) 9 1 u6 j ((textsOf (ls.take j)).map Value.string)) := fun o => by
            have h1 : SRow wc.drew (w.heap.size + 2) u6 (textsOf (ls.take j)) := hsK
            unfold SRow at h1
            rw [htl] at h1
            exact World.ownsRow.alloc h1 o
          have hlow : Hid (∀ k, u6.ownBlock = some k → w.heap.size + 2 ≤ k ∧ k < wr.heap.size) := fun k hk => HK.out.2.1.lt k hk
          have HAFT : Hid (∀ W5, (wc.drew.alloc (.cells #[.string TX] 9)).grownBy W5 u6.ownBlock → (W5.cell? ⟨w.heap.size + 1, 0, none⟩ = some (.int .i64 j) ∧ W5.cell? ⟨w.heap.size + 1, 1, none⟩ = some (.slice pu j cu) ∧ W5.frozen? ⟨w.heap.size + 1, 0, none⟩ = false ∧ W5.frozen? ⟨w.heap.size + 1, 1, none⟩ = false) ∧ ((W5.cell? ⟨g, 0, none⟩ = some (.int .i64 ((j : Int) + 1)) ∧ W5.cell? ⟨g, 1, none⟩ = some (.slice p3 (j + 1) c3)) ∧ wc.heap.size ≤ W5.heap.size) ∧ Hid (T2 (w.heap.size + 1) j (.slice pu j cu) W5 ∧ T2 w.heap.size 0 (.slice none 0 0) W5 ∧ KRow W5 (w.heap.size + 2) (.slice p3 (j + 1) c3) KS ∧ Below w.heap.size w W5 ∧ w.heap.size + 2 ≤ W5.heap.size)) := fun W5 hgr => by
            have hbA : Below wc.heap.size wc (wc.drew.alloc (.cells #[.string TX] 9)) := (Below.refl wc.heap.size wc).drew.alloc (Nat.le_refl _) _
            have hb5 : Below (w.heap.size + 2) wc W5 := (hbA.mono (by have := bg.size; omega)).trans ⟨hgr.os, hgr.tape, hgr.output, hgr.size, fun k hk => hgr.block k (by have := hbA.size; have := bg.size; omega) (fun e => by have := (hlow.out k e.symm).1; omega)⟩
            have hgb : W5.heap[g]? = wc.heap[g]? := (hgr.block g (by have := hbA.size; omega) (fun e => by have := (hlow.out g e.symm).2; omega)).trans (hbA.block g hgs)
            have q1 := HG.out.1.keep hgb hb5.size
            have q2 := (HK.out.2.2.2.1.below bg).under hb5 (by omega)
            have q3 := (HK.out.2.2.1.below bg).under hb5 (by omega)
            have q4 : KRow W5 wr.heap.size (.slice p3 (j + 1) c3) KS := World.ownsRow.kept (HG.out.2.1.below hbA) hgr (by
              rcases hown : (Value.slice p3 (j + 1) c3).ownBlock with _ | k
              · left; rfl
              · right
                intro e
                have h1 := (HG.out.2.1.lt k hown).1
                have h2 := (hlow.out k e.symm).2
                omega)
            have q5 : Below w.heap.size w W5 := (HK.out.2.2.2.2.trans (bg.mono HK.out.2.2.2.2.size)).trans (hb5.mono (by omega))
            exact ⟨⟨q2.1, q2.2.1, q2.2.2.1, q2.2.2.2.1⟩, ⟨⟨q1.1, q1.2.1⟩, by have := hb5.size; exact this⟩, q2, q3, q4.mono hsz, q5, by have := hb5.size; have := bg.size; omega⟩
          have HFIN : Hid (∀ W5 v5, W5.ownsRow (w.heap.size + 2) 9 1 v5 (j + 1) ((textsOf (ls.take j)).map Value.string ++ [.string TX]) → (T2 (w.heap.size + 1) j (.slice pu j cu) W5 ∧ T2 w.heap.size 0 (.slice none 0 0) W5 ∧ KRow W5 (w.heap.size + 2) (.slice p3 (j + 1) c3) KS ∧ Below w.heap.size w W5 ∧ w.heap.size + 2 ≤ W5.heap.size) → KRow ((W5.setCell ⟨w.heap.size + 1, 0, none⟩ (.int .i64 ((j : Int) + 1))).setCell ⟨w.heap.size + 1, 1, none⟩ (.slice p3 (j + 1) c3)) (w.heap.size + 2) (.slice p3 (j + 1) c3) (keysOf (ls.take (j + 1))) ∧ SRow ((W5.setCell ⟨w.heap.size + 1, 0, none⟩ (.int .i64 ((j : Int) + 1))).setCell ⟨w.heap.size + 1, 1, none⟩ (.slice p3 (j + 1) c3)) (w.heap.size + 2) v5 (textsOf (ls.take (j + 1))) ∧ T2 w.heap.size 0 (.slice none 0 0) ((W5.setCell ⟨w.heap.size + 1, 0, none⟩ (.int .i64 ((j : Int) + 1))).setCell ⟨w.heap.size + 1, 1, none⟩ (.slice p3 (j + 1) c3)) ∧ T2 (w.heap.size + 1) ((j + 1 : Nat) : Int) (.slice p3 (j + 1) c3) ((W5.setCell ⟨w.heap.size + 1, 0, none⟩ (.int .i64 ((j : Int) + 1))).setCell ⟨w.heap.size + 1, 1, none⟩ (.slice p3 (j + 1) c3)) ∧ Below w.heap.size w ((W5.setCell ⟨w.heap.size + 1, 0, none⟩ (.int .i64 ((j : Int) + 1))).setCell ⟨w.heap.size + 1, 1, none⟩ (.slice p3 (j + 1) c3)) ∧ w.heap.size + 2 ≤ ((W5.setCell ⟨w.heap.size + 1, 0, none⟩ (.int .i64 ((j : Int) + 1))).setCell ⟨w.heap.size + 1, 1, none⟩ (.slice p3 (j + 1) c3)).heap.size) := fun W5 v5 ho hh => by
            obtain ⟨q1, q2, q3, q4, q5⟩ := hh
            have hkk : keysOf (ls.take (j + 1)) = KS := by rw [HX.out, HKS.out.1, HMK.out]
            have htt : textsOf (ls.take (j + 1)) = textsOf (ls.take j) ++ [TX] := by unfold textsOf; rw [hkk, HKS.out.1, List.map_append]; rfl
            have hs5 : SRow W5 (w.heap.size + 2) v5 (textsOf (ls.take (j + 1))) := by
              unfold SRow
              rw [htt, List.length_append, htl, List.map_append]
              exact ho
            refine ⟨by rw [hkk]; exact (q3.set (R := w.heap.size + 1) (by omega) 0 _).set (R := w.heap.size + 1) (by omega) 1 _, (hs5.set (R := w.heap.size + 1) (by omega) 0 _).set (R := w.heap.size + 1) (by omega) 1 _, q2.keep (by rw [Below.heap_setCell _ _ _ _ (by show w.heap.size ≠ w.heap.size + 1; omega), Below.heap_setCell _ _ _ _ (by show w.heap.size ≠ w.heap.size + 1; omega)]) (by simp [World.setCell]), q1.both, (q4.setCell (p := ⟨w.heap.size + 1, 0, none⟩) (by show w.heap.size ≤ w.heap.size + 1; omega) _).setCell (p := ⟨w.heap.size + 1, 1, none⟩) (by show w.heap.size ≤ w.heap.size + 1; omega) _, by simp [World.setCell]; exact q5⟩
          have kst : ∀ (W : World) (x y : Value), ((W.cell? ⟨g, 0, none⟩ = some (.int .i64 ((j : Int) + 1)) ∧ W.cell? ⟨g, 1, none⟩ = some (.slice p3 (j + 1) c3)) ∧ wc.heap.size ≤ W.heap.size) → (fun (W : World) => (W.cell? ⟨g, 0, none⟩ = some (.int .i64 ((j : Int) + 1)) ∧ W.cell? ⟨g, 1, none⟩ = some (.slice p3 (j + 1) c3)) ∧ wc.heap.size ≤ W.heap.size) ((W.setCell ⟨w.heap.size + 1, 0, none⟩ x).setCell ⟨w.heap.size + 1, 1, none⟩ y) := fun W x y h => by
            have e : ((W.setCell ⟨w.heap.size + 1, 0, none⟩ x).setCell ⟨w.heap.size + 1, 1, none⟩ y).heap[g]? = W.heap[g]? := by rw [Below.heap_setCell _ _ _ _ (by show g ≠ w.heap.size + 1; omega), Below.heap_setCell _ _ _ _ (by show g ≠ w.heap.size + 1; omega)]
            exact ⟨⟨(cell_heap (a := ⟨g, 0, none⟩) e).trans h.1.1, (cell_heap (a := ⟨g, 1, none⟩) e).trans h.1.2⟩, by simp [World.setCell]; exact h.2⟩
          have hszC : w.heap.size + 2 ≤ wc.heap.size := Nat.le_trans hsz bg.size
          clear kg bg hsK htl sp cm1 cm2 hwq kp HSL HZ HE1 HE2 hd3 hd4
          go_wp2_with fail
          go_region_held3 (fun W => (W.cell? ⟨g, 0, none⟩ = some (.int .i64 ((j : Int) + 1)) ∧ W.cell? ⟨g, 1, none⟩ = some (.slice p3 (j + 1) c3)) ∧ wc.heap.size ≤ W.heap.size) (first | exact S0 | exact S1 | exact haft.2.1 | exact kst _ _ _ (by assumption) | exact kst _ _ _ haft.2.1)
            (first | (refine step_append_own _ (by rfl) _ _ 32 (by rfl) (w.heap.size + 2) 9 i0 (.string ByteArray.empty) 1 16 Tryd.underlying32 hi hz0 hz1 hz2 rfl (by decide) u6 j ((textsOf (ls.take j)).map Value.string) (by rfl) (by exact OWN.out _) ⟨wc.heap.size, 0, none⟩ 1 1 [.string TX] (by rfl) rfl (by intro q u hq; match q, hq with | 0, hq => simp at hq; subst hq; simp [Addr.add]) (by intro u hu; simp at hu; subst hu; rfl) (by unfold maxLen; omega) (by omega) (by simp; omega) ?_; intro v5 w5 hown5 hgrow5 hnil5; have haft := HAFT.out w5 hgrow5; obtain ⟨d1, d2, d3, d4⟩ := haft.1))
          go_wp2_with fail
          go_roundg (gk - 1)
          case measure => have := HGK.out; omega
          case rel =>
            have h1 := HGK.out
            obtain ⟨f1, f2, f3, f4, f5, f6⟩ := HFIN.out w5 v5 hown5 haft.2.2.out
            exact ⟨j + 1, .slice p3 (j + 1) c3, by omega, by omega, by omega, by go_num, f1, f2, f3, f4, f5, f6⟩
      · have hi2 : (j : Int) < (n : Int) := by omega
        have hi3 : ¬ (j : Int) < 32 := by omega
        have hje : ls.take 32 = ls.take j := by
          rw [List.take_eq_take_iff]
          have := HN.out
          omega
        have hjl : (ls.take 32).length = j := by rw [hje, List.length_take]; have := HN.out; omega
        have HJE : Hid (ls.take 32 = ls.take j ∧ min 32 ls.length = j) := ⟨hje, by rw [← List.length_take]; exact hjl⟩
        obtain ⟨g1, g2, g3, g4, g5⟩ := HK.out
        have HFIN : Hid (KRow ((wr.setCell ⟨w.heap.size, 0, none⟩ (.int .i64 j)).setCell ⟨w.heap.size, 1, none⟩ (.slice pu j cu)) w.heap.size (.slice pu j cu) (keysOf (ls.take j)) ∧ SRow ((wr.setCell ⟨w.heap.size, 0, none⟩ (.int .i64 j)).setCell ⟨w.heap.size, 1, none⟩ (.slice pu j cu)) w.heap.size u6 (textsOf (ls.take j)) ∧ Below w.heap.size w ((wr.setCell ⟨w.heap.size, 0, none⟩ (.int .i64 j)).setCell ⟨w.heap.size, 1, none⟩ (.slice pu j cu)) ∧ T2 w.heap.size j (.slice pu j cu) ((wr.setCell ⟨w.heap.size, 0, none⟩ (.int .i64 j)).setCell ⟨w.heap.size, 1, none⟩ (.slice pu j cu))) :=
          ⟨((g1.set (R := w.heap.size) (by omega) 0 (.int .i64 j)).set (R := w.heap.size) (by omega) 1 (.slice pu j cu)).mono (by omega), ((g2.set (R := w.heap.size) (by omega) 0 (.int .i64 j)).set (R := w.heap.size) (by omega) 1 (.slice pu j cu)).mono (by omega), (g5.setCell (p := ⟨w.heap.size, 0, none⟩) (Nat.le_refl _) _).setCell (p := ⟨w.heap.size, 1, none⟩) (Nat.le_refl _) _, g3.both⟩
        obtain ⟨a1, a2, a3, a4, -⟩ := g3
        obtain ⟨b1, b2, b3, b4, -⟩ := g4
        clear g1 g2 g5 hk hs hr ht hbr hje hjl hkl
        go_wp2_with fail
        obtain ⟨f1, f2, f3, f4⟩ := HFIN.out
        refine bodyPost_ret (v := .tuple #[.agg #[.int .i64 j, .slice pu j cu], u6, .bool true]) (by simp [results, Tryd.results10, go_sem, f4.1, f4.2.1]) rfl ⟨.slice pu j cu, u6, by rw [HJE.out.2], by rw [HJE.out.1]; exact f1, by rw [HJE.out.1]; exact f2, f3⟩
    · have hi2 : ¬ (j : Int) < (n : Int) := by omega
      have hje : ls.take 32 = ls.take j := by
        rw [List.take_eq_take_iff]
        have := HN.out
        omega
      have hjl : (ls.take 32).length = j := by rw [hje, List.length_take]; have := HN.out; omega
      have HJE : Hid (ls.take 32 = ls.take j ∧ min 32 ls.length = j) := ⟨hje, by rw [← List.length_take]; exact hjl⟩
      obtain ⟨g1, g2, g3, g4, g5⟩ := HK.out
      have HFIN : Hid (KRow ((wr.setCell ⟨w.heap.size, 0, none⟩ (.int .i64 j)).setCell ⟨w.heap.size, 1, none⟩ (.slice pu j cu)) w.heap.size (.slice pu j cu) (keysOf (ls.take j)) ∧ SRow ((wr.setCell ⟨w.heap.size, 0, none⟩ (.int .i64 j)).setCell ⟨w.heap.size, 1, none⟩ (.slice pu j cu)) w.heap.size u6 (textsOf (ls.take j)) ∧ Below w.heap.size w ((wr.setCell ⟨w.heap.size, 0, none⟩ (.int .i64 j)).setCell ⟨w.heap.size, 1, none⟩ (.slice pu j cu)) ∧ T2 w.heap.size j (.slice pu j cu) ((wr.setCell ⟨w.heap.size, 0, none⟩ (.int .i64 j)).setCell ⟨w.heap.size, 1, none⟩ (.slice pu j cu))) :=
        ⟨((g1.set (R := w.heap.size) (by omega) 0 (.int .i64 j)).set (R := w.heap.size) (by omega) 1 (.slice pu j cu)).mono (by omega), ((g2.set (R := w.heap.size) (by omega) 0 (.int .i64 j)).set (R := w.heap.size) (by omega) 1 (.slice pu j cu)).mono (by omega), (g5.setCell (p := ⟨w.heap.size, 0, none⟩) (Nat.le_refl _) _).setCell (p := ⟨w.heap.size, 1, none⟩) (Nat.le_refl _) _, g3.both⟩
      obtain ⟨a1, a2, a3, a4, -⟩ := g3
      obtain ⟨b1, b2, b3, b4, -⟩ := g4
      clear g1 g2 g5 hk hs hr ht hbr hje hjl hkl
      go_wp2_with fail
      obtain ⟨f1, f2, f3, f4⟩ := HFIN.out
      refine bodyPost_ret (v := .tuple #[.agg #[.int .i64 j, .slice pu j cu], u6, .bool true]) (by simp [results, Tryd.results10, go_sem, f4.1, f4.2.1]) rfl ⟨.slice pu j cu, u6, by rw [HJE.out.2], by rw [HJE.out.1]; exact f1, by rw [HJE.out.1]; exact f2, f3⟩
end Go.Proofs.YtpeffpgpiookpaaDoor
