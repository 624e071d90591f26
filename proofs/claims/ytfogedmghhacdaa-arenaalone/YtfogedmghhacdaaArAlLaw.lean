/- ArenaAlone: the law. -/
import Derived.Test.YtfogedmghhacdaaArPlayed
namespace Go.Proofs.Ytfogedmghhacdaa.A
open Go.RowKit Go.Maps

theorem DRow.below {w w' : World} {v : Value} {ds : List Dd} (h : DRow w v ds) (hb : Below w.heap.size w w') : DRow w' v ds := by
  obtain ⟨a, c, rfl, hl, h⟩ := h
  refine ⟨a, c, rfl, hl, ?_⟩
  rcases h with e | ⟨g, o, e, hg, hc⟩
  · exact .inl e
  · refine .inr ⟨g, o, e, Nat.lt_of_lt_of_le hg hb.size, fun k d hk => ?_⟩
    obtain ⟨⟨e0, e1, e2, e3, e4, e5⟩, hf⟩ := hc k d hk
    have hkc := fun j => hb.cell (p := ⟨g, j, none⟩) hg
    exact ⟨⟨(hkc _).trans e0, (hkc _).trans e1, (hkc _).trans e2, (hkc _).trans e3, (hkc _).trans e4, (hkc _).trans e5⟩, hf⟩
theorem run_same {me : Nat} (hme : me < 4) (ds : List Dd) : (runI me false ds 150).T = (runI me true ds 150).T := alone_same hme _

set_option maxRecDepth 20000 in
set_option maxHeartbeats 4000000 in
theorem alone_law (v : Value) (ds : List Dd) (y : Int) (w : World) (h : DRow w v ds) :
    Calls Try.prog 4 #[v, .int .i64 y] w fun e w' => e = .returned (.bool true) ∧ Below w.heap.size w w' := by
  have hsp := fun W => spot_any y 4 W (by omega) (by omega)
  obtain ⟨me, hme0⟩ : ∃ m : Nat, spotI y 4 = (m : Int) := ⟨(spotI y 4).toNat, by have := spotI_bound y 4 (by omega); omega⟩
  have hme : me < 4 := by have := spotI_bound y 4 (by omega); omega
  rw [hme0] at hsp
  clear hme0
  have hp1 := played_any v ds me true w h hme
  have HP2 : Hid (∀ W, Below w.heap.size w W → _) := fun W hb => played_any v ds me false W (h.below hb) hme
  have HSM : Hid ((runI me false ds 150).T = (runI me true ds 150).T) := run_same hme ds
  clear h
  go_enter Try.func4, Try.ntmps4
  go_wp2_with fail
  refine (hsp _).mono ?_
  rintro e wx ⟨rfl, hwx⟩
  have hwx' := hwx.symm
  subst hwx'
  clear hsp hwx
  go_wp2_with fail
  refine hp1.mono ?_
  rintro e w1 ⟨tv, rfl, hrow1, hl1, hb1⟩
  have hp2 := HP2.out w1 hb1
  rw [HSM.out] at hp2
  clear hp1 HP2 HSM
  go_wp2_with fail
  refine hp2.mono ?_
  rintro e w2 ⟨uv, rfl, hrow2, _, hb2⟩
  have hrow1' := row_other hrow1 fun k hk => hb2.block k (hrow1.lt k hk).2
  have HB : Hid (Below w.heap.size w w2) := hb1.trans (hb2.mono hb1.size)
  clear hp2 hb1 hb2 hrow1
  generalize (runI me true ds 150).T = T at *
  obtain ⟨n, hn⟩ : ∃ n, n = T.length := ⟨_, rfl⟩
  rw [← hn] at hrow1' hrow2 hl1
  have HN : Hid (n = T.length) := hn
  clear hn
  obtain ⟨a1, c1, rfl, ha1⟩ := row_slice hrow1'
  obtain ⟨a2, c2, rfl, ha2⟩ := row_slice hrow2
  have HR1 : Hid (w2.ownsRow w.heap.size 3 1 (.slice a1 n c1) n (T.map (Value.int .i64))) := hrow1'
  have HR2 : Hid (w2.ownsRow w1.heap.size 3 1 (.slice a2 n c2) n (T.map (Value.int .i64))) := hrow2
  have HA : Hid ((n = 0 ∨ ∃ g, a1 = some ⟨g, 0, none⟩) ∧ (n = 0 ∨ ∃ g, a2 = some ⟨g, 0, none⟩)) := ⟨ha1, ha2⟩
  clear hrow1' hrow2 ha1 ha2
  have hnn : ((n : Int) != (n : Int)) = false := by simp
  go_wp2_with fail
  go_loopg [9] n (fun gh s9 wr => ∃ i : Nat, i + gh = n ∧ s9 = .int .i64 i ∧ Below w2.heap.size w2 wr)
  case atStart => exact ⟨0, by omega, rfl, Below.refl _ _⟩
  case round =>
    obtain ⟨i, hig, rfl, hbr⟩ := hrel
    have HBR : Hid (Below w2.heap.size w2 wr) := hbr
    have HIG : Hid (i + gk = n) := hig
    clear hig
    by_cases hlt : i < n
    · obtain ⟨g1, rfl⟩ : ∃ g, a1 = some ⟨g, 0, none⟩ := by
        rcases HA.out.1 with e | e
        · omega
        · exact e
      obtain ⟨g2, rfl⟩ : ∃ g, a2 = some ⟨g, 0, none⟩ := by
        rcases HA.out.2 with e | e
        · omega
        · exact e
      obtain ⟨x, hx⟩ : ∃ x, T[i]? = some x := ⟨_, List.getElem?_eq_getElem (by rw [← HN.out]; exact hlt)⟩
      have hc1 : wr.cell? ⟨g1, i, none⟩ = some (.int .i64 x) := (hbr.cell (p := ⟨g1, i, none⟩) (HR1.out.lt g1 rfl).2).trans (by rw [HR1.out.cellAt i (by omega), List.getElem?_map, hx]; rfl)
      have hc2 : wr.cell? ⟨g2, i, none⟩ = some (.int .i64 x) := (hbr.cell (p := ⟨g2, i, none⟩) (HR2.out.lt g2 rfl).2).trans (by rw [HR2.out.cellAt i (by omega), List.getElem?_map, hx]; rfl)
      have hxx : (x != x) = false := by simp
      have k0 : (0 : Int) ≤ (i : Int) := by omega
      have k1 : (i : Int) < (n : Int) := by omega
      clear hx hbr
      go_wp2_with fail
      go_region
      go_wp2_with fail
      go_roundg (gk - 1)
      case measure => have := HIG.out; omega
      case rel => exact ⟨i + 1, by have := HIG.out; omega, by go_num, HBR.out.drew⟩
    · have k1 : ¬ (i : Int) < (n : Int) := by omega
      go_wp2_with fail
      go_ret
      exact ⟨rfl, HB.out.trans (HBR.out.mono HB.out.size)⟩
end Go.Proofs.Ytfogedmghhacdaa.A
