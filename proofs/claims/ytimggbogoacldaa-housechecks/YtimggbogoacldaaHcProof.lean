/- PROVED: for every config, of whatever size a memory may hold, house.Check answers exactly the error, or OK, that P12.1 (the document's own check) says; the input is left as it was. No condition. -/
import Derived.Test.YtimggbogoacldaaHcLaw
import Derived.Test.YtimggbogoacldaaChecked
import Derived.Test.YtimggbogoacldaaRows
import Derived.ChangeMaps5
import Derived.HandedShaped
import Derived.ProofKit
import Derived.SizedLaws
import Derived.ChangeSlices
namespace Go.Proofs.Ytimggbogoacldaa
open Go.ChangeShapes Go.WideShapes Go.ChangeAt Go.RowKit Go.Joins Go.Deep

theorem Try.laidOut : laidOutB Try.prog = true := by kernel_rfl
theorem Try.cells3 : Try.prog.cellsOf 3 = 1 := by kernel_rfl
theorem Try.cellsInts : Try.prog.cellsOf 22 = 1 := by kernel_rfl
theorem Try.cellsCf : Try.prog.cellsOf 24 = 2 := by kernel_rfl
theorem Try.bytesInt : Try.prog.bytesOf 3 = 8 := by kernel_rfl
/-- a slice of numbers, opened -/
theorem open_nums {H : Type} {enc : TypeId × Value → H} {W : World} {fuel : Nat} {cs : List Value} {d : DataW H} {ps : List MemPlace}
    (hf : DataW.trod enc Try.prog W 0 (fun _ => true) true fuel 22 cs = some (d, ps)) (hlt : ∀ x ∈ ps, x.block < W.heap.size) (hwt : ∀ n ∈ d.weights Try.prog 22, n ≤ reachBytes) :
    ∃ (v : Value) (xs : List Int), cs = [v] ∧ NR W v xs ∧ (∀ n c, v = .slice none n c → c = 0) ∧ xs.length * 8 ≤ 140737488355328 := by
  rcases open_ints Try.underlying22 Try.underlying3 Try.cells3 hf with ⟨hcs, hx⟩ | ⟨a, len, cap, zs, hcs, _, hl, hm, hz, hx, hcell, _⟩
  · exact ⟨_, [], hcs, NR.nil W, (fun n c e => by cases e; rfl), by simp⟩
  · simp only [if_true] at hz
    simp only [Prod.mk.injEq] at hx
    obtain ⟨hx1, hx2⟩ := hx
    have hln : (zs.take len).length = len := by rw [List.length_take]; omega
    refine ⟨_, zs.take len, hcs, ?_, (fun n c e => by cases e), ?_⟩
    · refine ⟨some a, cap, by rw [hln], by rw [hln]; unfold maxLen at hm; omega, ?_⟩
      by_cases h0 : len = 0
      · left; simp [h0]
      · right
        obtain ⟨b, off, spot⟩ := a
        have hspot : spot = none := by simpa [Addr.add] using World.cell?_spot (hcell 0 (by omega))
        subst hspot
        refine ⟨b, off, rfl, hlt (.cell b off) (by rw [hx2]; exact MemPlace.mem_row.2 ⟨0, by omega, by simp⟩), fun k x hk => ?_⟩
        have hk1 := (List.getElem?_eq_some_iff.1 hk).1
        rw [hln] at hk1
        have hc := hcell k (by omega)
        rw [addr_add] at hc
        rw [hc, List.getD_eq_getElem?_getD]
        rw [List.getElem?_take, if_pos hk1] at hk
        rw [hk]
        rfl
    · rw [hx1] at hwt
      have h := hwt _ (by simp only [DataW.weights, Try.underlying22]; exact List.mem_cons_self)
      rw [Try.bytesInt] at h
      simp only [lits, List.length_map, reachBytes] at h
      omega
set_option maxRecDepth 100000 in
/-- a config, opened -/
theorem open_config {H : Type} {enc : TypeId × Value → H} {W : World} {v : Value} {d : DataW H} {ps : List MemPlace} {r : Reach} {b0 : Nat}
    (hv : Value.okWide Try.prog W r b0 24 v) (h : DataW.Trod enc Try.prog W 0 (fun _ => true) true 24 v d ps) (hlt : ∀ x ∈ ps, x.block < W.heap.size) (hwt : ∀ n ∈ d.weights Try.prog 24, n ≤ reachBytes) :
    ∃ (s : Int) (u : Value) (xs : List Int), v = .agg #[.int .i64 s, u] ∧ NR W u xs ∧ (∀ n c, u = .slice none n c → c = 0) ∧ xs.length * 8 ≤ 140737488355328 := by
  obtain ⟨cs, rfl, hsz⟩ := okWide_struct Try.underlying24 hv
  rw [Try.cellsCf] at hsz
  obtain ⟨c0, c1, rfl⟩ : ∃ c0 c1, cs = #[c0, c1] := by
    obtain ⟨l⟩ := cs
    match l, hsz with
    | [c0, c1], _ => exact ⟨c0, c1, rfl⟩
  obtain ⟨fuel, hf⟩ := h
  obtain ⟨z0, z1, n, hx, _, g0, g1⟩ := trod_struct2 Try.underlying24 hf
  have g00 : DataW.trod enc Try.prog W 0 (fun _ => true) true n 3 (([c0, c1].drop 0).take (Try.prog.cellsOf 3)) = some z0 := g0
  have g10 : DataW.trod enc Try.prog W 0 (fun _ => true) true n 22 (([c0, c1].drop 1).take (Try.prog.cellsOf 22)) = some z1 := g1
  rw [Try.cells3] at g00
  rw [Try.cellsInts] at g10
  have g0' : DataW.trod enc Try.prog W 0 (fun _ => true) true n 3 [c0] = some z0 := g00
  have g1' : DataW.trod enc Try.prog W 0 (fun _ => true) true n 22 [c1] = some (z1.1, z1.2) := g10
  obtain ⟨s, e0, _, w0⟩ := DataW.trod_int Try.underlying3 g0'
  simp only [Prod.mk.injEq] at hx
  obtain ⟨hd, hp⟩ := hx
  obtain ⟨u, xs, e1, hk, hn, hln⟩ := open_nums g1' (fun x hx => hlt x (by rw [hp]; simp [hx])) (fun m hm => hwt m (by
    rw [hd]
    simp only [DataW.weights, Try.underlying24]
    exact DataW.weights_mem_each (ts := [3, 22]) (j := 1) (t := 22) (d := z1.1) rfl rfl m hm))
  simp only [List.cons.injEq, and_true] at e0 e1
  subst e0 e1
  exact ⟨s, c1, xs, rfl, hk, hn, hln⟩

set_option maxRecDepth 100000 in
theorem checks_lifted (os : Os) (started : os.Started) (H : Type) (enc : TypeId × Value → H) :
    ReturnsInHanded {} Try.checked os 3 .any (Rows.houseChecksSpec.pre6 enc Try.prog Try.f3 Rows.houseChecksRow.domain false) (Rows.houseChecksSpec.post enc Try.prog Try.f3 false true false false) := by
  refine returnsInHanded_of_change_sized (C := Try.checked) (by kernel_rfl) started (by kernel_rfl) Try.func3
    (ChangeSpec.witness6 (enc := enc) (C := Try.checked) false ⟨#[], #[.agg #[.int .i64 0, .slice none 0 0]], []⟩ 8 (by kernel_rfl) (by kernel_rfl) (by kernel_rfl) (by kernel_rfl)) ?_
  intro W base args ds gs before hval0 hW _ hsz0 _
  have hsz : (DataW.weightsEach Try.prog (Try.f3.params.toList ++ Rows.houseChecksSpec.plain.varTypes Try.prog) (ds ++ gs)).all (· ≤ reachBytes) = true := hsz0
  clear hsz0
  have hval : ∀ (j : Nat) t v, Try.f3.params[j]? = some t → args[j]? = some v → Value.okWide Try.prog W .any base t v := hval0
  have hW' := hW
  obtain ⟨p, q, hA0, hV, rfl, _, _⟩ := hW
  have hA : DataW.TrodAll enc Try.prog W 0 (fun _ => true) true Try.f3.params.toList args.toList ds p := hA0
  rw [Try.params3] at hA hval hsz
  obtain ⟨v0, d0, rfl, rfl, h0⟩ := trodAll_one hA
  obtain ⟨rfl, rfl⟩ := trodVars_none hV
  clear hA0 hval0
  simp only [List.append_nil] at hW'
  have hlt : ∀ x ∈ p, x.block < W.heap.size := fun x hx => by simpa using hW'.lt x (by simp [hx])
  obtain ⟨s, u, xs, rfl, hk, hn, hln⟩ := open_config (hval 0 24 v0 rfl rfl) h0 hlt (fun n hn => by simpa using List.all_eq_true.1 hsz n (DataW.weights_mem_each (j := 0) (t := 24) (d := d0) rfl rfl n hn))
  have hargs : ∀ (W' : World), Below W.heap.size W W' → DataW.Trod enc Try.prog W' 0 (fun b => decide (b < W.heap.size)) true 24 (.agg #[.int .i64 s, u]) d0 p :=
    fun W' hb => Below.trod Try.laidOut (by kernel_rfl) (of_decide_eq_true (by kernel_rfl)) h0 hb hlt
  refine (checks_law s u xs W hk hn hln).mono fun e W' ⟨he, hb⟩ => ?_
  subst he
  refine ⟨_, rfl, _, _, _, [], p, [], hW', ?_, ?_, rfl, hb.frame _, fun h => by cases h⟩
  · exact trodAll_mk1 (shut_bool Try.underlying4 true)
  · exact trodAll_mk1 (hargs _ hb)

theorem checks_holds : Rows.HouseChecksSaid :=
  OpenClaim.holds_of_wide 3 Try.f3 rfl rfl rfl rfl rfl rfl rfl ⟨rfl, rfl, rfl, rfl, rfl⟩ rfl rfl rfl rfl rfl (by kernel_rfl) Try.func3 (by kernel_rfl)
    (of_decide_eq_true (by kernel_rfl)) (by unfold Func.isWrapper; first | (rw [if_pos (by decide +kernel)]; kernel_rfl) | (rw [if_neg (by decide +kernel)]; exact ⟨rfl, rfl⟩))
    (fun os started H enc _ => checks_lifted os started H enc)

#print axioms checks_holds
end Go.Proofs.Ytimggbogoacldaa
