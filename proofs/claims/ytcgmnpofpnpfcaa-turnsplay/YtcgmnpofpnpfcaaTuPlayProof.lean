/- PROVED: for every number of tenants and list of deeds, of whatever size a memory may hold (of which the first 300 are done), every answer of turns is exactly what the document's own queue answers: New's error, Push's errors, Waits, and Pop's tenant, text and truth; the input is left as it was (P11.1 to P11.3). No condition. -/
import Derived.Test.YtcgmnpofpnpfcaaTuLaw
import Derived.Test.YtcgmnpofpnpfcaaTuTriple
import Derived.Test.YtcgmnpofpnpfcaaChecked
import Derived.Test.YtcgmnpofpnpfcaaRows
import Derived.ChangeMaps5
import Derived.HandedShaped
namespace Go.Proofs.Ytcgmnpofpnpfcaa
open Go.ChangeShapes Go.WideShapes Go.ChangeAt Go.RowKit Go.Joins Go.Deep
open Go.ChangeMaps (open_string shut_string)

theorem Try.laidOut : laidOutB Try.prog = true := by kernel_rfl
theorem Try.cells3 : Try.prog.cellsOf 3 = 1 := by kernel_rfl
theorem Try.cells9 : Try.prog.cellsOf 9 = 1 := by kernel_rfl
theorem Try.cellsPs : Try.prog.cellsOf 31 = 3 := by kernel_rfl
instance : Inhabited Ps := ⟨⟨0, 0, ⟨#[]⟩⟩⟩

/-- a slice of deeds, opened -/
theorem open_deeds {H : Type} {enc : TypeId × Value → H} {W : World} {fuel : Nat} {cs : List Value} {d : DataW H} {ps : List MemPlace}
    (hf : DataW.trod enc Try.prog W 0 (fun _ => true) true fuel 22 cs = some (d, ps)) (hlt : ∀ x ∈ ps, x.block < W.heap.size) (hwt : ∀ n ∈ d.weights Try.prog 22, n ≤ reachBytes) :
    ∃ (v : Value) (ks : List Ps), cs = [v] ∧ HP W v ks ∧ ∀ k ∈ ks, k.text.size ≤ 281474976710656 := by
  rcases open_slice_triples Try.underlying22 Try.underlying31 Try.cellsPs rfl rfl rfl Try.cells3 Try.cells3 Try.cells9 hf with ⟨hcs, hx⟩ | ⟨a, len, cap, m, n, V0, V1, V2, D0, D1, D2, Pl, hcs, hl, hmx, hm, hx, hcell⟩
  · exact ⟨_, [], hcs, ⟨none, 0, rfl, by simp, by simp, .inl rfl⟩, (fun k hk => by cases hk)⟩
  · simp only [if_true] at hm
    subst hm
    simp only [Prod.mk.injEq] at hx
    obtain ⟨hx1, hx2⟩ := hx
    have hw1 : ∀ i, i < len → ∀ n ∈ (DataW.agg [D0 i, D1 i, D2 i] : DataW H).weights Try.prog 31, n ≤ reachBytes := fun i hi n hn => hwt n (by
      rw [hx1]
      simp only [DataW.weights, Try.underlying22]
      refine List.mem_cons_of_mem _ (List.mem_append_left _ (weightsAll_mem (List.mem_map.2 ⟨i, List.mem_range.2 hi, rfl⟩) n hn)))
    have each : ∀ i, i < m → ∃ k : Ps, V0 i = .int .i64 k.kind ∧ V1 i = .int .i64 k.tenant ∧ V2 i = .string k.text ∧ (i < len → k.text.size ≤ 281474976710656) := by
      intro i hi
      obtain ⟨_, _, _, ⟨q0, t0⟩, ⟨q1, t1⟩, ⟨q2, t2⟩⟩ := hcell i hi
      obtain ⟨x0, e0, d0, _⟩ := DataW.trod_int Try.underlying3 t0
      obtain ⟨x1, e1, d1, _⟩ := DataW.trod_int Try.underlying3 t1
      obtain ⟨x2, e2, d2, _⟩ := DataW.trod_string Try.underlying9 t2
      simp only [List.cons.injEq, and_true] at e0 e1 e2
      refine ⟨⟨x0, x1, x2⟩, e0, e1, e2, fun hil => ?_⟩
      have hw := hw1 i hil
      simp only [Prod.mk.injEq] at d2
      rw [d2.1] at hw
      have g2 := hw x2.data.toList.length (by simp only [DataW.weights, Try.underlying31]; exact List.mem_append_right _ (List.mem_append_right _ (List.mem_append_left _ (by simp [DataW.weights]))))
      rw [ba_len] at g2
      simp only [reachBytes] at g2
      show x2.size ≤ _
      omega
    obtain ⟨K, hK⟩ := choose_lt each
    refine ⟨_, (List.range len).map K, hcs, ?_, ?_⟩
    · refine ⟨some a, m, by simp, by simp; omega, by unfold maxLen at hmx; omega, ?_⟩
      by_cases h0 : len = 0
      · left; simp [h0]
      · right
        obtain ⟨b, off, spot⟩ := a
        have hspot : spot = none := by simpa [Addr.add] using World.cell?_spot (hcell 0 (by omega)).1
        subst hspot
        refine ⟨b, off, rfl, hlt (.cell b off) (by rw [hx2]; exact List.mem_append_left _ (MemPlace.mem_row.2 ⟨0, by omega, by simp⟩)), fun k x hk => ?_⟩
        obtain ⟨hk1, hk2⟩ := List.getElem?_eq_some_iff.1 hk
        simp only [List.length_map, List.length_range] at hk1
        simp only [List.getElem_map, List.getElem_range] at hk2
        subst hk2
        have hc := hcell k (by omega)
        obtain ⟨v0, v1, v2, _⟩ := hK k (by omega)
        rw [addr_add, addr_add, addr_add, v0, v1, v2] at hc
        exact ⟨hc.1, hc.2.1, hc.2.2.1⟩
    · intro k hk
      obtain ⟨i, hi, rfl⟩ := List.mem_map.1 hk
      rw [List.mem_range] at hi
      exact (hK i (by omega)).2.2.2 hi

set_option maxRecDepth 100000 in
theorem play_lifted (os : Os) (started : os.Started) (H : Type) (enc : TypeId × Value → H) :
    ReturnsInHanded {} Try.checked os 3 .any (Rows.turnsPlaySpec.pre6 enc Try.prog Try.f3 Rows.turnsPlayRow.domain false) (Rows.turnsPlaySpec.post enc Try.prog Try.f3 false true false false) := by
  refine returnsInHanded_of_change_sized (C := Try.checked) (by kernel_rfl) started (by kernel_rfl) Try.func3
    (ChangeSpec.witness6 (enc := enc) (C := Try.checked) false ⟨#[], #[.int .i64 0, .slice none 0 0], []⟩ 8 (by kernel_rfl) (by kernel_rfl) (by kernel_rfl) (by kernel_rfl)) ?_
  intro W base args ds gs before hval0 hW _ hsz0 _
  have hsz : (DataW.weightsEach Try.prog (Try.f3.params.toList ++ Rows.turnsPlaySpec.plain.varTypes Try.prog) (ds ++ gs)).all (· ≤ reachBytes) = true := hsz0
  clear hsz0
  have hval : ∀ (j : Nat) t v, Try.f3.params[j]? = some t → args[j]? = some v → Value.okWide Try.prog W .any base t v := hval0
  have hW' := hW
  obtain ⟨p, q, hA0, hV, rfl, _, _⟩ := hW
  have hA : DataW.TrodAll enc Try.prog W 0 (fun _ => true) true Try.f3.params.toList args.toList ds p := hA0
  rw [Try.params3] at hA hval hsz
  obtain ⟨v0, v1, d0, d1, p0, p1, rfl, rfl, rfl, h0, h1⟩ := trodAll_two hA
  obtain ⟨rfl, rfl⟩ := trodVars_none hV
  obtain ⟨n, rfl, rfl, rfl, wn⟩ := open_int Try.underlying3 (hval 0 3 v0 rfl rfl) h0
  clear hA0 hval0
  simp only [List.append_nil, List.nil_append] at hW'
  have hlt : ∀ x ∈ p1, x.block < W.heap.size := fun x hx => by simpa using hW'.lt x (by simp [hx])
  obtain ⟨sa, sl, sc, rfl⟩ := okWide_slice Try.underlying22 (hval 1 22 v1 rfl rfl)
  have hargs : ∀ (W' : World), Below W.heap.size W W' → DataW.Trod enc Try.prog W' 0 (fun b => decide (b < W.heap.size)) true 22 (.slice sa sl sc) d1 p1 :=
    fun W' hb => Below.trod Try.laidOut (by kernel_rfl) (of_decide_eq_true (by kernel_rfl)) h1 hb hlt
  obtain ⟨fuel, hf⟩ := h1
  obtain ⟨u, ks, e1, hp, hok⟩ := open_deeds hf hlt (fun m hm => by simpa using List.all_eq_true.1 hsz m (DataW.weights_mem_each (j := 1) (t := 22) (d := d1) rfl rfl m hm))
  have e2 : Value.slice sa sl sc = u := by simpa [Value.cells] using e1
  subst e2
  refine (play_law n _ ks W hp hok).mono fun e W' ⟨he, hb⟩ => ?_
  subst he
  refine ⟨_, rfl, _, _, _, [], p1, [], hW', ?_, ?_, rfl, hb.frame _, fun h => by cases h⟩
  · exact trodAll_mk1 (shut_bool Try.underlying4 true)
  · exact trodAll_mk2 (shut_int Try.underlying3 wn) (hargs _ hb)

theorem play_holds : Rows.TurnsPlaySaid :=
  OpenClaim.holds_of_wide 3 Try.f3 rfl rfl rfl rfl rfl rfl rfl ⟨rfl, rfl, rfl, rfl, rfl⟩ rfl rfl rfl rfl rfl (by kernel_rfl) Try.func3 (by kernel_rfl)
    (of_decide_eq_true (by kernel_rfl)) (by unfold Func.isWrapper; first | (rw [if_pos (by decide +kernel)]; kernel_rfl) | (rw [if_neg (by decide +kernel)]; exact ⟨rfl, rfl⟩))
    (fun os started H enc _ => play_lifted os started H enc)

#print axioms play_holds
end Go.Proofs.Ytcgmnpofpnpfcaa
