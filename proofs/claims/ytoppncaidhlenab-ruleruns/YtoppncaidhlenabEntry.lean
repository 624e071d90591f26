/- 'm[k] += d' on a map of cells and numbers, whichever comes first, the look-up or the entry: what each step makes. -/
import Derived.Test.YtoppncaidhlenabKeys
import Derived.WideKeyEntry
namespace Go.Proofs.Ytoppncaidhlenab
open Go.RowKit Go.Maps Go.ChangeMaps Go.WideElems

set_option maxRecDepth 20000 in
theorem keyLaw : WideMaps.KeyLaw Try.prog 53 := deep_law_laid Try.laidOut (m := 2) (by omega) Try.row53 (by kernel_rfl) Try.wide53

theorem setBlock_twice (w : World) (b : Nat) (o o' : Obj) : setBlock (setBlock w b o) b o' = setBlock w b o' := by
  unfold setBlock
  simp

theorem setBlock_grown {w : World} {b : Nat} {es : Array MapEntry} {clock : Nat} (hb : w.heap[b]? = some (.map es clock)) (o : Obj) : w.grownBy (setBlock w b o) (some b) :=
  ⟨rfl, rfl, rfl, by simp [setBlock], fun i _ hi => heap_setBlock_other hb _ (fun e => hi (by rw [e]))⟩

/-- the entry's step: a world in which the map holds the same numbers -/
theorem entry_step {w : World} {B n : Nat} {D : DataW Unit} (h : w.ownsMap Try.prog 53 (plainElem Try.prog 3) B n D) (hn : n < maxLen) {p : Int × Int} (hp : FitsP p) :
    ∃ (c : Int) (st : Nat) (w1 : World), D.atKey (cl p) (.lit (.int .i64 0)) = .lit (.int .i64 c) ∧ (Lit.int .i64 c).wf = true ∧
      (Instr.lookup 73 (.map (some B)) (cellV p) false).run Try.prog w = .ok (.int .i64 c) w ∧
      (Instr.mapEntry 73 (.map (some B)) (cellV p)).run Try.prog w = .ok (.tuple #[.int .i64 c, .int .i64 st]) w1 ∧
      (Instr.lookup 73 (.map (some B)) (cellV p) false).run Try.prog w1 = .ok (.int .i64 c) w1 ∧
      w.grownBy w1 (some B) ∧
      ∀ x : Int, (Lit.int .i64 x).wf = true → ∃ w2, (Instr.entryStore 73 (.map (some B)) (.int .i64 st) (.int .i64 x)).run Try.prog w1 = .ok () w2 ∧
        w2.ownsMap Try.prog 53 (plainElem Try.prog 3) B (n + 1) (D.put (cl p) (.lit (.int .i64 x))) ∧ w.grownBy w2 (some B) := by
  have hkey := key_cell hp
  obtain ⟨c, hlook, hat, hwc⟩ := h.lookup_int law Try.underlying73 Try.underlying3 (Try.zero3 w) hkey
  have h0 := h
  obtain ⟨es, clock, hb, F, hs, rfl⟩ := h
  obtain ⟨v0, st, es1, clock1, hent, _, hstore⟩ := entry_then_store keyLaw Try.underlying73 Try.zero3 hb F hkey
  have hb1 : (setBlock w B (.map es1 clock1)).heap[B]? = some (.map es1 clock1) := heap_setBlock_same hb _
  have both : v0 = .int .i64 c ∧ (Instr.lookup 73 (.map (some B)) (cellV p) false).run Try.prog (setBlock w B (.map es1 clock1)) = .ok (.int .i64 c) (setBlock w B (.map es1 clock1)) := by
    rcases law.find w hkey es.toList F.keys with ⟨h1, h2⟩ | ⟨j, e0, h1, h2, h3⟩
    · have hent2 : (Instr.mapEntry 73 (.map (some B)) (cellV p)).run Try.prog w = .ok (.tuple #[.int .i64 0, goInt clock]) (setBlock w B (.map (es.push ⟨cellV p, .int .i64 0, clock⟩) (clock + 1))) := by
        simp [Instr.mapEntry, run_underlying Try.underlying73, MapKept.run_getObj_map hb, law.check w false hkey, h1, Try.zero3 w, MapKept.run_setObj_map _ hb, Result.andThen, setBlock]
      have hupd : (Instr.mapUpdate 73 (.map (some B)) (cellV p) (.int .i64 0)).run Try.prog w = .ok () (setBlock w B (.map (es.push ⟨cellV p, .int .i64 0, clock⟩) (clock + 1))) := by
        simp [Instr.mapUpdate, run_underlying Try.underlying73, MapKept.run_getObj_map hb, law.check w false hkey, h1, MapKept.run_setObj_map _ hb, Result.andThen, setBlock]
      rw [hent] at hent2
      simp only [Result.ok.injEq, Value.tuple.injEq] at hent2
      obtain ⟨e1, e2⟩ := hent2
      obtain ⟨w', hrun, hown', _⟩ := h0.update law Try.underlying73 hn hkey (plainElem_int (H := Unit) Try.underlying3 (show (Lit.int .i64 0).wf = true by decide))
      rw [hupd] at hrun
      simp only [Result.ok.injEq, true_and] at hrun
      rw [← hrun, ← e2] at hown'
      obtain ⟨c', hl', hat', _⟩ := hown'.lookup_int law Try.underlying73 Try.underlying3 (Try.zero3 _) hkey
      rw [atKey_put_same h0.isMap (cl_key p)] at hat'
      have hz : (Instr.lookup 73 (.map (some B)) (cellV p) false).run Try.prog w = .ok (.int .i64 0) w := by
        simp [Instr.lookup, run_underlying Try.underlying73, MapKept.run_getObj_map hb, law.check w es.isEmpty hkey, h1, Result.andThen]
      rw [hlook] at hz
      simp only [Result.ok.injEq, Value.int.injEq, true_and, and_true] at hz
      simp at hat'
      simp at e1
      rw [← hat'] at hl'
      rw [hz]
      exact ⟨e1.1, hl'⟩
    · have hj : es[j]? = some e0 := by simpa using h2
      have hsame : es.modify j (fun e => { e with key := cellV p }) = es := by
        apply Array.ext'
        rw [Array.toList_modify, modify_eq_set _ _ _ _ h2]
        have : ({ e0 with key := cellV p } : MapEntry) = e0 := by rw [← h3]
        rw [this]
        exact set_self _ _ _ h2
      have hent2 : (Instr.mapEntry 73 (.map (some B)) (cellV p)).run Try.prog w = .ok (.tuple #[e0.val, goInt e0.born]) (setBlock w B (.map es clock)) := by
        simp [Instr.mapEntry, run_underlying Try.underlying73, MapKept.run_getObj_map hb, law.check w false hkey, h1, hj, h3, law.stays w hkey, hsame, MapKept.run_setObj_map _ hb, Result.andThen, setBlock]
      rw [hent] at hent2
      simp only [Result.ok.injEq, Value.tuple.injEq] at hent2
      obtain ⟨e1, e2⟩ := hent2
      have hv : (Instr.lookup 73 (.map (some B)) (cellV p) false).run Try.prog w = .ok e0.val w := by
        simp [Instr.lookup, run_underlying Try.underlying73, MapKept.run_getObj_map hb, law.check w es.isEmpty hkey, h1, Result.andThen]
      rw [hlook] at hv
      simp only [Result.ok.injEq, and_true] at hv
      have hown1 : (setBlock w B (.map es clock)).ownsMap (H := Unit) Try.prog 53 (plainElem Try.prog 3) B n (.map ((es.toList.map (rg Try.prog 53 (plainElem Try.prog 3))).foldr DataW.insert [])) := ⟨es, clock, heap_setBlock_same hb _, F, hs, rfl⟩
      obtain ⟨c', hl', hat', _⟩ := hown1.lookup_int law Try.underlying73 Try.underlying3 (Try.zero3 _) hkey
      rw [hat] at hat'
      simp at hat'
      simp at e1
      rw [← hat'] at hl'
      rw [e2]
      exact ⟨by rw [e1.1, hv], hl'⟩
  obtain ⟨rfl, hl1⟩ := both
  refine ⟨c, st, _, hat, hwc, hlook, hent, hl1, setBlock_grown hb _, fun x hx => ?_⟩
  obtain ⟨es', clock', hst, hup⟩ := hstore _ (.int .i64 x) hb1
  obtain ⟨w', hrun, hown', hgr⟩ := h0.update law Try.underlying73 hn hkey (plainElem_int (H := Unit) Try.underlying3 hx)
  rw [hup] at hrun
  simp only [Result.ok.injEq, true_and] at hrun
  subst hrun
  rw [setBlock_twice] at hst
  exact ⟨_, hst, hown', hgr⟩
end Go.Proofs.Ytoppncaidhlenab
