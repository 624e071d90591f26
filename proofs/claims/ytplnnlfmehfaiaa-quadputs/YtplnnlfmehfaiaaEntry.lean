/- 'm[k] += d' on a map of cells and numbers, whichever comes first, the look-up or the entry: what each step makes. -/
import Derived.Test.YtplnnlfmehfaiaaBoxLaw
import Derived.Maps.OwnSet
import Derived.Maps.RangeWalk
import Derived.WideKeyEntry
namespace Go.Proofs.Ytplnnlfmehfaiaa
open Go.RowKit Go.Maps

theorem Try.row53 : (87 : TypeId) < Try.prog.types.size := of_decide_eq_true (by kernel_rfl)
set_option maxRecDepth 100000 in
theorem Try.wide53 : (match Try.prog.underlying 87 with | some (.array _ _) | some (.struct _) => true | _ => false) = true := by rw [Try.underlying87]
set_option maxRecDepth 100000 in
theorem law : Keyed Try.prog 87 := Keyed.of_law (deep_law_laid Try.laidOut (m := 2) (by omega) Try.row53 (by kernel_rfl) Try.wide53)
theorem Try.zero3 (w : World) : (zeroValue 3).run Try.prog w = .ok (.int .i64 0) w := by kernel_rfl

/-- a cell as a value -/
def cellV (p : Int × Int) : Value := .agg #[.int .i64 p.1, .int .i64 p.2]
/-- a cell's numbers fit into int -/
def FitsP (p : Int × Int) : Prop := Fits p.1 ∧ Fits p.2
theorem wf_of_fits {x : Int} (h : Fits x) : (Lit.int .i64 x).wf = true := by
  have h1 : IntKind.i64.min = -9223372036854775808 := rfl
  have h2 : IntKind.i64.max = 9223372036854775807 := rfl
  unfold Fits at h
  simp only [Lit.wf, Bool.and_eq_true, decide_eq_true_eq]
  omega

/-- what a cell reads as -/
def cl (p : Int × Int) : Lit := .string (keyBytes [.int .i64 p.1, .int .i64 p.2])

theorem Try.keyType53 : Try.prog.keyType 87 = true := by kernel_rfl
theorem Try.someTypes : ∃ d, Try.prog.types.size = d + 1 := ⟨Try.prog.types.size - 1, by have : 0 < Try.prog.types.size := of_decide_eq_true (by kernel_rfl); omega⟩

theorem Try.cells53k : Try.prog.cellsOf 87 = 2 := by kernel_rfl
theorem keyLits_int {x : Int} (d : Nat) (h : (Lit.int .i64 x).wf = true) : Try.prog.keyLits (d + 1) 3 [.int .i64 x] = some [.int .i64 x] := by
  unfold Program.keyLits
  simp only [Try.underlying3, h, and_self, if_true]
theorem keyLits_cell {x y : Int} (d : Nat) (h0 : (Lit.int .i64 x).wf = true) (h1 : (Lit.int .i64 y).wf = true) : Try.prog.keyLits (d + 1 + 1) 87 [.int .i64 x, .int .i64 y] = some [.int .i64 x, .int .i64 y] := by
  unfold Program.keyLits
  simp only [Try.underlying87, Try.cells53k]
  simp [Try.cells3, keyLits_int d h0, keyLits_int d h1]
theorem formed_cell (p : Int × Int) : (cellV p).formed Try.prog 87 = true := by
  unfold cellV Value.formed
  rw [Try.underlying87]
  simp only [Try.cells53k]
  rfl

theorem key_cell {p : Int × Int} (h : FitsP p) : keyOf Try.prog 87 (cellV p) = some (cl p) := by
  have w0 := wf_of_fits h.1
  have w1 := wf_of_fits h.2
  have hl : Try.prog.keyLits (Try.prog.types.size + 1) 87 (cellV p).cells.toList = some [.int .i64 p.1, .int .i64 p.2] := by
    obtain ⟨d, hd⟩ := Try.someTypes
    rw [hd]
    exact keyLits_cell d w0 w1
  unfold keyOf
  rw [Try.underlying87]
  simp only [Try.keyType53, formed_cell, Bool.and_self, if_true, hl]
  rfl

theorem cl_inj {p q : Int × Int} (hp : FitsP p) (hq : FitsP q) (h : cl p = cl q) : p = q := by
  have h1 := key_cell hp
  have h2 := key_cell hq
  rw [h] at h1
  have := law.inj h1 h2
  simp only [cellV, Value.agg.injEq] at this
  simp at this
  exact Prod.ext this.1 this.2
theorem cl_key (p : Int × Int) : WideAt.IsKeyLit (cl p) := trivial

set_option maxRecDepth 20000 in
theorem keyLits_int_inv {a : Value} {l : List Lit} (d : Nat) (h : Try.prog.keyLits (d + 1) 3 [a] = some l) : ∃ x, a = .int .i64 x ∧ (Lit.int .i64 x).wf = true ∧ l = [.int .i64 x] := by
  unfold Program.keyLits at h
  simp only [Try.underlying3] at h
  split at h
  · exact absurd ‹some (TypeDesc.int IntKind.i64) = some TypeDesc.bool› (by simp)
  · rename_i q q' n hq hv
    simp only [Option.some.injEq, TypeDesc.int.injEq] at hq
    subst hq
    simp only [List.cons.injEq, and_true] at hv
    subst hv
    split at h
    · rename_i hw
      obtain ⟨rfl, hw⟩ := hw
      simp only [Option.some.injEq] at h
      exact ⟨n, rfl, hw, h.symm⟩
    · exact absurd h (by simp)
  · exact absurd ‹some (TypeDesc.int IntKind.i64) = some TypeDesc.string› (by simp)
  · exact absurd ‹some (TypeDesc.int IntKind.i64) = some (TypeDesc.array _ _)› (by simp)
  · exact absurd ‹some (TypeDesc.int IntKind.i64) = some (TypeDesc.struct _)› (by simp)
  · exact absurd h (by simp)
theorem fits_wf {x : Int} (h : (Lit.int .i64 x).wf = true) : Fits x := fits_of_wf h

set_option maxRecDepth 20000 in
/-- every key is a cell -/
theorem key_inv {key : Value} {kl : Lit} (h : keyOf Try.prog 87 key = some kl) : ∃ p, FitsP p ∧ key = cellV p ∧ kl = cl p := by
  have hf : key.formed Try.prog 87 = true ∧ (Try.prog.keyLits (Try.prog.types.size + 1) 87 key.cells.toList).map (fun ls => Lit.string (keyBytes ls)) = some kl := by
    unfold keyOf at h
    simp only [Try.underlying87, Try.keyType53, Bool.true_and] at h
    split at h
    · exact ⟨by assumption, h⟩
    · cases h
  obtain ⟨hf, hk⟩ := hf
  have hs : ∃ cs, key = .agg cs ∧ cs.size = 2 := by
    unfold Value.formed at hf
    simp only [Try.underlying87, Try.cells53k] at hf
    split at hf
    · exact ⟨_, rfl, by simpa using hf⟩
    · cases hf
    · cases hf
  obtain ⟨cs, rfl, hsz⟩ := hs
  obtain ⟨l⟩ := cs
  match l, hsz with
  | [a, b], _ =>
    rw [Option.map_eq_some_iff] at hk
    obtain ⟨ls, hls, rfl⟩ := hk
    obtain ⟨d, hd⟩ := Try.someTypes
    rw [hd] at hls
    unfold Program.keyLits at hls
    simp only [Try.underlying87, Try.cells53k] at hls
    simp [Try.cells3, Value.cells, Option.bind_eq_some_iff] at hls
    obtain ⟨la, ha, lb, ⟨lc, hb, rfl⟩, rfl⟩ := hls
    obtain ⟨x, rfl, wx, rfl⟩ := keyLits_int_inv _ ha
    obtain ⟨y, rfl, wy, rfl⟩ := keyLits_int_inv _ hb
    exact ⟨(x, y), ⟨fits_wf wx, fits_wf wy⟩, rfl, rfl⟩

/-- what a list of cells and numbers sums up to at a cell -/
def total : List ((Int × Int) × Int) → Int × Int → Int
  | [], _ => 0
  | (q, d) :: r, p => (if q = p then d else 0) + total r p
theorem total_append : ∀ (a b : List ((Int × Int) × Int)) (p : Int × Int), total (a ++ b) p = total a p + total b p
  | [], b, p => by simp [total]
  | (q, d) :: r, b, p => by rw [List.cons_append, total, total, total_append r b p]; omega

/-- a map of cells and numbers, cell by cell -/
def Cnt (D : DataW Unit) (ops : List ((Int × Int) × Int)) : Prop :=
  ∀ p, FitsP p → Maps.has D (cl p) = ops.any (fun o => o.1 == p) ∧ D.atKey (cl p) (.lit (.int .i64 0)) = .lit (.int .i64 (total ops p))

theorem Cnt.empty : Cnt (.map []) [] := fun _ _ => ⟨rfl, rfl⟩

theorem Cnt.put {D : DataW Unit} {ops : List ((Int × Int) × Int)} (h : Cnt D ops) (hD : IsMap D) {q : Int × Int} (hq : FitsP q) (d x : Int) (hx : x = total ops q + d) :
    Cnt (D.put (cl q) (.lit (.int .i64 x))) (ops ++ [(q, d)]) := by
  intro p hp
  obtain ⟨h1, h2⟩ := h p hp
  by_cases e : q = p
  · subst e
    refine ⟨?_, ?_⟩
    · rw [has_put_same hD (cl_key q)]
      simp
    · rw [atKey_put_same hD (cl_key q), total_append, hx]
      simp [total]
  · have hne : cl p ≠ cl q := fun k => e (cl_inj hq hp k.symm)
    refine ⟨?_, ?_⟩
    · rw [has_put_other hne, h1, List.any_append]
      simp [e]
    · rw [atKey_put_other hne, h2, total_append]
      simp [total, e]

/-- a set of cells, cell by cell -/
def SetIs (D : DataW Unit) (l : List (Int × Int)) : Prop := ∀ p, FitsP p → Maps.has D (cl p) = decide (p ∈ l)
theorem SetIs.empty : SetIs (.map []) [] := fun _ _ => by simp [Maps.has]
theorem SetIs.put {D : DataW Unit} {l : List (Int × Int)} (h : SetIs D l) (hD : IsMap D) {q : Int × Int} (hq : FitsP q) (d : DataW Unit) : SetIs (D.put (cl q) d) (l ++ [q]) := by
  intro p hp
  by_cases e : q = p
  · subst e
    rw [has_put_same hD (cl_key q)]
    simp
  · have hne : cl p ≠ cl q := fun k => e (cl_inj hq hp k.symm)
    rw [has_put_other hne, h p hp]
    have : ¬ p = q := fun k => e k.symm
    simp [this]
end Go.Proofs.Ytplnnlfmehfaiaa

namespace Go.Proofs.Ytplnnlfmehfaiaa
open Go.RowKit Go.Maps Go.ChangeMaps Go.WideElems

set_option maxRecDepth 20000 in
theorem keyLaw : WideMaps.KeyLaw Try.prog 87 := deep_law_laid Try.laidOut (m := 2) (by omega) Try.row53 (by kernel_rfl) Try.wide53

theorem setBlock_twice (w : World) (b : Nat) (o o' : Obj) : setBlock (setBlock w b o) b o' = setBlock w b o' := by
  unfold setBlock
  simp

theorem setBlock_grown {w : World} {b : Nat} {es : Array MapEntry} {clock : Nat} (hb : w.heap[b]? = some (.map es clock)) (o : Obj) : w.grownBy (setBlock w b o) (some b) :=
  ⟨rfl, rfl, rfl, by simp [setBlock], fun i _ hi => heap_setBlock_other hb _ (fun e => hi (by rw [e]))⟩

/-- the entry's step: a world in which the map holds the same numbers -/
theorem entry_step {w : World} {B n : Nat} {D : DataW Unit} (h : w.ownsMap Try.prog 87 (plainElem Try.prog 3) B n D) (hn : n < maxLen) {p : Int × Int} (hp : FitsP p) :
    ∃ (c : Int) (st : Nat) (w1 : World), D.atKey (cl p) (.lit (.int .i64 0)) = .lit (.int .i64 c) ∧ (Lit.int .i64 c).wf = true ∧
      (Instr.lookup 178 (.map (some B)) (cellV p) false).run Try.prog w = .ok (.int .i64 c) w ∧
      (Instr.mapEntry 178 (.map (some B)) (cellV p)).run Try.prog w = .ok (.tuple #[.int .i64 c, .int .i64 st]) w1 ∧
      (Instr.lookup 178 (.map (some B)) (cellV p) false).run Try.prog w1 = .ok (.int .i64 c) w1 ∧
      w.grownBy w1 (some B) ∧
      ∀ x : Int, (Lit.int .i64 x).wf = true → ∃ w2, (Instr.entryStore 178 (.map (some B)) (.int .i64 st) (.int .i64 x)).run Try.prog w1 = .ok () w2 ∧
        w2.ownsMap Try.prog 87 (plainElem Try.prog 3) B (n + 1) (D.put (cl p) (.lit (.int .i64 x))) ∧ w.grownBy w2 (some B) := by
  have hkey := key_cell hp
  obtain ⟨c, hlook, hat, hwc⟩ := h.lookup_int law Try.underlying178 Try.underlying3 (Try.zero3 w) hkey
  have h0 := h
  obtain ⟨es, clock, hb, F, hs, rfl⟩ := h
  obtain ⟨v0, st, es1, clock1, hent, _, hstore⟩ := entry_then_store keyLaw Try.underlying178 Try.zero3 hb F hkey
  have hb1 : (setBlock w B (.map es1 clock1)).heap[B]? = some (.map es1 clock1) := heap_setBlock_same hb _
  have both : v0 = .int .i64 c ∧ (Instr.lookup 178 (.map (some B)) (cellV p) false).run Try.prog (setBlock w B (.map es1 clock1)) = .ok (.int .i64 c) (setBlock w B (.map es1 clock1)) := by
    rcases law.find w hkey es.toList F.keys with ⟨h1, h2⟩ | ⟨j, e0, h1, h2, h3⟩
    · have hent2 : (Instr.mapEntry 178 (.map (some B)) (cellV p)).run Try.prog w = .ok (.tuple #[.int .i64 0, goInt clock]) (setBlock w B (.map (es.push ⟨cellV p, .int .i64 0, clock⟩) (clock + 1))) := by
        simp [Instr.mapEntry, run_underlying Try.underlying178, MapKept.run_getObj_map hb, law.check w false hkey, h1, Try.zero3 w, MapKept.run_setObj_map _ hb, Result.andThen, setBlock]
      have hupd : (Instr.mapUpdate 178 (.map (some B)) (cellV p) (.int .i64 0)).run Try.prog w = .ok () (setBlock w B (.map (es.push ⟨cellV p, .int .i64 0, clock⟩) (clock + 1))) := by
        simp [Instr.mapUpdate, run_underlying Try.underlying178, MapKept.run_getObj_map hb, law.check w false hkey, h1, MapKept.run_setObj_map _ hb, Result.andThen, setBlock]
      rw [hent] at hent2
      simp only [Result.ok.injEq, Value.tuple.injEq] at hent2
      obtain ⟨e1, e2⟩ := hent2
      obtain ⟨w', hrun, hown', _⟩ := h0.update law Try.underlying178 hn hkey (plainElem_int (H := Unit) Try.underlying3 (show (Lit.int .i64 0).wf = true by decide))
      rw [hupd] at hrun
      simp only [Result.ok.injEq, true_and] at hrun
      rw [← hrun, ← e2] at hown'
      obtain ⟨c', hl', hat', _⟩ := hown'.lookup_int law Try.underlying178 Try.underlying3 (Try.zero3 _) hkey
      rw [atKey_put_same h0.isMap (cl_key p)] at hat'
      have hz : (Instr.lookup 178 (.map (some B)) (cellV p) false).run Try.prog w = .ok (.int .i64 0) w := by
        simp [Instr.lookup, run_underlying Try.underlying178, MapKept.run_getObj_map hb, law.check w es.isEmpty hkey, h1, Result.andThen]
      rw [hlook] at hz
      simp only [Result.ok.injEq, Value.int.injEq, true_and, and_true] at hz
      simp at hat'
      simp at e1
      rw [← hat'] at hl'
      rw [hz]
      exact ⟨e1.1, hl'⟩
    · have hj : es[j]? = some e0 := by simpa using h2
      have hsame : es.modify j (fun e => { e with key := cellV p }) = es := by
        apply Array.ext'
        rw [Array.toList_modify, modify_eq_set _ _ _ _ h2]
        have : ({ e0 with key := cellV p } : MapEntry) = e0 := by rw [← h3]
        rw [this]
        exact set_self _ _ _ h2
      have hent2 : (Instr.mapEntry 178 (.map (some B)) (cellV p)).run Try.prog w = .ok (.tuple #[e0.val, goInt e0.born]) (setBlock w B (.map es clock)) := by
        simp [Instr.mapEntry, run_underlying Try.underlying178, MapKept.run_getObj_map hb, law.check w false hkey, h1, hj, h3, law.stays w hkey, hsame, MapKept.run_setObj_map _ hb, Result.andThen, setBlock]
      rw [hent] at hent2
      simp only [Result.ok.injEq, Value.tuple.injEq] at hent2
      obtain ⟨e1, e2⟩ := hent2
      have hv : (Instr.lookup 178 (.map (some B)) (cellV p) false).run Try.prog w = .ok e0.val w := by
        simp [Instr.lookup, run_underlying Try.underlying178, MapKept.run_getObj_map hb, law.check w es.isEmpty hkey, h1, Result.andThen]
      rw [hlook] at hv
      simp only [Result.ok.injEq, and_true] at hv
      have hown1 : (setBlock w B (.map es clock)).ownsMap (H := Unit) Try.prog 87 (plainElem Try.prog 3) B n (.map ((es.toList.map (rg Try.prog 87 (plainElem Try.prog 3))).foldr DataW.insert [])) := ⟨es, clock, heap_setBlock_same hb _, F, hs, rfl⟩
      obtain ⟨c', hl', hat', _⟩ := hown1.lookup_int law Try.underlying178 Try.underlying3 (Try.zero3 _) hkey
      rw [hat] at hat'
      simp at hat'
      simp at e1
      rw [← hat'] at hl'
      rw [e2]
      exact ⟨by rw [e1.1, hv], hl'⟩
  obtain ⟨rfl, hl1⟩ := both
  refine ⟨c, st, _, hat, hwc, hlook, hent, hl1, setBlock_grown hb _, fun x hx => ?_⟩
  obtain ⟨es', clock', hst, hup⟩ := hstore _ (.int .i64 x) hb1
  obtain ⟨w', hrun, hown', hgr⟩ := h0.update law Try.underlying178 hn hkey (plainElem_int (H := Unit) Try.underlying3 hx)
  rw [hup] at hrun
  simp only [Result.ok.injEq, true_and] at hrun
  subst hrun
  rw [setBlock_twice] at hst
  exact ⟨_, hst, hown', hgr⟩
end Go.Proofs.Ytplnnlfmehfaiaa
