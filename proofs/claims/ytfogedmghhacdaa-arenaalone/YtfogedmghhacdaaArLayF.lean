/- lay: a new thing at the least free number. -/
import Derived.Test.YtfogedmghhacdaaArPop3
import Derived.Test.YtfogedmghhacdaaArSweep
namespace Go.Proofs.Ytfogedmghhacdaa.A
open Go.RowKit Go.Maps Go.ChangeMaps Go.WideElems

/-- a thing in a free place -/
theorem NumIs.fill {D : DataW Unit} {l : List Th} (h : NumIs D l) (hD : IsMap D) {i : Nat} {x : Th} (hi : l[i]? = some noTh) (hx : x.key.Fit) (h0 : spotF l x.key = none) : NumIs (D.put (kl x.key) (.lit (.int .i64 ((i : Int) + 2)))) (l.set i x) := by
  intro q hq hqk
  obtain ⟨h1, h2⟩ := h q hq hqk
  have hil : i < l.length := (List.getElem?_eq_some_iff.1 hi).1
  have hget : ∀ j, (l.set i x)[j]? = if i = j then some x else l[j]? := fun j => by
    rw [List.getElem?_set]
    by_cases e : i = j
    · subst e; simp [hil]
    · simp [e]
  by_cases e : x.key = q
  · subst e
    have hs : spotF (l.set i x) x.key = some i := by
      unfold spotF
      rw [List.findIdx?_eq_some_iff_getElem]
      refine ⟨by rw [List.length_set]; exact hil, by simp, fun j hj => ?_⟩
      have hjl : j < l.length := by omega
      rw [List.getElem_set_ne (by omega)]
      have := spot_none h0 l[j] (List.getElem_mem hjl)
      simpa using this
    unfold numF
    rw [hs]
    exact ⟨has_put_same hD (kl_key _) _, atKey_put_same hD (kl_key _) _ _⟩
  · have hne : kl q ≠ kl x.key := fun k => e (kl_inj hq hx k).symm
    have hno : noTh.key ≠ q := fun e => hqk (by rw [← e]; rfl)
    have : spotF (l.set i x) q = spotF l q := by
      unfold spotF
      clear h1 h2 hget h0 h
      induction l generalizing i with
      | nil => simp at hi
      | cons y l ih =>
        cases i with
        | zero =>
          simp at hi; subst hi
          rw [List.set_cons_zero, List.findIdx?_cons, List.findIdx?_cons]
          rw [decide_eq_false hno, decide_eq_false e]
        | succ i =>
          rw [List.set_cons_succ, List.findIdx?_cons, List.findIdx?_cons, ih (by simpa using hi) (by simpa using hil)]
    unfold numF at *
    rw [this, has_put_other hne, atKey_put_other hne]
    exact ⟨h1, h2⟩

/-- a thing laid into a free place, and into the map -/
theorem ArRaw.relay {w w1 W' : World} {b n : Nat} {F : Nat → Prop} {A : Ar} {r : Raw} {D : DataW Unit} (h : ArRaw w b F n A r D) {g c i : Nat} {x : Th} (hv : r.vth = .slice (some ⟨g, 0, none⟩) A.ths.length c) (hi : A.ths[i]? = some noTh) (hf : x.key.Fit) (h0 : spotF A.ths x.key = none)
    (hm : w1.ownsMap Try.prog 80 (plainElem Try.prog 3) r.mp (n + 1) (D.put (kl x.key) (.lit (.int .i64 ((i : Int) + 2))))) (hWs : W'.heap.size = w.heap.size) (hWh : ∀ k, k ≠ g → W'.heap[k]? = w.heap[k]?) (hWt : ThRow W' 0 r.vth (A.ths.set i x)) (hWa : Apart F w W') (ht : W'.drew.mapTurned w1 r.mp) :
    ArRaw w1 b F (n + 1) { A with ths := A.ths.set i x } r (D.put (kl x.key) (.lit (.int .i64 ((i : Int) + 2)))) ∧ Apart F w w1 := by
  have hg : r.vth.ownBlock = some g := by rw [hv]; rfl
  have hgb : b ≠ g := fun e => h.vb (by rw [hg, e])
  have hs : w1.heap.size = w.heap.size := (size_of_turned ht).trans hWs
  have hgr := grown_of_turned ht
  have hlk : ∀ k, F k → k ≠ r.mp → k ≠ g → w1.heap[k]? = w.heap[k]? := fun k hk h1 h2 =>
    (hgr.block k (by show k < W'.heap.size; rw [hWs]; exact h.flt k hk) (fun e => h1 (Option.some.inj e))).trans (hWh k h2)
  have hD : IsMap D := World.ownsMap.isMap h.map
  refine ⟨⟨h.raw.go (hlk b h.fb h.mb.symm hgb), h.room, ?_, hm, h.num.fill hD hi hf h0, ?_, h.lim, h.cnt, fun t ht => ?_, h.apf, h.apt, h.fb, h.fm, h.fv, h.ff, h.ft, fun k hk => by rw [hs]; exact h.flt k hk⟩, ?_⟩
  · exact row_other hWt fun k hk => hgr.block k (by show k < W'.heap.size; rw [hWs]; exact h.flt k (h.fv k hk)) (fun e => h.vm (by rw [hk, e]))
  · exact row_other h.free fun k hk => hlk k (h.ff k hk) (fun e => h.fm' (by rw [← e]; exact hk)) (fun e => h.vf hg (by rw [hk, e]))
  · exact row_other (h.fresh t ht) fun k hk => hlk k (h.ft t ht k hk) (fun e => h.tm ht (by rw [← e]; exact hk)) (fun e => h.vt ht hg (by rw [hk, e]))
  · exact hWa.drew.trans (Apart.grown (F := F) hgr fun k hk => by cases hk; exact h.fm) fun k hk => Or.inl hk
end Go.Proofs.Ytfogedmghhacdaa.A
