/- A list of cells as a law's argument. -/
import Derived.Test.YtkcngkcfcokboaaTidyLaw
import Derived.Test.YtkcngkcfcokboaaOpen
import Derived.Laws.IdiomArrays
import Derived.Carry
import Derived.Test.YtkcngkcfcokboaaRows
namespace Go.Proofs.Ytkcngkcfcokboaa
open Go.ChangeShapes Go.WideShapes Go.ChangeAt Go.RowKit

theorem open_list {H : Type} {enc : TypeId × Value → H} {W : World} {v : Value} {d : DataW H} {ps : List MemPlace} {ts : List TypeId} {ds : List (DataW H)} (j : Nat)
    (hs : (DataW.weightsEach Try.prog ts ds).all (· ≤ reachBytes) = true) (hj : ts[j]? = some 69) (hd : ds[j]? = some d)
    (h : DataW.Trod enc Try.prog W 0 (fun _ => true) true 69 v d ps) (hlt : ∀ x ∈ ps, x.block < W.heap.size) (hv : ∃ a len cap, v = .slice a len cap) :
    ∃ zs : List (Int × Int), RRow W v zs ∧ zs.length * 16 ≤ 140737488351232 ∧ ∀ p ∈ zs, Fits p.1 ∧ Fits p.2 := by
  obtain ⟨n, X, Y, ⟨a, c, hv, hc, hm, ha, hp⟩, hn, hf⟩ := open_row j hs hj hd h hlt hv
  refine ⟨zip2 n X Y, ⟨a, c, by rw [zip2_length]; exact hv, by rw [zip2_length]; exact hc, hm, ha, ?_⟩, by rw [zip2_length]; exact hn, fun p hp => ?_⟩
  · rw [zip2_length]
    rcases hp with hp | ⟨b, off, e, hb, hp⟩
    · exact Or.inl hp
    · refine Or.inr ⟨b, off, e, hb, fun i hi => ?_⟩
      simp only [zip2_get n X Y i hi]
      exact hp i hi
  · simp only [zip2, List.mem_map, List.mem_range] at hp
    obtain ⟨i, hi, rfl⟩ := hp
    exact hf i hi
end Go.Proofs.Ytkcngkcfcokboaa
