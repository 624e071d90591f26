/- Keys' texts are distinct, and keys. -/
import Derived.Test.YtpeffpgpiookpaaDoorKyText
namespace Go.Proofs.YtpeffpgpiookpaaDoor
open Go.RowKit
theorem itoa_tab : ∀ i : Fin 32, ∀ j : Fin 32, Lib.itoa (i.val : Int) = Lib.itoa (j.val : Int) → i = j := by decide +kernel
theorem itoa_dig : ∀ i : Fin 32, (Lib.itoa (i.val : Int)).all (fun c => decide (48 ≤ c.toNat) && decide (c.toNat ≤ 57)) = true := by decide +kernel
theorem take_k (A B : List UInt8) (h : ∀ c ∈ A, c ≠ 107) : (A ++ 107 :: B).takeWhile (· != 107) = A := by
  induction A with
  | nil => rfl
  | cons a r ih =>
    rw [List.cons_append, List.takeWhile_cons, if_pos (by simpa using h a List.mem_cons_self), ih fun c hc => h c (List.mem_cons_of_mem _ hc)]
theorem itoa_nok (i : Nat) (hi : i < 32) : ∀ c ∈ Lib.itoa (i : Int), c ≠ 107 := fun c hc e => by
  have := List.all_eq_true.1 (itoa_dig ⟨i, hi⟩) c hc
  subst e
  revert this
  decide
theorem keyT_inj (i j : Nat) (d d' : Int) (hi : i < 32) (hj : j < 32) (h : keyT i d = keyT j d') : i = j := by
  unfold keyT at h
  have h1 := (List.cons.inj h).2
  have h2 := congrArg (fun l => l.takeWhile (· != 107)) h1
  rw [take_k _ _ (itoa_nok i hi), take_k _ _ (itoa_nok j hj)] at h2
  have := itoa_tab ⟨i, hi⟩ ⟨j, hj⟩ h2
  exact congrArg Fin.val this
end Go.Proofs.YtpeffpgpiookpaaDoor
