/- Pop. -/
import Derived.Test.YtpldaghhledjlaaGreatDoorTuTake2
namespace Go.Proofs.YtpldaghhledjlaaGreatDoor
open Go.RowKit

/-- what Pop answers, and what it leaves -/
def PopOut (B b R : Nat) (vs : List Value) (T : Tu) (w : World) (e : Ending) (w' : World) : Prop :=
  ((∀ i, i < T.n → T.rows[(T.next + i) % T.n]? = some []) ∧ e = .returned (.tuple #[.int .i64 0, .string ⟨#[]⟩, .bool false]) ∧ Below w.heap.size w w') ∨
  ∃ i s r, i < T.n ∧ (∀ j, j < i → T.rows[(T.next + j) % T.n]? = some []) ∧ T.rows[(T.next + i) % T.n]? = some (s :: r) ∧ e = .returned (.tuple #[.int .i64 (((T.next + i) % T.n : Nat) : Int), .string s, .bool true]) ∧
    ∃ vs', TuAt w' B b R vs' ⟨T.n, ((T.next + i) % T.n + 1) % T.n, T.rows.set ((T.next + i) % T.n) r⟩ ∧ OnlyF (TuOwn b R vs) w w' ∧ ∀ q, TuOwn b R vs' q → TuOwn b R vs q ∨ w.heap.size ≤ q

set_option maxRecDepth 20000 in
set_option maxHeartbeats 1000000 in
theorem Pop_any (B b R : Nat) (vs : List Value) (T : Tu) (w : World) (h : TuAt w B b R vs T) :
    Calls Tryz.prog 23 #[.pointer (some ⟨b, 0, none⟩)] w (PopOut B b R vs T w) := by
  obtain ⟨c0, c1, f1⟩ := h.cells
  have HT : Hid (TuAt w B b R vs T) := h
  have hn1 := h.pos
  have hn2 := h.le
  have hnx := h.nx
  clear h
  go_enter Tryz.func23, Tryz.ntmps23
  go_wp2_with fail
  go_loopg [14] T.n (fun gk s14 wr => ∃ j : Nat, j + gk = T.n ∧ s14 = .int .i64 j ∧ wr = w ∧ ∀ i, i < j → T.rows[(T.next + i) % T.n]? = some [])
  case atStart => exact ⟨0, by omega, rfl, rfl, fun i hi => absurd hi (by omega)⟩
  case round =>
    obtain ⟨j, hj, rfl, rfl, hall⟩ := hrel
    have HJ : Hid (j + gk = T.n) := hj
    have HA : Hid (∀ i, i < j → T.rows[(T.next + i) % T.n]? = some []) := hall
    have hjn : j ≤ T.n := by omega
    clear hj hall
    by_cases hlt : j < T.n
    · have hi2 : (j : Int) < (T.n : Int) := by omega
      obtain ⟨k, hk⟩ : ∃ k, k = (T.next + j) % T.n := ⟨_, rfl⟩
      have hkn : k < T.n := by rw [hk]; exact Nat.mod_lt _ hn1
      have hr1 := round_any b R T.n (T.next + j) wr c0 hn1 hn2 (by omega)
      rw [← hk] at hr1
      have hadd : IntKind.i64.wrap ((T.next : Int) + (j : Int)) = ((T.next + j : Nat) : Int) := by rw [IntKind.wrap_i64]; omega
      have HK : Hid (k = (T.next + j) % T.n) := hk
      obtain ⟨v, r, hv, hr, hc, hf, hrow⟩ := HT.out.cell k hkn
      obtain ⟨a, c, rfl, hl1, hl2⟩ := hrow.slice
      have hk1 : (0 : Int) ≤ (k : Int) := by omega
      have hk2 : (k : Int) < (T.n : Int) := by omega
      have HR : Hid (T.rows[k]? = some r) := hr
      clear hk hv hr hrow hf
      cases r with
      | nil =>
        simp only [List.length_nil] at hc hl1
        go_wp2_with (go_at_call 36; refine hr1.mono ?_; rintro e w1 ⟨rfl, rfl⟩)
        go_roundg (gk - 1)
        case measure => have := HJ.out; omega
        case rel =>
          have h1 := HJ.out
          refine ⟨j + 1, by omega, by go_num, rfl, fun i hi => ?_⟩
          rcases Nat.lt_succ_iff_lt_or_eq.1 hi with h | h
          · exact HA.out i h
          · rw [h, ← HK.out]; exact HR.out
      | cons s r =>
        have hl8 : r.length + 1 ≤ 8 := HT.out.small _ (List.mem_of_getElem? HR.out)
        obtain ⟨m, hm⟩ : ∃ m, m = (s :: r).length := ⟨_, rfl⟩
        rw [← hm] at hc hl1
        have hm0 : (0 : Int) < (m : Int) := by rw [hm]; simp
        clear hm
        go_wp2_with fail
        refine hr1.mono ?_
        rintro e w1 ⟨rfl, rfl⟩
        have hr2 := round_any b R T.n (k + 1) w1 c0 hn1 hn2 (by omega)
        have hcast : ((k + 1 : Nat) : Int) = (k : Int) + 1 := by omega
        rw [hcast] at hr2
        clear hcast
        obtain ⟨m2, hm2⟩ : ∃ m2, m2 = (k + 1) % T.n := ⟨_, rfl⟩
        rw [← hm2] at hr2
        have hm2n : m2 < T.n := by rw [hm2]; exact Nat.mod_lt _ hn1
        have HM2 : Hid (m2 = (k + 1) % T.n) := hm2
        clear hm2
        have ht := take_any B b R vs ⟨T.n, m2, T.rows⟩ k s r _ (HT.out.setNext m2 hm2n) hkn HR.out
        have HS : Hid (OnlyF (TuOwn b R vs) w1 (w1.setCell ⟨b, 1, none⟩ (.int .i64 m2))) := OnlyF.set w1 ⟨b, 1, none⟩ _ (.inl rfl)
        go_wp2_with fail
        refine hr2.mono ?_
        rintro e w2 ⟨rfl, rfl⟩
        go_wp2_with fail
        refine ht.mono ?_
        rintro e w3 ⟨rfl, vs', ht3, ho3, hw3⟩
        go_wp2_with fail
        go_ret3
        refine .inr ⟨j, s, r, hlt, HA.out, ?_, ?_, vs', ?_, ?_, ?_⟩
        · rw [← HK.out]; exact HR.out
        · rw [← HK.out]; rfl
        · rw [← HK.out, ← HM2.out]; exact ht3
        · exact HS.out.trans ho3 fun q hq => .inl hq
        · intro q hq
          rcases hw3 q hq with h | h
          · exact .inl h
          · exact .inr (Nat.le_trans HS.out.size h)
    · have hq : ¬ (j : Int) < (T.n : Int) := by omega
      have HE : Hid (j = T.n) := by show j = T.n; omega
      go_wp2_with fail
      go_ret3
      exact .inl ⟨fun i hi => HA.out i (by have := HE.out; omega), rfl, Below.refl _ _⟩
end Go.Proofs.YtpldaghhledjlaaGreatDoor
