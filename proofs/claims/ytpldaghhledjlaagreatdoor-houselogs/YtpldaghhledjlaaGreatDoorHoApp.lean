/- strconv.AppendInt of a number below 100: what it writes is the row's own. -/
import Derived.Test.YtpldaghhledjlaaGreatDoorSpKit
import Derived.Test.YtpldaghhledjlaaGreatDoorSpShelf
import Derived.Test.YtpldaghhledjlaaGreatDoorTuMem
import Derived.Lib.AppendStr
import Derived.Lib.ItoaLen
namespace Go.Proofs.YtpldaghhledjlaaGreatDoor.H
open Go.RowKit

theorem Tryz.infoB : (Tryz.prog.info? 5).map (fun i => (i.zero, i.size, i.bytes)) = some (some (.int .u8 0), 1, 1) := by kernel_rfl
/-- a text's bytes behind a row of bytes, and where the row lies then -/
theorem run_append_str (B : Nat) (ty : TypeId) (v : Value) (n : Nat) (xs : List Value) (w : World) (hown : w.ownsRow B 5 1 v n xs) (s : ByteArray) (hlim : n + s.size ≤ 140737488355328) (hB : B ≤ w.heap.size) :
    ∃ v' w', (Builtin.append_ #[50, 9] ty #[v, .string s]).run Tryz.prog w = .ok v' w' ∧ w'.ownsRow B 5 1 v' (n + s.size) (xs ++ Lib.strCells s) ∧ w.grownBy w' v.ownBlock ∧ ∀ k, v'.ownBlock = some k → v.ownBlock = some k ∨ w.heap.size ≤ k := by
  obtain ⟨i0, hi0, hz0, hz1, hz2⟩ := info_parts Tryz.infoB
  have hm : n + s.size ≤ maxLen := by unfold maxLen; omega
  obtain ⟨v', w', hr, h1, h2, _⟩ := Lib.run_append_own_string (P := Tryz.prog) w B 50 9 ty 5 i0 Tryz.underlying50 Tryz.underlying9 hi0 hz0 hz1 hz2 v n xs hown s hm hlim hB
  refine ⟨v', w', hr, h1, h2, fun k hk => ?_⟩
  rcases hown.2 with ⟨rfl, rfl⟩ | ⟨g, cap, cur, rfl, hbg, hg, hnc, hcm, hcs, htake⟩
  · have hx : xs = [] := List.eq_nil_of_length_eq_zero (by simpa using hown.1)
    subst hx
    obtain ⟨v2, w2, hr2, h3, _, _⟩ := Lib.run_append_own_string (P := Tryz.prog) w w.heap.size 50 9 ty 5 i0 Tryz.underlying50 Tryz.underlying9 hi0 hz0 hz1 hz2 (.slice none 0 0) 0 [] (World.ownsRow_nil w _ 5 1) s hm hlim (Nat.le_refl _)
    rw [hr] at hr2
    cases hr2
    exact .inr (h3.lt k hk).1
  · have hxl : xs.length = n := by simpa using hown.1
    by_cases hroom : n + s.size ≤ cap
    · have hcs' : cur.size = cap := by simpa using hcs
      have hr2 := Lib.run_append_room_string (P := Tryz.prog) w 50 9 ty 5 i0 Tryz.underlying50 Tryz.underlying9 hi0 hz1 g n cap cur hg s hroom (by omega)
      rw [hr] at hr2
      cases hr2
      exact .inl hk
    · have holds : ∀ j u, xs[j]? = some u → w.cell? ((⟨g, 0, none⟩ : Addr).add j) = some u := hown.cells (g := g) rfl
      have hr2 := Lib.run_append_grow_string (P := Tryz.prog) w 50 9 ty 5 i0 (.int .u8 0) Tryz.underlying50 Tryz.underlying9 hi0 hz0 ⟨g, 0, none⟩ n cap xs (by rw [hz1]; simpa using hxl) holds s (by omega) (by omega) (by rw [hz2]; exact growslice_fits (by omega) (by omega))
      rw [hr] at hr2
      cases hr2
      right
      have : w.heap.size = k := by simpa [Value.ownBlock] using hk
      omega
theorem wpList_append_str {ops : Array Oper} {rest : List Oper} {op : Oper} {a : Act} {Q : Exit → Act → World → Prop} (hgd : op.guard = none) (sl x : Operand)
    (ho : op.op = .call { callee := .builtin .append, args := #[sl, x], argTypes := #[50, 9] })
    (B : Nat) (v : Value) (n : Nat) (xs : List Value) (w : World) (hs : a.eval sl = v) (hown : w.ownsRow B 5 1 v n xs) (s : ByteArray) (hx : a.eval x = .string s) (hlim : n + s.size ≤ 140737488355328) (hB : B ≤ w.heap.size)
    (h : ∀ v' w', w'.ownsRow B 5 1 v' (n + s.size) (xs ++ Lib.strCells s) → w.grownBy w' v.ownBlock → (∀ k, v'.ownBlock = some k → v.ownBlock = some k ∨ w.heap.size ≤ k) → wpList Tryz.prog ops Q rest (a.put op.dst v') w') : wpList Tryz.prog ops Q (op :: rest) a w := by
  refine wpList_plain hgd fun K hK' => ?_
  obtain ⟨v', w', hrun, r1, r2, r3⟩ := run_append_str B op.type v n xs w hown s hlim hB
  unfold Oper.wp execOp
  simp only [ho, resolve, invoke, builtin, Sem.run_bind, Sem.run_pure, Result.andThen_ok, List.map_toArray, List.map_cons, List.map_nil, hs, hx, hrun]
  exact hK' _ _ (h v' w' r1 r2 r3)
set_option maxRecDepth 20000 in
theorem appendUint_small (B n i : Nat) (sv : Value) (xs : List Value) (w : World) (hi : i < 100) (hown : w.ownsRow B 5 1 sv n xs) (hB : B ≤ w.heap.size) (hlim : n ≤ 1000000) :
    Calls Tryz.prog 62 #[sv, .int .u64 i, .int .i64 10] w fun e w' => ∃ v', e = .returned v' ∧ w'.ownsRow B 5 1 v' (n + (⟨(Lib.decDigits i).toArray⟩ : ByteArray).size) (xs ++ Lib.strCells ⟨(Lib.decDigits i).toArray⟩) ∧ w.grownBy w' sv.ownBlock ∧ ∀ k, v'.ownBlock = some k → sv.ownBlock = some k ∨ w.heap.size ≤ k := by
  have hsm := Tryz.internal_strconv_small i hi w
  have hi1 : (i : Int) < 100 := by omega
  have hsz : (⟨(Lib.decDigits i).toArray⟩ : ByteArray).size ≤ 21 := by
    have h := Lib.itoa_length_le (i : Int) (by omega) (by omega)
    rw [Lib.itoa_nonneg] at h
    show (Lib.decDigits i).toArray.size ≤ 21
    rw [List.size_toArray]
    exact h
  generalize (⟨(Lib.decDigits i).toArray⟩ : ByteArray) = S at *
  have HO : Hid (w.ownsRow B 5 1 sv n xs) := hown
  clear hown
  go_enter Tryz.func62, Tryz.ntmps62
  go_wp2_with fail
  refine hsm.mono ?_
  rintro e w1 ⟨rfl, rfl⟩
  go_wp2_with (at_builtin; refine wpList_append_str rfl _ _ rfl B sv n xs _ rfl HO.out S rfl (by omega) hB ?_; intro v' w' hown' hgrow' hat')
  have HE : Hid (w'.ownsRow B 5 1 v' (n + S.size) (xs ++ Lib.strCells S) ∧ w1.grownBy w' sv.ownBlock ∧ ∀ k, v'.ownBlock = some k → sv.ownBlock = some k ∨ w1.heap.size ≤ k) := ⟨hown', hgrow', hat'⟩
  clear hown' hgrow' hat'
  go_wp2_with fail
  go_ret
  exact ⟨v', rfl, HE.out⟩
/-- a number below 100 written behind a row of bytes -/
def AppOut (B n i : Nat) (sv : Value) (xs : List Value) (w : World) (e : Ending) (w' : World) : Prop := ∃ v', e = .returned v' ∧ w'.ownsRow B 5 1 v' (n + (⟨(Lib.decDigits i).toArray⟩ : ByteArray).size) (xs ++ Lib.strCells ⟨(Lib.decDigits i).toArray⟩) ∧ w.grownBy w' sv.ownBlock ∧ ∀ k, v'.ownBlock = some k → sv.ownBlock = some k ∨ w.heap.size ≤ k
set_option maxRecDepth 20000 in
theorem appendInt_in (B n i : Nat) (sv : Value) (xs : List Value) (w : World) (hi : i < 100) (hown : w.ownsRow B 5 1 sv n xs) (hB : B ≤ w.heap.size) (hlim : n ≤ 1000000) :
    Calls Tryz.prog 44 #[sv, .int .i64 i, .int .i64 10] w (AppOut B n i sv xs w) := by
  have c := appendUint_small B n i sv xs w hi hown hB hlim
  have hi1 : ¬ (i : Int) < 0 := by omega
  have hi2 : (i : Int) < 100 := by omega
  have hi3 : IntKind.u64.wrap (i : Int) = (i : Int) := by rw [IntKind.wrap_u64]; omega
  clear hown
  go_enter Tryz.func44, Tryz.ntmps44
  go_wp2_with fail
  refine c.mono ?_
  rintro e w1 ⟨v', rfl, h12⟩
  have HE : Hid _ := h12
  clear h12 c
  go_wp2_with fail
  go_ret
  exact ⟨v', rfl, HE.out⟩
set_option maxRecDepth 20000 in
theorem appendInt_any (B n i : Nat) (sv : Value) (xs : List Value) (w : World) (hi : i < 100) (hown : w.ownsRow B 5 1 sv n xs) (hB : B ≤ w.heap.size) (hlim : n ≤ 1000000) :
    Calls Tryz.prog 26 #[sv, .int .i64 i, .int .i64 10] w (AppOut B n i sv xs w) := by
  have c := appendInt_in B n i sv xs w hi hown hB hlim
  clear hown
  go_enter Tryz.func26, Tryz.ntmps26
  go_wp2_with fail
  refine c.mono ?_
  rintro e w1 ⟨v', rfl, h12⟩
  have HE : Hid _ := h12
  clear h12 c
  go_wp2_with fail
  go_ret
  exact ⟨v', rfl, HE.out⟩
end Go.Proofs.YtpldaghhledjlaaGreatDoor.H
