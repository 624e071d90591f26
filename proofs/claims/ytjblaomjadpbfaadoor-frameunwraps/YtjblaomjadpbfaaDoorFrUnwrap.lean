/- frame.Unwrap. -/
import Derived.Test.YtjblaomjadpbfaaDoorFrFirst
import Derived.Laws.AppendOwn
namespace Go.Proofs.YtjblaomjadpbfaaDoor
open Go.RowKit

/-- texts in a row of the call's own -/
def Texts (w : World) (B : Nat) (v : Value) (ts : List (List UInt8)) : Prop := w.ownsRow B 9 1 v ts.length (ts.map fun t => Value.string ⟨t.toArray⟩)
theorem Texts.below {w w' : World} {B : Nat} {v : Value} {ts : List (List UInt8)} (h : Texts w B v ts) (hb : Below w.heap.size w w') : Texts w' B v ts :=
  World.ownsRow.kept (row := none) h ⟨hb.os, hb.tape, hb.output, hb.size, fun k hk _ => hb.block k hk⟩ (Classical.em _)
theorem texts_nil (w : World) (B : Nat) : Texts w B (.slice none 0 0) [] := World.ownsRow_nil _ _ _ _
theorem Tryd.infoStr : (Tryd.prog.info? 9).map (fun i => (i.zero, i.size, i.bytes)) = some (some (.string ByteArray.empty), 1, 16) := by kernel_rfl
theorem grownBy_below {w w' : World} {B : Nat} {v : Value} {n : Nat} {xs : List Value} (h : w.grownBy w' v.ownBlock) (hown : w.ownsRow B 9 1 v n xs) (hB : B ≤ w.heap.size) : Below B w w' := by
  refine ⟨h.os, h.tape, h.output, h.size, fun k hk => ?_⟩
  refine h.block k (by omega) ?_
  intro e
  rcases hown.2 with ⟨rfl, _⟩ | ⟨g, cap, cur, rfl, hg, _⟩
  · cases e
  · simp only [Value.ownBlock, Option.some.injEq] at e
    omega

/-- what Unwrap answers -/
def UnwrapOut (s : List UInt8) (w : World) (e : Ending) (w' : World) : Prop :=
  Below w.heap.size w w' ∧ ((∃ v ts, s = joinW ts ∧ Texts w' w.heap.size v ts ∧ e = .returned (.tuple #[v, .int .i64 0])) ∨ ((∀ ts, s ≠ joinW ts) ∧ e = .returned (.tuple #[.slice none 0 0, .int .i64 2])))

set_option maxRecDepth 20000 in
set_option maxHeartbeats 2000000 in
theorem unwrap_any (s : List UInt8) (w : World) (hs : s.length ≤ 140737488351232) :
    Calls Tryd.prog 11 #[.string ⟨s.toArray⟩] w (UnwrapOut s w) := by
  have hft := fun s W h => firstText_any s W h
  obtain ⟨SB, hS⟩ : ∃ S, S = (⟨s.toArray⟩ : ByteArray) := ⟨_, rfl⟩
  rw [← hS]
  have HSS : Hid (SB = ⟨s.toArray⟩ ∧ s.length ≤ 140737488351232) := ⟨hS, hs⟩
  clear hS hs
  obtain ⟨i0, hi, hz0, hz1, hz2⟩ := info_parts Tryd.infoStr
  go_enter Tryd.func11, Tryd.ntmps11
  go_wp2_with fail
  go_loopg [0, 4] s.length (fun g s0 s4 wr => ∃ (r : List UInt8) (ts : List (List UInt8)), r.length ≤ g ∧ s0 = .string ⟨r.toArray⟩ ∧ s = joinW ts ++ r ∧ Texts wr w.heap.size s4 ts ∧ Below w.heap.size w wr)
  case atStart => exact ⟨s, [], Nat.le_refl _, by rw [HSS.out.1], rfl, texts_nil _ _, Below.refl _ _⟩
  case round =>
    obtain ⟨r, ts, hr, rfl, hj, ht, hb⟩ := hrel
    have HJ : Hid (s = joinW ts ++ r ∧ r.length ≤ gk) := ⟨hj, hr⟩
    have hlen : 128 * ts.length + r.length ≤ s.length := by have := joinW_len ts; rw [hj, List.length_append]; omega
    have HLEN : Hid (128 * ts.length + r.length ≤ s.length) := hlen
    have c1 := fun W => hft r W (by have := HSS.out; omega)
    clear hft hr hj hlen
    by_cases hr0 : r = []
    · subst hr0
      have HE : Hid (s = joinW ts) := by have := HJ.out.1; rwa [List.append_nil] at this
      clear c1
      go_wp2_with fail
      go_ret2
      exact ⟨hb, Or.inl ⟨_, ts, HE.out, ht, rfl⟩⟩
    · have HR0 : Hid (r ≠ []) := hr0
      have hre : r.isEmpty = false := by
        cases r with
        | nil => exact absurd rfl hr0
        | cons _ _ => rfl
      obtain ⟨R, hR⟩ : ∃ R, R = (⟨r.toArray⟩ : ByteArray) := ⟨_, rfl⟩
      clear hr0
      go_wp2_with fail
      refine (c1 _).mono ?_
      rintro e w1 ⟨hz1', hcase⟩
      clear c1
      rcases hcase with ⟨t, x, hrd, rfl⟩ | ⟨hno, rfl⟩
      · have HRD : Hid (Reads [] r t x) := hrd
        have ht1 := ht.below hz1'
        have hb1 : Below w.heap.size w w1 := hb.trans (hz1'.mono hb.size)
        clear hrd ht hb hz1'
        go_wp2_with (at_builtin; refine wpList_append_own _ rfl _ _ 22 rfl w.heap.size 9 i0 (.string ByteArray.empty) 1 16 Tryd.underlying22 hi hz0 hz1 hz2 rfl (by decide) _ _ _ rfl (World.ownsRow.alloc ht1 _) ⟨w1.heap.size, 0, none⟩ 1 1 [.string ⟨t.toArray⟩] rfl rfl ?c1 ?c2 ?c3 ?c4 ?c5 ?_)
        case c1 =>
          intro j u hj
          match j, hj with
          | 0, hj => simp at hj; subst hj; simp [Addr.add]
        case c2 => intro u hu; simp at hu; subst hu; rfl
        case c3 => unfold maxLen; have := HLEN.out; have := HSS.out; omega
        case c4 => have := HLEN.out; have := HSS.out; omega
        case c5 => have := hb1.size; simp; omega
        intro v' w4 hown' hgrow _
        go_wp2_with fail
        go_roundg (gk - 1)
        case measure =>
          have h1 := HJ.out.2
          have h2 := HRD.out.len
          omega
        case rel =>
          have h1 := HJ.out
          have h2 := reads_joinW HRD.out
          have h3 := HRD.out.len
          obtain ⟨k, hk, _⟩ := wrapL_len t.length t (Nat.le_refl _)
          have h4 := congrArg List.length h2
          rw [List.length_append, hk] at h4
          refine ⟨x, ts ++ [t], by omega, rfl, ?_, ?_, ?_⟩
          · rw [joinW_append, joinW_one, h1.1, h2, List.append_assoc]
          · rw [Texts, List.length_append, List.map_append]
            exact hown'
          · exact (hb1.alloc hb1.size _).trans (grownBy_below hgrow (World.ownsRow.alloc ht1 _) (by have := hb1.size; simp; omega))
      · have HNO : Hid (∀ ts, s ≠ joinW ts) := fun ts' e => by
          obtain ⟨c, h1, _⟩ := joinW_rest ts ts' r (by rw [← HJ.out.1, e])
          obtain ⟨t, x, h2⟩ := joinW_reads h1 HR0.out
          exact hno t x h2
        have hb1 : Below w.heap.size w w1 := hb.trans (hz1'.mono hb.size)
        go_wp2_with fail
        go_ret2
        exact ⟨hb1, Or.inr ⟨HNO.out, rfl⟩⟩
end Go.Proofs.YtjblaomjadpbfaaDoor
