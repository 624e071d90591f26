/- The document's WrapText. -/
import Derived.Test.YtjblaomjadpbfaaFrKit
import Derived.Test.YtjblaomjadpbfaaFrPure
namespace Go.Proofs.Ytjblaomjadpbfaa
open Go.RowKit

theorem two_bytes (w : World) (m n : Nat) (hm : m ≤ 255) (hn : n ≤ 255) : (convert 25 9 (.slice (some ⟨w.heap.size, 0, none⟩) 2 2)).run Try.prog ((w.alloc (.cells #[.int .u8 m, .int .u8 n] 5)).drew) = .ok (.string ⟨[UInt8.ofNat m, UInt8.ofNat n].toArray⟩) ((w.alloc (.cells #[.int .u8 m, .int .u8 n] 5)).drew) := by
  refine run_convert_bytes_back (P := Try.prog) _ 25 9 5 ⟨w.heap.size, 0, none⟩ 2 [UInt8.ofNat m, UInt8.ofNat n] Try.underlying25 Try.underlying5 Try.underlying9 fun j hj => ?_
  have e : (w.alloc (.cells #[.int .u8 m, .int .u8 n] 5)).drew.heap[w.heap.size]? = some (.cells #[.int .u8 m, .int .u8 n] 5 (0, 0)) := by simp [World.alloc, World.drew, -World.alloc_eq, -World.drew_eq]
  have hj2 : j < 2 := hj
  have e2 : (⟨w.heap.size, 0, none⟩ : Addr).add j = ⟨w.heap.size, j, none⟩ := by simp only [Addr.add]; split <;> simp_all
  rw [e2, Lib.cell_of_heap e]
  have hm2 : (UInt8.ofNat m).toNat = m := by rw [UInt8.toNat_ofNat']; omega
  have hn2 : (UInt8.ofNat n).toNat = n := by rw [UInt8.toNat_ofNat']; omega
  match j, hj2 with
  | 0, _ => simp only [List.getElem_cons_zero, hm2]; rfl
  | 1, _ => simp only [List.getElem_cons_succ, List.getElem_cons_zero, hn2]; rfl

set_option maxRecDepth 20000 in
set_option maxHeartbeats 2000000 in
theorem refWrap_any (s : List UInt8) (w : World) (hs : s.length ≤ 140737488355328) :
    Calls Try.prog 5 #[.string ⟨s.toArray⟩] w fun e w' => e = .returned (.string ⟨(wrapL s).toArray⟩) ∧ Below w.heap.size w w' := by
  have HS : Hid (s.length ≤ 140737488355328) := hs
  clear hs
  obtain ⟨S, hS⟩ : ∃ S, S = (⟨s.toArray⟩ : ByteArray) := ⟨_, rfl⟩
  rw [← hS]
  have HSS : Hid (S = ⟨s.toArray⟩) := hS
  clear hS
  go_enter Try.func5, Try.ntmps5
  go_wp2_with fail
  go_loopg [0, 3] s.length (fun g s0 s3 wr => ∃ r o : List UInt8, r.length ≤ g ∧ r.length ≤ s.length ∧ s0 = .string ⟨r.toArray⟩ ∧ s3 = .string ⟨o.toArray⟩ ∧ o ++ wrapL r = wrapL s ∧ Below w.heap.size w wr)
  case atStart => exact ⟨s, [], Nat.le_refl _, Nat.le_refl _, by rw [HSS.out], rfl, rfl, Below.refl _ _⟩
  case round =>
    obtain ⟨r, o, hr, hrs, rfl, rfl, ho, hb⟩ := hrel
    obtain ⟨R, hR⟩ : ∃ R, R = (⟨r.toArray⟩ : ByteArray) := ⟨_, rfl⟩
    obtain ⟨O, hO⟩ : ∃ O, O = (⟨o.toArray⟩ : ByteArray) := ⟨_, rfl⟩
    rw [← hR, ← hO]
    have hol : o.length ≤ 562949953421312 := by
      have h1 := congrArg List.length ho
      have h2 := wrapL_bound s
      have h3 := HS.out
      rw [List.length_append] at h1
      omega
    have HR : Hid (R = ⟨r.toArray⟩ ∧ r.length ≤ gk ∧ r.length ≤ s.length) := ⟨hR, hr, hrs⟩
    have HO : Hid (O = ⟨o.toArray⟩ ∧ o ++ wrapL r = wrapL s) := ⟨hO, ho⟩
    have hsz : R.size = r.length := by rw [hR]; exact ba_size r
    have hrl : r.length ≤ 140737488355328 := Nat.le_trans hrs HS.out
    generalize hn : r.length = rn at *
    have HRN : Hid (r.length = rn) := hn
    clear hR hO ho hr hrs hn
    go_upto_if 10 with fail
    go_cut [4, 5] from 7 to 11 (fun s4 s5 wc => ∃ (n m : Nat), n ≤ 126 ∧ n ≤ rn ∧ s4 = .int .i64 n ∧ s5 = .int .u8 m ∧ (m = 1 ∧ n = 126 ∧ 126 < rn ∨ m = 0 ∧ n = rn) ∧ wc = wr)
    case first =>
      by_cases hl : 126 < rn
      · have hl2 : (126 : Int) < (rn : Int) := by omega
        go_wp2_with fail
        go_meet
        case rel => exact ⟨126, 1, by omega, by omega, rfl, rfl, Or.inl ⟨rfl, rfl, by omega⟩, rfl⟩
      · have hl2 : ¬ (126 : Int) < (rn : Int) := by omega
        go_wp2_with fail
        go_meet
        case rel => exact ⟨rn, 0, by omega, by omega, rfl, rfl, Or.inr ⟨rfl, rfl⟩, rfl⟩
    case rest =>
      obtain ⟨n, m, hn, hnr, rfl, rfl, hnm, rfl⟩ := hcut
      have hm : m ≤ 1 := by omega
      have HNM : Hid (m = 1 ∧ n = 126 ∧ 126 < rn ∨ m = 0 ∧ n = rn) := hnm
      clear hnm
      have hi1 : (0 : Int) ≤ (n : Int) := by omega
      have hi2 : (n : Int) ≤ (rn : Int) := by omega
      have hw8 : IntKind.u8.wrap (n : Int) = (n : Int) := by rw [IntKind.wrap_u8]; omega
      have hconv := two_bytes wc m n (by omega) (by omega)
      go_wp2_with fail
      go_region
      obtain ⟨gK, hgK⟩ : ∃ a, a = gk := ⟨_, rfl⟩
      rw [← hgK] at HR
      subst hgK
      clear hconv
      have HP : Hid ((⟨#[UInt8.ofNat m, UInt8.ofNat n]⟩ : ByteArray) ++ R.extract 0 n = ⟨(UInt8.ofNat m :: UInt8.ofNat n :: r.take n).toArray⟩) := by
        show _ = _
        rw [HR.out.1, ba_take, show (⟨#[UInt8.ofNat m, UInt8.ofNat n]⟩ : ByteArray) = ⟨[UInt8.ofNat m, UInt8.ofNat n].toArray⟩ from rfl, ba_app]
        rfl
      have hpl : (UInt8.ofNat m :: UInt8.ofNat n :: r.take n).length = n + 2 := by
        have := HRN.out
        simp only [List.length_cons, List.length_take]
        omega
      obtain ⟨pre, hpre⟩ : ∃ pre, pre = UInt8.ofNat m :: UInt8.ofNat n :: r.take n := ⟨_, rfl⟩
      rw [← hpre] at HP hpl
      have HPRE : Hid (pre = UInt8.ofNat m :: UInt8.ofNat n :: r.take n ∧ pre.length = n + 2) := ⟨hpre, hpl⟩
      clear hpre hpl
      go_wp2_with fail
      go_loopg [6] (126 - n) (fun g s6 wr => ∃ j : Nat, j + g = 126 - n ∧ s6 = .string ⟨(pre ++ List.replicate j 0).toArray⟩ ∧ wr = (wc.alloc (.cells #[.int .u8 m, .int .u8 n] 5)).drew)
      case atStart => exact ⟨0, by omega, by rw [HP.out]; simp, rfl⟩
      case round =>
        obtain ⟨j, hj, rfl, rfl⟩ := hrel
        have hfs : (⟨(pre ++ List.replicate j 0).toArray⟩ : ByteArray).size = n + 2 + j := by rw [ba_size, List.length_append, HPRE.out.2, List.length_replicate]
        have HF : Hid ((⟨(pre ++ List.replicate j 0).toArray⟩ : ByteArray) ++ ⟨#[0]⟩ = ⟨(pre ++ List.replicate (j + 1) 0).toArray⟩) := by
          show _ = _
          rw [show (⟨#[0]⟩ : ByteArray) = ⟨[0].toArray⟩ from rfl, ba_app, List.append_assoc, List.replicate_succ']
        have HE : Hid (n + 2 + j = 128 → (⟨(pre ++ List.replicate j 0).toArray⟩ : ByteArray) = ⟨(frameOf (UInt8.ofNat m) (r.take n)).toArray⟩) := fun h => by
          have hl : (r.take n).length = n := by have := HRN.out; rw [List.length_take]; omega
          rw [HPRE.out.1, show j = 126 - n by omega]
          simp only [frameOf, hl, List.cons_append]
        generalize (⟨(pre ++ List.replicate j 0).toArray⟩ : ByteArray) = FB at *
        have HJ : Hid (j + gk = 126 - n) := hj
        have hj2 : j ≤ 126 := by omega
        clear hj
        by_cases hlt : n + 2 + j < 128
        · have hl1 : ((n + 2 + j : Nat) : Int) < 128 := by omega
          go_wp2_with fail
          go_roundg (gk - 1)
          case measure => have := HJ.out; omega
          case rel => exact ⟨j + 1, by have := HJ.out; omega, by rw [HF.out], rfl⟩
        · have hl1 : ¬ ((n + 2 + j : Nat) : Int) < 128 := by omega
          have HFB : Hid (FB = ⟨(frameOf (UInt8.ofNat m) (r.take n)).toArray⟩) := HE.out (by have := HJ.out; omega)
          have hln : ((R.size : Nat) : Int) = (rn : Int) := by rw [hsz]
          have hos : O.size = o.length := by rw [HO.out.1]; exact ba_size o
          have hol2 : O.size ≤ 562949953421312 := by rw [hos]; exact hol
          have HOF : Hid (O ++ FB = ⟨(o ++ frameOf (UInt8.ofNat m) (r.take n)).toArray⟩) := by
            show _ = _
            rw [HO.out.1, HFB.out, ba_app]
          have HRD : Hid (R.extract n rn = ⟨(r.drop n).toArray⟩) := by
            show _ = _
            rw [HR.out.1, ← HRN.out, ba_drop]
          clear hol hos hlt
          rcases HNM.out with h | h
          · have HX : Hid (m = 1 ∧ n = 126 ∧ 126 < rn) := h
            have hm0 : ((m : Int) == 0) = false := by rw [beq_eq_false_iff_ne]; omega
            clear h
            go_wp2_with fail
            go_roundg (gK - 1)
            case measure => have := HX.out; have := HR.out; omega
            case rel =>
              obtain ⟨h1, h2, h3⟩ := HX.out
              obtain ⟨h4, h5, h6⟩ := HR.out
              have h7 := HRN.out
              subst h1 h2
              refine ⟨r.drop 126, o ++ frameOf 1 (r.take 126), by rw [List.length_drop]; omega, by rw [List.length_drop]; omega, by rw [HRD.out], by rw [HOF.out]; rfl, ?_, ?_⟩
              · rw [List.append_assoc, ← wrapL_long (by omega), HO.out.2]
              · exact (hb.alloc hb.size _).drew
          · have HX : Hid (m = 0 ∧ n = rn) := h
            have hm0 : ((m : Int) == 0) = true := by rw [beq_iff_eq]; omega
            clear h
            go_wp2_with fail
            go_ret
            obtain ⟨h1, h2⟩ := HX.out
            have h7 := HRN.out
            refine ⟨?_, (hb.alloc hb.size _).drew⟩
            rw [HOF.out, h1, h2, ← h7, List.take_length, ← HO.out.2, wrapL_short (by omega)]
            rfl
end Go.Proofs.Ytjblaomjadpbfaa
