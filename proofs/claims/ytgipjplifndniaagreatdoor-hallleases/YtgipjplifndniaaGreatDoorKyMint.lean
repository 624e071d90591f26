/- keys.Mint. -/
import Derived.Test.YtgipjplifndniaaGreatDoorKyCopies
import Derived.Laws.BitsAllLaws
import Derived.Deep.Heap
import Derived.Laws.Slices
import Derived.Lib.AppendIntMem
import Derived.Test.YtgipjplifndniaaGreatDoorKyDel1
namespace Go.Proofs.YtgipjplifndniaaGreatDoor.K
open Go.RowKit

theorem Tryz.zeros : Tryz.zeroCells252.size = 65 := by kernel_rfl
theorem Hx.cell {w : World} {g i : Nat} {T : List UInt8} (h : Hx w g i T) (j : Nat) (hj : j < 65) : ∃ v, w.cell? ⟨g, j, none⟩ = some v ∧ w.frozen? ⟨g, j, none⟩ = false := by
  obtain ⟨hl, cur, hg, hs, hc⟩ := h
  refine ⟨cur[j]'(by omega), ?_, by simp [World.frozen?, hg]⟩
  rw [Lib.cell_of_heap hg, Array.getElem?_eq_getElem (by omega)]
theorem and15 (u : Nat) (hu : u < 18446744073709551616) : bits BinOp.and IntKind.u64 (u : Int) 15 = ((u % 16 : Nat) : Int) := by
  have := u64_and_nat u 15 hu (by decide)
  rw [show ((15 : Nat) : Int) = 15 from rfl] at this
  rw [this, show (15 : Nat) = 2 ^ 4 - 1 from rfl, Nat.and_two_pow_sub_one_eq_mod]
def digsB : ByteArray := ⟨#[48, 49, 50, 51, 52, 53, 54, 55, 56, 57, 97, 98, 99, 100, 101, 102, 103, 104, 105, 106, 107, 108, 109, 110, 111, 112, 113, 114, 115, 116, 117, 118, 119, 120, 121, 122]⟩
theorem slice65 (W : World) (A k : Nat) (hk : k ≤ 16) : (Instr.sliceAt 252 (.pointer (some ⟨A, 0, none⟩)) (some (.int .i64 ((k : Int) + 49 - 1))) none none).run Tryz.prog W = .ok (.slice (some ⟨A, k + 48, none⟩) (65 - (k + 48)) (65 - (k + 48))) W := by
  have hal : Tryz.prog.arrayLen 252 = 65 := by kernel_rfl
  have hel : Tryz.prog.elem 252 = 5 := by kernel_rfl
  rw [run_sliceAt_array_l W 252 ⟨A, 0, none⟩ (by kernel_rfl) .i64 _ (by omega) (by rw [hal]; omega), hel, Tryz.sizeOf5, hal]
  simp only [Result.andThen_ok, slicedAt]
  rw [show ((k : Int) + 49 - 1).toNat = k + 48 by omega, if_neg (by omega)]
  simp [Addr.add]
theorem dig_tab : ∀ d : Fin 16, (digsB[d.val]'(by have := d.isLt; show d.val < 36; omega)).toNat = (dig d.val).toNat := by decide +kernel
set_option maxRecDepth 20000 in
set_option maxHeartbeats 2000000 in
theorem formatBits_any (u0 : Nat) (w : World) (hv : Vars w) (hu : u0 < 18446744073709551616) :
    Calls Tryz.prog 173 #[.slice none 0 0, .int .u64 u0, .int .i64 16, .bool false, .bool false] w fun e w' => e = .returned (.tuple #[.slice none 0 0, .string ⟨(hexT u0).toArray⟩]) ∧ Below w.heap.size w w' := by
  have hbA : Below w.heap.size w (w.alloc (.cells Tryz.zeroCells252 252)) := (Below.refl _ _).alloc (Nat.le_refl _) _
  have hx0 : Hx (w.alloc (.cells Tryz.zeroCells252 252)) w.heap.size 65 [] := ⟨rfl, _, Go.Deep.blk_alloc_new _ _, Tryz.zeros, fun j hj => by simp at hj⟩
  have cp := fun W => pow2_any W
  have ct := tz_any _ (hv.below hbA)
  generalize hw0 : w.alloc (.cells Tryz.zeroCells252 252) = w0 at *
  have HB0 : Hid (Below w.heap.size w w0) := hbA
  have HX0 : Hid (Hx w0 w.heap.size 65 []) := hx0
  clear hv hbA hx0
  go_enter Tryz.func173, Tryz.ntmps173
  go_wp2_with (first | (go_at_call 186; refine (cp _).mono ?_; rintro e w' ⟨rfl, rfl⟩) | (go_at_call 187; refine ct.mono ?_; rintro e w' ⟨rfl, rfl⟩))
  clear hw0 cp ct
  go_loopg [1, 13] 17 (fun gk s1 s13 wr => ∃ (u k : Nat) (T : List UInt8), s1 = .int .u64 u ∧ s13 = .int .i64 ((k + 49 : Nat) : Int) ∧ k ≤ 16 ∧ 1 ≤ k ∧ k + 1 ≤ gk ∧ u < 16 ^ k ∧ Hx wr w.heap.size (k + 49) T ∧ hexT u0 = hexT u ++ T ∧ Below w.heap.size w wr)
  case atStart => exact ⟨u0, 16, [], rfl, rfl, by omega, by omega, by omega, by simpa using hu, HX0.out, by simp, HB0.out⟩
  case round =>
    obtain ⟨u, k, T, rfl, rfl, hk, hk1, hgk, huk, hx, hT, hbr⟩ := hrel
    have HX : Hid (Hx wr w.heap.size (k + 49) T) := hx
    have HT : Hid (hexT u0 = hexT u ++ T) := hT
    have HB : Hid (Below w.heap.size w wr) := hbr
    have HK : Hid (k + 1 ≤ gk ∧ u < 16 ^ k ∧ 1 ≤ k) := ⟨hgk, huk, hk1⟩
    have hu64 : u < 18446744073709551616 := Nat.lt_of_lt_of_le huk (Nat.le_trans (Nat.pow_le_pow_right (by decide) hk) (by decide))
    obtain ⟨v, hc, hf⟩ := hx.cell (k + 48) (by omega)
    clear hT hbr hx hgk huk
    have hi1 : (1 : Int) ≤ ((k + 49 : Nat) : Int) := by omega
    have hw1 : ((k + 49 : Nat) : Int) - 1 = ((k + 48 : Nat) : Int) := by omega
    have hi2 : ((k + 48 : Nat) : Int) < 65 := by omega
    by_cases h16 : 16 ≤ u
    · have hq : (16 : Int) ≤ (u : Int) := by omega
      have hand := and15 u hu64
      have hd : u % 16 < 16 := Nat.mod_lt _ (by decide)
      have hd2 : ((u % 16 : Nat) : Int) < 36 := by omega
      go_wp2_with fail
      go_roundg (gk - 1)
      case measure => have := HK.out; omega
      case rel =>
        obtain ⟨g1, g2, g3⟩ := HK.out
        have hk2 : 2 ≤ k := by
          rcases Nat.lt_or_ge k 2 with h | h
          · have : k = 1 := by omega
            subst this
            omega
          · exact h
        obtain ⟨m, rfl⟩ : ∃ m, k = m + 1 := ⟨k - 1, by omega⟩
        refine ⟨u / 16, m, dig (u % 16) :: T, by simp, by go_num, by omega, by omega, by omega, ?_, ?_, ?_, HB.out.setCell (p := ⟨w.heap.size, m + 1 + 48, none⟩) (Nat.le_refl _) _⟩
        · rw [Nat.pow_succ] at g2; omega
        · have h1 := HX.out.put (i := m + 1 + 48) (dig (u % 16))
          rw [← dig_tab ⟨u % 16, hd⟩] at h1
          exact h1
        · rw [HT.out, hexT_high h16, List.append_assoc]; rfl
    · have hq : ¬ (16 : Int) ≤ (u : Int) := by omega
      have hd : u < 16 := by omega
      have hd2 : (u : Int) < 36 := by omega
      have hd0 : (0 : Int) ≤ (u : Int) := by omega
      have hx2 := HX.out.put (i := k + 48) (dig u)
      have hTT : Hid (hexT u0 = dig u :: T) := by show _ = _; rw [HT.out, hexT_low hd]; rfl
      have hlen : (dig u :: T).length = 65 - (k + 48) := by have := hx2.1; omega
      have hconv := run_convert_bytes_back (P := Tryz.prog) (wr.setCell ⟨w.heap.size, k + 48, none⟩ (.int .u8 (dig u).toNat)) 192 9 5 ⟨w.heap.size, k + 48, none⟩ (65 - (k + 48)) (dig u :: T) Tryz.underlying192 Tryz.underlying5 Tryz.underlying9 (fun j hj => by
        obtain ⟨h1, cur, hg, hs, hcc⟩ := hx2
        have h2 := hcc j hj
        rw [show (⟨w.heap.size, k + 48, none⟩ : Addr).add j = ⟨w.heap.size, k + 48 + j, none⟩ by unfold Addr.add; split; (rename_i h; rw [h, Nat.add_zero]); rfl]
        rw [Lib.cell_of_heap hg, h2, List.getD_eq_getElem?_getD, List.getElem?_eq_getElem hj]
        rfl)
      rw [hlen] at hconv
      have hsl := fun W => slice65 W w.heap.size k hk
      have hdu : ∀ h, ((⟨#[48, 49, 50, 51, 52, 53, 54, 55, 56, 57, 97, 98, 99, 100, 101, 102, 103, 104, 105, 106, 107, 108, 109, 110, 111, 112, 113, 114, 115, 116, 117, 118, 119, 120, 121, 122]⟩ : ByteArray)[u]'h).toNat = (dig u).toNat := fun _ => dig_tab ⟨u, hd⟩
      rw [show 65 - (k + 48) = 17 - k by omega] at hconv
      clear hx2 hlen
      go_wp2_with fail
      go_ret2
      rw [hTT.out]
      exact ⟨rfl, HB.out.setCell (p := ⟨w.heap.size, k + 48, none⟩) (Nat.le_refl _) _⟩

theorem formatUint_any (u : Nat) (w : World) (hv : Vars w) (hu : u < 18446744073709551616) :
    Calls Tryz.prog 141 #[.int .u64 u, .int .i64 16] w fun e w' => e = .returned (.string ⟨(hexT u).toArray⟩) ∧ Below w.heap.size w w' := by
  have c1 : Calls Tryz.prog 159 #[.int .u64 u, .int .i64 16] w fun e w' => e = .returned (.string ⟨(hexT u).toArray⟩) ∧ Below w.heap.size w w' := by
    have c := formatBits_any u w hv hu
    go_enter Tryz.func159, Tryz.ntmps159
    go_wp2_with (go_at_call 173; refine c.mono ?_; rintro e w' ⟨rfl, hb⟩)
    go_ret
    exact ⟨rfl, hb⟩
  go_enter Tryz.func141, Tryz.ntmps141
  go_wp2_with (go_at_call 159; refine c1.mono ?_; rintro e w' ⟨rfl, hb⟩)
  go_ret
  exact ⟨rfl, hb⟩
end Go.Proofs.YtgipjplifndniaaGreatDoor.K

namespace Go.Proofs.YtgipjplifndniaaGreatDoor.K
open Go.RowKit

def mixF (z : Nat) : Nat :=
  let a := (z ^^^ z / 1073741824) * 13787848793156543929 % 18446744073709551616
  let b := (a ^^^ a / 134217728) * 10723151780598845931 % 18446744073709551616
  b ^^^ b / 2147483648
theorem xor_lt {a b : Nat} (ha : a < 18446744073709551616) (hb : b < 18446744073709551616) : a ^^^ b < 18446744073709551616 := Nat.xor_lt_two_pow (n := 64) ha hb
theorem mixF_lt (z : Nat) : mixF z < 18446744073709551616 := by
  unfold mixF
  exact xor_lt (Nat.mod_lt _ (by decide)) (Nat.lt_of_le_of_lt (Nat.div_le_self _ _) (Nat.mod_lt _ (by decide)))
theorem xorU (a b : Nat) (ha : a < 18446744073709551616) (hb : b < 18446744073709551616) : bits BinOp.xor IntKind.u64 (a : Int) (b : Int) = ((a ^^^ b : Nat) : Int) := u64_xor_nat a b ha hb
theorem wrapU (n : Nat) : IntKind.u64.wrap (n : Int) = ((n % 18446744073709551616 : Nat) : Int) := by rw [IntKind.wrap_u64]; omega

theorem mixed_any (z : Nat) (w : World) (hz : z < 18446744073709551616) :
    Calls Tryz.prog 139 #[.int .u64 z] w fun e w' => e = .returned (.int .u64 (mixF z)) ∧ w' = w := by
  obtain ⟨a, ha⟩ : ∃ a, a = (z ^^^ z / 1073741824) * 13787848793156543929 % 18446744073709551616 := ⟨_, rfl⟩
  obtain ⟨b, hb⟩ : ∃ b, b = (a ^^^ a / 134217728) * 10723151780598845931 % 18446744073709551616 := ⟨_, rfl⟩
  have hm : mixF z = b ^^^ b / 2147483648 := by unfold mixF; rw [hb, ha]
  have al : a < 18446744073709551616 := by rw [ha]; exact Nat.mod_lt _ (by decide)
  have bl : b < 18446744073709551616 := by rw [hb]; exact Nat.mod_lt _ (by decide)
  have x1 : bits BinOp.xor IntKind.u64 (z : Int) ((z : Int) / 1073741824) = ((z ^^^ z / 1073741824 : Nat) : Int) := by
    have := xorU z (z / 1073741824) hz (Nat.lt_of_le_of_lt (Nat.div_le_self _ _) hz)
    rwa [show ((z / 1073741824 : Nat) : Int) = (z : Int) / 1073741824 by omega] at this
  have x2 : bits BinOp.xor IntKind.u64 (a : Int) ((a : Int) / 134217728) = ((a ^^^ a / 134217728 : Nat) : Int) := by
    have := xorU a (a / 134217728) al (Nat.lt_of_le_of_lt (Nat.div_le_self _ _) al)
    rwa [show ((a / 134217728 : Nat) : Int) = (a : Int) / 134217728 by omega] at this
  have x3 : bits BinOp.xor IntKind.u64 (b : Int) ((b : Int) / 2147483648) = ((b ^^^ b / 2147483648 : Nat) : Int) := by
    have := xorU b (b / 2147483648) bl (Nat.lt_of_le_of_lt (Nat.div_le_self _ _) bl)
    rwa [show ((b / 2147483648 : Nat) : Int) = (b : Int) / 2147483648 by omega] at this
  have w1 : IntKind.u64.wrap (((z ^^^ z / 1073741824 : Nat) : Int) * 13787848793156543929) = (a : Int) := by
    have := wrapU ((z ^^^ z / 1073741824) * 13787848793156543929)
    rw [← ha] at this
    rw [← this]; congr 1
  have w2 : IntKind.u64.wrap (((a ^^^ a / 134217728 : Nat) : Int) * 10723151780598845931) = (b : Int) := by
    have := wrapU ((a ^^^ a / 134217728) * 10723151780598845931)
    rw [← hb] at this
    rw [← this]; congr 1
  rw [hm]
  clear ha hb hm
  generalize z ^^^ z / 1073741824 = q1 at *
  generalize a ^^^ a / 134217728 = q2 at *
  generalize b ^^^ b / 2147483648 = q3 at *
  have hfin : bits BinOp.xor IntKind.u64 (IntKind.u64.wrap (bits BinOp.xor IntKind.u64 (IntKind.u64.wrap (bits BinOp.xor IntKind.u64 (z : Int) ((z : Int) / 1073741824) * 13787848793156543929)) (IntKind.u64.wrap (bits BinOp.xor IntKind.u64 (z : Int) ((z : Int) / 1073741824) * 13787848793156543929) / 134217728) * 10723151780598845931)) (IntKind.u64.wrap (bits BinOp.xor IntKind.u64 (IntKind.u64.wrap (bits BinOp.xor IntKind.u64 (z : Int) ((z : Int) / 1073741824) * 13787848793156543929)) (IntKind.u64.wrap (bits BinOp.xor IntKind.u64 (z : Int) ((z : Int) / 1073741824) * 13787848793156543929) / 134217728) * 10723151780598845931) / 2147483648) = (q3 : Int) := by rw [x1, w1, x2, w2, x3]
  clear x1 x2 x3 w1 w2
  have HF : Hid (_ = _) := hfin
  clear hfin
  go_enter Tryz.func139, Tryz.ntmps139
  go_wp2_with fail
  go_ret
  exact ⟨congrArg (fun x => Ending.returned (Value.int IntKind.u64 x)) HF.out, rfl⟩

def keyNum (serial draw : Int) : Nat := mixF ((serial * 11400714819323198485 + draw) % 18446744073709551616).toNat
theorem keyNum_lt (serial draw : Int) : keyNum serial draw < 18446744073709551616 := mixF_lt _
def keyT (serial draw : Int) : List UInt8 := 33 :: (Lib.itoa serial ++ 107 :: hexT (keyNum serial draw))
theorem hexT_len (k u : Nat) (hu : u < 16 ^ (k + 1)) : (hexT u).length ≤ k + 1 := by
  induction k generalizing u with
  | zero => rw [hexT_low (by omega)]; simp
  | succ k ih =>
    rcases Nat.lt_or_ge u 16 with h | h
    · rw [hexT_low h]; simp
    · have := ih (u / 16) (by rw [Nat.pow_succ] at hu; omega)
      rw [hexT_high h, List.length_append]
      simp only [List.length_cons, List.length_nil]
      omega
theorem hexT_short (u : Nat) (hu : u < 18446744073709551616) : (hexT u).length ≤ 16 := hexT_len 15 u (by simpa using hu)
theorem keyT_len (serial draw : Int) (h0 : 0 ≤ serial) (h1 : serial ≤ 2147483647) : (keyT serial draw).length ≤ 40 := by
  have e1 := Lib.itoa_length_le serial (by omega) (by omega)
  have e2 := hexT_short (keyNum serial draw) (keyNum_lt serial draw)
  unfold keyT
  generalize keyNum serial draw = q at *
  rw [List.length_cons, List.length_append, List.length_cons]
  omega
theorem keyT_size (serial draw : Int) (h0 : 0 ≤ serial) (h1 : serial ≤ 2147483647) : (⟨(keyT serial draw).toArray⟩ : ByteArray).size ≤ 140737488355328 := by
  have := keyT_len serial draw h0 h1
  rw [ba_size]
  omega
theorem itoa_any (n : Int) (w : World) (h0 : -9223372036854775808 ≤ n) (h1 : n ≤ 9223372036854775807) (hv : Vars w) :
    Calls Tryz.prog 140 #[.int .i64 n] w fun e w' => e = .returned (.string ⟨(Lib.itoa n).toArray⟩) ∧ Below w.heap.size w w' :=
  (Tryz.strconv_Itoa n h0 h1 w hv.pow).mono fun _ _ ⟨he, k, os, hw⟩ => ⟨he, hw ▸ Lib.below_grow w.heap.size w (Nat.le_refl _) k os⟩
set_option maxRecDepth 20000 in
set_option maxHeartbeats 1000000 in
theorem textOf_any (serial draw : Int) (w : World) (hv : Vars w) (h0 : 0 ≤ serial) (h1 : serial ≤ 2147483647) :
    Calls Tryz.prog 113 #[.int .i64 serial, .int .i64 draw] w fun e w' => e = .returned (.string ⟨(keyT serial draw).toArray⟩) ∧ Below w.heap.size w w' := by
  obtain ⟨z, hz⟩ : ∃ z, z = ((serial * 11400714819323198485 + draw) % 18446744073709551616).toNat := ⟨_, rfl⟩
  have hzl : z < 18446744073709551616 := by omega
  have cm := fun W => mixed_any z W hzl
  have ci := itoa_any serial w (by omega) (by omega) hv
  have cf := fun W hW => formatUint_any (mixF z) W hW (mixF_lt z)
  have hz2 : IntKind.u64.wrap (IntKind.u64.wrap (serial * 11400714819323198485) + IntKind.u64.wrap draw) = (z : Int) := by
    rw [IntKind.wrap_u64, IntKind.wrap_u64, IntKind.wrap_u64]
    omega
  have l1 : (⟨(Lib.itoa serial).toArray⟩ : ByteArray).size ≤ 21 := by rw [ba_size]; exact Lib.itoa_length_le serial (by omega) (by omega)
  have l2 : (⟨(hexT (mixF z)).toArray⟩ : ByteArray).size ≤ 16 := by rw [ba_size]; exact hexT_len 15 _ (by have := mixF_lt z; simpa using this)
  have HT : Hid ((⟨#[33]⟩ : ByteArray) ++ ⟨(Lib.itoa serial).toArray⟩ ++ ⟨#[107]⟩ ++ ⟨(hexT (mixF z)).toArray⟩ = ⟨(keyT serial draw).toArray⟩) := by
    show _ = _
    have e1 : (⟨#[33]⟩ : ByteArray) = ⟨[33].toArray⟩ := rfl
    have e2 : (⟨#[107]⟩ : ByteArray) = ⟨[107].toArray⟩ := rfl
    rw [e1, e2, ba_app, ba_app, ba_app]
    unfold keyT keyNum
    rw [← hz]
    simp
  have HV : Hid (Vars w) := hv
  clear hz hzl hv
  generalize mixF z = y at *
  generalize (⟨(Lib.itoa serial).toArray⟩ : ByteArray) = A at *
  generalize (⟨(hexT y).toArray⟩ : ByteArray) = B at *
  go_enter Tryz.func113, Tryz.ntmps113
  go_wp2_with fail

  refine (cm _).mono ?_
  rintro e w1 ⟨rfl, hw1⟩
  subst hw1
  clear hz2 cm
  go_wp2_with fail
  refine ci.mono ?_
  rintro e w1 ⟨rfl, hb1⟩
  have cf1 := cf w1 (HV.out.below hb1)
  clear ci cf
  go_wp2_with fail
  refine cf1.mono ?_
  rintro e w2 ⟨rfl, hb2⟩
  go_wp2_with fail
  go_ret
  rw [← HT.out]
  exact ⟨rfl, hb1.trans (hb2.mono hb1.size)⟩
end Go.Proofs.YtgipjplifndniaaGreatDoor.K

namespace Go.Proofs.YtgipjplifndniaaGreatDoor.K
open Go.RowKit

theorem step_append_own {P : Program} (w : World) {ops : Array Oper} {o : Oper} {a : Act} {K : Act → World → Prop} {Q : Exit → Act → World → Prop} {E : Prop} (hgd : o.guard = none) (s x : Operand) (t : TypeId)
    (ho : o.op = .call { callee := .builtin .append, args := #[s, x], argTypes := #[t, t] })
    (base : Nat) (e : TypeId) (i : TypeInfo) (z : Value) (size bytes : Nat) (ht : P.underlying t = some (.slice e)) (hi : P.info? e = some i) (hz : i.zero = some z)
    (hsize : i.size = size) (hby : i.bytes = bytes) (hzs : z.cells.size = size) (hsz : 0 < size)
    (v : Value) (n : Nat) (xs : List Value) (hs : a.eval s = v) (hown : w.ownsRow base e size v n xs)
    (ad : Addr) (m c : Nat) (news : List Value) (hx : a.eval x = .slice (some ad) m c) (hl : news.length = m * size) (hnews : ∀ j u, news[j]? = some u → w.cell? (ad.add j) = some u) (h1 : ∀ u, u ∈ news → u.oneCell' = true)
    (h63 : n + m ≤ maxLen) (hbytes : (n + m) * bytes ≤ 140737488355328) (hbase : base ≤ w.heap.size)
    (h : ∀ v' w', w'.ownsRow base e size v' (n + m) (xs ++ news) → w.grownBy w' v.ownBlock → (v' = .slice none 0 0 ↔ v = .slice none 0 0 ∧ m = 0) → K (a.put o.dst v') w') :
    if Region.wanted o (yielded ops a.tmps) = true then Oper.wp P o a w K Q else E := by
  have hw : Region.wanted o (yielded ops a.tmps) = true := by simp [Region.wanted, hgd]
  rw [if_pos hw]
  exact wp_append_own w s x t ho base e i z size bytes ht hi hz hsize hby hzs hsz v n xs hs hown ad m c news hx hl hnews h1 h63 hbytes hbase h

theorem owns_form {w : World} {B : Nat} {t : TypeId} {k n : Nat} {v : Value} {xs : List Value} (h : w.ownsRow B t k v n xs) : ∃ p m c, v = .slice p m c := by
  rcases h.2 with ⟨h, _⟩ | ⟨g, cap, cur, h, _⟩
  · exact ⟨_, _, _, h⟩
  · exact ⟨_, _, _, h⟩

set_option maxRecDepth 20000 in
set_option maxHeartbeats 2000000 in
theorem mint_any (serial : Int) (v : Value) (ks : List Ky) (name : ByteArray) (rights draw : Int) (w : World) (hv : Vars w) (h : HK w v ks) (hok : ∀ k ∈ ks, k.ok) (hn : name.size ≤ 140737488355328) (h0 : 0 ≤ serial) (h1 : serial ≤ 2147483647) (hr0 : 1 ≤ rights) (hr1 : rights ≤ 3) (hl : ks.length < 32) :
    Calls Tryz.prog 65 #[.agg #[.int .i64 serial, v], .string name, .int .i64 rights, .int .i64 draw] w fun e w' => ∃ u, e = .returned (.tuple #[.agg #[.int .i64 (serial + 1), u], .string ⟨(keyT serial draw).toArray⟩, .int .i64 0]) ∧ KRow w' w.heap.size u (ks ++ [⟨⟨(keyT serial draw).toArray⟩, name, rights⟩]) ∧ Below w.heap.size w w' := by
  obtain ⟨i0, hi, hz0, hz1, hz2⟩ := info_parts Tryz.infoKey
  have t0 := T2.born w serial v 54
  have hb0 : Below w.heap.size w (w.alloc (.cells #[.int .i64 serial, v] 54)) := (Below.refl _ _).alloc (Nat.le_refl _) _
  generalize hwA : w.alloc (.cells #[.int .i64 serial, v] 54) = wA at *
  have hsA : wA.heap.size = w.heap.size + 1 := by rw [← hwA]; simp
  have hb1 : Below wA.heap.size wA (wA.alloc (.cells #[.int .i64 0, .slice none 0 0] 54)) := (Below.refl _ _).alloc (Nat.le_refl _) _
  have r0 := T2.born wA 0 (.slice none 0 0) 54
  have hsB : (wA.alloc (.cells #[.int .i64 0, .slice none 0 0] 54)).heap.size = w.heap.size + 2 := by simp; omega
  have t1 := t0.below hb1
  have hb := hb0.trans (hb1.mono hb0.size)
  rw [hsA] at r0
  generalize hwB : wA.alloc (.cells #[.int .i64 0, .slice none 0 0] 54) = w0 at *
  have ct := textOf_any serial draw w0 (hv.below hb) h0 h1
  obtain ⟨TX, hTX⟩ : ∃ TX, TX = (⟨(keyT serial draw).toArray⟩ : ByteArray) := ⟨_, rfl⟩
  have htx : TX.size ≤ 140737488355328 := by
    rw [hTX]
    exact keyT_size serial draw h0 h1
  rw [← hTX] at ct ⊢
  have cd := fun W => copied_any ⟨TX, name, rights⟩ W ⟨htx, hn⟩
  have cc := fun W hW => copies_any v ks W hW hok (by omega)
  have HT : Hid (T2 w.heap.size serial v w0 ∧ T2 (w.heap.size + 1) 0 (.slice none 0 0) w0 ∧ w0.heap.size = w.heap.size + 2 ∧ Below w.heap.size w w0 ∧ HK w0 v ks) := ⟨t1, r0, hsB, hb, h.below hb⟩
  have HKW := h
  obtain ⟨p, cap, hv0, hcap, hcm, -, -⟩ := h
  obtain ⟨n, hn0⟩ : ∃ n, n = ks.length := ⟨_, rfl⟩
  have HN : Hid (n = ks.length) := hn0
  rw [← hn0] at hv0 hl hcap
  obtain ⟨a1, a2, -, -, -⟩ := t1
  have q1 : ¬ rights < 1 := by omega
  have q2 : ¬ 3 < rights := by omega
  have q3 : ¬ serial < 0 := by omega
  have q4 : ¬ 2147483647 < serial := by omega
  have q5 : ¬ (32 : Int) ≤ (n : Int) := by omega
  have hws : IntKind.i64.wrap (serial + 1) = serial + 1 := by rw [IntKind.wrap_i64]; omega
  clear hb0 hb1 t0 r0 hb hTX htx hn hn0 hok hv
  subst hv0
  go_enter Tryz.func65, Tryz.ntmps65
  go_wp2_with fail
  refine ct.mono ?_
  rintro e w1 ⟨rfl, hb1⟩
  clear hwA hwB a1 a2 ct hsA hsB
  go_wp2_with fail
  refine (cd _).mono ?_
  rintro e w2 ⟨rfl, hb2⟩
  have h02 := hb1.trans (hb2.mono hb1.size)
  have k3 := K3.born w2 ⟨TX, name, rights⟩ 157
  have hb3 : Below w2.heap.size w2 (w2.alloc (.cells #[.string TX, .string name, .int .i64 rights] 157)) := (Below.refl _ _).alloc (Nat.le_refl _) _
  have h03 := h02.trans (hb3.mono h02.size)
  simp only [Ky.val]
  clear cd hb1 hb2 hb3
  generalize hwM : w2.alloc (.cells #[.string TX, .string name, .int .i64 rights] 157) = wM at *
  have hT := HT.out
  have t2 := hT.1.below h03
  have r2 := hT.2.1.below h03
  have hK2 := hT.2.2.2.2.below h03
  have HM : Hid (T2 (w.heap.size + 1) 0 (.slice none 0 0) wM ∧ Below w.heap.size w wM ∧ w.heap.size + 2 ≤ w2.heap.size ∧ w2.heap.size < wM.heap.size) := ⟨r2, hT.2.2.2.1.trans (h03.mono hT.2.2.2.1.size), by have := h02.size; omega, k3.2.2.2.2.2.2⟩
  have HW : Hid (HK w (.slice p n cap) ks) := HKW
  clear HKW
  have S0 : (wM.drew.cell? ⟨w.heap.size, 0, none⟩ = some (.int .i64 serial) ∧ wM.drew.cell? ⟨w.heap.size, 1, none⟩ = some (.slice p n cap)) ∧ (wM.drew.cell? ⟨w2.heap.size, 0, none⟩ = some (.string TX) ∧ wM.drew.cell? ⟨w2.heap.size, 1, none⟩ = some (.string name) ∧ wM.drew.cell? ⟨w2.heap.size, 2, none⟩ = some (.int .i64 rights)) ∧ Below w.heap.size w wM.drew ∧ wM.heap.size ≤ wM.drew.heap.size := ⟨⟨t2.1, t2.2.1⟩, ⟨k3.1, k3.2.1, k3.2.2.1⟩, HM.out.2.1.drew, Nat.le_refl _⟩
  obtain ⟨S, hS⟩ : ∃ S : World → Prop, S = fun W => (W.cell? ⟨w.heap.size, 0, none⟩ = some (.int .i64 serial) ∧ W.cell? ⟨w.heap.size, 1, none⟩ = some (.slice p n cap)) ∧ (W.cell? ⟨w2.heap.size, 0, none⟩ = some (.string TX) ∧ W.cell? ⟨w2.heap.size, 1, none⟩ = some (.string name) ∧ W.cell? ⟨w2.heap.size, 2, none⟩ = some (.int .i64 rights)) ∧ Below w.heap.size w W ∧ wM.heap.size ≤ W.heap.size := ⟨_, rfl⟩
  have kb : ∀ W W', S W → W.heap.size ≤ W'.heap.size → Below w.heap.size w W' → W'.heap[w.heap.size]? = W.heap[w.heap.size]? → W'.heap[w2.heap.size]? = W.heap[w2.heap.size]? → S W' := fun W W' hW hs hb e1 e2 => by
    rw [hS] at hW ⊢
    exact ⟨⟨(cell_heap (a := ⟨w.heap.size, 0, none⟩) e1).trans hW.1.1, (cell_heap (a := ⟨w.heap.size, 1, none⟩) e1).trans hW.1.2⟩, ⟨(cell_heap (a := ⟨w2.heap.size, 0, none⟩) e2).trans hW.2.1.1, (cell_heap (a := ⟨w2.heap.size, 1, none⟩) e2).trans hW.2.1.2.1, (cell_heap (a := ⟨w2.heap.size, 2, none⟩) e2).trans hW.2.1.2.2⟩, hb, Nat.le_trans hW.2.2.2 hs⟩
  have kz : ∀ W, S W → w.heap.size < W.heap.size ∧ w2.heap.size < W.heap.size ∧ Below w.heap.size w W ∧ wM.heap.size ≤ W.heap.size := fun W hW => by
    rw [hS] at hW
    have := HM.out
    exact ⟨by omega, by omega, hW.2.2.1, hW.2.2.2⟩
  have kp : ∀ W W', S W → Below W.heap.size W W' → S W' := fun W W' hW hb => by
    obtain ⟨z1, z2, z3, z4⟩ := kz W hW
    exact kb W W' hW hb.size (z3.trans (hb.mono z3.size)) (hb.block _ z1) (hb.block _ z2)
  have kst : ∀ W a b, S W → S ((W.setCell ⟨w.heap.size + 1, 0, none⟩ a).setCell ⟨w.heap.size + 1, 1, none⟩ b) := fun W a b hW => by
    obtain ⟨z1, z2, z3, z4⟩ := kz W hW
    have hm := HM.out
    refine kb W _ hW (by simp [World.setCell]) ((z3.setCell (p := ⟨w.heap.size + 1, 0, none⟩) (by show w.heap.size ≤ w.heap.size + 1; omega) _).setCell (p := ⟨w.heap.size + 1, 1, none⟩) (by show w.heap.size ≤ w.heap.size + 1; omega) _) ?_ ?_
    · rw [Below.heap_setCell _ _ _ _ (by show w.heap.size ≠ w.heap.size + 1; omega), Below.heap_setCell _ _ _ _ (by show w.heap.size ≠ w.heap.size + 1; omega)]
    · rw [Below.heap_setCell _ _ _ _ (by show w2.heap.size ≠ w.heap.size + 1; omega), Below.heap_setCell _ _ _ _ (by show w2.heap.size ≠ w.heap.size + 1; omega)]
  have ck : ∀ W, S W → Calls Tryz.prog 101 #[.slice p n cap] W fun e w' => ∃ u, e = .returned u ∧ w'.ownsRow wM.heap.size 157 3 u n (keysL ks) ∧ Below W.heap.size W w' ∧ (∀ q, u.ownBlock = some q → wM.heap.size ≤ q) := fun W hW => (cc W (HW.out.below (kz W hW).2.2.1)).mono fun e w' ⟨u, he, hk, hb, _⟩ => ⟨u, he, by have h1 := hk.mono (kz W hW).2.2.2; unfold KRow at h1; rw [← HN.out] at h1; exact h1, hb, fun q hq => by have := (hk.lt q hq).1; have := (kz W hW).2.2.2; omega⟩
  have kg : ∀ W W' (u : Value), S W → W.grownBy W' u.ownBlock → (∀ q, u.ownBlock = some q → wM.heap.size ≤ q) → S W' := fun W W' u hW hg hq => by
    obtain ⟨z1, z2, z3, z4⟩ := kz W hW
    have hm := HM.out
    refine kb W W' hW hg.size (z3.trans ⟨hg.os, hg.tape, hg.output, hg.size, fun k hk => hg.block k (by omega) (fun e => by have := hq k e.symm; omega)⟩) (hg.block _ z1 (fun e => by have := hq _ e.symm; omega)) (hg.block _ z2 (fun e => by have := hq _ e.symm; omega))
  subst hS
  have HR1 : Hid (∀ W, Below wM.heap.size wM W → T2 (w.heap.size + 1) 0 (.slice none 0 0) W) := fun W hW => HM.out.1.below hW
  have HCH : Hid (∀ W3 W5 (u : Value) o, Below wM.drew.heap.size wM.drew W3 → (W3.alloc o).grownBy W5 u.ownBlock → (∀ q, u.ownBlock = some q → wM.heap.size ≤ q) → Below wM.heap.size wM W5) := fun W3 W5 u o hb hg hq => by
    have h1 : Below wM.heap.size wM W3 := ((Below.refl _ wM).drew).trans hb
    exact (h1.alloc h1.size o).trans ⟨hg.os, hg.tape, hg.output, hg.size, fun k hk => hg.block k (by have := h1.size; simp; omega) (fun e => by have := hq k e.symm; omega)⟩
  have HC2 : Hid (∀ W3 W5 (u : Value) o, Below wM.drew.heap.size wM.drew W3 → (W3.alloc o).grownBy W5 u.ownBlock → (∀ q, u.ownBlock = some q → wM.heap.size ≤ q) → W5.cell? ⟨w.heap.size + 1, 0, none⟩ = some (.int .i64 0) ∧ W5.cell? ⟨w.heap.size + 1, 1, none⟩ = some (.slice none 0 0) ∧ W5.frozen? ⟨w.heap.size + 1, 0, none⟩ = false ∧ W5.frozen? ⟨w.heap.size + 1, 1, none⟩ = false ∧ Hid (Below wM.heap.size wM W5)) := fun W3 W5 u o hb hg hq => by
    have h1 := HCH.out W3 W5 u o hb hg hq
    have h2 := HR1.out W5 h1
    exact ⟨h2.1, h2.2.1, h2.2.2.1, h2.2.2.2.1, h1⟩
  obtain ⟨wK, hwK⟩ : ∃ wK, wK = (wM.alloc (.cells #[.string TX, .string name, .int .i64 rights] 157)).drew := ⟨_, rfl⟩
  have hkB := K3.born wM ⟨TX, name, rights⟩ 157
  have hsK : wK.heap.size = wM.heap.size + 1 := by rw [hwK]; exact Array.size_push _
  have hbK : Below wM.heap.size wM wK := by rw [hwK]; exact ((Below.refl _ _).alloc (Nat.le_refl _) _).drew
  have HKB : Hid (∀ W, Below (wM.alloc (.cells #[.string TX, .string name, .int .i64 rights] 157)).drew.heap.size (wM.alloc (.cells #[.string TX, .string name, .int .i64 rights] 157)).drew W → ∀ (j : Nat) u, [Value.string TX, .string name, .int .i64 rights][j]? = some u → W.cell? ((⟨wM.heap.size, 0, none⟩ : Addr).add j) = some u) := fun W hW j u hu => by
    rw [← hwK] at hW
    have h0 : K3 wM.heap.size ⟨TX, name, rights⟩ wK := by rw [hwK]; exact hkB
    have h1 := h0.below hW
    match j, hu with
    | 0, hu => simp at hu; subst hu; exact h1.1
    | 1, hu => simp at hu; subst hu; exact h1.2.1
    | 2, hu => simp at hu; subst hu; exact h1.2.2.1
  have HC3 : Hid (∀ W3 W5 (u : Value), Below (wM.alloc (.cells #[.string TX, .string name, .int .i64 rights] 157)).drew.heap.size (wM.alloc (.cells #[.string TX, .string name, .int .i64 rights] 157)).drew W3 → W3.grownBy W5 u.ownBlock → (∀ q, u.ownBlock = some q → wM.heap.size ≤ q) → W5.cell? ⟨w.heap.size + 1, 0, none⟩ = some (.int .i64 0) ∧ W5.cell? ⟨w.heap.size + 1, 1, none⟩ = some (.slice none 0 0) ∧ W5.frozen? ⟨w.heap.size + 1, 0, none⟩ = false ∧ W5.frozen? ⟨w.heap.size + 1, 1, none⟩ = false ∧ Hid (Below wM.heap.size wM W5)) := fun W3 W5 u hb hg hq => by
    rw [← hwK] at hb
    have h1 : Below wM.heap.size wM W3 := hbK.trans (hb.mono hbK.size)
    have h3 : Below wM.heap.size wM W5 := h1.trans ⟨hg.os, hg.tape, hg.output, hg.size, fun k hk => hg.block k (by have := h1.size; omega) (fun e => by have := hq k e.symm; omega)⟩
    have h2 := HR1.out W5 h3
    exact ⟨h2.1, h2.2.1, h2.2.2.1, h2.2.2.2.1, h3⟩
  have HFIN : Hid (∀ W5 (q : Value), W5.ownsRow wM.heap.size 157 3 q (n + 1) (keysL ks ++ [.string TX, .string name, .int .i64 rights]) → Below wM.heap.size wM W5 → KRow ((W5.setCell ⟨w.heap.size + 1, 0, none⟩ (.int .i64 (serial + 1))).setCell ⟨w.heap.size + 1, 1, none⟩ q) w.heap.size q (ks ++ [⟨TX, name, rights⟩]) ∧ Below w.heap.size w ((W5.setCell ⟨w.heap.size + 1, 0, none⟩ (.int .i64 (serial + 1))).setCell ⟨w.heap.size + 1, 1, none⟩ q) ∧ T2 (w.heap.size + 1) (serial + 1) q ((W5.setCell ⟨w.heap.size + 1, 0, none⟩ (.int .i64 (serial + 1))).setCell ⟨w.heap.size + 1, 1, none⟩ q)) := fun W5 q ho hb => by
    have hm := HM.out
    have hk : KRow W5 wM.heap.size q (ks ++ [⟨TX, name, rights⟩]) := by
      unfold KRow
      rw [List.length_append, keysL_append, ← HN.out]
      exact ho
    have h1 := hm.2.1.trans (hb.mono hm.2.1.size)
    exact ⟨((hk.set (R := w.heap.size + 1) (by omega) 0 (.int .i64 (serial + 1))).set (R := w.heap.size + 1) (by omega) 1 q).mono (by omega), (h1.setCell (p := ⟨w.heap.size + 1, 0, none⟩) (by show w.heap.size ≤ w.heap.size + 1; omega) _).setCell (p := ⟨w.heap.size + 1, 1, none⟩) (by show w.heap.size ≤ w.heap.size + 1; omega) _, (HR1.out W5 hb).both⟩
  clear hT t2 r2 hK2 k3 h03 h02 cc kb HCH hwK hkB hsK hbK wK
  go_wp2_with fail
  go_region_held3 (fun W => (W.cell? ⟨w.heap.size, 0, none⟩ = some (.int .i64 serial) ∧ W.cell? ⟨w.heap.size, 1, none⟩ = some (.slice p n cap)) ∧ (W.cell? ⟨w2.heap.size, 0, none⟩ = some (.string TX) ∧ W.cell? ⟨w2.heap.size, 1, none⟩ = some (.string name) ∧ W.cell? ⟨w2.heap.size, 2, none⟩ = some (.int .i64 rights)) ∧ Below w.heap.size w W ∧ wM.heap.size ≤ W.heap.size) (first | exact S0 | exact kp _ _ (by assumption) hb3 | exact kp _ _ (by assumption) ((Below.refl _ _).alloc (Nat.le_refl _) _) | exact kg _ _ _ (by assumption) hgrow5 hq3 | exact kst _ _ _ (by assumption))
    (first | (go_at_call 101; refine (ck _ (by first | assumption | exact S0 | exact kp _ _ S0 ((Below.refl _ _).alloc (Nat.le_refl _) _))).mono ?_; rintro e w3 ⟨u3, rfl, hk3, hb3, hq3⟩) | (refine step_append_own _ (by rfl) _ _ 52 (by rfl) wM.heap.size 157 i0 _ 3 40 Tryz.underlying52 hi hz0 hz1 hz2 rfl (by decide) u3 n (keysL ks) (by rfl) (World.ownsRow.alloc hk3 _) ⟨w3.heap.size, 0, none⟩ 1 1 [.string TX, .string name, .int .i64 rights] (by rfl) rfl (by exact key_second w3 TX name rights _) (by intro u hu; simp at hu; rcases hu with rfl | rfl | rfl <;> rfl) (by unfold maxLen; omega) (by omega) (by have := hb3.size; simp at this ⊢; omega) ?_; intro v5 w5 hown5 hgrow5 hnil5; obtain ⟨pv, nv, cv, rfl⟩ := owns_form hown5; obtain ⟨d1, d2, d3, d4, hq5⟩ := HC2.out w3 w5 u3 _ hb3 hgrow5 hq3) | (refine step_append_own _ (by rfl) _ _ 52 (by rfl) wM.heap.size 157 i0 _ 3 40 Tryz.underlying52 hi hz0 hz1 hz2 rfl (by decide) u3 n (keysL ks) (by rfl) hk3 ⟨wM.heap.size, 0, none⟩ 1 1 [.string TX, .string name, .int .i64 rights] (by rfl) rfl (by exact HKB.out w3 hb3) (by intro u hu; simp at hu; rcases hu with rfl | rfl | rfl <;> rfl) (by unfold maxLen; omega) (by omega) (by have := hb3.size; simp at this ⊢; omega) ?_; intro v5 w5 hown5 hgrow5 hnil5; obtain ⟨pv, nv, cv, rfl⟩ := owns_form hown5; obtain ⟨d1, d2, d3, d4, hq5⟩ := HC3.out w3 w5 u3 hb3 hgrow5 hq3))
  all_goals
    go_wp2_with fail
    obtain ⟨f1, f2, f3⟩ := HFIN.out w5 _ hown5 hq5.out
    refine bodyPost_ret (v := .tuple #[.agg #[.int .i64 (serial + 1), .slice pv nv cv], .string TX, .int .i64 0]) (by simp [results, Tryz.results65, go_sem, f3.1, f3.2.1]) rfl ⟨_, rfl, f1, f2⟩
end Go.Proofs.YtgipjplifndniaaGreatDoor.K
