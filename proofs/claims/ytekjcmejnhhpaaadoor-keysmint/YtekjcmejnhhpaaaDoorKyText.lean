/- keys.mixed, keys.textOf. -/
import Derived.Test.YtekjcmejnhhpaaaDoorKyHex2
import Derived.Laws.BitsAllLaws
import Derived.Lib.AppendIntMem
namespace Go.Proofs.YtekjcmejnhhpaaaDoor
open Go.RowKit

/-- the number of a key's text, mixed -/
def mixF (z : Nat) : Nat :=
  let a := (z ^^^ z / 1073741824) * 13787848793156543929 % 18446744073709551616
  let b := (a ^^^ a / 134217728) * 10723151780598845931 % 18446744073709551616
  b ^^^ b / 2147483648
theorem xor_lt {a b : Nat} (ha : a < 18446744073709551616) (hb : b < 18446744073709551616) : a ^^^ b < 18446744073709551616 := Nat.xor_lt_two_pow (n := 64) ha hb
theorem mixF_lt (z : Nat) : mixF z < 18446744073709551616 := by
  unfold mixF
  exact xor_lt (Nat.mod_lt _ (by decide)) (Nat.lt_of_le_of_lt (Nat.div_le_self _ _) (Nat.mod_lt _ (by decide)))
theorem xorU (a b : Nat) (ha : a < 18446744073709551616) (hb : b < 18446744073709551616) : bits BinOp.xor IntKind.u64 (a : Int) (b : Int) = ((a ^^^ b : Nat) : Int) := u64_xor_nat a b ha hb
theorem wrapK (n : Nat) : IntKind.u64.wrap (n : Int) = ((n % 18446744073709551616 : Nat) : Int) := by rw [IntKind.wrap_u64]; omega

theorem mixed_any (z : Nat) (w : World) (hz : z < 18446744073709551616) :
    Calls Tryd.prog 12 #[.int .u64 z] w fun e w' => e = .returned (.int .u64 (mixF z)) ∧ w' = w := by
  obtain ⟨a, ha⟩ : ∃ a, a = (z ^^^ z / 1073741824) * 13787848793156543929 % 18446744073709551616 := ⟨_, rfl⟩
  obtain ⟨b, hb⟩ : ∃ b, b = (a ^^^ a / 134217728) * 10723151780598845931 % 18446744073709551616 := ⟨_, rfl⟩
  have hm : mixF z = b ^^^ b / 2147483648 := by unfold mixF; rw [hb, ha]
  have al : a < 18446744073709551616 := by rw [ha]; exact Nat.mod_lt _ (by decide)
  have bl : b < 18446744073709551616 := by rw [hb]; exact Nat.mod_lt _ (by decide)
  have x1 : bits BinOp.xor IntKind.u64 (z : Int) ((z : Int) / 1073741824) = ((z ^^^ z / 1073741824 : Nat) : Int) := by
    have := xorU z (z / 1073741824) hz (Nat.lt_of_le_of_lt (Nat.div_le_self _ _) hz)
    rwa [show ((z / 1073741824 : Nat) : Int) = (z : Int) / 1073741824 by omega] at this
  have x2 : bits BinOp.xor IntKind.u64 (a : Int) ((a : Int) / 134217728) = ((a ^^^ a / 134217728 : Nat) : Int) := by
    have := xorU a (a / 134217728) al (Nat.lt_of_le_of_lt (Nat.div_le_self _ _) al)
    rwa [show ((a / 134217728 : Nat) : Int) = (a : Int) / 134217728 by omega] at this
  have x3 : bits BinOp.xor IntKind.u64 (b : Int) ((b : Int) / 2147483648) = ((b ^^^ b / 2147483648 : Nat) : Int) := by
    have := xorU b (b / 2147483648) bl (Nat.lt_of_le_of_lt (Nat.div_le_self _ _) bl)
    rwa [show ((b / 2147483648 : Nat) : Int) = (b : Int) / 2147483648 by omega] at this
  have w1 : IntKind.u64.wrap (((z ^^^ z / 1073741824 : Nat) : Int) * 13787848793156543929) = (a : Int) := by
    have := wrapK ((z ^^^ z / 1073741824) * 13787848793156543929)
    rw [← ha] at this
    rw [← this]; congr 1
  have w2 : IntKind.u64.wrap (((a ^^^ a / 134217728 : Nat) : Int) * 10723151780598845931) = (b : Int) := by
    have := wrapK ((a ^^^ a / 134217728) * 10723151780598845931)
    rw [← hb] at this
    rw [← this]; congr 1
  rw [hm]
  clear ha hb hm
  generalize z ^^^ z / 1073741824 = q1 at *
  generalize a ^^^ a / 134217728 = q2 at *
  generalize b ^^^ b / 2147483648 = q3 at *
  have hfin : bits BinOp.xor IntKind.u64 (IntKind.u64.wrap (bits BinOp.xor IntKind.u64 (IntKind.u64.wrap (bits BinOp.xor IntKind.u64 (z : Int) ((z : Int) / 1073741824) * 13787848793156543929)) (IntKind.u64.wrap (bits BinOp.xor IntKind.u64 (z : Int) ((z : Int) / 1073741824) * 13787848793156543929) / 134217728) * 10723151780598845931)) (IntKind.u64.wrap (bits BinOp.xor IntKind.u64 (IntKind.u64.wrap (bits BinOp.xor IntKind.u64 (z : Int) ((z : Int) / 1073741824) * 13787848793156543929)) (IntKind.u64.wrap (bits BinOp.xor IntKind.u64 (z : Int) ((z : Int) / 1073741824) * 13787848793156543929) / 134217728) * 10723151780598845931) / 2147483648) = (q3 : Int) := by rw [x1, w1, x2, w2, x3]
  clear x1 x2 x3 w1 w2
  have HF : Hid (_ = _) := hfin
  clear hfin
  go_enter Tryd.func12, Tryd.ntmps12
  go_wp2_with fail
  go_ret
  exact ⟨congrArg (fun x => Ending.returned (Value.int IntKind.u64 x)) HF.out, rfl⟩

/-- the number in a key's text -/
def keyNum (serial draw : Int) : Nat := mixF ((serial * 11400714819323198485 + draw) % 18446744073709551616).toNat
theorem keyNum_lt (serial draw : Int) : keyNum serial draw < 18446744073709551616 := mixF_lt _
/-- a key's text -/
def keyT (serial draw : Int) : List UInt8 := 33 :: (Lib.itoa serial ++ 107 :: hexT (keyNum serial draw))
theorem hexT_len (k u : Nat) (hu : u < 16 ^ (k + 1)) : (hexT u).length ≤ k + 1 := by
  induction k generalizing u with
  | zero => rw [hexT_low (by omega)]; simp
  | succ k ih =>
    rcases Nat.lt_or_ge u 16 with h | h
    · rw [hexT_low h]; simp
    · have := ih (u / 16) (by rw [Nat.pow_succ] at hu; omega)
      rw [hexT_high h, List.length_append]
      simp only [List.length_cons, List.length_nil]
      omega
theorem hexT_short (u : Nat) (hu : u < 18446744073709551616) : (hexT u).length ≤ 16 := hexT_len 15 u (by simpa using hu)
theorem keyT_len (serial draw : Int) (h0 : 0 ≤ serial) (h1 : serial ≤ 2147483647) : (keyT serial draw).length ≤ 40 := by
  have e1 := Lib.itoa_length_le serial (by omega) (by omega)
  have e2 := hexT_short (keyNum serial draw) (keyNum_lt serial draw)
  unfold keyT
  generalize keyNum serial draw = q at *
  rw [List.length_cons, List.length_append, List.length_cons]
  omega
theorem keyT_size (serial draw : Int) (h0 : 0 ≤ serial) (h1 : serial ≤ 2147483647) : (⟨(keyT serial draw).toArray⟩ : ByteArray).size ≤ 140737488355328 := by
  have := keyT_len serial draw h0 h1
  rw [ba_size]
  omega
theorem itoa_any (n : Int) (w : World) (h0 : -9223372036854775808 ≤ n) (h1 : n ≤ 9223372036854775807) (hv : Vars w) :
    Calls Tryd.prog 13 #[.int .i64 n] w fun e w' => e = .returned (.string ⟨(Lib.itoa n).toArray⟩) ∧ Below w.heap.size w w' :=
  (Tryd.strconv_Itoa n h0 h1 w hv.pow).mono fun _ _ ⟨he, k, os, hw⟩ => ⟨he, hw ▸ Lib.below_grow w.heap.size w (Nat.le_refl _) k os⟩
set_option maxRecDepth 20000 in
set_option maxHeartbeats 1000000 in
theorem textOf_any (serial draw : Int) (w : World) (hv : Vars w) (h0 : 0 ≤ serial) (h1 : serial ≤ 2147483647) :
    Calls Tryd.prog 8 #[.int .i64 serial, .int .i64 draw] w fun e w' => e = .returned (.string ⟨(keyT serial draw).toArray⟩) ∧ Below w.heap.size w w' := by
  obtain ⟨z, hz⟩ : ∃ z, z = ((serial * 11400714819323198485 + draw) % 18446744073709551616).toNat := ⟨_, rfl⟩
  have hzl : z < 18446744073709551616 := by omega
  have cm := fun W => mixed_any z W hzl
  have ci := itoa_any serial w (by omega) (by omega) hv
  have cf := fun W hW => formatUint_any (mixF z) W hW (mixF_lt z)
  have hz2 : IntKind.u64.wrap (IntKind.u64.wrap (serial * 11400714819323198485) + IntKind.u64.wrap draw) = (z : Int) := by
    rw [IntKind.wrap_u64, IntKind.wrap_u64, IntKind.wrap_u64]
    omega
  have l1 : (⟨(Lib.itoa serial).toArray⟩ : ByteArray).size ≤ 21 := by rw [ba_size]; exact Lib.itoa_length_le serial (by omega) (by omega)
  have l2 : (⟨(hexT (mixF z)).toArray⟩ : ByteArray).size ≤ 16 := by rw [ba_size]; exact hexT_len 15 _ (by have := mixF_lt z; simpa using this)
  have HT : Hid ((⟨#[33]⟩ : ByteArray) ++ ⟨(Lib.itoa serial).toArray⟩ ++ ⟨#[107]⟩ ++ ⟨(hexT (mixF z)).toArray⟩ = ⟨(keyT serial draw).toArray⟩) := by
    show _ = _
    have e1 : (⟨#[33]⟩ : ByteArray) = ⟨[33].toArray⟩ := rfl
    have e2 : (⟨#[107]⟩ : ByteArray) = ⟨[107].toArray⟩ := rfl
    rw [e1, e2, ba_app, ba_app, ba_app]
    unfold keyT keyNum
    rw [← hz]
    simp
  have HV : Hid (Vars w) := hv
  clear hz hzl hv
  generalize mixF z = y at *
  generalize (⟨(Lib.itoa serial).toArray⟩ : ByteArray) = A at *
  generalize (⟨(hexT y).toArray⟩ : ByteArray) = B at *
  go_enter Tryd.func8, Tryd.ntmps8
  go_wp2_with fail

  refine (cm _).mono ?_
  rintro e w1 ⟨rfl, hw1⟩
  subst hw1
  clear hz2 cm
  go_wp2_with fail
  refine ci.mono ?_
  rintro e w1 ⟨rfl, hb1⟩
  have cf1 := cf w1 (HV.out.below hb1)
  clear ci cf
  go_wp2_with fail
  refine cf1.mono ?_
  rintro e w2 ⟨rfl, hb2⟩
  go_wp2_with fail
  go_ret
  rw [← HT.out]
  exact ⟨rfl, hb1.trans (hb2.mono hb1.size)⟩
end Go.Proofs.YtekjcmejnhhpaaaDoor
