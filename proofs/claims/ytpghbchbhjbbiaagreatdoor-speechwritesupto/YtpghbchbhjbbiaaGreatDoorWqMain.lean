/- The document's WriteRequest: the walk. -/
import Derived.Test.YtpghbchbhjbbiaaGreatDoorRqLaw
import Derived.Test.YtpghbchbhjbbiaaGreatDoorSpRefText
import Derived.Test.YtpghbchbhjbbiaaGreatDoorBigNeg
namespace Go.Proofs.YtpghbchbhjbbiaaGreatDoor
open Go.RowKit

/-- what the document writes of a letter of the form -/
def wPiece (q : Rq) (f : UInt8) (i : Nat) : List UInt8 :=
  if f = 114 then 32 :: (ruleT q.born q.live).data.toList else if f = 100 then 32 :: Lib.itoa q.n
  else if f = 99 then q.cells.flatMap fun c => 32 :: (Lib.itoa c.1 ++ 44 :: Lib.itoa c.2)
  else if i = 0 then 32 :: q.name.data.toList else 32 :: q.other.data.toList
def docFrom (q : Rq) : List UInt8 → Nat → List UInt8
  | [], _ => []
  | f :: fs, i => wPiece q f i ++ docFrom q fs (i + 1)
/-- the line that the document's WriteRequest makes -/
def docL (q : Rq) : List UInt8 := (verbL.getD q.verb.toNat ⟨#[]⟩).data.toList ++ docFrom q (formL.getD q.verb.toNat []) 0
def docB (q : Rq) (d : ByteArray) : ByteArray × Int := if (readRq d).2 = 0 then (if sameRq (readRq d).1 q = true then (d, 0) else (⟨#[]⟩, 2)) else (⟨#[]⟩, (readRq d).2)
def docW (q : Rq) : ByteArray × Int := if 1 ≤ q.verb ∧ q.verb ≤ 10 then docB q ⟨(docL q).toArray⟩ else (⟨#[]⟩, 4)
theorem doc_step (q : Rq) (F : List UInt8) (i : Nat) (h : i < F.length) : docFrom q (F.drop i) i = wPiece q (F.getD i 0) i ++ docFrom q (F.drop (i + 1)) (i + 1) := by
  have hd : F.drop i = F.getD i 0 :: F.drop (i + 1) := by
    rw [List.drop_eq_getElem_cons h]
    simp [List.getD, h]
  rw [hd, docFrom]
theorem doc_add {d : ByteArray} {t : ByteArray} {A rest : List UInt8} (h : d.data.toList ++ (32 :: t.data.toList ++ rest) = A) : (d ++ (⟨#[32]⟩ ++ t)).data.toList ++ rest = A := by
  rw [← h]
  simp [ByteArray.data_append]
theorem doc_size {d : ByteArray} {A r : List UInt8} (h : d.data.toList ++ r = A) (hA : A.length ≤ 1000000000000) : d.size + r.length ≤ 1000000000000 := by
  have := congrArg List.length h
  rw [List.length_append, ba_len] at this
  omega
/-- the line so far, in the loop of the letters -/
structure WSt (wb wl : World) (q : Rq) (F A : List UInt8) (i : Nat) (d : ByteArray) : Prop where
  line : d.data.toList ++ docFrom q (F.drop i) i = A
  below : Below wb.heap.size wb wl
theorem cell_add {d x y : ByteArray} {A rest : List UInt8} (h : d.data.toList ++ ((32 :: (x.data.toList ++ 44 :: y.data.toList)) ++ rest) = A) : (d ++ (⟨#[32]⟩ ++ x ++ ⟨#[44]⟩ ++ y)).data.toList ++ rest = A := by
  rw [← h]
  simp [ByteArray.data_append]

def cellL (c : Int × Int) : List UInt8 := 32 :: (Lib.itoa c.1 ++ 44 :: Lib.itoa c.2)
theorem flat_len : ∀ cs : List (Int × Int), cs.length ≤ (cs.flatMap cellL).length
  | [] => Nat.le_refl _
  | c :: r => by
    have := flat_len r
    rw [List.flatMap_cons, List.length_append, List.length_cons]
    simp only [cellL, List.length_cons]
    omega
theorem cells_step {cs : List (Int × Int)} {j : Nat} {x y : Int} (h : j < cs.length) (hx : cs[j]? = some (x, y)) : (cs.drop j).flatMap cellL = cellL (x, y) ++ (cs.drop (j + 1)).flatMap cellL := by
  rw [List.drop_eq_getElem_cons h, List.flatMap_cons]
  rw [List.getElem?_eq_getElem h] at hx
  rw [Option.some.inj hx]
/-- the line so far, among the cells -/
structure CSt (wb wl : World) (q : Rq) (R A : List UInt8) (j : Nat) (d : ByteArray) : Prop where
  line : d.data.toList ++ ((q.cells.drop j).flatMap cellL ++ R) = A
  below : Below wb.heap.size wb wl

theorem wq_bad (q : Rq) (va : Option Addr) (vn vc : Nat) (w : World) (h : ¬ (1 ≤ q.verb ∧ q.verb ≤ 10)) : Calls Tryz.prog 12 #[q.val (.slice va vn vc)] w fun e w' => e = .returned (.tuple #[.string ⟨#[]⟩, .int .i64 4]) ∧ Below w.heap.size w w' := by
  have HB : Hid (∀ o, Below w.heap.size w (w.alloc o)) := fun o => (Below.refl _ _).alloc (Nat.le_refl _) _
  unfold Rq.val
  by_cases h1 : q.verb < 1
  · go_enter Tryz.func12, Tryz.ntmps12
    go_wp2_with fail
    go_ret2
    exact ⟨rfl, HB.out _⟩
  · have h2 : 10 < q.verb := by omega
    clear h
    go_enter Tryz.func12, Tryz.ntmps12
    go_wp2_with fail
    go_ret2
    exact ⟨rfl, HB.out _⟩

set_option linter.unusedSimpArgs false in
set_option linter.unusedVariables false in
set_option maxRecDepth 20000 in
set_option maxHeartbeats 8000000 in
theorem wq_good (q : Rq) (v : Value) (w : World) (gv ov cv gf of cf : Nat) (hV : RVars w gv ov cv gf of cf) (hrow : HR w v q.cells) (h1 : 1 ≤ q.verb) (h2 : q.verb ≤ 10) (hA : (docL q).length ≤ 1000000000000) (hn : In64 q.n) (hcs : ∀ c ∈ q.cells, In64 c.1 ∧ In64 c.2) :
    Calls Tryz.prog 12 #[q.val v] w fun e w' => e = .returned (.tuple #[.string (docB q ⟨(docL q).toArray⟩).1, .int .i64 (docB q ⟨(docL q).toArray⟩).2]) ∧ Below w.heap.size w w' := by
  obtain ⟨va, vn, vc, rfl⟩ : ∃ a n c, v = .slice a n c := by obtain ⟨a, c, rfl, _⟩ := hrow; exact ⟨_, _, _, rfl⟩
  have hb0 : Below w.heap.size w (w.alloc (.cells #[.int .i64 q.verb, .string q.name, .string q.other, .int .i64 q.born, .int .i64 q.live, .int .i64 q.n, .slice va vn vc] 26)) := (Below.refl _ _).alloc (Nat.le_refl _) _
  have P0 := SevIn.born w (.int .i64 q.verb) (.string q.name) (.string q.other) (.int .i64 q.born) (.int .i64 q.live) (.int .i64 q.n) (.slice va vn vc)
  have hV0 := hV.go hb0 (Nat.le_refl _)
  generalize hw0 : w.alloc (.cells #[.int .i64 q.verb, .string q.name, .string q.other, .int .i64 q.born, .int .i64 q.live, .int .i64 q.n, .slice va vn vc] 26) = w0 at *
  obtain ⟨k, hk⟩ : ∃ k : Nat, q.verb = k := ⟨q.verb.toNat, by omega⟩
  have a1 := hV0.verbs
  have a2 := hV0.verbsAt k (by show k < 11; omega)
  have a4 := hV0.form
  have a5 := hV0.formAt k (by show k < 11; omega)
  obtain ⟨c0, c1, c2, c3, c4, c5, c6⟩ := P0.cells
  obtain ⟨vb, hvb⟩ : ∃ x, x = verbL.getD k ⟨#[]⟩ := ⟨_, rfl⟩
  obtain ⟨F, hF⟩ : ∃ F, F = formL.getD k [] := ⟨_, rfl⟩
  obtain ⟨A, hAe⟩ : ∃ A, A = docL q := ⟨_, rfl⟩
  have HAE : Hid (A = vb.data.toList ++ docFrom q F 0) := by
    show _ = _
    rw [hAe, hvb, hF]
    unfold docL
    rw [hk]
    rfl
  rw [← hAe] at hA ⊢
  have HAL : Hid (A.length ≤ 1000000000000) := hA
  rw [← hvb] at a2
  have HF : Hid ((formL.map fun l => (⟨l.toArray⟩ : ByteArray)).getD k ⟨#[]⟩ = ⟨F.toArray⟩) := by
    show _ = _
    rw [hF, List.getD_eq_getElem?_getD, List.getElem?_map, List.getD_eq_getElem?_getD]
    cases formL[k]? <;> rfl
  rw [HF.out] at a5
  have HFL : Hid (F.length ≤ 2 ∧ (∀ c ∈ F, c = 110 ∨ c = 112 ∨ c = 114 ∨ c = 100 ∨ c = 99)) := by
    have : k = 0 ∨ k = 1 ∨ k = 2 ∨ k = 3 ∨ k = 4 ∨ k = 5 ∨ k = 6 ∨ k = 7 ∨ k = 8 ∨ k = 9 ∨ k = 10 := by omega
    show _ ∧ _
    rw [hF]
    rcases this with rfl | rfl | rfl | rfl | rfl | rfl | rfl | rfl | rfl | rfl | rfl <;> exact ⟨by decide, by decide⟩
  have hconv := fun W => Lib.run_convert_string_bytes (P := Tryz.prog) W 9 45 5 ⟨F.toArray⟩ Tryz.underlying9 Tryz.underlying45 Tryz.underlying5
  have HP0 : Hid (SevIn w.heap.size (.int .i64 q.verb) (.string q.name) (.string q.other) (.int .i64 q.born) (.int .i64 q.live) (.int .i64 q.n) (.slice va vn vc) w0) := P0
  have HV0 : Hid (RVars w0 gv ov cv gf of cf) := hV0
  have HB0 : Hid (Below w.heap.size w w0) := hb0
  have HROW : Hid (HR w (.slice va vn vc) q.cells) := hrow
  have HNC : Hid (In64 q.n ∧ ∀ c ∈ q.cells, In64 c.1 ∧ In64 c.2) := ⟨hn, hcs⟩
  rw [hk] at c0 h1 h2 hw0
  have hk1 : ¬ (k : Int) < 1 := by omega
  have hk2 : ¬ (10 : Int) < (k : Int) := by omega
  have hk3 : (k : Int) < 11 := by omega
  unfold Rq.val
  have HK : Hid (q.verb = k) := hk
  rw [hk]
  clear hb0 P0 hV hV0 hvb hF HF hrow hk hAe hA hn hcs
  go_enter Tryz.func12, Tryz.ntmps12
  go_wp2_with fail
  clear hconv
  have hbw : Below w0.heap.size w0 (Lib.bytesWorld w0 5 ⟨F.toArray⟩) := ⟨rfl, rfl, rfl, by rw [Lib.bytesWorld_size]; omega, fun j hj => Lib.bytesWorld_at_old w0 5 _ j hj⟩
  have hszb : w0.heap.size < (Lib.bytesWorld w0 5 ⟨F.toArray⟩).heap.size := by rw [Lib.bytesWorld_size]; omega
  have HC : Hid (∀ k, k < F.length → (Lib.bytesWorld w0 5 ⟨F.toArray⟩).cell? ⟨w0.heap.size, k, none⟩ = some (.int .u8 (F.getD k 0).toNat)) := fun k hk => Lib.bytesWorld_cell w0 5 ⟨F.toArray⟩ k (by simpa [ByteArray.size] using hk)
  have HBW : Hid (Below w0.heap.size w0 (Lib.bytesWorld w0 5 ⟨F.toArray⟩) ∧ w0.heap.size < (Lib.bytesWorld w0 5 ⟨F.toArray⟩).heap.size) := ⟨hbw, hszb⟩
  have hFs : (⟨F.toArray⟩ : ByteArray).size = F.length := by simp [ByteArray.size]
  clear hbw hszb c0 c1 c2 c3 c4 c5 c6 a1 a2 a4 a5 hw0
  generalize grownCap w0 F.length 0 5 = cp at *
  generalize Lib.bytesWorld w0 5 ⟨F.toArray⟩ = wb at *
  clear hFs
  have HPW : Hid (∀ {W : World}, Below wb.heap.size wb W → SevIn w.heap.size (.int .i64 k) (.string q.name) (.string q.other) (.int .i64 q.born) (.int .i64 q.live) (.int .i64 q.n) (.slice va vn vc) W) := fun hW => by
    have h3 := (HP0.out.go HBW.out.1).go hW
    rw [HK.out] at h3
    exact h3
  have HBB : Hid (∀ {W : World}, Below wb.heap.size wb W → Below w.heap.size w W) := fun hW => (HB0.out.trans (HBW.out.1.mono HB0.out.size)).trans (hW.mono (Nat.le_trans HB0.out.size HBW.out.1.size))
  have HVW : Hid (∀ {W : World}, Below wb.heap.size wb W → RVars W gv ov cv gf of cf) := fun hW => (HV0.out.go HBW.out.1 (Nat.le_refl _)).go hW (Nat.le_refl _)
  have HRW : Hid (∀ {W : World}, Below wb.heap.size wb W → HR W (.slice va vn vc) q.cells) := fun hW => HROW.out.below (HBB.out hW)
  have HCW : Hid (∀ {W : World}, Below wb.heap.size wb W → ∀ j, j < F.length → W.cell? ⟨w0.heap.size, j, none⟩ = some (.int .u8 (F.getD j 0).toNat)) := fun hW j hj => (hW.cell (p := ⟨w0.heap.size, j, none⟩) HBW.out.2).trans (HC.out j hj)
  go_loopg [4, 33] F.length (fun gl s4 s33 wl => ∃ (i : Nat) (d : ByteArray), i + gl = F.length ∧ s33 = .int .i64 i ∧ s4 = .string d ∧ WSt wb wl q F A i d)
  case atStart => exact ⟨0, vb, by omega, rfl, rfl, by rw [List.drop_zero]; exact HAE.out.symm, Below.refl _ _⟩
  case round =>
    obtain ⟨i, d, hi, rfl, rfl, hst⟩ := hrel
    have HG : Hid (i + gk = F.length) := hi
    have HST : Hid (WSt wb wr q F A i d) := hst
    clear hst hi
    by_cases hlt : i < F.length
    · have hq1 : (i : Int) < (F.length : Int) := by omega
      have hby := HCW.out HST.out.below i hlt
      have hi5 : (i : Int) < 3 := by have := HFL.out.1; omega
      have HLET := HFL.out.2 (F.getD i 0) (by rw [List.getD_eq_getElem?_getD, List.getElem?_eq_getElem hlt]; exact List.getElem_mem hlt)
      have HLN : Hid (d.data.toList ++ (wPiece q (F.getD i 0) i ++ docFrom q (F.drop (i + 1)) (i + 1)) = A) := by show _ = _; rw [← doc_step q F i hlt]; exact HST.out.line
      obtain ⟨c0, c1, c2, c3, c4, c5, c6⟩ := (HPW.out HST.out.below).cells
      rcases HLET with hL | hL | hL | hL | hL
      · rw [hL] at hby
        by_cases hi0 : i = 0
        · subst hi0
          have HL2 : Hid (wPiece q (F.getD 0 0) 0 = 32 :: q.name.data.toList) := by show _ = _; unfold wPiece; rw [hL, if_neg (by decide), if_neg (by decide), if_neg (by decide), if_pos rfl]
          have hsz := doc_size HLN.out HAL.out
          rw [HL2.out, List.length_append, List.length_cons, ba_len] at hsz
          have hs1 : ¬ 9223372036854775807 < 1 + q.name.size := by omega
          have hs2 : ¬ 9223372036854775807 < d.size + (1 + q.name.size) := by omega
          clear hL hsz
          go_wp2_with fail
          go_roundg (gk - 1)
          case measure => have := HG.out; omega
          case rel =>
            have h7 := HG.out
            have h8 := HLN.out
            rw [HL2.out] at h8
            exact ⟨0 + 1, d ++ (⟨#[32]⟩ ++ q.name), by omega, by go_num, rfl, doc_add h8, HST.out.below⟩
        · have HL2 : Hid (wPiece q (F.getD i 0) i = 32 :: q.other.data.toList) := by show _ = _; unfold wPiece; rw [hL, if_neg (by decide), if_neg (by decide), if_neg (by decide), if_neg hi0]
          have hi1 : ((i : Int) == 0) = false := by simp; omega
          have hi2 : ¬ (i : Int) = 0 := by omega
          have hsz := doc_size HLN.out HAL.out
          rw [HL2.out, List.length_append, List.length_cons, ba_len] at hsz
          have hs1 : ¬ 9223372036854775807 < 1 + q.other.size := by omega
          have hs2 : ¬ 9223372036854775807 < d.size + (1 + q.other.size) := by omega
          clear hL hi0 hsz
          go_wp2_with fail
          go_roundg (gk - 1)
          case measure => have := HG.out; omega
          case rel =>
            have h7 := HG.out
            have h8 := HLN.out
            rw [HL2.out] at h8
            exact ⟨i + 1, d ++ (⟨#[32]⟩ ++ q.other), by omega, by go_num, rfl, doc_add h8, HST.out.below⟩
      · rw [hL] at hby
        by_cases hi0 : i = 0
        · subst hi0
          have HL2 : Hid (wPiece q (F.getD 0 0) 0 = 32 :: q.name.data.toList) := by show _ = _; unfold wPiece; rw [hL, if_neg (by decide), if_neg (by decide), if_neg (by decide), if_pos rfl]
          have hsz := doc_size HLN.out HAL.out
          rw [HL2.out, List.length_append, List.length_cons, ba_len] at hsz
          have hs1 : ¬ 9223372036854775807 < 1 + q.name.size := by omega
          have hs2 : ¬ 9223372036854775807 < d.size + (1 + q.name.size) := by omega
          clear hL hsz
          go_wp2_with fail
          go_roundg (gk - 1)
          case measure => have := HG.out; omega
          case rel =>
            have h7 := HG.out
            have h8 := HLN.out
            rw [HL2.out] at h8
            exact ⟨0 + 1, d ++ (⟨#[32]⟩ ++ q.name), by omega, by go_num, rfl, doc_add h8, HST.out.below⟩
        · have HL2 : Hid (wPiece q (F.getD i 0) i = 32 :: q.other.data.toList) := by show _ = _; unfold wPiece; rw [hL, if_neg (by decide), if_neg (by decide), if_neg (by decide), if_neg hi0]
          have hi1 : ((i : Int) == 0) = false := by simp; omega
          have hi2 : ¬ (i : Int) = 0 := by omega
          have hsz := doc_size HLN.out HAL.out
          rw [HL2.out, List.length_append, List.length_cons, ba_len] at hsz
          have hs1 : ¬ 9223372036854775807 < 1 + q.other.size := by omega
          have hs2 : ¬ 9223372036854775807 < d.size + (1 + q.other.size) := by omega
          clear hL hi0 hsz
          go_wp2_with fail
          go_roundg (gk - 1)
          case measure => have := HG.out; omega
          case rel =>
            have h7 := HG.out
            have h8 := HLN.out
            rw [HL2.out] at h8
            exact ⟨i + 1, d ++ (⟨#[32]⟩ ++ q.other), by omega, by go_num, rfl, doc_add h8, HST.out.below⟩
      · rw [hL] at hby
        have HL2 : Hid (wPiece q (F.getD i 0) i = 32 :: (ruleT q.born q.live).data.toList) := by show _ = _; unfold wPiece; rw [if_pos hL]
        have hc := fun W => refText_any q.born q.live W
        rw [textV_eq] at hc
        generalize (if goodB q.born q.live = true then (0 : Int) else 3) = ec at hc
        have hsz := ruleT_size q.born q.live
        have hsd := doc_size HLN.out HAL.out
        generalize ruleT q.born q.live = t at *
        have hs1 : ¬ 9223372036854775807 < 1 + t.size := by omega
        have hs2 : ¬ 9223372036854775807 < d.size + (1 + t.size) := by omega
        clear hL hsz hsd
        go_wp2_with fail
        refine (hc wr).mono ?_
        rintro e w2 ⟨rfl, hb2⟩
        have HS2 : Hid (Below wb.heap.size wb w2) := HST.out.below.trans (hb2.mono HST.out.below.size)
        clear hb2 hby c0 c1 c2 c3 c4 c5 c6
        go_wp2_with fail
        go_roundg (gk - 1)
        case measure => have := HG.out; omega
        case rel =>
          have h7 := HG.out
          have h8 := HLN.out
          rw [HL2.out] at h8
          exact ⟨i + 1, d ++ (⟨#[32]⟩ ++ t), by omega, by go_num, rfl, doc_add h8, HS2.out⟩
      · rw [hL] at hby
        have HL2 : Hid (wPiece q (F.getD i 0) i = 32 :: (⟨(Lib.itoa q.n).toArray⟩ : ByteArray).data.toList) := by show _ = _; unfold wPiece; rw [if_neg (by rw [hL]; decide), if_pos hL]
        have hc := fun W => decimalZ_any q.n W HNC.out.1.1 HNC.out.1.2
        have hsd := doc_size HLN.out HAL.out
        have hsz : (⟨(Lib.itoa q.n).toArray⟩ : ByteArray).size ≤ 21 := by rw [ba_size]; exact Lib.itoa_length_le _ HNC.out.1.1 HNC.out.1.2
        generalize (⟨(Lib.itoa q.n).toArray⟩ : ByteArray) = t at *
        have hs1 : ¬ 9223372036854775807 < 1 + t.size := by omega
        have hs2 : ¬ 9223372036854775807 < d.size + (1 + t.size) := by omega
        clear hL hsz hsd
        go_wp2_with fail
        refine (hc wr).mono ?_
        rintro e w2 ⟨rfl, hb2⟩
        have HS2 : Hid (Below wb.heap.size wb w2) := HST.out.below.trans (hb2.mono HST.out.below.size)
        clear hb2 hby c0 c1 c2 c3 c4 c5 c6
        go_wp2_with fail
        go_roundg (gk - 1)
        case measure => have := HG.out; omega
        case rel =>
          have h7 := HG.out
          have h8 := HLN.out
          rw [HL2.out] at h8
          exact ⟨i + 1, d ++ (⟨#[32]⟩ ++ t), by omega, by go_num, rfl, doc_add h8, HS2.out⟩
      · rw [hL] at hby
        have HL2 : Hid (wPiece q (F.getD i 0) i = q.cells.flatMap cellL) := by show _ = _; unfold wPiece; rw [if_neg (by rw [hL]; decide), if_neg (by rw [hL]; decide), if_pos hL]; rfl
        have HL3 : Hid (d.data.toList ++ (q.cells.flatMap cellL ++ docFrom q (F.drop (i + 1)) (i + 1)) = A) := by show _ = _; have h8 := HLN.out; rw [HL2.out] at h8; exact h8
        have HCL : Hid (q.cells.length ≤ 1000000000000) := by
          show _ ≤ _
          have h8 := doc_size HL3.out HAL.out
          have h9 := flat_len q.cells
          rw [List.length_append] at h8
          omega
        have HVN : Hid (vn = q.cells.length) := by
          obtain ⟨a, c, e, _⟩ := HRW.out HST.out.below
          cases e
          rfl
        have hvn := HVN.out
        subst hvn
        obtain ⟨R, hR0⟩ : ∃ R, R = docFrom q (F.drop (i + 1)) (i + 1) := ⟨_, rfl⟩
        have HR0 : Hid (docFrom q (F.drop (i + 1)) (i + 1) = R) := hR0.symm
        rw [← hR0] at HL3
        clear hR0
        clear hL
        go_wp2_with fail
        obtain ⟨wR, hwR⟩ : ∃ a, a = wr := ⟨_, rfl⟩
        subst hwR
        obtain ⟨gK, hgK⟩ : ∃ a, a = gk := ⟨_, rfl⟩
        subst hgK
        obtain ⟨D, hD⟩ : ∃ a, a = d := ⟨_, rfl⟩
        subst hD
        clear hby c0 c1 c2 c3 c4 c5 c6
        go_loopg [4, 71] q.cells.length (fun gl s4 s71 wl => ∃ (j : Nat) (d : ByteArray), j + gl = q.cells.length ∧ s71 = .int .i64 j ∧ s4 = .string d ∧ CSt wb wl q R A j d)
        case atStart => exact ⟨0, D, by omega, rfl, rfl, by rw [List.drop_zero]; exact HL3.out, HST.out.below⟩
        case round =>
          obtain ⟨j, d, hj, rfl, rfl, hst⟩ := hrel
          have HJ : Hid (j + gk = q.cells.length) := hj
          have HSC : Hid (CSt wb wr q R A j d) := hst
          clear hst hj
          by_cases hjl : j < q.cells.length
          · have hjl2 : (j : Int) < (q.cells.length : Int) := by omega
            have hjb : (j : Int) < 1000000000000 := by have := HCL.out; omega
            obtain ⟨x, y, hxy⟩ : ∃ x y, q.cells[j]? = some (x, y) := ⟨_, _, List.getElem?_eq_getElem hjl⟩
            obtain ⟨a, c, e, _, hcells⟩ := HRW.out HSC.out.below
            cases e
            obtain ⟨g, o, rfl, hgl, hgc⟩ : ∃ g o, va = some ⟨g, o, none⟩ ∧ g < wr.heap.size ∧ ∀ (k : Nat) x y, q.cells[k]? = some (x, y) → wr.cell? ⟨g, o + k * 2, none⟩ = some (.int .i64 x) ∧ wr.cell? ⟨g, o + k * 2 + 1, none⟩ = some (.int .i64 y) := by
              rcases hcells with h | h
              · rw [h] at hjl; exact absurd hjl (Nat.not_lt_zero _)
              · exact h
            obtain ⟨hcx, hcy⟩ := hgc j x y hxy
            have hmem := HNC.out.2 _ (List.mem_of_getElem? hxy)
            have dx := fun W => decimalZ_any x W hmem.1.1 hmem.1.2
            have dy := fun W => decimalZ_any y W hmem.2.1 hmem.2.2
            have zx : (⟨(Lib.itoa x).toArray⟩ : ByteArray).size ≤ 21 := by rw [ba_size]; exact Lib.itoa_length_le _ hmem.1.1 hmem.1.2
            have zy : (⟨(Lib.itoa y).toArray⟩ : ByteArray).size ≤ 21 := by rw [ba_size]; exact Lib.itoa_length_le _ hmem.2.1 hmem.2.2
            have HLC : Hid (d.data.toList ++ ((32 :: ((⟨(Lib.itoa x).toArray⟩ : ByteArray).data.toList ++ 44 :: (⟨(Lib.itoa y).toArray⟩ : ByteArray).data.toList)) ++ ((q.cells.drop (j + 1)).flatMap cellL ++ R)) = A) := by
              show _ = _
              have h8 := HSC.out.line
              rw [cells_step hjl hxy] at h8
              rw [← h8]
              simp [cellL]
            have hsd := doc_size HLC.out HAL.out
            generalize (⟨(Lib.itoa x).toArray⟩ : ByteArray) = tx at *
            generalize (⟨(Lib.itoa y).toArray⟩ : ByteArray) = ty at *
            have e1 : ¬ 9223372036854775807 < 1 + tx.size := by omega
            have e2 : ¬ 9223372036854775807 < 1 + tx.size + 1 := by omega
            have e3 : ¬ 9223372036854775807 < 1 + tx.size + 1 + ty.size := by omega
            have e4 : ¬ 9223372036854775807 < d.size + (1 + tx.size + 1 + ty.size) := by omega
            have HBE : Hid (Below wr.heap.size wr (wr.alloc (.cells #[.int .i64 x, .int .i64 y] 51))) := (Below.refl _ _).alloc (Nat.le_refl _) _
            have p0 : (wr.alloc (.cells #[.int .i64 x, .int .i64 y] 51)).cell? ⟨wr.heap.size, 0, none⟩ = some (.int .i64 x) := by rw [World.cell?_alloc_new]; rfl
            have p1 : (wr.alloc (.cells #[.int .i64 x, .int .i64 y] 51)).cell? ⟨wr.heap.size, 1, none⟩ = some (.int .i64 y) := by rw [World.cell?_alloc_new]; rfl
            have HLT : Hid (wr.heap.size < (wr.alloc (.cells #[.int .i64 x, .int .i64 y] 51)).heap.size) := by show _ < _; simp
            clear hsd zx zy hmem hgc hxy hcells hgl
            generalize hwE : wr.alloc (.cells #[.int .i64 x, .int .i64 y] 51) = wE at *
            have HK5 : Hid (∀ W, Below wE.heap.size wE W → W.cell? ⟨wr.heap.size, 0, none⟩ = some (.int .i64 x) ∧ W.cell? ⟨wr.heap.size, 1, none⟩ = some (.int .i64 y)) := fun W hW => ⟨(hW.cell (p := ⟨wr.heap.size, 0, none⟩) HLT.out).trans p0, (hW.cell (p := ⟨wr.heap.size, 1, none⟩) HLT.out).trans p1⟩
            go_wp2_with fail
            go_region_held3 (fun W => W.cell? ⟨wr.heap.size, 0, none⟩ = some (.int .i64 x) ∧ W.cell? ⟨wr.heap.size, 1, none⟩ = some (.int .i64 y)) (first | exact ⟨p0, p1⟩ | exact HK5.out _ h5 | exact HK5.out _ (h5.trans (h6.mono h5.size))) ((first | (go_at_call 30; refine (dx _).mono ?_; rintro e w5 ⟨rfl, h5'⟩; have h5 : Below wE.heap.size wE w5 := ⟨h5'.os, h5'.tape, h5'.output, h5'.size, h5'.block⟩; clear h5') | (go_at_call 30; refine (dy _).mono ?_; rintro e w6 ⟨rfl, h6'⟩; have h6 : Below w5.heap.size w5 w6 := ⟨h6'.os, h6'.tape, h6'.output, h6'.size, h6'.block⟩; clear h6')))
            all_goals
              have HS6 : Hid (Below wb.heap.size wb w6) := (HSC.out.below.trans (HBE.out.mono HSC.out.below.size)).trans ((h5.trans (h6.mono h5.size)).mono (Nat.le_trans HSC.out.below.size HBE.out.size))
              clear h5 h6
              go_wp2_with fail
              go_roundg (gk - 1)
              case measure => have := HJ.out; omega
              case rel =>
                have h7 := HJ.out
                exact ⟨j + 1, d ++ (⟨#[32]⟩ ++ tx ++ ⟨#[44]⟩ ++ ty), by omega, by go_num, rfl, cell_add HLC.out, HS6.out⟩
          · have hjl2 : ¬ (j : Int) < (q.cells.length : Int) := by omega
            have hj3 : j = q.cells.length := by have := HJ.out; omega
            have HFN : Hid (d.data.toList ++ R = A) := by
              show _ = _
              have h3 := HSC.out.line
              rw [hj3, List.drop_length, List.flatMap_nil, List.nil_append] at h3
              exact h3
            clear hj3
            go_wp2_with fail
            go_roundg (gK - 1)
            case measure => have := HG.out; omega
            case rel =>
              have h7 := HG.out
              exact ⟨i + 1, d, by omega, by go_num, rfl, by rw [HR0.out]; exact HFN.out, HSC.out.below⟩
    · have hq1 : ¬ (i : Int) < (F.length : Int) := by omega
      have hiF : i = F.length := by have := HG.out; omega
      have hDA : d = ⟨A.toArray⟩ := by
        have h3 := HST.out.line
        rw [hiF, List.drop_length, docFrom, List.append_nil] at h3
        rw [← h3, ← ba_list]
      have hds := doc_size HST.out.line HAL.out
      have cr := refReq_any d wr gv ov cv gf of cf (HVW.out HST.out.below) (by omega)
      have HDB : Hid (docB q d = if (readRq d).2 = 0 then (if sameRq (readRq d).1 q = true then (d, 0) else (⟨#[]⟩, 2)) else (⟨#[]⟩, (readRq d).2)) := rfl
      unfold RefOut at cr
      generalize readRq d = RR at *
      obtain ⟨b, re⟩ := RR
      simp only at cr HDB
      unfold Rq.val at cr
      clear hiF hds
      by_cases hre : re = 0
      · subst hre
        have HE : Hid (docB q ⟨A.toArray⟩ = if sameRq b q = true then (d, 0) else (⟨#[]⟩, 2)) := by show _ = _; rw [← hDA, HDB.out, if_pos rfl]
        have cs := fun u W (h : HR W u b.cells) (h' : HR W (.slice va vn vc) q.cells) => sameRef_any b q u (.slice va vn vc) W h h'
        generalize sameRq b q = sb at *
        clear hDA HDB
        go_wp2_with fail
        refine cr.mono ?_
        rintro e w2 ⟨hb2, u, rfl, hr2⟩
        obtain ⟨ua, un, uc, rfl⟩ := crow_slice hr2
        have hbB : Below w2.heap.size w2 (w2.alloc (.cells #[.int .i64 b.verb, .string b.name, .string b.other, .int .i64 b.born, .int .i64 b.live, .int .i64 b.n, .slice ua un uc] 26)) := (Below.refl _ _).alloc (Nat.le_refl _) _
        have hB := SevIn.born w2 (.int .i64 b.verb) (.string b.name) (.string b.other) (.int .i64 b.born) (.int .i64 b.live) (.int .i64 b.n) (.slice ua un uc)
        have hrB := (hr2.below hbB).hr
        have hBB := hb2.trans (hbB.mono hb2.size)
        have HS2 : Hid (Below wb.heap.size wb (w2.alloc (.cells #[.int .i64 b.verb, .string b.name, .string b.other, .int .i64 b.born, .int .i64 b.live, .int .i64 b.n, .slice ua un uc] 26))) := HST.out.below.trans (hBB.mono HST.out.below.size)
        generalize hwB : w2.alloc (.cells #[.int .i64 b.verb, .string b.name, .string b.other, .int .i64 b.born, .int .i64 b.live, .int .i64 b.n, .slice ua un uc] 26) = wB at *
        obtain ⟨b0, b1, b2, b3, b4, b5, b6⟩ := hB.cells
        obtain ⟨c0, c1, c2, c3, c4, c5, c6⟩ := (HPW.out HS2.out).cells
        have hq2 := HRW.out HS2.out
        have ds := cs (.slice ua un uc) wB hrB hq2
        unfold Rq.val at ds
        rw [HK.out] at ds
        clear hbB hB hrB hBB hb2 hr2 cr cs hq2
        cases sb
        · go_wp2_with fail
          refine ds.mono ?_
          rintro e w4 ⟨rfl, hb4⟩
          go_wp2_with fail
          go_ret2
          have hb5 := HBB.out HS2.out
          exact ⟨by rw [HE.out]; rfl, hb5.trans (hb4.mono hb5.size)⟩
        · go_wp2_with fail
          refine ds.mono ?_
          rintro e w4 ⟨rfl, hb4⟩
          go_wp2_with fail
          go_ret2
          have hb5 := HBB.out HS2.out
          exact ⟨by rw [HE.out]; rfl, hb5.trans (hb4.mono hb5.size)⟩
      · have HE : Hid (docB q ⟨A.toArray⟩ = (⟨#[]⟩, re)) := by show _ = _; rw [← hDA, HDB.out, if_neg hre]
        have hre1 : (re == 0) = false := by simpa using hre
        have hre2 : (re != 0) = true := by simpa using hre
        clear hDA hre HDB
        go_wp2_with fail
        refine cr.mono ?_
        rintro e w2 ⟨hb2, u, rfl, hr2⟩
        obtain ⟨ua, un, uc, rfl⟩ := crow_slice hr2
        have hbB : Below w2.heap.size w2 (w2.alloc (.cells #[.int .i64 b.verb, .string b.name, .string b.other, .int .i64 b.born, .int .i64 b.live, .int .i64 b.n, .slice ua un uc] 26)) := (Below.refl _ _).alloc (Nat.le_refl _) _
        have hBB := hb2.trans (hbB.mono hb2.size)
        have HS2 : Hid (Below w.heap.size w (w2.alloc (.cells #[.int .i64 b.verb, .string b.name, .string b.other, .int .i64 b.born, .int .i64 b.live, .int .i64 b.n, .slice ua un uc] 26))) := HBB.out (HST.out.below.trans (hBB.mono HST.out.below.size))
        clear hbB hBB hb2 hr2 cr
        go_wp2_with fail
        all_goals
          go_ret2
          exact ⟨by rw [HE.out]; rfl, HS2.out⟩
end Go.Proofs.YtpghbchbhjbbiaaGreatDoor
