/- copies: keys in a new row. -/
import Derived.Test.YtgipjplifndniaaGreatDoorKyNamed
import Derived.Laws.MakeOwn
import Derived.Shelf.Strings.Trim
import Derived.Shelf.Small.Utf8
import Derived.Shelf.Small.Bits
import Derived.Shelf.Small.Strs
import Derived.Shelf.Small.Wraps
import Derived.Shelf.Strconv.Itoa0
import Derived.Shelf.Strconv.Itoa1
import Derived.Shelf.LaysM
import Derived.Shelf.Strconv.Itoa2
import Derived.Shelf.Strconv.Itoa3
import Derived.Shelf.Strconv.Clone
import Derived.Shelf.Strings.Search1
import Derived.Shelf.Strings.Prefix
import Derived.Shelf.Strings.Runes
import Derived.Shelf.Strings.AsciiSet
import Derived.Test.YtgipjplifndniaaGreatDoorProg
import Derived.Lib.ItoaLen
import Derived.Laws.IdiomStrings
namespace Go.Proofs.YtgipjplifndniaaGreatDoor.K
open Go.RowKit

structure Ky where
  text : ByteArray
  name : ByteArray
  rights : Int
def Ky.vals (k : Ky) : List Value := [.string k.text, .string k.name, .int .i64 k.rights]
def Ky.val (k : Ky) : Value := .agg #[.string k.text, .string k.name, .int .i64 k.rights]
def keysL (ks : List Ky) : List Value := ks.flatMap Ky.vals
theorem keysL_append (a b : List Ky) : keysL (a ++ b) = keysL a ++ keysL b := by unfold keysL; rw [List.flatMap_append]
theorem keysL_len (ks : List Ky) : (keysL ks).length = ks.length * 3 := by
  induction ks with
  | nil => rfl
  | cons k r ih => rw [show k :: r = [k] ++ r from rfl, keysL_append, List.length_append, ih, List.length_append]; simp [keysL, Ky.vals]; omega
theorem keysL_at (ks : List Ky) (k : Nat) (x : Ky) (h : ks[k]? = some x) : (keysL ks)[k * 3]? = some (.string x.text) ∧ (keysL ks)[k * 3 + 1]? = some (.string x.name) ∧ (keysL ks)[k * 3 + 2]? = some (.int .i64 x.rights) := by
  induction ks generalizing k with
  | nil => simp at h
  | cons c r ih =>
    cases k with
    | zero => simp at h; subst h; exact ⟨rfl, rfl, rfl⟩
    | succ k =>
      have := ih k (by simpa using h)
      rw [show c :: r = [c] ++ r from rfl, keysL_append, show (k + 1) * 3 = k * 3 + 3 by omega, show k * 3 + 3 + 1 = k * 3 + 1 + 3 by omega, show k * 3 + 3 + 2 = k * 3 + 2 + 3 by omega]
      have e : ∀ j, (keysL [c] ++ keysL r)[j + 3]? = (keysL r)[j]? := fun j => by
        rw [List.getElem?_append_right (by simp [keysL, Ky.vals])]
        simp [keysL, Ky.vals]
      rw [e, e, e]
      exact this
def KAt (w : World) (b off : Nat) (x : Ky) : Prop := w.cell? ⟨b, off, none⟩ = some (.string x.text) ∧ w.cell? ⟨b, off + 1, none⟩ = some (.string x.name) ∧ w.cell? ⟨b, off + 2, none⟩ = some (.int .i64 x.rights)
theorem cell_heap {w w' : World} {a : Addr} (h : w'.heap[a.block]? = w.heap[a.block]?) : w'.cell? a = w.cell? a := World.cell?_of_block h
theorem KAt.keep {w w' : World} {b off : Nat} {x : Ky} (h : KAt w b off x) (hb : w'.heap[b]? = w.heap[b]?) : KAt w' b off x :=
  ⟨(cell_heap (a := ⟨b, off, none⟩) hb).trans h.1, (cell_heap (a := ⟨b, off + 1, none⟩) hb).trans h.2.1, (cell_heap (a := ⟨b, off + 2, none⟩) hb).trans h.2.2⟩
def KRow (w : World) (B : Nat) (v : Value) (ks : List Ky) : Prop := w.ownsRow B 157 3 v ks.length (keysL ks)
theorem KRow.below {w w' : World} {B : Nat} {v : Value} {ks : List Ky} (h : KRow w B v ks) (hb : Below w.heap.size w w') : KRow w' B v ks :=
  World.ownsRow.kept (row := none) h ⟨hb.os, hb.tape, hb.output, hb.size, fun k hk _ => hb.block k hk⟩ (Classical.em _)
def HK (w : World) (v : Value) (ks : List Ky) : Prop :=
  ∃ p cap, v = .slice p ks.length cap ∧ ks.length ≤ cap ∧ cap ≤ 9223372036854775807 ∧ (p = none → cap = 0) ∧ (ks.length = 0 ∨ ∃ b off, p = some ⟨b, off, none⟩ ∧ b < w.heap.size ∧ ∀ k x, ks[k]? = some x → KAt w b (off + k * 3) x)
theorem HK.keep {w w' : World} {v : Value} {ks : List Ky} (h : HK w v ks) (hb : ∀ k, k < w.heap.size → w'.heap[k]? = w.heap[k]?) (hs : w.heap.size ≤ w'.heap.size) : HK w' v ks := by
  obtain ⟨p, cap, h1, h2, h3, h5, h4⟩ := h
  refine ⟨p, cap, h1, h2, h3, h5, ?_⟩
  rcases h4 with h4 | ⟨b, off, e, hlt, hc⟩
  · exact .inl h4
  · exact .inr ⟨b, off, e, by omega, fun k x hk => (hc k x hk).keep (hb b hlt)⟩
theorem HK.below {w w' : World} {v : Value} {ks : List Ky} (h : HK w v ks) (hb : Below w.heap.size w w') : HK w' v ks := h.keep hb.block hb.size
theorem KRow.hk {w : World} {B : Nat} {v : Value} {ks : List Ky} (h : KRow w B v ks) : HK w v ks := by
  rcases h.2 with ⟨h0, h1⟩ | ⟨g, cap, cur, hv, _, hg, h1, h2, hs, ht⟩
  · exact ⟨none, 0, by rw [h0, h1], by omega, by omega, fun _ => rfl, .inl h1⟩
  · refine ⟨_, cap, hv, h1, by unfold maxLen at h2; omega, (fun e => by cases e), .inr ⟨g, 0, rfl, (Array.getElem?_eq_some_iff.1 hg).1, fun k x hk => ?_⟩⟩
    obtain ⟨a, b, c⟩ := keysL_at ks k x hk
    have hl : k < ks.length := (List.getElem?_eq_some_iff.1 hk).1
    rw [← ht, List.getElem?_take, if_pos (by omega)] at a b c
    rw [Nat.zero_add]
    refine ⟨?_, ?_, ?_⟩
    · rw [Lib.cell_of_heap hg]; simpa using a
    · rw [Lib.cell_of_heap hg]; simpa using b
    · rw [Lib.cell_of_heap hg]; simpa using c
theorem KRow.lt {w : World} {B : Nat} {v : Value} {ks : List Ky} (h : KRow w B v ks) (q : Nat) (hq : v.ownBlock = some q) : B ≤ q ∧ q < w.heap.size := by
  rcases h.2 with ⟨h0, _⟩ | ⟨g, cap, cur, hv, hb, hg, _⟩
  · rw [h0] at hq; cases hq
  · rw [hv] at hq
    have : g = q := by simpa [Value.ownBlock] using hq
    subst this
    exact ⟨hb, (Array.getElem?_eq_some_iff.1 hg).1⟩
theorem Tryz.infoKey : (Tryz.prog.info? 157).map (fun i => (i.zero, i.size, i.bytes)) = some (some (.agg #[.string ByteArray.empty, .string ByteArray.empty, .int .i64 0]), 3, 40) := by kernel_rfl
theorem info_parts {o : Option TypeInfo} {z : Option Value} {s b : Nat} (h : o.map (fun i => (i.zero, i.size, i.bytes)) = some (z, s, b)) : ∃ i, o = some i ∧ i.zero = z ∧ i.size = s ∧ i.bytes = b := by
  cases o with
  | none => simp at h
  | some i => simp at h; exact ⟨i, rfl, h.1, h.2.1, h.2.2⟩
def K3 (R : Nat) (x : Ky) (w : World) : Prop :=
  w.cell? ⟨R, 0, none⟩ = some (.string x.text) ∧ w.cell? ⟨R, 1, none⟩ = some (.string x.name) ∧ w.cell? ⟨R, 2, none⟩ = some (.int .i64 x.rights) ∧ w.frozen? ⟨R, 0, none⟩ = false ∧ w.frozen? ⟨R, 1, none⟩ = false ∧ w.frozen? ⟨R, 2, none⟩ = false ∧ R < w.heap.size
theorem K3.born (w : World) (x : Ky) (t : TypeId) : K3 w.heap.size x (w.alloc (.cells #[.string x.text, .string x.name, .int .i64 x.rights] t)) :=
  ⟨by rw [World.cell?_alloc_new]; rfl, by rw [World.cell?_alloc_new]; rfl, by rw [World.cell?_alloc_new]; rfl, by simp [World.frozen?_alloc_new], by simp [World.frozen?_alloc_new], by simp [World.frozen?_alloc_new], by simp⟩
theorem K3.keep {R : Nat} {x : Ky} {w w' : World} (h : K3 R x w) (hb : w'.heap[R]? = w.heap[R]?) (hs : w.heap.size ≤ w'.heap.size) : K3 R x w' := by
  obtain ⟨h1, h2, h3, h4, h5, h6, h7⟩ := h
  exact ⟨(World.cell?_of_block (a := ⟨R, 0, none⟩) hb).trans h1, (World.cell?_of_block (a := ⟨R, 1, none⟩) hb).trans h2, (World.cell?_of_block (a := ⟨R, 2, none⟩) hb).trans h3, (World.frozen?_of_block (a := ⟨R, 0, none⟩) hb).trans h4, (World.frozen?_of_block (a := ⟨R, 1, none⟩) hb).trans h5, (World.frozen?_of_block (a := ⟨R, 2, none⟩) hb).trans h6, by omega⟩
theorem K3.below {R : Nat} {x : Ky} {w w' : World} (h : K3 R x w) (hb : Below w.heap.size w w') : K3 R x w' := h.keep (hb.block R h.2.2.2.2.2.2) hb.size
theorem K3.under {R B : Nat} {x : Ky} {w w' : World} (h : K3 R x w) (hb : Below B w w') (hB : R < B) : K3 R x w' := h.keep (hb.block R hB) hb.size
def putKy (w : World) (R : Nat) (x : Ky) : World := ((w.setCell ⟨R, 0, none⟩ (.string x.text)).setCell ⟨R, 1, none⟩ (.string x.name)).setCell ⟨R, 2, none⟩ (.int .i64 x.rights)
theorem K3.put {R : Nat} {x : Ky} {w : World} (h : K3 R x w) (y : Ky) : K3 R y (putKy w R y) := by
  obtain ⟨h1, h2, h3, h4, h5, h6, h7⟩ := h
  unfold putKy
  refine ⟨?_, ?_, ?_, ?_, ?_, ?_, ?_⟩
  · simp [go_sem, h1]
  · simp [go_sem, h2]
  · simp [go_sem, h3]
  · simp [go_sem, h4]
  · simp [go_sem, h5]
  · simp [go_sem, h6]
  · simp [World.setCell]; exact h7
theorem putKy_far {w : World} {R : Nat} {x : Ky} (k : Nat) (h : k ≠ R) : (putKy w R x).heap[k]? = w.heap[k]? := by
  unfold putKy
  rw [Below.heap_setCell _ _ _ _ h, Below.heap_setCell _ _ _ _ h, Below.heap_setCell _ _ _ _ h]
theorem putKy_size {w : World} {R : Nat} {x : Ky} : (putKy w R x).heap.size = w.heap.size := by unfold putKy; simp [World.setCell]
theorem putKy_below {w w' : World} {B R : Nat} {x : Ky} (h : Below B w w') (hR : B ≤ R) : Below B w (putKy w' R x) :=
  ⟨h.os, h.tape, h.output, by rw [putKy_size]; exact h.size, fun k hk => by rw [putKy_far k (by omega)]; exact h.block k hk⟩
def noKy : Ky := ⟨⟨#[]⟩, ⟨#[]⟩, 0⟩
end Go.Proofs.YtgipjplifndniaaGreatDoor.K

namespace Go.Proofs
open Go.Shelf
def Tryz.laysM171_ren : Go.Shelf.Ren := ⟨fun | 171 => 140 | 243 => 158 | 246 => 169 | 283 => 170 | 284 => 171 | 285 => 172 | 286 => 173 | 129 => 77 | 317 => 184 | 318 => 185 | 319 => 186 | 320 => 187 | 337 => 194 | 338 => 195 | n => n, fun | 3 => 3 | 9 => 9 | 2 => 2 | 4 => 4 | 171 => 237 | 0 => 0 | 53 => 98 | 37 => 192 | 5 => 5 | 173 => 239 | 212 => 251 | 51 => 135 | 20 => 20 | 213 => 252 | 46 => 91 | 232 => 263 | 233 => 264 | n => n, fun | 17 => 0 | 18 => 4 | 19 => 5 | n => n⟩
theorem Tryz.laysM171 : Go.Proofs.LaysM.n171 Tryz.prog Tryz.laysM171_ren := {
  mixed := by kernel_rfl
  f129 := Tryz.func77.trans (congrArg some (by kernel_rfl))
  f171 := Tryz.func140.trans (congrArg some (by kernel_rfl))
  f243 := Tryz.func158.trans (congrArg some (by kernel_rfl))
  f246 := Tryz.func169.trans (congrArg some (by kernel_rfl))
  f283 := Tryz.func170.trans (congrArg some (by kernel_rfl))
  f284 := Tryz.func171.trans (congrArg some (by kernel_rfl))
  f285 := Tryz.func172.trans (congrArg some (by kernel_rfl))
  f286 := Tryz.func173.trans (congrArg some (by kernel_rfl))
  f317 := Tryz.func184.trans (congrArg some (by kernel_rfl))
  f318 := Tryz.func185.trans (congrArg some (by kernel_rfl))
  f319 := Tryz.func186.trans (congrArg some (by kernel_rfl))
  f320 := Tryz.func187.trans (congrArg some (by kernel_rfl))
  f337 := Tryz.func194.trans (congrArg some (by kernel_rfl))
  f338 := Tryz.func195.trans (congrArg some (by kernel_rfl))
  t0 := Tryz.underlying0
  a0 := Tryz.isAgg0
  z0 := Tryz.sizeOf0
  v0 := Tryz.zeroValue0
  t2 := Tryz.underlying2
  a2 := Tryz.isAgg2
  z2 := Tryz.sizeOf2
  v2 := Tryz.zeroValue2
  t3 := Tryz.underlying3
  a3 := Tryz.isAgg3
  z3 := Tryz.sizeOf3
  v3 := Tryz.zeroValue3
  t4 := Tryz.underlying4
  a4 := Tryz.isAgg4
  z4 := Tryz.sizeOf4
  v4 := Tryz.zeroValue4
  t5 := Tryz.underlying5
  a5 := Tryz.isAgg5
  z5 := Tryz.sizeOf5
  v5 := Tryz.zeroValue5
  t9 := Tryz.underlying9
  a9 := Tryz.isAgg9
  z9 := Tryz.sizeOf9
  v9 := Tryz.zeroValue9
  t20 := Tryz.underlying20
  a20 := Tryz.isAgg20
  z20 := Tryz.sizeOf20
  v20 := Tryz.zeroValue20
  t37 := Tryz.underlying192
  a37 := Tryz.isAgg192
  z37 := Tryz.sizeOf192
  v37 := Tryz.zeroValue192
  t46 := Tryz.underlying91
  a46 := Tryz.isAgg91
  z46 := Tryz.sizeOf91
  v46 := Tryz.zeroValue91
  t51 := Tryz.underlying135
  a51 := Tryz.isAgg135
  z51 := Tryz.sizeOf135
  v51 := Tryz.zeroValue135
  t53 := Tryz.underlying98
  a53 := Tryz.isAgg98
  z53 := Tryz.sizeOf98
  v53 := Tryz.zeroValue98
  t171 := Tryz.underlying237
  a171 := Tryz.isAgg237
  z171 := Tryz.sizeOf237
  v171 := Tryz.zeroValue237
  t173 := Tryz.underlying239
  a173 := Tryz.isAgg239
  z173 := Tryz.sizeOf239
  v173 := Tryz.zeroValue239
  t212 := Tryz.underlying251
  a212 := Tryz.isAgg251
  z212 := Tryz.sizeOf251
  v212 := Tryz.zeroValue251
  t213 := Tryz.underlying252
  a213 := Tryz.isAgg252
  z213 := Tryz.sizeOf252
  t232 := Tryz.underlying263
  a232 := Tryz.isAgg263
  z232 := Tryz.sizeOf263
  v232 := Tryz.zeroValue263
  t233 := Tryz.underlying264
  a233 := Tryz.isAgg264
  z233 := Tryz.sizeOf264
  v233 := Tryz.zeroValue264
  g17 := by kernel_rfl
  g18 := by kernel_rfl
  g19 := by kernel_rfl
  i0 := by kernel_rfl
  i2 := by kernel_rfl
  i3 := by kernel_rfl
  i4 := by kernel_rfl
  i5 := by kernel_rfl
  i9 := by kernel_rfl
  i20 := by kernel_rfl
  i37 := by kernel_rfl
  i46 := by kernel_rfl
  i51 := by kernel_rfl
  i53 := by kernel_rfl
  i171 := by kernel_rfl
  i173 := by kernel_rfl
  i212 := by kernel_rfl
  i232 := by kernel_rfl
  i233 := by kernel_rfl
  m17 := by kernel_rfl
  m18 := by kernel_rfl
  m19 := by kernel_rfl }
open Go.RowKit Go.Sort Go.Lib in
theorem Tryz.strconv_Itoa (n : Int) (h0 : -9223372036854775808 ≤ n) (h1 : n ≤ 9223372036854775807) (w : World) (htab : Lib.TabIs Tryz.prog w "internal/strconv.uint64pow10" .u64 Lib.pow10Tab) :
    Calls Tryz.prog 140 #[.int .i64 n] w fun e w' => e = .returned (.string ⟨(Lib.itoa n).toArray⟩) ∧ ∃ k os, w' = grow (w.drewN k) os := Any.strconv_Itoa Tryz.laysM171 n h0 h1 w htab
def Tryz.laysM316_ren : Go.Shelf.Ren := ⟨fun | 316 => 88 | n => n, fun | 9 => 9 | 3 => 3 | 4 => 4 | 37 => 192 | 0 => 0 | 127 => 193 | 5 => 5 | n => n, fun | n => n⟩
theorem Tryz.laysM316 : Go.Proofs.LaysM.n316 Tryz.prog Tryz.laysM316_ren := {
  mixed := by kernel_rfl
  f316 := Tryz.func88.trans (congrArg some (by kernel_rfl))
  t0 := Tryz.underlying0
  a0 := Tryz.isAgg0
  z0 := Tryz.sizeOf0
  v0 := Tryz.zeroValue0
  t3 := Tryz.underlying3
  a3 := Tryz.isAgg3
  z3 := Tryz.sizeOf3
  v3 := Tryz.zeroValue3
  t4 := Tryz.underlying4
  a4 := Tryz.isAgg4
  z4 := Tryz.sizeOf4
  v4 := Tryz.zeroValue4
  t9 := Tryz.underlying9
  a9 := Tryz.isAgg9
  z9 := Tryz.sizeOf9
  v9 := Tryz.zeroValue9
  t37 := Tryz.underlying192
  a37 := Tryz.isAgg192
  z37 := Tryz.sizeOf192
  v37 := Tryz.zeroValue192
  t127 := Tryz.underlying193
  a127 := Tryz.isAgg193
  z127 := Tryz.sizeOf193
  v127 := Tryz.zeroValue193
  t5 := Tryz.underlying5
  a5 := Tryz.isAgg5
  z5 := Tryz.sizeOf5
  v5 := Tryz.zeroValue5
  i0 := by kernel_rfl
  i3 := by kernel_rfl
  i4 := by kernel_rfl
  i5 := by kernel_rfl
  i9 := by kernel_rfl
  i37 := by kernel_rfl
  i127 := by kernel_rfl }
open Go.RowKit in
theorem Tryz.stringslite_Clone (s : ByteArray) (w : World) (hlim : s.size ≤ 281474976710656) :
    Calls Tryz.prog 88 #[.string s] w fun e w' => e = .returned (.string s) ∧ Below w.heap.size w w' := Any.stringslite_Clone Tryz.laysM316 s w hlim
end Go.Proofs

namespace Go.Proofs.YtgipjplifndniaaGreatDoor.K
open Go.RowKit

structure Vars (w : World) : Prop where
  pow : Lib.TabIs Tryz.prog w "internal/strconv.uint64pow10" .u64 Lib.pow10Tab
  deb : w.cell? ⟨5, 15, none⟩ = some (.int .u8 4)
  room : (5 + 1) ≤ w.heap.size
theorem Tryz.gPow : Tryz.prog.globalNamed "internal/strconv.uint64pow10" = some 0 := by kernel_rfl
theorem Vars.keep {w w' : World} (h : Vars w) (hk : ∀ k, k < (5 + 1) → w'.heap[k]? = w.heap[k]?) (hs : w.heap.size ≤ w'.heap.size) : Vars w' := by
  obtain ⟨hp, hd, hr⟩ := h
  refine ⟨?_, (World.cell?_of_block (a := ⟨5, 15, none⟩) (hk _ (by show 5 < (5 + 1); omega))).trans hd, Nat.le_trans hr hs⟩
  unfold Lib.TabIs World.var? at *
  rw [Tryz.gPow] at *
  simp only [Option.bind_some] at *
  rw [hk _ (by omega)]
  exact hp
theorem Vars.go {w w' : World} {B : Nat} (h : Vars w) (hb : Below B w w') (hB : (5 + 1) ≤ B) : Vars w' := h.keep (fun k hk => hb.block k (by omega)) hb.size
theorem Vars.below {w w' : World} (h : Vars w) (hb : Below w.heap.size w w') : Vars w' := h.go hb h.room
def digL : List UInt8 := [48, 49, 50, 51, 52, 53, 54, 55, 56, 57, 97, 98, 99, 100, 101, 102]
def dig (n : Nat) : UInt8 := digL.getD n 0
def hexT (u : Nat) : List UInt8 := if u < 16 then [dig u] else hexT (u / 16) ++ [dig (u % 16)]
termination_by u
decreasing_by omega
theorem hexT_low {u : Nat} (h : u < 16) : hexT u = [dig u] := by rw [hexT, if_pos h]
theorem hexT_high {u : Nat} (h : 16 ≤ u) : hexT u = hexT (u / 16) ++ [dig (u % 16)] := by rw [hexT, if_neg (by omega)]

theorem pow2_any (w : World) : Calls Tryz.prog 186 #[.int .i64 16] w fun e w' => e = .returned (.bool true) ∧ w' = w := by
  have hb : (bits BinOp.and IntKind.i64 16 15 == 0) = true := by decide +kernel
  go_enter Tryz.func186, Tryz.ntmps186
  go_wp2
  go_ret
  exact ⟨rfl, rfl⟩
theorem tz64_core (x : Nat) (w : World) (hx0 : ((x : Int) == 0) = false) (key : IntKind.u64.wrap (bits BinOp.and IntKind.u64 (x : Int) (IntKind.u64.wrap (-(x : Int))) * 285870213051353865) / 288230376151711744 = ((15 : Nat) : Int)) (hcell : w.cell? ⟨5, 15, none⟩ = some (.int .u8 4)) :
    Calls Tryz.prog 195 #[.int .u64 x] w fun e w' => e = .returned (.int .i64 4) ∧ w' = w := by
  go_enter Tryz.func195, Tryz.ntmps195
  go_wp2_with (simp only [key])
  go_ret
  exact ⟨rfl, rfl⟩
theorem tz64_any (w : World) (hv : Vars w) : Calls Tryz.prog 195 #[.int .u64 16] w fun e w' => e = .returned (.int .i64 4) ∧ w' = w :=
  tz64_core 16 w (by decide) (by decide +kernel) hv.deb
theorem tz_any (w : World) (hv : Vars w) : Calls Tryz.prog 187 #[.int .u64 16] w fun e w' => e = .returned (.int .i64 4) ∧ w' = w := by
  have c := tz64_any w hv
  go_enter Tryz.func187, Tryz.ntmps187
  go_wp2_with (go_at_call 195; refine c.mono ?_; rintro e w' ⟨rfl, rfl⟩)
  go_ret
  exact ⟨rfl, rfl⟩
def Hx (w : World) (g i : Nat) (T : List UInt8) : Prop := T.length + i = 65 ∧ ∃ cur, w.heap[g]? = some (.cells cur 252 (0, 0)) ∧ cur.size = 65 ∧ ∀ j, j < T.length → cur[i + j]? = some (.int .u8 (T.getD j 0).toNat)
theorem Hx.put {w : World} {g i : Nat} {T : List UInt8} (h : Hx w g (i + 1) T) (b : UInt8) : Hx (w.setCell ⟨g, i, none⟩ (.int .u8 b.toNat)) g i (b :: T) := by
  obtain ⟨hl, cur, hg, hs, hc⟩ := h
  refine ⟨by simp; omega, _, Go.Joins.block_setCell hg _, by simp [hs], fun j hj => ?_⟩
  cases j with
  | zero => rw [Nat.add_zero, Array.getElem?_setIfInBounds_self_of_lt (by omega)]; rfl
  | succ j =>
    have := hc j (by simpa using hj)
    rw [Array.getElem?_setIfInBounds_ne (by omega), show i + (j + 1) = i + 1 + j by omega, this]
    rfl
end Go.Proofs.YtgipjplifndniaaGreatDoor.K

namespace Go.Proofs.YtgipjplifndniaaGreatDoor.K
open Go.RowKit

theorem clone_any (s : ByteArray) (w : World) (hs : s.size ≤ 281474976710656) :
    Calls Tryz.prog 51 #[.string s] w fun e w' => e = .returned (.string s) ∧ Below w.heap.size w w' := by
  have c := fun W => Tryz.stringslite_Clone s W hs
  go_enter Tryz.func51, Tryz.ntmps51
  go_wp2_with fail
  refine (c _).mono ?_
  rintro e w1 ⟨rfl, hb⟩
  go_wp2_with fail
  go_ret
  exact ⟨rfl, hb⟩

def Ky.ok (k : Ky) : Prop := k.text.size ≤ 140737488355328 ∧ k.name.size ≤ 140737488355328

set_option maxRecDepth 20000 in
set_option maxHeartbeats 1000000 in
theorem copied_any (k : Ky) (w : World) (hk : k.ok) :
    Calls Tryz.prog 114 #[k.val] w fun e w' => e = .returned k.val ∧ Below w.heap.size w w' := by
  obtain ⟨tx, nm, rt⟩ := k
  have ct := fun W => clone_any tx W (by have := hk.1; simp at this; omega)
  have cn := fun W => clone_any nm W (by have := hk.2; simp at this; omega)
  clear hk
  show Calls _ _ #[.agg #[.string tx, .string nm, .int .i64 rt]] w fun e w' => e = .returned (.agg #[.string tx, .string nm, .int .i64 rt]) ∧ Below w.heap.size w w'
  have k0 := K3.born w ⟨tx, nm, rt⟩ 157
  have hb0 : Below w.heap.size w (w.alloc (.cells #[.string tx, .string nm, .int .i64 rt] 157)) := (Below.refl _ _).alloc (Nat.le_refl _) _
  simp only at k0
  go_enter Tryz.func114, Tryz.ntmps114
  go_wp2_with fail
  have k1 := K3.born (w.alloc (.cells #[.string tx, .string nm, .int .i64 rt] 157)) noKy 157
  have hb1 : Below (w.heap.size + 1) (w.alloc (.cells #[.string tx, .string nm, .int .i64 rt] 157)) ((w.alloc (.cells #[.string tx, .string nm, .int .i64 rt] 157)).alloc (.cells #[.string ⟨#[]⟩, .string ⟨#[]⟩, .int .i64 0] 157)) := (Below.refl _ _).alloc (by simp) _
  have k0' := k0.under hb1 (by omega)
  have hb2 := hb0.trans (hb1.mono (by omega))
  have hsz : (w.alloc (.cells #[.string tx, .string nm, .int .i64 rt] 157)).heap.size = w.heap.size + 1 := by simp
  rw [hsz] at k1
  simp only [noKy] at k1
  generalize ((w.alloc (.cells #[.string tx, .string nm, .int .i64 rt] 157)).alloc (.cells #[.string ⟨#[]⟩, .string ⟨#[]⟩, .int .i64 0] 157)) = W0 at *
  clear k0 hb0 hb1 hsz
  go_cut [] from 3 to 11 (fun W => Below w.heap.size w W ∧ K3 (w.heap.size + 1) ⟨tx, nm, rt⟩ W)
  case first =>
    have HK0 : Hid (K3 w.heap.size ⟨tx, nm, rt⟩ W0.drew ∧ K3 (w.heap.size + 1) ⟨⟨#[]⟩, ⟨#[]⟩, 0⟩ W0.drew ∧ Below w.heap.size w W0.drew) := ⟨k0', k1, hb2.drew⟩
    obtain ⟨a1, a2, a3, -, -, -, -⟩ := k0'
    obtain ⟨-, -, -, -, -, -, -⟩ := k1
    have FIN : Hid (∀ W, (K3 w.heap.size ⟨tx, nm, rt⟩ W ∧ K3 (w.heap.size + 1) ⟨⟨#[]⟩, ⟨#[]⟩, 0⟩ W ∧ Below w.heap.size w W) → Below w.heap.size w (((W.setCell ⟨w.heap.size + 1, 0, none⟩ (.string tx)).setCell ⟨w.heap.size + 1, 1, none⟩ (.string nm)).setCell ⟨w.heap.size + 1, 2, none⟩ (.int .i64 rt)) ∧ K3 (w.heap.size + 1) ⟨tx, nm, rt⟩ (((W.setCell ⟨w.heap.size + 1, 0, none⟩ (.string tx)).setCell ⟨w.heap.size + 1, 1, none⟩ (.string nm)).setCell ⟨w.heap.size + 1, 2, none⟩ (.int .i64 rt))) := fun W h => ⟨putKy_below (x := ⟨tx, nm, rt⟩) h.2.2 (by omega), h.2.1.put ⟨tx, nm, rt⟩⟩
    have hb2s := hb2.size
    clear hb2
    simp only at a1 a2 a3
    go_region_with (first | (go_at_call_of 51 tx; refine (ct _).mono ?_; rintro e w1 ⟨rfl, hb1⟩; have K1 : Hid (K3 w.heap.size ⟨tx, nm, rt⟩ w1 ∧ K3 (w.heap.size + 1) ⟨⟨#[]⟩, ⟨#[]⟩, 0⟩ w1 ∧ Below w.heap.size w w1) := ⟨K3.below HK0.out.1 hb1, K3.below HK0.out.2.1 hb1, HK0.out.2.2.trans (hb1.mono HK0.out.2.2.size)⟩; obtain ⟨b1, b2, b3, -, -, -, -⟩ := K1.out.1; simp only at b1 b2 b3) | (go_at_call_of 51 nm; refine (cn _).mono ?_; rintro e w2 ⟨rfl, hb2⟩; have K2 : Hid (K3 w.heap.size ⟨tx, nm, rt⟩ w2 ∧ K3 (w.heap.size + 1) ⟨⟨#[]⟩, ⟨#[]⟩, 0⟩ w2 ∧ Below w.heap.size w w2) := ⟨K3.below K1.out.1 hb2, K3.below K1.out.2.1 hb2, K1.out.2.2.trans (hb2.mono K1.out.2.2.size)⟩; obtain ⟨c1, c2, c3, -, -, -, -⟩ := K2.out.1; obtain ⟨d1, d2, d3, d4, d5, d6, -⟩ := K2.out.2.1; simp only at c1 c2 c3 d1 d2 d3))
    all_goals
      go_wp2_with fail
      go_meet
      case rel => exact FIN.out _ K2.out
  case rest =>
    obtain ⟨hb, h1, h2, h3, -, -, -, -⟩ := hcut
    simp only at h1 h2 h3
    go_wp2_with fail
    refine bodyPost_ret (v := .agg #[.string tx, .string nm, .int .i64 rt]) (by simp [results, Tryz.results114, go_sem, h1, h2, h3]) rfl ⟨rfl, hb⟩
end Go.Proofs.YtgipjplifndniaaGreatDoor.K

namespace Go.Proofs.YtgipjplifndniaaGreatDoor.K
open Go.RowKit

theorem key_second (w : World) (tx nm : ByteArray) (rt : Int) (t : TypeId) : ∀ (j : Nat) u, [Value.string tx, .string nm, .int .i64 rt][j]? = some u → (w.alloc (.cells #[.string tx, .string nm, .int .i64 rt] t)).cell? ((⟨w.heap.size, 0, none⟩ : Addr).add j) = some u := by
  intro j u hu
  have k := K3.born w ⟨tx, nm, rt⟩ t
  match j, hu with
  | 0, hu => simp at hu; subst hu; exact k.1
  | 1, hu => simp at hu; subst hu; exact k.2.1
  | 2, hu => simp at hu; subst hu; exact k.2.2.1

set_option maxRecDepth 20000 in
set_option maxHeartbeats 2000000 in
theorem copies_any (v : Value) (ks : List Ky) (w : World) (h : HK w v ks) (hok : ∀ k ∈ ks, k.ok) (hlen : ks.length * 40 ≤ 140737488355328) :
    Calls Tryz.prog 101 #[v] w fun e w' => ∃ u, e = .returned u ∧ KRow w' w.heap.size u ks ∧ Below w.heap.size w w' ∧ u ≠ .slice none 0 0 := by
  obtain ⟨i0, hi, hz0, hz1, hz2⟩ := info_parts Tryz.infoKey
  obtain ⟨p, cap, rfl, hcap, hcm, -, hrow⟩ := h
  obtain ⟨n, hn⟩ : ∃ n, n = ks.length := ⟨_, rfl⟩
  rw [← hn] at hcap hrow hlen ⊢
  obtain ⟨w1, hmk, hown1, hgr1⟩ := run_make_own (P := Tryz.prog) w w.heap.size 52 157 i0 _ 3 Tryz.underlying52 hi hz0 hz1 .i64 .i64 n (by rw [hz2]; omega) (by unfold maxLen; omega) (Nat.le_refl _)
  have hb1 : Below w.heap.size w w1 := ⟨hgr1.os, hgr1.tape, hgr1.output, hgr1.size, fun j hj => hgr1.block j hj (by simp)⟩
  have HO1 : Hid (w1.ownsRow w.heap.size 157 3 (.slice (some ⟨w.heap.size, 0, none⟩) 0 n) 0 []) := hown1
  have HB1 : Hid (Below w.heap.size w w1) := hb1
  have HROW : Hid (n = 0 ∨ ∃ b off, p = some ⟨b, off, none⟩ ∧ b < w.heap.size ∧ ∀ k x, ks[k]? = some x → KAt w b (off + k * 3) x) := hrow
  have HOK : Hid (∀ k ∈ ks, k.ok) := hok
  have HN : Hid (n = ks.length) := hn
  clear hrow hok hn hown1 hgr1 hb1
  go_enter Tryz.func101, Tryz.ntmps101
  go_wp2_with fail
  clear hmk
  go_loopg [3, 11] n (fun gk s3 s11 wr => ∃ j : Nat, j + gk = n ∧ s11 = .int .i64 j ∧ KRow wr w.heap.size s3 (ks.take j) ∧ Below w.heap.size w wr ∧ s3 ≠ .slice none 0 0)
  case atStart => exact ⟨0, by omega, rfl, HO1.out, HB1.out, fun e => by cases e⟩
  case round =>
    obtain ⟨j, hj, rfl, hrow, hbr, hnn⟩ := hrel
    have HNN : Hid (u3 ≠ .slice none 0 0) := hnn
    have HJ : Hid (j + gk = n) := hj
    have hjn : j ≤ n := by omega
    have HR : Hid (KRow wr w.heap.size u3 (ks.take j)) := hrow
    have hsz := hbr.size
    have HBR : Hid (Below w.heap.size w wr) := hbr
    clear hj hrow hnn
    by_cases hlt : j < n
    · obtain ⟨b, off, rfl, hbl, hc⟩ : ∃ b off, p = some ⟨b, off, none⟩ ∧ b < w.heap.size ∧ ∀ k x, ks[k]? = some x → KAt w b (off + k * 3) x := by
        rcases HROW.out with h | h
        · omega
        · exact h
      have hjk : j < ks.length := by have := HN.out; omega
      obtain ⟨x, hx⟩ : ∃ x, x = ks[j] := ⟨_, rfl⟩
      have hxg : ks[j]? = some x := by rw [hx]; exact List.getElem?_eq_getElem hjk
      obtain ⟨c0, c1, c2⟩ := (hc j x hxg).keep (hbr.block b hbl)
      have cc := fun W => copied_any x W (HOK.out x (List.mem_of_getElem? hxg))
      have HX : Hid (ks.take (j + 1) = ks.take j ++ [x]) := by show _ = _; rw [List.take_succ_eq_append_getElem hjk, hx]
      clear hc hxg hx hbr
      obtain ⟨tx, nm, rt⟩ := x
      simp only at c0 c1 c2
      simp only [Ky.val] at cc
      have hi1 : (0 : Int) ≤ (j : Int) := by omega
      have hi2 : (j : Int) < (n : Int) := by omega
      go_wp2_with fail
      refine (cc _).mono ?_
      rintro e w2 ⟨rfl, hb2⟩
      have hbA : Below wr.heap.size wr w2 := ((Below.refl _ _).alloc (Nat.le_refl _) _).trans (hb2.mono (by simp))
      have HBA : Hid (Below wr.heap.size wr w2) := hbA
      have hsz2 := hbA.size
      have OWN : Hid (∀ o, (w2.alloc o).ownsRow w.heap.size 157 3 u3 j (keysL (ks.take j))) := fun o => by
        have h1 := HR.out.below hbA
        unfold KRow at h1
        rw [List.length_take, Nat.min_eq_left (by omega)] at h1
        exact World.ownsRow.alloc h1 o
      have hlow : Hid (∀ q, u3.ownBlock = some q → w.heap.size ≤ q ∧ q < wr.heap.size) := fun q hq => HR.out.lt q hq
      clear hb2 hbA cc c0 c1 c2 hbl
      go_wp2_with (at_builtin; refine wpList_append_own _ rfl _ _ 52 rfl w.heap.size 157 i0 _ 3 40 Tryz.underlying52 hi hz0 hz1 hz2 rfl (by decide) u3 j (keysL (ks.take j)) rfl (by exact OWN.out _) ⟨w2.heap.size, 0, none⟩ 1 1 [.string tx, .string nm, .int .i64 rt] rfl rfl (by exact key_second w2 tx nm rt _) (by intro u hu; simp at hu; rcases hu with rfl | rfl | rfl <;> rfl) (by unfold maxLen; omega) (by omega) (by simp; omega) ?_; intro v' w3 hown3 hgrow hnil3)
      go_roundg (gk - 1)
      case measure => have := HJ.out; omega
      case rel =>
        have h1 := HJ.out
        refine ⟨j + 1, by omega, by go_num, ?_, ?_, fun e => absurd (hnil3.1 e).2 (by omega)⟩
        · rw [HX.out]
          unfold KRow
          rw [List.length_append, List.length_take, Nat.min_eq_left (by have := HN.out; omega), keysL_append]
          exact hown3
        · have h2 := HBR.out.trans (HBA.out.mono HBR.out.size)
          exact (h2.alloc h2.size _).trans ⟨hgrow.os, hgrow.tape, hgrow.output, hgrow.size, fun q hq => hgrow.block q (by have := h2.size; simp; omega) (fun e => by have := (hlow.out _ e.symm).1; omega)⟩
    · have hq : ¬ (j : Int) < (n : Int) := by omega
      have HE : Hid (j = n) := by show j = n; omega
      go_wp2_with fail
      go_ret
      refine ⟨_, rfl, ?_, HBR.out, HNN.out⟩
      have h1 := HR.out
      rwa [HE.out, HN.out, List.take_length] at h1
end Go.Proofs.YtgipjplifndniaaGreatDoor.K
