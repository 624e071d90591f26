/- keys.Find. -/
import Derived.Test.YtpeffpgpiookpaaDoorKyIndex
import Derived.Test.YtpeffpgpiookpaaDoorKyCopy
namespace Go.Proofs.YtpeffpgpiookpaaDoor
open Go.RowKit

/-- does a key lack one of the rights? -/
def lacks (a b : Int) : Bool := bits BinOp.and IntKind.i64 a b != b
/-- what Find answers -/
def findF (ks : List Ky) (text : ByteArray) (rights : Int) : ByteArray × Int :=
  match ks.find? (fun k => decide (k.text = text)) with
  | none => (⟨#[]⟩, 6)
  | some k => if lacks k.rights rights = true then (⟨#[]⟩, 10) else (k.name, 0)
theorem idx_find {p : Ky → Bool} : ∀ ks : List Ky, (ks.find? p = none ∧ idxP p ks = -1) ∨ ∃ (j : Nat) (k : Ky), ks.find? p = some k ∧ ks[j]? = some k ∧ idxP p ks = (j : Int)
  | [] => .inl ⟨rfl, rfl⟩
  | a :: r => by
    by_cases h : p a = true
    · exact .inr ⟨0, a, by simp [h], rfl, by simp [idxP, List.findIdx?_cons, h]⟩
    · have hn : p a = false := by simpa using h
      rcases idx_find r with ⟨h1, h2⟩ | ⟨j, k, h1, h2, h3⟩
      · left
        refine ⟨by rw [List.find?_cons, hn]; exact h1, ?_⟩
        have h4 : r.findIdx? p = none := by
          unfold idxP at h2
          cases hf : r.findIdx? p with
          | none => rfl
          | some i => rw [hf] at h2; simp at h2
        simp [idxP, List.findIdx?_cons, hn, h4]
      · right
        refine ⟨j + 1, k, by rw [List.find?_cons, hn]; exact h1, by simpa using h2, ?_⟩
        have h4 : r.findIdx? p = some j := by
          unfold idxP at h3
          cases hf : r.findIdx? p with
          | none => rw [hf] at h3; simp at h3
          | some i => rw [hf] at h3; simp at h3; rw [Int.ofNat_inj.1 h3]
        simp [idxP, List.findIdx?_cons, hn, h4]

/-- a table's two cells, free, in a block -/
def T2 (R : Nat) (s : Int) (v : Value) (w : World) : Prop :=
  w.cell? ⟨R, 0, none⟩ = some (.int .i64 s) ∧ w.cell? ⟨R, 1, none⟩ = some v ∧ w.frozen? ⟨R, 0, none⟩ = false ∧ w.frozen? ⟨R, 1, none⟩ = false ∧ R < w.heap.size
theorem T2.born (w : World) (s : Int) (v : Value) (t : TypeId) : T2 w.heap.size s v (w.alloc (.cells #[.int .i64 s, v] t)) :=
  ⟨by rw [World.cell?_alloc_new]; rfl, by rw [World.cell?_alloc_new]; rfl, by simp [World.frozen?_alloc_new], by simp [World.frozen?_alloc_new], by simp⟩
theorem T2.keep {R : Nat} {s : Int} {v : Value} {w w' : World} (h : T2 R s v w) (hb : w'.heap[R]? = w.heap[R]?) (hs : w.heap.size ≤ w'.heap.size) : T2 R s v w' := by
  obtain ⟨h1, h2, h3, h4, h5⟩ := h
  exact ⟨(World.cell?_of_block (a := ⟨R, 0, none⟩) hb).trans h1, (World.cell?_of_block (a := ⟨R, 1, none⟩) hb).trans h2, (World.frozen?_of_block (a := ⟨R, 0, none⟩) hb).trans h3, (World.frozen?_of_block (a := ⟨R, 1, none⟩) hb).trans h4, by omega⟩
theorem T2.below {R : Nat} {s : Int} {v : Value} {w w' : World} (h : T2 R s v w) (hb : Below w.heap.size w w') : T2 R s v w' := h.keep (hb.block R h.2.2.2.2) hb.size
theorem T2.under {R B : Nat} {s : Int} {v : Value} {w w' : World} (h : T2 R s v w) (hb : Below B w w') (hB : R < B) : T2 R s v w' := h.keep (hb.block R hB) hb.size

set_option maxRecDepth 20000 in
set_option maxHeartbeats 1000000 in
theorem find_any (serial : Int) (v : Value) (ks : List Ky) (text : ByteArray) (rights : Int) (w : World) (h : HK w v ks) (hok : ∀ k ∈ ks, k.ok) :
    Calls Tryd.prog 13 #[.agg #[.int .i64 serial, v], .string text, .int .i64 rights] w fun e w' => e = .returned (.tuple #[.string (findF ks text rights).1, .int .i64 (findF ks text rights).2]) ∧ Below w.heap.size w w' := by
  have t0 := T2.born w serial v 24
  have hb0 : Below w.heap.size w (w.alloc (.cells #[.int .i64 serial, v] 24)) := (Below.refl _ _).alloc (Nat.le_refl _) _
  have hb1 : Below (w.alloc (.cells #[.int .i64 serial, v] 24)).heap.size (w.alloc (.cells #[.int .i64 serial, v] 24)) ((w.alloc (.cells #[.int .i64 serial, v] 24)).alloc (.cells #[.string text] 9)) := (Below.refl _ _).alloc (Nat.le_refl _) _
  have t1 := t0.below hb1
  have hb : Below w.heap.size w ((w.alloc (.cells #[.int .i64 serial, v] 24)).alloc (.cells #[.string text] 9)) := hb0.trans (hb1.mono hb0.size)
  have hs : ((w.alloc (.cells #[.int .i64 serial, v] 24)).alloc (.cells #[.string text] 9)).heap.size = w.heap.size + 2 := by simp
  have ht : ((w.alloc (.cells #[.int .i64 serial, v] 24)).alloc (.cells #[.string text] 9)).cell? ⟨w.heap.size + 1, 0, none⟩ = some (.string text) := by
    simp
  clear t0 hb0 hb1
  generalize hw0 : (w.alloc (.cells #[.int .i64 serial, v] 24)).alloc (.cells #[.string text] 9) = w0 at *
  have hK0 := h.below hb
  have eg : ∀ args w, (callFunc 21 args).run Tryd.prog w = .ok (.enter 21 args) w := enters_of Tryd.func21 (by kernel_rfl) rfl
  have ci := indexFunc_any 21 #[.pointer (some ⟨w.heap.size + 1, 0, none⟩)] eg (fun k => decide (k.text = text)) v ks w0 hK0 (fun W x hbW => (predText_any text (w.heap.size + 1) x W ((hbW.cell (p := ⟨w.heap.size + 1, 0, none⟩) (by show w.heap.size + 1 < _; omega)).trans ht) (by have := hbW.size; omega)).mono fun e w' h => ⟨h.1, hbW.trans (h.2.mono hbW.size)⟩)
  clear eg ht
  have HB : Hid (Below w.heap.size w w0) := hb
  have HK0 : Hid (HK w0 v ks) := hK0
  have HT : Hid (T2 w.heap.size serial v w0) := t1
  have HOK : Hid (∀ k ∈ ks, k.ok) := hok
  obtain ⟨u1, u2, -, -, -⟩ := t1
  clear h hb hK0 hok
  rcases idx_find (p := fun k => decide (k.text = text)) ks with ⟨h1, h2⟩ | ⟨j, k, h1, h2, h3⟩
  · have hf : findF ks text rights = (⟨#[]⟩, 6) := by unfold findF; rw [h1]
    rw [hf]
    rw [h2] at ci
    clear h1 h2 hf
    go_enter Tryd.func13, Tryd.ntmps13
    go_wp2_with fail
    refine ci.mono ?_
    rintro e w1 ⟨rfl, hb1⟩
    go_wp2_with fail
    go_ret2
    exact ⟨rfl, HB.out.trans (hb1.mono HB.out.size)⟩
  · have hf : findF ks text rights = if lacks k.rights rights = true then (⟨#[]⟩, 10) else (k.name, 0) := by unfold findF; rw [h1]
    rw [hf]
    rw [h3] at ci
    obtain ⟨p, cap, rfl, hcap, hcm, -, hrow⟩ := HK0.out
    obtain ⟨hjl, -⟩ := List.getElem?_eq_some_iff.1 h2
    obtain ⟨b, off, rfl, hbl, hc⟩ : ∃ b off, p = some ⟨b, off, none⟩ ∧ b < w0.heap.size ∧ ∀ k x, ks[k]? = some x → KAt w0 b (off + k * 3) x := by
      rcases hrow with h | h
      · omega
      · exact h
    have HKA : Hid (KAt w0 b (off + j * 3) k ∧ b < w0.heap.size) := ⟨hc j k h2, hbl⟩
    have cn := fun W => clone_any k.name W (by have := (HOK.out k (List.mem_of_getElem? h2)).2; omega)
    have hjj : ¬ (j : Int) < 0 := by omega
    have hjj2 : (j : Int) < (ks.length : Int) := by omega
    have hjj0 : (0 : Int) ≤ (j : Int) := by omega
    clear hrow hc h1 h2 h3 hf hbl hjl HOK HK0
    generalize ks.length = n at *
    have HLT : Hid (w.heap.size < w0.heap.size) := HT.out.2.2.2.2
    clear hs
    by_cases hl : lacks k.rights rights = true
    · rw [if_pos hl]
      have hl2 : (bits BinOp.and IntKind.i64 k.rights rights != rights) = true := hl
      clear hl
      go_enter Tryd.func13, Tryd.ntmps13
      go_wp2_with fail
      refine ci.mono ?_
      rintro e w1 ⟨rfl, hb1⟩
      clear hw0 u1 u2
      obtain ⟨u1, u2, -, -, -⟩ := HT.out.below hb1
      obtain ⟨k0, k1, k2⟩ := HKA.out.1.keep (hb1.block b HKA.out.2)
      obtain ⟨kt, kn, kr⟩ := k
      simp only at k0 k1 k2 hl2
      go_wp2_with fail
      go_ret2
      have h3 := HB.out.trans (hb1.mono HB.out.size)
      exact ⟨rfl, h3.alloc h3.size _⟩
    · rw [if_neg hl]
      have hl2 : (bits BinOp.and IntKind.i64 k.rights rights != rights) = false := by simpa [lacks] using hl
      clear hl
      go_enter Tryd.func13, Tryd.ntmps13
      go_wp2_with fail
      refine ci.mono ?_
      rintro e w1 ⟨rfl, hb1⟩
      clear hw0 u1 u2
      obtain ⟨u1, u2, -, -, -⟩ := HT.out.below hb1
      obtain ⟨k0, k1, k2⟩ := HKA.out.1.keep (hb1.block b HKA.out.2)
      obtain ⟨kt, kn, kr⟩ := k
      simp only at k0 k1 k2 hl2 cn
      go_wp2_with fail
      refine (cn _).mono ?_
      rintro e w2 ⟨rfl, hb2⟩
      go_wp2_with fail
      go_ret2
      have h3 := HB.out.trans (hb1.mono HB.out.size)
      have h4 := h3.alloc h3.size (.cells #[.string kt, .string kn, .int .i64 kr] 48)
      exact ⟨rfl, h4.trans (hb2.mono h4.size)⟩
end Go.Proofs.YtpeffpgpiookpaaDoor
