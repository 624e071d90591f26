/- RleReads: the walk of the law itself, where the document's DecodeCells answers what the program's Decode does. -/
import Derived.Test.YtpldnhlancjlnaaDoorDecode
import Derived.Test.YtpldnhlancjlnaaDoorSameRef
namespace Go.Proofs.YtpldnhlancjlnaaDoor
open Go.Shelf Go.RowKit

theorem rule_eq (a b x y : Int) (w : World) : (binOp .eql 24 (.agg #[.int .i64 a, .int .i64 b]) (.agg #[.int .i64 x, .int .i64 y])).run Tryd.prog w = .ok (.bool (decide ((a, b) = (x, y)))) w := by
  have hS : Tryd.prog.underlying 24 = some (.struct (Tryd.prog.fieldsOf 24)) := by kernel_rfl
  have hp : Tryd.prog.stoodInHeld 24 = false := by kernel_rfl
  rw [run_eql_struct, show (10000 : Nat) = 9999 + 1 from rfl, run_equalIn_agg w 9999 24 _ _ hS hp]
  simp only [Program.fieldsOf, Tryd.underlying24]
  go_simp
  by_cases h1 : a = x <;> by_cases h2 : b = y <;> simp [h1, h2]

/-- what is yet to be shown of the document's DecodeCells -/
def RefDecodes : Prop := ∀ (T : List UInt8) (W : World), Calls Tryd.prog 11 #[.string ⟨T.toArray⟩] W (DecOut T W)

def rodIn : List UInt8 := [120, 32, 61, 32, 51, 44, 32, 121, 32, 61, 32, 49, 10, 51, 111, 33]
theorem rod_read : (decF readF rodIn).1 = [(0, 0), (1, 0), (2, 0)] := by decide +kernel

set_option maxRecDepth 20000 in
set_option maxHeartbeats 2000000 in
theorem reads_law (HR : RefDecodes) (T : List UInt8) (w : World) (hv : VarsD w) :
    Calls Tryd.prog 4 #[.string ⟨T.toArray⟩] w fun e w' => e = .returned (.bool true) ∧ Below w.heap.size w w' := by
  have hr8 := hv.room
  have hd := decode_list T w hv
  have hrd := fun W => HR T W
  have hx := fun W (hb : Below w.heap.size w W) => decode_list rodIn W (hv.go hb hr8)
  have hq := fun W a b => rule_eq a b a b W
  go_enter Tryd.func4, Tryd.ntmps4
  go_wp2_with fail
  refine hd.mono ?_
  rintro e w1 ⟨u, rfl, hu, c1⟩
  have HU : Hid (Row w1 u (decF readF T).1) := hu
  generalize hD : decF readF T = D at *
  obtain ⟨cs, ⟨b, l⟩, code⟩ := D
  simp only at HU
  clear hd hu
  have hb2 : Below w.heap.size w (w1.alloc (.cells #[.int .i64 b, .int .i64 l] 24)) := c1.alloc c1.size _
  have hblk : (w1.alloc (.cells #[.int .i64 b, .int .i64 l] 24)).heap[w1.heap.size]? = some (.cells #[.int .i64 b, .int .i64 l] 24 (0, 0)) := heap_alloc_new w1 _
  go_wp2_with fail
  refine (hrd _).mono ?_
  rintro e w3 ⟨u', rfl, hu', c3⟩
  rw [hD] at hu' ⊢
  simp only at hu' ⊢
  have hz1 : w1.heap.size < (w1.alloc (.cells #[.int .i64 b, .int .i64 l] 24)).heap.size := by simp
  have hz3 := c3.size
  have hblk3 := (c3.block _ hz1).trans hblk
  have HU3 : Hid (Row w3 u cs) := (HU.out.below ((Below.refl _ _).alloc (Nat.le_refl _) _)).below c3
  have b3 : Below w.heap.size w w3 := hb2.trans (c3.mono hb2.size)
  have HU' : Hid (Row w3 u' cs) := hu'
  have b4 : Below w.heap.size w (w3.alloc (.cells #[.int .i64 b, .int .i64 l] 24)) := b3.alloc b3.size _
  have hblk4 : (w3.alloc (.cells #[.int .i64 b, .int .i64 l] 24)).heap[w3.heap.size]? = some (.cells #[.int .i64 b, .int .i64 l] 24 (0, 0)) := heap_alloc_new w3 _
  have hlt3 : w1.heap.size < w3.heap.size := by omega
  have hblk4' : (w3.alloc (.cells #[.int .i64 b, .int .i64 l] 24)).heap[w1.heap.size]? = some (.cells #[.int .i64 b, .int .i64 l] 24 (0, 0)) := (Go.Deep.blk_alloc_lt _ _ _ hlt3).trans hblk3
  have hx4 := hx _ b4
  clear hx hrd hu' hblk hblk3 HU hD
  go_wp2_with fail
  refine hx4.mono ?_
  rintro e w5 ⟨u5, rfl, hu5, c5⟩
  rw [rod_read] at hu5
  obtain ⟨a5, c5', rfl, _⟩ := hu5.shape
  have hz4 : w3.heap.size < (w3.alloc (.cells #[.int .i64 b, .int .i64 l] 24)).heap.size := by simp
  have k1 := (c5.block w1.heap.size (by omega)).trans hblk4'
  have k3 := (c5.block w3.heap.size hz4).trans hblk4
  have hz5 := c5.size
  have d0 : w5.cell? ⟨w1.heap.size, 0, none⟩ = some (.int .i64 b) := by rw [Lib.cell_of_heap k1]; rfl
  have d1 : w5.cell? ⟨w1.heap.size, 1, none⟩ = some (.int .i64 l) := by rw [Lib.cell_of_heap k1]; rfl
  have e0 : w5.cell? ⟨w3.heap.size, 0, none⟩ = some (.int .i64 b) := by rw [Lib.cell_of_heap k3]; rfl
  have e1 : w5.cell? ⟨w3.heap.size, 1, none⟩ = some (.int .i64 l) := by rw [Lib.cell_of_heap k3]; rfl
  have b5 : Below w.heap.size w w5 := b4.trans (c5.mono b4.size)
  have HU5 : Hid (Row w5 u cs ∧ Row w5 u' cs) := ⟨(HU3.out.below ((Below.refl _ _).alloc (Nat.le_refl _) _)).below c5, (HU'.out.below ((Below.refl _ _).alloc (Nat.le_refl _) _)).below c5⟩
  generalize (decF readF rodIn).2.1.1 = X1
  generalize (decF readF rodIn).2.1.2 = X2
  generalize (decF readF rodIn).2.2 = X3
  have hsm := fun W hW => sameCells_any u u' cs W (HU5.out.1.below hW) (HU5.out.2.below hW)
  have l1 : w1.heap.size < w5.heap.size := by omega
  have l3 : w3.heap.size < w5.heap.size := by omega
  clear k1 k3 hblk4 hblk4' hx4 hu5
  go_wp2_with fail
  refine (hsm _ ((Below.refl _ _).alloc (Nat.le_refl _) _)).mono ?_
  rintro e w6 ⟨rfl, c6⟩
  go_wp2_with fail
  go_ret
  refine ⟨rfl, ?_⟩
  have b6 := b5.alloc b5.size (.cells #[.int .i64 X1, .int .i64 X2] 24)
  exact b6.trans (c6.mono b6.size)
end Go.Proofs.YtpldnhlancjlnaaDoor
