/- The other calls of an arena, whatever numbers are free. -/
import Derived.Test.YtfogedmghhacdaaArNewG
namespace Go.Proofs.Ytfogedmghhacdaa.A
open Go.RowKit Go.Maps

/-- an arena cleaned for a tenant: what it keeps is what some numbers are made of -/
def Ar.cleanP (A : Ar) (t : Nat) (rs : List Int) : Ar := A.lose t (idsF A.ths t (keepAll A.ths t rs) A.ths.length) []
theorem clean_sound {A : Ar} (hS : Sound A) {t : Nat} (ht : t < 64) (rs : List Int) : Sound (A.cleanP t rs) := lose_sound hS ht (ids_own (Nat.le_refl _)) (own_nil _ _) (fun _ h => by cases h)

set_option maxHeartbeats 1000000 in
theorem cleanP_any (b t : Nat) (F : Nat → Prop) (A : Ar) (rs : List Int) (rv : Value) (w : World) (h : AtP w b F A) (hS : Sound A) (ht : t < 64) (hrow : NRow w rv rs) (hrl : rs.length < 1000000) (hfit : ∀ id ∈ rs, Fits id) :
    Calls Try.prog 21 #[.pointer (some ⟨b, 0, none⟩), .int .i64 t, rv] w fun e w' => e = .returned (.int .i64 ((idsF A.ths t (keepAll A.ths t rs) A.ths.length).length : Int)) ∧ Led w b F (A.cleanP t rs) w' := by
  obtain ⟨ra, rc, rfl, hrow⟩ := hrow
  have hh := h
  obtain ⟨L, r, D, h, hp, hH⟩ := h
  have hl := hS.len
  have hrm := hS.room1
  have hc := hS.cnt t ht
  have hon : ownN A.ths t ≤ A.ths.length := List.countP_le_length
  have hkb : ¬ F w.heap.size := fun e => by have := h.flt _ e; omega
  refine (cleanq_any b _ t F { A with free := L } r D rs ra rc w h ht hS.mask (by show A.ths.length < _; omega) (by show 0 ≤ A.cnt t ∧ A.cnt t < _; omega) hrow hrl (fun id K W hid hW hM hK =>
    keepP_any b t w.heap.size A.ths.length F A hS ht hkb rfl A.ths.length id K W ⟨L, r, D, hW, hp, hH⟩ hM hK (by have := un_all K; have hK : K.length = A.ths.length := hK; omega) (hfit id hid))).mono ?_
  rintro e w' ⟨rfl, ⟨r', D', h'⟩, P⟩
  have hown := ids_own (l := A.ths) (t := t) (K := keepAll A.ths t rs) (Nat.le_refl A.ths.length)
  refine ⟨rfl, F, fun k hk => .inl hk, ⟨L, r', D', ?_, ?_, hH⟩, P⟩
  · have e1 := (live_takes ht hown hS.mask).2
    have e2 : ({ A.cleanP t rs with free := L } : Ar) = ({ A with free := L } : Ar).clean t (keepAll A.ths t rs) := by
      unfold Ar.cleanP Ar.lose Ar.clean
      rw [takes_free L t (idsF ({ A with free := L } : Ar).ths t (keepAll A.ths t rs) ({ A with free := L } : Ar).ths.length) A]
    show ArRaw w' b F (liveN (A.takes t (idsF A.ths t (keepAll A.ths t rs) A.ths.length)).ths) _ _ _
    rw [e1, e2]; exact h'
  · show L.Perm (freeIds (A.takes t (idsF A.ths t (keepAll A.ths t rs) A.ths.length)).ths)
    rw [(live_takes ht hown hS.mask).1]; exact hp
theorem LevelP_any (b t : Nat) (F : Nat → Prop) (id : Int) (A : Ar) (w : World) (h : AtP w b F A) (hS : Sound A) (ht : t < 64) (hid : Fits id) :
    Calls Try.prog 28 #[.pointer (some ⟨b, 0, none⟩), .int .i64 t, .int .i64 id] w fun e w' => e = .returned (.tuple #[.int .i64 ((levelF A.ths t id).getD 0), .int .i64 (lack (levelF A.ths t id))]) ∧ Below w.heap.size w w' := by
  obtain ⟨L, r, D, h, _⟩ := h
  exact Level_any b 0 t id r A.ths w h.raw h.ths ht hS.mask hid
/-- what a tenant may have -/
def Ar.limP (A : Ar) (t : Nat) (n : Int) : Ar := { A with lim := upd A.lim t n }
theorem lim_sound {A : Ar} (hS : Sound A) {t : Nat} {n : Int} (h0 : 0 ≤ n) (h1 : n ≤ A.room) : Sound (A.limP t n) :=
  ⟨hS.free, hS.room0, hS.room1, hS.len, hS.mask, hS.zero, hS.fit, hS.lv, hS.va, hS.uniq, fun u hu => by
    show 0 ≤ upd A.lim t n u ∧ upd A.lim t n u ≤ A.room
    unfold upd
    split
    · exact ⟨h0, h1⟩
    · exact hS.lim u hu, hS.cnt, hS.fresh⟩
theorem limP_any (b t : Nat) (F : Nat → Prop) (n : Int) (A : Ar) (w : World) (h : AtP w b F A) (ht : t < 64) (h0 : 0 ≤ n) (h1 : n ≤ A.room) :
    Calls Try.prog 15 #[.pointer (some ⟨b, 0, none⟩), .int .i64 t, .int .i64 n] w fun e w' => e = .returned (.int .i64 0) ∧ Led w b F (A.limP t n) w' := by
  obtain ⟨L, r, D, h, hp, hH⟩ := h
  refine (limit_any b t n r w h.raw ht h0 (by rw [show r.room = A.room from h.room]; exact h1)).mono ?_
  rintro e w' ⟨rfl, rfl⟩
  exact ⟨rfl, F, fun k hk => .inl hk, ⟨L, _, D, h.setLim ht n, hp, hH⟩, Apart.set w _ h.fb⟩
theorem new_sound {room : Int} (h0 : 0 ≤ room) (h1 : room ≤ 200000) : Sound (arNew room) :=
  ⟨rfl, h0, h1, h0, fun _ h => (by cases h), fun _ h => (by cases h), fun _ h => (by cases h), fun _ h => (by cases h), fun _ h => (by cases h), fun i j x y hx => (by cases hx), fun _ _ => ⟨h0, Int.le_refl _⟩, fun _ _ => rfl, fun _ _ => ⟨List.nodup_nil, fun _ h => (by cases h)⟩⟩
theorem newP_any (room : Int) (w : World) (h0 : 0 ≤ room) (h1 : room ≤ 200000) :
    Calls Try.prog 6 #[.int .i64 room] w fun e w' => e = .returned (.tuple #[.pointer (some ⟨w.heap.size + 1, 0, none⟩), .int .i64 0]) ∧ (∃ F, (∀ k, F k → w.heap.size ≤ k) ∧ AtP w' (w.heap.size + 1) F (arNew room)) ∧ Below w.heap.size w w' := by
  refine (new_any room w h0 h1).mono ?_
  rintro e w' ⟨rfl, ⟨r, D, h⟩, hb⟩
  exact ⟨rfl, ⟨_, fun k hk => (by rcases hk with e | e; exact e.elim; exact e.1), [], r, D, h, List.Perm.refl _, fun k h0 hk => (by simp at hk)⟩, hb⟩
end Go.Proofs.Ytfogedmghhacdaa.A
