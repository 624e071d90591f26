/- name, place, rule, num: a reader takes a word. -/
import Derived.Test.YtpghbchbhjbbiaaGreatDoorSpVerb
import Derived.Test.YtpghbchbhjbbiaaGreatDoorSpNames
import Derived.Test.YtpghbchbhjbbiaaGreatDoorSpNum
import Derived.Test.YtpghbchbhjbbiaaGreatDoorSpRuRead
namespace Go.Proofs.YtpghbchbhjbbiaaGreatDoor
open Go.RowKit

/-- a reader of short words, where the listed variables are as they are laid -/
structure RS (w : World) (b : Nat) (r : Rd) : Prop where
  at_ : RdAt w b r
  vars : Vars w
  room : 11 ≤ b
  small : ∀ x ∈ r.ws, x.size ≤ 6000
theorem need_ws (r : Rd) (ok : Bool) (e : Int) : (r.need ok e).ws = r.ws := by
  unfold Rd.need
  split <;> rfl
theorem RS.only {w w' : World} {b : Nat} {r r' : Rd} (h : RS w b r) (ho : Only b w w') (hr : RdAt w' b r') (hs : ∀ x ∈ r'.ws, x ∈ r.ws) : RS w' b r' :=
  ⟨hr, h.vars.only ho h.room, h.room, fun x hx => h.small x (hs x hx)⟩
theorem RS.go {w w' : World} {b : Nat} {r : Rd} (h : RS w b r) (hb : Below w.heap.size w w') : RS w' b r := ⟨h.at_.go hb, h.vars.below hb, h.room, h.small⟩
theorem RS.other {w w' : World} {b c : Nat} {r : Rd} (h : RS w b r) (ho : Only c w w') (hc : b < c) : RS w' b r := ⟨h.at_.other ho hc, h.vars.only ho (by have := h.room; omega), h.room, h.small⟩
theorem word_ws (r : Rd) : ∀ x ∈ r.word.2.ws, x ∈ r.ws := by
  unfold Rd.word
  split
  · split
    · rename_i h; intro x hx; simp at hx
    · rename_i y t h; intro x hx; rw [h]; exact List.mem_cons_of_mem _ hx
  · intro x hx; exact hx
theorem word_small {w : World} {b : Nat} {r : Rd} (h : RS w b r) : r.word.1.size ≤ 6000 := by
  unfold Rd.word
  split
  · split
    · exact Nat.zero_le _
    · rename_i y t hy; exact h.small y (by rw [hy]; exact List.mem_cons_self)
  · exact Nat.zero_le _
theorem wordS_any (b : Nat) (r : Rd) (w : World) (h : RS w b r) :
    Calls Tryz.prog 54 #[.pointer (some ⟨b, 0, none⟩)] w fun e w' => e = .returned (.string r.word.1) ∧ RS w' b r.word.2 ∧ Only b w w' :=
  (word_any b r w h.at_).mono fun _ _ ⟨he, hr, ho⟩ => ⟨he, h.only ho hr (word_ws r), ho⟩
theorem needS_any (b : Nat) (r : Rd) (ok : Bool) (e0 : Int) (w : World) (h : RS w b r) :
    Calls Tryz.prog 39 #[.pointer (some ⟨b, 0, none⟩), .bool ok, .int .i64 e0] w fun e w' => e = .returned (.tuple #[]) ∧ RS w' b (r.need ok e0) ∧ Only b w w' :=
  (need_any b r ok e0 w h.at_).mono fun _ _ ⟨he, hr, ho⟩ => ⟨he, h.only ho hr (by rw [need_ws]; exact fun _ hx => hx), ho⟩
theorem verbS_any (b : Nat) (r : Rd) (w : World) (h : RS w b r) :
    Calls Tryz.prog 33 #[.pointer (some ⟨b, 0, none⟩)] w fun e w' => e = .returned (.int .i64 r.verb.1) ∧ RS w' b r.verb.2 ∧ Only b w w' :=
  (verb_any b r w h.at_ h.vars h.room).mono fun _ _ ⟨he, hr, ho⟩ => ⟨he, h.only ho hr (by unfold Rd.verb; rw [need_ws]; exact word_ws r), ho⟩

theorem clone_any (s : ByteArray) (w : World) (hs : s.size ≤ 281474976710656) : Calls Tryz.prog 56 #[.string s] w fun e w' => e = .returned (.string s) ∧ Below w.heap.size w w' := by
  have c := Tryz.stringslite_Clone s w hs
  go_enter Tryz.func56, Tryz.ntmps56
  go_wp2_with (go_at_call 79; refine c.mono ?_; rintro e w1 ⟨rfl, hb1⟩)
  go_ret
  exact ⟨rfl, hb1⟩

def Rd.name (r : Rd) : ByteArray × Rd := (r.word.1, r.word.2.need (namedB r.word.1) 2)
def Rd.place (r : Rd) : ByteArray × Rd := (r.word.1, r.word.2.need (namedB r.word.1 || keyedB r.word.1) 2)
def Rd.rule (r : Rd) : (Int × Int) × Rd := (((readF r.word.1.data.toList).1, (readF r.word.1.data.toList).2.1), r.word.2.need (decide ((readF r.word.1.data.toList).2.2 = 0)) 2)
def Rd.num (r : Rd) : Int × Rd := ((numOf r.word.1.data.toList).1, r.word.2.need (numOf r.word.1.data.toList).2 2)

set_option maxRecDepth 20000 in
set_option maxHeartbeats 1000000 in
theorem name_any (b : Nat) (r : Rd) (w : World) (h : RS w b r) :
    Calls Tryz.prog 34 #[.pointer (some ⟨b, 0, none⟩)] w fun e w' => e = .returned (.string r.name.1) ∧ RS w' b r.name.2 ∧ Only b w w' := by
  have c1 := wordS_any b r w h
  have hsm := word_small h
  unfold Rd.name
  generalize r.word = p at *
  obtain ⟨x, r1⟩ := p
  simp only at c1 hsm ⊢
  have c2 := fun W => named_any x W (by omega)
  have c3 := fun W hW => needS_any b r1 (namedB x) 2 W hW
  have c4 := fun W => clone_any x W (by omega)
  generalize namedB x = ok at *
  clear h
  go_enter Tryz.func34, Tryz.ntmps34
  go_wp2_with (first | (go_at_call 54; refine c1.mono ?_; rintro e w1 ⟨rfl, hr1, ho1⟩) | (go_at_call 55; refine (c2 _).mono ?_; rintro e w2 ⟨rfl, hb2⟩) | (go_at_call 39; refine (c3 _ (hr1.go hb2)).mono ?_; rintro e w3 ⟨rfl, hr3, ho3⟩) | (go_at_call 56; refine (c4 _).mono ?_; rintro e w4 ⟨rfl, hb4⟩))
  go_ret
  exact ⟨rfl, hr3.go hb4, ((ho1.trans (Only.of hb2)).trans ho3).trans (Only.of hb4)⟩

set_option maxRecDepth 20000 in
set_option maxHeartbeats 1000000 in
theorem place_any (b : Nat) (r : Rd) (w : World) (h : RS w b r) :
    Calls Tryz.prog 36 #[.pointer (some ⟨b, 0, none⟩)] w fun e w' => e = .returned (.string r.place.1) ∧ RS w' b r.place.2 ∧ Only b w w' := by
  have c1 := wordS_any b r w h
  have hsm := word_small h
  unfold Rd.place
  generalize r.word = p at *
  obtain ⟨x, r1⟩ := p
  simp only at c1 hsm ⊢
  have c2 := fun W => named_any x W (by omega)
  have c5 := fun W => keyed_any x W (by omega)
  have c3 := fun ok W hW => needS_any b r1 ok 2 W hW
  have c4 := fun W => clone_any x W (by omega)
  generalize namedB x = ok at *
  generalize keyedB x = ok2 at *
  clear h
  cases ok
  · go_enter Tryz.func36, Tryz.ntmps36
    go_wp2_with (first | (go_at_call 54; refine c1.mono ?_; rintro e w1 ⟨rfl, hr1, ho1⟩) | (go_at_call 55; refine (c2 _).mono ?_; rintro e w2 ⟨rfl, hb2⟩) | (go_at_call 58; refine (c5 _).mono ?_; rintro e w5 ⟨rfl, hb5⟩) | (go_at_call 39; refine (c3 ok2 _ ((hr1.go hb2).go hb5)).mono ?_; rintro e w3 ⟨rfl, hr3, ho3⟩) | (go_at_call 56; refine (c4 _).mono ?_; rintro e w4 ⟨rfl, hb4⟩))
    go_ret
    exact ⟨rfl, hr3.go hb4, (((ho1.trans (Only.of hb2)).trans (Only.of hb5)).trans ho3).trans (Only.of hb4)⟩
  · go_enter Tryz.func36, Tryz.ntmps36
    go_wp2_with (first | (go_at_call 54; refine c1.mono ?_; rintro e w1 ⟨rfl, hr1, ho1⟩) | (go_at_call 55; refine (c2 _).mono ?_; rintro e w2 ⟨rfl, hb2⟩) | (go_at_call 39; refine (c3 true _ (hr1.go hb2)).mono ?_; rintro e w3 ⟨rfl, hr3, ho3⟩) | (go_at_call 56; refine (c4 _).mono ?_; rintro e w4 ⟨rfl, hb4⟩))
    go_ret
    exact ⟨rfl, hr3.go hb4, ((ho1.trans (Only.of hb2)).trans ho3).trans (Only.of hb4)⟩

set_option maxRecDepth 20000 in
set_option maxHeartbeats 1000000 in
theorem num_any (b : Nat) (r : Rd) (w : World) (h : RS w b r) :
    Calls Tryz.prog 38 #[.pointer (some ⟨b, 0, none⟩)] w fun e w' => e = .returned (.int .i64 r.num.1) ∧ RS w' b r.num.2 ∧ Only b w w' := by
  have c1 := wordS_any b r w h
  have hsm := word_small h
  unfold Rd.num
  generalize r.word = p at *
  obtain ⟨x, r1⟩ := p
  simp only at c1 hsm ⊢
  have c2 := fun W hW => numberOf_any x W (by omega) hW
  generalize numOf x.data.toList = q at *
  obtain ⟨n, ok⟩ := q
  simp only at c2 ⊢
  have c3 := fun W hW => needS_any b r1 ok 2 W hW
  clear h
  go_enter Tryz.func38, Tryz.ntmps38
  go_wp2_with (first | (go_at_call 54; refine c1.mono ?_; rintro e w1 ⟨rfl, hr1, ho1⟩) | (go_at_call 60; refine (c2 _ hr1.vars).mono ?_; rintro e w2 ⟨rfl, hb2⟩) | (go_at_call 39; refine (c3 _ (hr1.go hb2)).mono ?_; rintro e w3 ⟨rfl, hr3, ho3⟩))
  go_ret
  exact ⟨rfl, hr3, (ho1.trans (Only.of hb2)).trans ho3⟩
end Go.Proofs.YtpghbchbhjbbiaaGreatDoor
