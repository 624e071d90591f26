/- RleCanon: the walk of the law itself. -/
import Derived.Test.YtmpjlbafjmocbadGreatDoorLawPure
import Derived.Test.YtmpjlbafjmocbadGreatDoorEncode
import Derived.Test.YtmpjlbafjmocbadGreatDoorWrites
namespace Go.Proofs.YtmpjlbafjmocbadGreatDoor
open Go.Shelf Go.RowKit

theorem dec_none (s : List UInt8) (h : (decF readF s).2.2 ≠ 0) : (decF readF s).1 = [] := by
  unfold decF at h ⊢
  by_cases h0 : 20000 < s.length
  · rw [if_pos h0]
  · rw [if_neg h0] at h ⊢
    simp only at h ⊢
    split
    · rfl
    · rename_i h1
      rw [if_neg h1] at h
      split
      · rfl
      · rename_i h2
        rw [if_neg h2] at h
        simp at h

theorem enc_self {l : List (Int × Int)} {b v : Int} {w w' : World} {e : Ending} (ht : Tidy l) (hc : tcode l = 0) (hg : goodB b v = true) (h : EncOut l b v w e w') : e = .returned (.tuple #[.string ⟨(encT l b v).toArray⟩, .int .i64 0]) ∧ Below w.heap.size w w' := by
  obtain ⟨ys, hy, he, hb⟩ := h
  have : ys = l := hy.unique (tidied_self ht hc)
  subst this
  rw [encF, if_neg (by rw [hc]; simp), if_pos hg] at he
  exact ⟨he, hb⟩

set_option maxRecDepth 20000 in
set_option maxHeartbeats 4000000 in
theorem canon_any (s : ByteArray) (w : World) (hv : Vars w) : Calls Tryz.prog 4 #[.string s] w fun e w' => e = .returned (.bool true) ∧ Below w.heap.size w w' := by
  have hd := decode_any s w hv
  have hr8 := hv.room
  have hgd := dec_good s.data.toList
  have hno := dec_none s.data.toList
  unfold DecOut at hd
  generalize decF readF s.data.toList = D at *
  obtain ⟨l, ⟨b, v⟩, code⟩ := D
  simp only at hd hgd hno
  by_cases hcode : code = 0
  · subst hcode
    obtain ⟨ht, hl, htc, hg, hw, hh⟩ := hgd rfl
    have ht' : Tidy (l.map (toCorner (loX l) (loY l))) := tidy_mv l _ _ ht
    have hen := fun V u (hr : Row V u l) (hV : Vars V) => (encode_any u l b v V hr hV).mono fun e w' h => enc_self ht htc hg h
    have hdc := fun V (hV : Vars V) => decode_list (encT l b v) V hV
    have hdec := dec_of_enc l b v ht hl hg hw hh
    have hmv : encT (l.map (toCorner (loX l) (loY l))) b v = encT l b v := enc_mv l _ _ b v
    have htc' : (encT l b v).length ≤ 20000 → tcode (l.map (toCorner (loX l) (loY l))) = 0 := fun h => by
      have := dec_good (encT l b v) (by rw [hdec h])
      rw [hdec h] at this
      exact this.2.2.1
    have hen2 : (encT l b v).length ≤ 20000 → ∀ V u, Row V u (l.map (toCorner (loX l) (loY l))) → Vars V → Calls Tryz.prog 8 #[u, .agg #[.int .i64 b, .int .i64 v]] V fun e w' => e = .returned (.tuple #[.string ⟨(encT l b v).toArray⟩, .int .i64 0]) ∧ Below V.heap.size V w' := fun h V u hr hV => by
      refine (encode_any u _ b v V hr hV).mono fun e w' he => ?_
      have := enc_self ht' (htc' h) hg he
      rw [hmv] at this
      exact this
    have hdc2 : (encT l b v).length ≤ 20000 → ∀ V, Vars V → Calls Tryz.prog 10 #[.string ⟨(encT l b v).toArray⟩] V fun e w' => ∃ u, e = .returned (.tuple #[u, .agg #[.int .i64 b, .int .i64 v], .int .i64 0]) ∧ Row w' u (l.map (toCorner (loX l) (loY l))) ∧ Below V.heap.size V w' := fun h V hV => by
      refine (hdc V hV).mono ?_
      rintro e w' ⟨u, he, hr, hb⟩
      rw [hdec h] at he hr
      exact ⟨u, he, hr, hb⟩
    have heq := rule_eq b v b v
    simp only [decide_true] at heq
    clear hdc hdec htc' hmv hgd hno ht ht' hw hh htc hg hl
    generalize l.map (toCorner (loX l) (loY l)) = l' at *
    generalize encT l b v = T at *
    have hTT : (T == T) = true := by simp
    go_enter Tryz.func4, Tryz.ntmps4
    go_wp2_with fail
    refine hd.mono ?_
    rintro e w1 ⟨u, rfl, hr1, hb1⟩
    have q1 := RuleIn.born w1 b v 24
    have hv1 := (hv.go hb1 hr8).go q1.2.2.2.2.2 (by have := hb1.size; omega)
    have hz1 := hb1.size
    obtain ⟨r0, r1, _⟩ := id q1
    have hE := hen _ _ (hr1.below q1.2.2.2.2.2) hv1
    go_wp2_with fail
    refine hE.mono ?_
    rintro e w2 ⟨rfl, hb2⟩
    have q2 := q1.go hb2
    have hv2 := hv1.go hb2 hv1.room
    by_cases hlen : T.length ≤ 20000
    · have hlen' : (T.length : Int) ≤ 20000 := by omega
      have hD := hdc2 hlen _ hv2
      have hE2 := hen2 hlen
      clear hdc2 hen2 hen hE
      go_wp2_with fail
      refine hD.mono ?_
      rintro e w3 ⟨u3, rfl, hr3, hb3⟩
      have q3 := q2.go hb3
      have hv3 := hv2.go hb3 hv2.room
      have x3 := RuleIn.born w3 b v 24
      have hv4 := hv3.go x3.2.2.2.2.2 hv3.room
      have q4 := q3.go x3.2.2.2.2.2
      obtain ⟨y0, y1, _⟩ := id x3
      have hE3 := hE2 _ _ (hr3.below x3.2.2.2.2.2) hv4
      clear hE2
      go_wp2_with fail
      refine hE3.mono ?_
      rintro e w5 ⟨rfl, hb5⟩
      have q5 := q4.go hb5
      have x5 := x3.go hb5
      have hv5 := hv4.go hb5 hv4.room
      have hwr := writes_any _ hv5
      go_wp2_with fail
      refine hwr.mono ?_
      rintro e w6 ⟨rfl, hb6⟩
      obtain ⟨a0, a1, _⟩ := q5.go hb6
      obtain ⟨c0, c1, _⟩ := x5.go hb6
      have hfin := hb1.trans ((q5.go hb6).2.2.2.2.2.mono hz1)
      clear q1 q2 q3 q4 q5 x3 x5 r0 r1 y0 y1
      go_wp2_with fail
      go_ret
      exact ⟨rfl, hfin⟩
    · have hlen' : (20000 : Int) < (T.length : Int) := by omega
      clear hdc2 hen2 hen hE
      go_wp2_with fail
      go_ret
      exact ⟨rfl, hb1.trans (q2.2.2.2.2.2.mono hz1)⟩
  · have hl0 := hno hcode
    subst hl0
    have hne : (code != 0) = true := by simpa using hcode
    clear hgd hno hcode
    go_enter Tryz.func4, Tryz.ntmps4
    go_wp2_with fail
    refine hd.mono ?_
    rintro e w1 ⟨u, rfl, hr1, hb1⟩
    have hu : u = .slice none 0 0 := by
      rcases hr1 with ⟨_, h⟩ | ⟨h, _⟩
      · exact h
      · exact absurd rfl h
    subst hu
    have q1 := RuleIn.born w1 b v 24
    have hv1 := (hv.go hb1 hr8).go q1.2.2.2.2.2 (by have := hb1.size; omega)
    have hwr := writes_any _ hv1
    have hz1 := hb1.size
    go_wp2_with fail
    refine hwr.mono ?_
    rintro e w2 ⟨rfl, hb2⟩
    have q2 := q1.go hb2
    go_wp2_with fail
    go_ret
    exact ⟨rfl, hb1.trans (q2.2.2.2.2.2.mono hz1)⟩
end Go.Proofs.YtmpjlbafjmocbadGreatDoor
