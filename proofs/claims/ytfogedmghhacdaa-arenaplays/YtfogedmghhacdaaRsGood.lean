/- What both arenas are between moves stays so. -/
import Derived.Test.YtfogedmghhacdaaRsSquares
import Derived.BigQuiet
import Derived.Test.YtfogedmghhacdaaRsCleanW
import Derived.Test.YtfogedmghhacdaaRsArNo
namespace Go.Proofs.Ytfogedmghhacdaa.A
open Go.RowKit Go.Maps

def Rt.sqV (x : Rt) : Value := .agg #[.int .i64 x.id, .int .i64 x.lv, .int .i64 x.p0, .int .i64 x.p1, .int .i64 x.p2, .int .i64 x.p3, .int .u64 x.mask]
set_option maxRecDepth 20000 in
theorem sq_ne (a b c d e f : Int) (m : Nat) (w : World) : (binOp .neq 78 (.agg #[.int .i64 a, .int .i64 b, .int .i64 c, .int .i64 d, .int .i64 e, .int .i64 f, .int .u64 m]) (.agg #[.int .i64 a, .int .i64 b, .int .i64 c, .int .i64 d, .int .i64 e, .int .i64 f, .int .u64 m])).run Try.prog w = .ok (.bool false) w := by
  have hS : Try.prog.underlying 78 = some (.struct (Try.prog.fieldsOf 78)) := by kernel_rfl
  have hp : Try.prog.stoodInHeld 78 = false := by kernel_rfl
  have h4 := four_eqIn 9997 c d e f c d e f w
  rw [decide_eq_true ⟨rfl, rfl, rfl, rfl⟩] at h4
  rw [run_neq_struct, show (10000 : Nat) = 9999 + 1 from rfl, run_equalIn_agg w 9999 78 _ _ hS hp]
  simp only [Program.fieldsOf, Try.underlying78]
  go_simp
set_option maxRecDepth 20000 in
set_option maxHeartbeats 4000000 in
theorem sameSq_any (va vb : Value) (Ba Bb : Nat) (L : List Rt) (w : World) (ha : w.ownsRow Ba 78 7 va L.length (sqL L)) (hb : w.ownsRow Bb 78 7 vb L.length (sqL L)) (hn : L.length < 1000000) :
    Calls Try.prog 10 #[va, vb] w fun e w' => e = .returned (.bool true) ∧ Below w.heap.size w w' := by
  obtain ⟨a1, c1, rfl, g1⟩ := row_slice ha
  obtain ⟨a2, c2, rfl, g2⟩ := row_slice hb
  have HA : Hid (w.ownsRow Ba 78 7 (.slice a1 L.length c1) L.length (sqL L)) := ha
  have HB : Hid (w.ownsRow Bb 78 7 (.slice a2 L.length c2) L.length (sqL L)) := hb
  have HG : Hid ((L.length = 0 ∨ ∃ g, a1 = some ⟨g, 0, none⟩) ∧ (L.length = 0 ∨ ∃ g, a2 = some ⟨g, 0, none⟩)) := ⟨g1, g2⟩
  obtain ⟨n, hnn⟩ : ∃ n, n = L.length := ⟨_, rfl⟩
  have HN : Hid (n = L.length) := hnn
  rw [← hnn] at hn ⊢
  clear ha hb g1 g2 hnn
  have hne : ((n : Int) != (n : Int)) = false := by simp
  go_enter Try.func10, Try.ntmps10
  go_wp2_with fail
  go_loopg [5] n (fun gh s5 wr => ∃ i : Nat, i + gh = n ∧ s5 = .int .i64 i ∧ Below w.heap.size w wr)
  case atStart => exact ⟨0, by omega, rfl, Below.refl _ _⟩
  case round =>
    obtain ⟨i, hig, rfl, hbr⟩ := hrel
    have HIG : Hid (i + gk = n) := hig
    have HBR : Hid (Below w.heap.size w wr) := hbr
    clear hig
    by_cases hlt : i < n
    · obtain ⟨x, hx⟩ : ∃ x, L[i]? = some x := ⟨_, List.getElem?_eq_getElem (by rw [← HN.out]; exact hlt)⟩
      obtain ⟨g, rfl⟩ : ∃ g, a1 = some ⟨g, 0, none⟩ := by
        rcases HG.out.1 with e | e
        · have := HN.out; omega
        · exact e
      obtain ⟨g', rfl⟩ : ∃ g, a2 = some ⟨g, 0, none⟩ := by
        rcases HG.out.2 with e | e
        · have := HN.out; omega
        · exact e
      have ka : ∀ j, j < 7 → wr.cell? ⟨g, i * 7 + j, none⟩ = x.sq[j]? := fun j hj => (hbr.cell (p := ⟨g, i * 7 + j, none⟩) (HA.out.lt g rfl).2).trans (by rw [HA.out.cellAt (i * 7 + j) (by have := HN.out; omega), sqL_at L i x j hx hj])
      have kb : ∀ j, j < 7 → wr.cell? ⟨g', i * 7 + j, none⟩ = x.sq[j]? := fun j hj => (hbr.cell (p := ⟨g', i * 7 + j, none⟩) (HB.out.lt g' rfl).2).trans (by rw [HB.out.cellAt (i * 7 + j) (by have := HN.out; omega), sqL_at L i x j hx hj])
      have d0 : wr.cell? ⟨g, i * 7, none⟩ = some (.int .i64 x.id) := ka 0 (by omega)
      have d1 : wr.cell? ⟨g, i * 7 + 1, none⟩ = some (.int .i64 x.lv) := ka 1 (by omega)
      have d2 : wr.cell? ⟨g, i * 7 + 2, none⟩ = some (.int .i64 x.p0) := ka 2 (by omega)
      have d3 : wr.cell? ⟨g, i * 7 + 3, none⟩ = some (.int .i64 x.p1) := ka 3 (by omega)
      have d4 : wr.cell? ⟨g, i * 7 + 4, none⟩ = some (.int .i64 x.p2) := ka 4 (by omega)
      have d5 : wr.cell? ⟨g, i * 7 + 5, none⟩ = some (.int .i64 x.p3) := ka 5 (by omega)
      have d6 : wr.cell? ⟨g, i * 7 + 6, none⟩ = some (.int .u64 x.mask) := ka 6 (by omega)
      have e0 : wr.cell? ⟨g', i * 7, none⟩ = some (.int .i64 x.id) := kb 0 (by omega)
      have e1 : wr.cell? ⟨g', i * 7 + 1, none⟩ = some (.int .i64 x.lv) := kb 1 (by omega)
      have e2 : wr.cell? ⟨g', i * 7 + 2, none⟩ = some (.int .i64 x.p0) := kb 2 (by omega)
      have e3 : wr.cell? ⟨g', i * 7 + 3, none⟩ = some (.int .i64 x.p1) := kb 3 (by omega)
      have e4 : wr.cell? ⟨g', i * 7 + 4, none⟩ = some (.int .i64 x.p2) := kb 4 (by omega)
      have e5 : wr.cell? ⟨g', i * 7 + 5, none⟩ = some (.int .i64 x.p3) := kb 5 (by omega)
      have e6 : wr.cell? ⟨g', i * 7 + 6, none⟩ = some (.int .u64 x.mask) := kb 6 (by omega)
      have hq := fun W => sq_ne x.id x.lv x.p0 x.p1 x.p2 x.p3 x.mask W
      have k0 : (0 : Int) ≤ (i : Int) := by omega
      have k1 : (i : Int) < (n : Int) := by omega
      clear ka kb hx hbr
      go_wp2_with fail
      go_quiet (fail)
      go_wp2_with fail
      go_roundg (gk - 1)
      case measure => have := HIG.out; omega
      case rel => exact ⟨i + 1, by have := HIG.out; omega, by go_num, bel_drewN HBR.out _⟩
    · have k1 : ¬ (i : Int) < (n : Int) := by omega
      clear hbr
      go_wp2_with fail
      go_ret
      exact ⟨rfl, HBR.out⟩
/-- a number that was made, or the number itself -/
def ofF (l : List Int) (n : Int) : Int := if 2 ≤ n ∧ n < 40 ∧ n - 2 < (l.length : Int) then (l[l.length - 1 - (n - 2).toNat]?).getD 0 else n
set_option maxRecDepth 20000 in
set_option maxHeartbeats 2000000 in
theorem of_any (l : List Int) (v : Value) (n : Int) (w : World) (h : IntRow w v l) (hl : l.length < 1000000) :
    Calls Try.prog 24 #[.agg #[v], .int .i64 n] w fun e w' => e = .returned (.int .i64 (ofF l n)) ∧ Below w.heap.size w w' := by
  obtain ⟨a, c, rfl, hg⟩ := row_slice h
  have HH : Hid (IntRow w (.slice a l.length c) l) := h
  have HG : Hid (l.length = 0 ∨ ∃ g, a = some ⟨g, 0, none⟩) := hg
  obtain ⟨m, hm⟩ : ∃ m, m = l.length := ⟨_, rfl⟩
  have HM : Hid (m = l.length) := hm
  rw [← hm] at hl ⊢
  clear h hg hm
  by_cases h2 : 2 ≤ n
  · by_cases h4 : n < 40
    · by_cases h5 : n - 2 < (m : Int)
      · obtain ⟨g, rfl⟩ : ∃ g, a = some ⟨g, 0, none⟩ := by
          rcases HG.out with e | e
          · have := HM.out; omega
          · exact e
        obtain ⟨k, hk⟩ : ∃ k : Nat, k = m - 1 - (n - 2).toNat := ⟨_, rfl⟩
        have hkm : k < m := by omega
        have hki : (m : Int) - 1 - (n - 2) = (k : Int) := by omega
        obtain ⟨x, hx⟩ : ∃ x, l[k]? = some x := ⟨_, List.getElem?_eq_getElem (by rw [← HM.out]; exact hkm)⟩
        have hc : w.cell? ⟨g, k, none⟩ = some (.int .i64 x) := by rw [HH.out.cellAt k (by rw [← HM.out]; omega), List.getElem?_map, hx]; rfl
        have hgl := (HH.out.lt g rfl).2
        have HO : Hid (ofF l n = x) := show _ = _ by
          unfold ofF
          rw [if_pos ⟨h2, h4, by rw [← HM.out]; exact h5⟩, ← HM.out, ← hk, hx]
          rfl
        have k0 : (0 : Int) ≤ (k : Int) := by omega
        have k1 : (k : Int) < (m : Int) := by omega
        have s1 : IntKind.i64.wrap (n - 2) = n - 2 := by rw [IntKind.wrap_i64]; omega
        have s2 : IntKind.i64.wrap ((m : Int) - 1) = (m : Int) - 1 := by rw [IntKind.wrap_i64]; omega
        have s3 : IntKind.i64.wrap ((m : Int) - 1 - (n - 2)) = (k : Int) := by rw [hki, IntKind.wrap_i64]; omega
        clear hk hki hx
        go_enter Try.func24, Try.ntmps24
        go_wp2_with fail
        go_ret
        rw [HO.out]
        exact ⟨rfl, (Below.refl _ _).alloc (Nat.le_refl _) _⟩
      · have HO : Hid (ofF l n = n) := if_neg fun e => h5 (by rw [HM.out]; exact e.2.2)
        have s1 : IntKind.i64.wrap (n - 2) = n - 2 := by rw [IntKind.wrap_i64]; omega
        go_enter Try.func24, Try.ntmps24
        go_wp2_with fail
        go_ret
        rw [HO.out]
        exact ⟨rfl, (Below.refl _ _).alloc (Nat.le_refl _) _⟩
    · have HO : Hid (ofF l n = n) := if_neg fun e => h4 e.2.1
      go_enter Try.func24, Try.ntmps24
      go_wp2_with fail
      go_ret
      rw [HO.out]
      exact ⟨rfl, (Below.refl _ _).alloc (Nat.le_refl _) _⟩
  · have HO : Hid (ofF l n = n) := if_neg fun e => h2 e.1
    go_enter Try.func24, Try.ntmps24
    go_wp2_with fail
    go_ret
    rw [HO.out]
    exact ⟨rfl, (Below.refl _ _).alloc (Nat.le_refl _) _⟩
end Go.Proofs.Ytfogedmghhacdaa.A

namespace Go.Proofs.Ytfogedmghhacdaa.A
open Go.RowKit Go.Maps

/-- the arena in ba, the plain store in bs, the numbers that were made in db -/
structure PaSt (w : World) (ba bs db : Nat) (F G : Nat → Prop) (A B : Ar) (v : Value) (l : List Int) (W : World) : Prop where
  ar : AtP W ba F A
  st : StAt W bs G (St.of B)
  ids : W.heap[db]? = some (.cells #[v] 33 (0, 0))
  row : IntRow W v l
  fg : ∀ k, F k → ¬ G k
  fd : ¬ F db ∧ ¬ G db
  fv : ∀ k, v.ownBlock = some k → ¬ F k ∧ ¬ G k ∧ k ≠ db
  fge : ∀ k, F k ∨ G k ∨ k = db ∨ v.ownBlock = some k → w.heap.size ≤ k
  bel : Below w.heap.size w W
section
variable {w W W' : World} {ba bs db : Nat} {F G : Nat → Prop} {A B A' B' : Ar} {v : Value} {l : List Int}
theorem PaSt.dlt (h : PaSt w ba bs db F G A B v l W) : db < W.heap.size := (Array.getElem?_eq_some_iff.1 h.ids).1
theorem PaSt.below (h : PaSt w ba bs db F G A B v l W) (hb : Below W.heap.size W W') : PaSt w ba bs db F G A B v l W' :=
  ⟨h.ar.below hb, h.st.below hb, (hb.block _ h.dlt).trans h.ids, row_other h.row fun k hk => hb.block k (h.row.lt k hk).2, h.fg, h.fd, h.fv, h.fge, h.bel.trans (hb.mono h.bel.size)⟩
theorem PaSt.drew (h : PaSt w ba bs db F G A B v l W) : PaSt w ba bs db F G A B v l W.drew := h.below (Below.refl _ _).drew
/-- behind a call of the arena -/
theorem PaSt.ledA (h : PaSt w ba bs db F G A B v l W) (hl : Led W ba F A' W') : ∃ F', PaSt w ba bs db F' G A' B v l W' := by
  obtain ⟨F', h1, h2, P⟩ := hl
  have nf : ∀ k, k < W.heap.size → ¬ F k → ¬ F' k := fun k hk hn hf => by
    rcases h1 k hf with e | e
    · exact hn e
    · omega
  have hgl : ∀ k, G k → k < W.heap.size := fun k hk => h.st.flt hk
  refine ⟨F', h2, h.st.other P.size fun k hk => P.block k (hgl k hk) fun hf => h.fg k hf hk, (P.block db h.dlt h.fd.1).trans h.ids, row_other h.row fun k hk => P.block k (h.row.lt k hk).2 (h.fv k hk).1, fun k hk hg => nf k (hgl k hg) (fun hf => h.fg k hf hg) hk, ⟨nf db h.dlt h.fd.1, h.fd.2⟩, fun k hk => ⟨nf k (h.row.lt k hk).2 (h.fv k hk).1, (h.fv k hk).2⟩, fun k hk => ?_, ?_⟩
  · rcases hk with e | e
    · rcases h1 k e with e1 | e1
      · exact h.fge k (.inl e1)
      · exact Nat.le_trans h.bel.size e1
    · exact h.fge k (.inr e)
  · exact ⟨P.os.trans h.bel.os, P.tape.trans h.bel.tape, P.output.trans h.bel.output, Nat.le_trans h.bel.size P.size, fun k hk => (P.block k (Nat.lt_of_lt_of_le hk h.bel.size) fun hf => by have := h.fge k (.inl hf); omega).trans (h.bel.block k hk)⟩
/-- behind a call of the store -/
theorem PaSt.ledS (h : PaSt w ba bs db F G A B v l W) (hl : LedS W bs G (St.of B') W') : ∃ G', PaSt w ba bs db F G' A B' v l W' := by
  obtain ⟨G', h1, h2, P⟩ := hl
  have ng : ∀ k, k < W.heap.size → ¬ G k → ¬ G' k := fun k hk hn hf => by
    rcases h1 k hf with e | e
    · exact hn e
    · omega
  refine ⟨G', h.ar.other P.size fun k hk => P.block k (h.ar.flt k hk) (h.fg k hk), h2, (P.block db h.dlt h.fd.2).trans h.ids, row_other h.row fun k hk => P.block k (h.row.lt k hk).2 (h.fv k hk).2.1, fun k hk => ng k (h.ar.flt k hk) (h.fg k hk), ⟨h.fd.1, ng db h.dlt h.fd.2⟩, fun k hk => ⟨(h.fv k hk).1, ng k (h.row.lt k hk).2 (h.fv k hk).2.1, (h.fv k hk).2.2⟩, fun k hk => ?_, ?_⟩
  · rcases hk with e | e | e
    · exact h.fge k (.inl e)
    · rcases h1 k e with e1 | e1
      · exact h.fge k (.inr (.inl e1))
      · exact Nat.le_trans h.bel.size e1
    · exact h.fge k (.inr (.inr e))
  · exact ⟨P.os.trans h.bel.os, P.tape.trans h.bel.tape, P.output.trans h.bel.output, Nat.le_trans h.bel.size P.size, fun k hk => (P.block k (Nat.lt_of_lt_of_le hk h.bel.size) fun hf => by have := h.fge k (.inr (.inl hf)); omega).trans (h.bel.block k hk)⟩
end
/-- what both are between moves -/
structure Good (A : Ar) : Prop where
  s : Sound A
  g : Glob A
theorem Good.clo {A : Ar} (h : Good A) {t : Nat} (ht : t < 64) : ∀ (z : Int) (x : Th), ownSq A.ths t z = some x → ∀ r ∈ partsT x, (levelF A.ths t r).isSome = true := fun z x hx r hr => by
  obtain ⟨h1, _, h3⟩ := ownSq_V hx
  rw [levelF_V]
  exact (h.g.wel t ht).clo z x.face h1 r (by rw [h3]; exact hr)
theorem Good.made {A : Ar} (h : Good A) : Good A.made := ⟨made_sound h.s, glob_made h.g h.s⟩
theorem Good.lose {A : Ar} (h : Good A) {t : Nat} (ht : t < 64) : Good (A.lose t (A.fresh t) []) := ⟨undo_sound h.s ht, glob_undo h.g h.s ht⟩
theorem Good.clean {A : Ar} (h : Good A) {t : Nat} (ht : t < 64) (rs : List Int) : Good (A.cleanP t rs) := ⟨clean_sound h.s ht rs, glob_clean h.g h.s ht rs⟩
end Go.Proofs.Ytfogedmghhacdaa.A

namespace Go.Proofs.Ytfogedmghhacdaa.A
open Go.RowKit Go.Maps

theorem beco_five {A : Ar} {t : Nat} {x : Th} (h : (A.beco t x).2.2 = 5) : (A.beco t x).1 = A.made := by
  unfold Ar.beco at h ⊢
  cases hs : spotF A.ths x.key with
  | some i =>
    rw [hs] at h
    simp only at h ⊢
    split at h
    · cases h
    · split at h <;> cases h
  | none =>
    rw [hs] at h
    simp only at h ⊢
    by_cases h1 : A.lim t ≤ A.cnt t
    · rw [if_pos h1] at h; cases h
    · rw [if_neg h1] at h ⊢
      by_cases h2 : A.made.room ≤ (liveN A.made.ths : Int)
      · rw [if_pos h2]
      · rw [if_neg h2] at h; cases h
theorem Good.join {A : Ar} (h : Good A) {t : Nat} (ht : t < 64) {q0 q1 q2 q3 : Int} (h0 : Fits q0) (h1 : Fits q1) (h2 : Fits q2) (h3 : Fits q3) : Good (A.joinP t q0 q1 q2 q3).1 := by
  by_cases e : (A.joinP t q0 q1 q2 q3).2.2 = 5
  · unfold Ar.joinP at e ⊢
    by_cases hj : (joinE A t q0 q1 q2 q3).1 = 0
    · rw [if_pos hj] at e ⊢
      rw [beco_five e]
      exact h.made
    · rw [if_neg hj]
      exact h
  · exact ⟨join_sound h.s ht h0 h1 h2 h3, glob_join h.g h.s ht e⟩
theorem Good.note {A : Ar} (h : Good A) {t : Nat} (ht : t < 64) {s r j v : Int} (h0 : Fits s) (h1 : Fits r) (h2 : Fits j) (h3 : Fits v) : Good (A.noteP t s r j v).1 := by
  by_cases e : (A.noteP t s r j v).2 = 5
  · unfold Ar.noteP at e ⊢
    split
    · rename_i hl
      rw [if_pos hl] at e
      split
      · exact h
      · rename_i htw
        rw [if_neg htw] at e
        rw [beco_five e]
        exact h.made
    · exact h
  · exact ⟨note_sound h.s ht h0 h1 h2 h3, glob_note h.g h.s ht e⟩
theorem Good.mark {A : Ar} (h : Good A) {t : Nat} (ht : t < 64) : Good (A.lose t [] []) := ⟨mark_sound h.s ht, glob_mark h.g h.s ht⟩
theorem Good.swept {A : Ar} (h : Good A) : Good A.swept := ⟨swept_sound h.s, glob_swept h.g h.s⟩
theorem Good.lim {A : Ar} (h : Good A) {t : Nat} {n : Int} (h0 : 0 ≤ n) (h1 : n ≤ A.room) : Good (A.limP t n) := ⟨lim_sound h.s h0 h1, glob_lim h.g t n⟩
theorem Good.new {room : Int} (h0 : 0 ≤ room) (h1 : room ≤ 200000) : Good (arNew room) := ⟨new_sound h0 h1, glob_new room⟩
/-- the store's own words for a mark, a limit, a sweep -/
theorem mark_ref (A : Ar) (t : Nat) : (St.of A).mark t = St.of (A.lose t [] []) := rfl
theorem lim_ref (A : Ar) (t : Nat) (n : Int) : (St.of A).lim t n = St.of (A.limP t n) := rfl
theorem sweep_ref (A : Ar) : (St.of A).swept = St.of A.swept := by
  unfold St.swept St.of Ar.swept
  simp only
  rw [swept_ref]
end Go.Proofs.Ytfogedmghhacdaa.A
