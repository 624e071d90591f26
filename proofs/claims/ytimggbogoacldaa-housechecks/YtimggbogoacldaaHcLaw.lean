/- HouseChecks: the law. -/
import Derived.Test.YtimggbogoacldaaHcCheck
namespace Go.Proofs.Ytimggbogoacldaa
open Go.RowKit

theorem step_append_own {P : Program} (w : World) {ops : Array Oper} {o : Oper} {a : Act} {K : Act → World → Prop} {Q : Exit → Act → World → Prop} {E : Prop} (hgd : o.guard = none) (s x : Operand) (t : TypeId)
    (ho : o.op = .call { callee := .builtin .append, args := #[s, x], argTypes := #[t, t] })
    (base : Nat) (e : TypeId) (i : TypeInfo) (z : Value) (size bytes : Nat) (ht : P.underlying t = some (.slice e)) (hi : P.info? e = some i) (hz : i.zero = some z)
    (hsize : i.size = size) (hby : i.bytes = bytes) (hzs : z.cells.size = size) (hsz : 0 < size)
    (v : Value) (n : Nat) (xs : List Value) (hs : a.eval s = v) (hown : w.ownsRow base e size v n xs)
    (ad : Addr) (m c : Nat) (news : List Value) (hx : a.eval x = .slice (some ad) m c) (hl : news.length = m * size) (hnews : ∀ j u, news[j]? = some u → w.cell? (ad.add j) = some u) (h1 : ∀ u, u ∈ news → u.oneCell' = true)
    (h63 : n + m ≤ maxLen) (hbytes : (n + m) * bytes ≤ 140737488355328) (hbase : base ≤ w.heap.size)
    (h : ∀ v' w', w'.ownsRow base e size v' (n + m) (xs ++ news) → w.grownBy w' v.ownBlock → (v' = .slice none 0 0 ↔ v = .slice none 0 0 ∧ m = 0) → K (a.put o.dst v') w') :
    if Region.wanted o (yielded ops a.tmps) = true then Oper.wp P o a w K Q else E := by
  have hw : Region.wanted o (yielded ops a.tmps) = true := by simp [Region.wanted, hgd]
  rw [if_pos hw]
  exact wp_append_own w s x t ho base e i z size bytes ht hi hz hsize hby hzs hsz v n xs hs hown ad m c news hx hl hnews h1 h63 hbytes hbase h
theorem Try.infoI : (Try.prog.info? 3).map (fun i => (i.zero, i.size, i.bytes)) = some (some (.int .i64 0), 1, 8) := by kernel_rfl
theorem ints_one (xs : List Int) : ∀ u ∈ xs.map (Value.int .i64), u.oneCell' = true := by
  intro u hu
  obtain ⟨x, _, rfl⟩ := List.mem_map.1 hu
  rfl
/-- a row of one's own can be read -/
theorem nr_of_owns {w : World} {B : Nat} {v : Value} {xs : List Int} (hn : xs.length ≤ 9223372036854775807) (h : w.ownsRow B 3 1 v xs.length (xs.map (Value.int .i64))) : NR w v xs := by
  rcases h.2 with ⟨rfl, e⟩ | ⟨g, cap, cur, rfl, hx⟩
  · have : xs = [] := by simpa using e
    subst this
    exact ⟨none, 0, rfl, by simp, .inl rfl⟩
  · refine ⟨_, _, rfl, hn, .inr ⟨g, 0, rfl, (h.lt g rfl).2, fun k x hk => ?_⟩⟩
    rw [Nat.zero_add, h.cellAt k (by have := (List.getElem?_eq_some_iff.1 hk).1; simp; omega), List.getElem?_map, hk]
    rfl
theorem nr_news {w : World} {ad : Addr} {n c : Nat} {xs : List Int} (h : NR w (.slice (some ad) n c) xs) : ∀ (j : Nat) u, (xs.map (Value.int .i64))[j]? = some u → w.cell? (ad.add j) = some u := by
  intro j u hu
  obtain ⟨a, c', e1, _, h⟩ := h
  rw [List.getElem?_map] at hu
  rcases h with rfl | ⟨g, o, h1, _, h3⟩
  · simp at hu
  · cases e1
    cases h1
    cases hx : xs[j]? with
    | none => rw [hx] at hu; simp at hu
    | some x =>
      rw [hx] at hu
      simp at hu
      rw [addr_add, h3 j x hx, hu]
theorem chk_zero : chk 0 [] = 3 := by decide
theorem own_shape {w : World} {B n : Nat} {v : Value} {xs : List Value} (h : w.ownsRow B 3 1 v n xs) : ∃ a m c, v = .slice a m c := by
  rcases h.2 with ⟨rfl, _⟩ | ⟨g, cap, cur, rfl, _⟩
  · exact ⟨_, _, _, rfl⟩
  · exact ⟨_, _, _, rfl⟩
theorem NR.nil (w : World) : NR w (.slice none 0 0) [] := ⟨none, 0, rfl, by simp, .inl rfl⟩
/-- a config in a block -/
def CfIn (Q : Nat) (room : Int) (v : Value) (w : World) : Prop := w.cell? ⟨Q, 0, none⟩ = some (.int .i64 room) ∧ w.cell? ⟨Q, 1, none⟩ = some v ∧ Q < w.heap.size
theorem CfIn.go {Q : Nat} {room : Int} {v : Value} {w w' : World} (h : CfIn Q room v w) (hb : Below w.heap.size w w') : CfIn Q room v w' :=
  ⟨(hb.cell (p := ⟨Q, 0, none⟩) h.2.2).trans h.1, (hb.cell (p := ⟨Q, 1, none⟩) h.2.2).trans h.2.1, Nat.lt_of_lt_of_le h.2.2 hb.size⟩
theorem CfIn.al0 {Q : Nat} {room : Int} {v : Value} {w : World} (h : CfIn Q room v w) (o : Obj) : (w.alloc o).cell? ⟨Q, 0, none⟩ = some (.int .i64 room) := (h.go ((Below.refl _ _).alloc (Nat.le_refl _) o)).1
theorem CfIn.al1 {Q : Nat} {room : Int} {v : Value} {w : World} (h : CfIn Q room v w) (o : Obj) : (w.alloc o).cell? ⟨Q, 1, none⟩ = some v := (h.go ((Below.refl _ _).alloc (Nat.le_refl _) o)).2.1
theorem ownsRow_keepB {w w' : World} {base : Nat} {e : TypeId} {size : Nat} {v : Value} {n : Nat} {xs : List Value} (h : w.ownsRow base e size v n xs) (hk : ∀ k, v.ownBlock = some k → w'.heap[k]? = w.heap[k]?) : w'.ownsRow base e size v n xs := by
  refine ⟨h.1, ?_⟩
  rcases h.2 with h0 | ⟨g, cap, cur, rfl, hb, hg, hr⟩
  · exact .inl h0
  · exact .inr ⟨g, cap, cur, rfl, hb, (hk g rfl).trans hg, hr⟩
/-- the copy of a config, whichever was first: its memory or its numbers -/
def Copied (room : Int) (xs : List Int) (w0 : World) (p : Value) (wc : World) : Prop := ∃ q v', p = .pointer (some ⟨q, 0, none⟩) ∧ CfIn q room v' wc ∧ (∃ a n c, v' = .slice a n c) ∧ NR wc v' xs ∧ Below w0.heap.size w0 wc
theorem copied_late {room : Int} {xs : List Int} {w0 w5 : World} {v : Value} (hn : xs.length * 8 ≤ 140737488355328) (h : w5.ownsRow w0.heap.size 3 1 v (0 + xs.length) ([] ++ xs.map (Value.int .i64))) (hb : Below w0.heap.size w0 w5) : Copied room xs w0 (.pointer (some ⟨w5.heap.size, 0, none⟩)) (w5.alloc (.cells #[.int .i64 room, v] 24)) := by
  rw [Nat.zero_add, List.nil_append] at h
  exact ⟨_, _, rfl, ⟨by simp [go_sem], by simp [go_sem], by simp⟩, own_shape h, (nr_of_owns (by omega) h).below ((Below.refl _ _).alloc (Nat.le_refl _) _), hb.alloc hb.size _⟩
theorem copied_early {room : Int} {xs : List Int} {w0 w5 : World} {v : Value} (hn : xs.length * 8 ≤ 140737488355328) (h : w5.ownsRow (w0.heap.size + 1) 3 1 v (0 + xs.length) ([] ++ xs.map (Value.int .i64))) (hb : Below (w0.heap.size + 1) (w0.alloc (.cells #[.int .i64 0, .slice none 0 0] 24)) w5) :
    Copied room xs w0 (.pointer (some ⟨w0.heap.size, 0, none⟩)) ((w5.setCell ⟨w0.heap.size, 0, none⟩ (.int .i64 room)).setCell ⟨w0.heap.size, 1, none⟩ v) := by
  rw [Nat.zero_add, List.nil_append] at h
  have q2 : w5.cell? ⟨w0.heap.size, 0, none⟩ = some (.int .i64 0) := (hb.cell (p := ⟨w0.heap.size, 0, none⟩) (by simp)).trans (by simp [go_sem])
  have q3 : w5.cell? ⟨w0.heap.size, 1, none⟩ = some (.slice none 0 0) := (hb.cell (p := ⟨w0.heap.size, 1, none⟩) (by simp)).trans (by simp [go_sem])
  have hs := hb.size
  simp at hs
  have hbw : Below w0.heap.size w0 w5 := ((Below.refl _ _).alloc (Nat.le_refl _) _).trans (hb.mono (by omega))
  refine ⟨_, _, rfl, ⟨by simp [go_sem, q2], by simp [go_sem, q3], by simp [World.setCell]; omega⟩, own_shape h, nr_of_owns (by omega) (ownsRow_keepB h fun k e => ?_), (hbw.setCell (Nat.le_refl _) _).setCell (Nat.le_refl _) _⟩
  have hl := (h.lt k e).1
  rw [Below.heap_setCell _ _ _ _ (by show k ≠ w0.heap.size; omega), Below.heap_setCell _ _ _ _ (by show k ≠ w0.heap.size; omega)]

set_option maxRecDepth 20000 in
set_option maxHeartbeats 4000000 in
theorem checks_law (room : Int) (v : Value) (xs : List Int) (w : World) (h : NR w v xs) (hnil : ∀ n c, v = .slice none n c → c = 0) (hlen : xs.length * 8 ≤ 140737488355328) :
    Calls Try.prog 3 #[.agg #[.int .i64 room, v]] w fun e w' => e = .returned (.bool true) ∧ Below w.heap.size w w' := by
  obtain ⟨va, vn, vc, rfl⟩ : ∃ a n c, v = .slice a n c := by obtain ⟨a, c, rfl, _⟩ := h; exact ⟨_, _, _, rfl⟩
  have hb0 : Below w.heap.size w (w.alloc (.cells #[.int .i64 room, .slice va vn vc] 24)) := (Below.refl _ _).alloc (Nat.le_refl _) _
  have N0 := h.below hb0
  have C0 : CfIn w.heap.size room (.slice va vn vc) (w.alloc (.cells #[.int .i64 room, .slice va vn vc] 24)) := ⟨by simp [go_sem], by simp [go_sem], by simp⟩
  generalize hw0 : w.alloc (.cells #[.int .i64 room, .slice va vn vc] 24) = w0 at *
  have c0 := C0.1
  have c1 := C0.2.1
  have c0' : ∀ o, (w0.alloc o).cell? ⟨w.heap.size, 0, none⟩ = some (.int .i64 room) := fun o => (C0.go ((Below.refl _ _).alloc (Nat.le_refl _) o)).1
  have c1' : ∀ o, (w0.alloc o).cell? ⟨w.heap.size, 1, none⟩ = some (.slice va vn vc) := fun o => (C0.go ((Below.refl _ _).alloc (Nat.le_refl _) o)).2.1
  have hne : w.heap.size ≠ w0.heap.size := Nat.ne_of_lt C0.2.2
  obtain ⟨i0, hi, hz0, hz1, hz2⟩ := info_parts Try.infoI
  have HC0 := hid C0
  have HN0 := hid N0
  have HB0 := hid hb0
  clear h C0 N0 hb0
  go_enter Try.func3, Try.ntmps3
  go_wp2_with fail
  go_cut [3] from 4 to 9 (fun p wc => Copied room xs w0 p wc)
  case first =>
    cases va with
    | none =>
      have hc := hnil _ vc rfl
      subst hc
      have hx : xs = [] := by
        obtain ⟨a, c, e1, _, h⟩ := HN0.out
        rcases h with h | ⟨g, o, h1, _⟩
        · exact h
        · cases e1; cases h1
      subst hx
      have hv : vn = 0 := by
        obtain ⟨a, c, e1, _⟩ := HN0.out
        cases e1; rfl
      subst hv
      go_region
      all_goals
        go_wp2_with fail
        go_meet
        case rel => exact ⟨_, _, rfl, ⟨by simp [go_sem], by simp [go_sem], by simp⟩, ⟨_, _, _, rfl⟩, NR.nil _, ((Below.refl _ _).alloc (Nat.le_refl _) _).drew⟩
    | some ad =>
      have hvn : vn = xs.length := by
        obtain ⟨a, c, e1, _⟩ := HN0.out
        cases e1; rfl
      subst hvn
      go_region_law (first
        | (refine step_append_own w0.drew (by rfl) _ _ 22 (by rfl) w0.heap.size 3 i0 (.int .i64 0) 1 8 Try.underlying22 hi hz0 hz1 hz2 rfl (by decide) (.slice none 0 0) 0 [] (by rfl) (World.ownsRow_nil _ _ _ _) ad xs.length vc (xs.map (Value.int .i64)) (by rfl) (by simp) (nr_news (HN0.out.below (Below.refl _ _).drew)) (ints_one xs) (by unfold maxLen; omega) (by omega) (by simp) ?_; intro v5 w5 hown5 hgrow5 hnil5; obtain ⟨g5, n5, c5, rfl⟩ := own_shape hown5; have hb5 : Below w0.heap.size w0 w5 := (Below.refl _ _).drew.grown hgrow5 (by simp) (by intro k hk; simp [Value.ownBlock] at hk); have C5 := HC0.out.go hb5; have q0 := C5.1; have q1 := C5.2.1; have q0' := C5.al0; have q1' := C5.al1; have hne5 := Nat.ne_of_lt C5.2.2)
        | (refine step_append_own (w0.alloc (.cells #[.int .i64 0, .slice none 0 0] 24)).drew (by rfl) _ _ 22 (by rfl) (w0.heap.size + 1) 3 i0 (.int .i64 0) 1 8 Try.underlying22 hi hz0 hz1 hz2 rfl (by decide) (.slice none 0 0) 0 [] (by rfl) (World.ownsRow_nil _ _ _ _) ad xs.length vc (xs.map (Value.int .i64)) (by rfl) (by simp) (nr_news (HN0.out.below ((Below.refl _ _).alloc (Nat.le_refl _) _).drew)) (ints_one xs) (by unfold maxLen; omega) (by omega) (by simp) ?_; intro v5 w5 hown5 hgrow5 hnil5; obtain ⟨g5, n5, c5, rfl⟩ := own_shape hown5; have hb5 : Below (w0.heap.size + 1) (w0.alloc (.cells #[.int .i64 0, .slice none 0 0] 24)) w5 := (Below.refl _ _).drew.grown hgrow5 (by simp) (by intro k hk; simp [Value.ownBlock] at hk); have C5 := (HC0.out.go ((Below.refl _ _).alloc (Nat.le_refl _) (.cells #[.int .i64 0, .slice none 0 0] 24))).go (hb5.mono (by simp)); have q0 := C5.1; have q1 := C5.2.1; have q2 := hb5.cell (p := ⟨w0.heap.size, 0, none⟩) (by simp); have q3 := hb5.cell (p := ⟨w0.heap.size, 1, none⟩) (by simp); have q4 := fun i => hb5.frozen (p := ⟨w0.heap.size, i, none⟩) (by simp)))
      all_goals
        go_wp2_with fail
        go_meet
        case rel => first | exact copied_late hlen hown5 hb5 | exact copied_early hlen hown5 hb5
  case rest =>
    obtain ⟨q, v', rfl, C1, ⟨a1, n1, k1, rfl⟩, N1, hb1⟩ := hcut
    have D1 := HC0.out.go hb1
    have M1 := HN0.out.below hb1
    have hb : Below w.heap.size w wc := HB0.out.trans (hb1.mono HB0.out.size)
    have HCH := fun W (hW : Below wc.heap.size wc W) => check_any room (.slice a1 n1 k1) xs W (N1.below hW)
    have HRF := fun W (hW : Below wc.heap.size wc W) => refCheck_any room (.slice va vn vc) xs W (M1.below hW)
    have HZ := fun W => check_any 0 (.slice none 0 0) [] W (NR.nil W)
    rw [chk_zero] at HZ
    have HB := hid hb
    have hW0 : Below wc.heap.size wc wc := Below.refl _ _
    have p0 := C1.1
    have p1 := C1.2.1
    have r0 := D1.1
    have r1 := D1.2.1
    have F1 := fun W (hW : Below wc.heap.size wc W) => C1.go hW
    have F2 := fun W (hW : Below wc.heap.size wc W) => D1.go hW
    clear c0 c1 c0' c1' hne hb hlen C1 D1 N1 M1
    generalize chk room xs = R at *
    go_wp2_with fail
    go_region_with (first
      | (go_at_call_of 4 (Value.agg #[Value.int IntKind.i64 room, Value.slice a1 n1 k1]); refine (HCH _ ?_).mono ?_; (first | exact hW0.drew | exact hW0); rintro e w1 ⟨rfl, hb1⟩; have hW0 : Below wc.heap.size wc w1 := (by first | exact hW0.drew.trans (hb1.mono hW0.drew.size) | exact hW0.trans (hb1.mono hW0.size)); have p0 := (F1 _ hW0).1; have p1 := (F1 _ hW0).2.1; have r0 := (F2 _ hW0).1; have r1 := (F2 _ hW0).2.1)
      | (go_at_call_of 5 (Value.agg #[Value.int IntKind.i64 room, Value.slice va vn vc]); refine (HRF _ ?_).mono ?_; (first | exact hW0.drew | exact hW0); rintro e w1 ⟨rfl, hb1⟩; have hW0 : Below wc.heap.size wc w1 := (by first | exact hW0.drew.trans (hb1.mono hW0.drew.size) | exact hW0.trans (hb1.mono hW0.size)); have p0 := (F1 _ hW0).1; have p1 := (F1 _ hW0).2.1; have r0 := (F2 _ hW0).1; have r1 := (F2 _ hW0).2.1)
      | (go_at_call_of 4 (Value.agg #[Value.int IntKind.i64 0, Value.slice none 0 0]); refine (HZ _).mono ?_; rintro e w1 ⟨rfl, hb1⟩; have hW0 : Below wc.heap.size wc w1 := (by first | exact hW0.drew.trans (hb1.mono hW0.drew.size) | exact hW0.trans (hb1.mono hW0.size))))
    all_goals
      go_wp2_with fail
      go_ret
      exact ⟨rfl, HB.out.trans (hW0.mono HB.out.size)⟩
end Go.Proofs.Ytimggbogoacldaa
