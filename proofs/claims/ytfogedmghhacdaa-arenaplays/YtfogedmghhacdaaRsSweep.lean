/- The plain store: Sweep; its things turned. -/
import Derived.Test.YtfogedmghhacdaaRsRecall
namespace Go.Proofs.Ytfogedmghhacdaa.A
open Go.RowKit

theorem row_slice {w : World} {B m k : Nat} {v : Value} {n : Nat} {l : List Value} (h : w.ownsRow B m k v n l) : ∃ a c, v = .slice a n c ∧ (n = 0 ∨ ∃ g, a = some ⟨g, 0, none⟩) := by
  rcases h.2 with ⟨h1, h2⟩ | ⟨g, cap, cur, h1, _⟩
  · exact ⟨none, 0, by rw [h1, h2], .inl h2⟩
  · exact ⟨_, _, h1, .inr ⟨g, rfl⟩⟩
theorem row_base {w : World} {B C m k : Nat} {v : Value} {n : Nat} {l : List Value} (h : w.ownsRow B m k v n l) (hc : C ≤ B) : w.ownsRow C m k v n l := by
  refine ⟨h.1, ?_⟩
  rcases h.2 with e | ⟨g, cap, cur, h1, h2, h3⟩
  · exact .inl e
  · exact .inr ⟨g, cap, cur, h1, Nat.le_trans hc h2, h3⟩
theorem Try.info84 : (Try.prog.info? 84).map (fun i => (i.zero, i.size, i.bytes)) = some (some noRt.val, 9, 72) := by kernel_rfl
/-- what is somebody's -/
def sweptL (l : List Rt) : List Rt := l.filter fun x => x.mask != 0
def St.swept (S : St) : St := { S with ths := sweptL S.ths }
theorem swept_succ {l : List Rt} {i : Nat} {x : Rt} (h : l[i]? = some x) : sweptL (l.take (i + 1)) = sweptL (l.take i) ++ (if (x.mask != 0) = true then [x] else []) := by
  unfold sweptL
  rw [List.take_add_one, h, Option.toList_some, List.filter_append]
  congr 1
  cases hl : (x.mask != 0) <;> simp [hl]
theorem swept_le (l : List Rt) (i : Nat) : (sweptL (l.take i)).length ≤ i := Nat.le_trans (List.length_filter_le _ _) (List.length_take_le _ _)
theorem rt_one (x : Rt) : rtL [x] = x.cells := by simp [rtL]
theorem rt_news (w : World) (x : Rt) : ∀ j u, x.cells[j]? = some u → (w.alloc (.cells #[.int .i64 x.id, .int .i64 x.k, .int .i64 x.lv, .int .i64 x.va, .int .i64 x.p0, .int .i64 x.p1, .int .i64 x.p2, .int .i64 x.p3, .int .u64 x.mask] 84)).cell? ((⟨w.heap.size, 0, none⟩ : Addr).add j) = some u :=
  World.news_of_block (heap_alloc_new w (.cells #[.int .i64 x.id, .int .i64 x.k, .int .i64 x.lv, .int .i64 x.va, .int .i64 x.p0, .int .i64 x.p1, .int .i64 x.p2, .int .i64 x.p3, .int .u64 x.mask] 84))
theorem rt_one_cells (x : Rt) : ∀ u ∈ x.cells, u.oneCell' = true := by
  intro u hu
  simp only [Rt.cells, List.mem_cons, List.not_mem_nil, or_false] at hu
  rcases hu with rfl | rfl | rfl | rfl | rfl | rfl | rfl | rfl | rfl <;> rfl

section
variable {w w1 : World} {b : Nat} {G G' : Nat → Prop} {S : St} {r : Sr}
/-- the things' slice is another now -/
theorem StRaw.setThs (h : StRaw w b G S r) {v : Value} {l : List Rt} (hrow : RtRow w1 v l) (hG : ∀ k, G k → G' k) (hv : ∀ k, v.ownBlock = some k → G' k ∧ (r.vth.ownBlock = some k ∨ ¬ G k)) (hlt : ∀ k, G' k → k < w1.heap.size)
    (hb : ∀ k, G k → r.vth.ownBlock ≠ some k → w1.heap[k]? = w.heap[k]?) : StRaw (w1.setCell ⟨b, 1, none⟩ v) b G' { S with ths := l } { r with vth := v } := by
  have nb : ∀ k, v.ownBlock = some k → k ≠ b := fun k hk e => by
    rcases (hv k hk).2 with h1 | h1
    · exact h.vb (e ▸ h1)
    · exact h1 (e ▸ h.fb)
  refine ⟨(h.raw.go (hb b h.fb h.vb)).setTh v, h.room, row_other hrow fun k hk => heap_set (nb k hk), h.quota, fun u hu => row_other (h.since u hu) fun k hk => (heap_set (k := k) (g := b) fun e' => h.tb hu (e' ▸ hk)).trans (hb k (h.ft u hu k hk) fun e => h.vt hu e hk), h.apt, hG _ h.fb, fun k hk => (hv k hk).1, fun u hu k hk => hG _ (h.ft u hu k hk), fun k hk => by rw [size_set]; exact hlt k hk⟩
end

set_option maxRecDepth 20000 in
set_option maxHeartbeats 4000000 in
theorem sweepS_any (b : Nat) (G : Nat → Prop) (S : St) (w : World) (h : StAt w b G S) (hT : Tame S) :
    Calls Try.prog 37 #[.pointer (some ⟨b, 0, none⟩)] w fun e w' => e = .returned (.int .i64 ((S.ths.length : Int) - (sweptL S.ths).length)) ∧ LedS w b G S.swept w' := by
  obtain ⟨r, h⟩ := h
  have c1 := h.raw.at 1 (by omega)
  have hblt := h.raw.lt
  rw [Sr.c1] at c1
  obtain ⟨a, c, hv⟩ := h.ths.shape
  rw [hv] at c1
  have HH : Hid (StRaw w b G S r) := h
  have HV : Hid (r.vth = .slice a S.ths.length c) := hv
  have HT : Hid (Tame S) := hT
  obtain ⟨n, hn⟩ : ∃ n, n = S.ths.length := ⟨_, rfl⟩
  rw [← hn] at c1 ⊢
  have HN : Hid (n = S.ths.length) := hn
  have hnb : n < 900000 := by rw [hn]; exact hT.len
  obtain ⟨i0, hi, hz0, hz1, hz2⟩ := info_parts Try.info84
  clear hn h hv hT
  go_enter Try.func37, Try.ntmps37
  go_wp2_with fail
  go_loopg [12, 3] n (fun gh s12 s3 wr => ∃ (i : Nat) (sv : Value), i + gh = n ∧ s12 = .int .i64 i ∧ sv = s3 ∧ wr.ownsRow w.heap.size 84 9 sv (sweptL (S.ths.take i)).length (rtL (sweptL (S.ths.take i))) ∧ Below w.heap.size w wr)
  case atStart => exact ⟨0, _, by omega, rfl, rfl, by rw [List.take_zero]; exact World.ownsRow_nil _ _ _ _, Below.refl _ _⟩
  case round =>
    obtain ⟨i, sv, hig, rfl, rfl, hown, hbr⟩ := hrel
    have HIG : Hid (i + gk = n) := hig
    have HBR : Hid (Below w.heap.size w wr) := hbr
    have HOWN : Hid (wr.ownsRow w.heap.size 84 9 sv (sweptL (S.ths.take i)).length (rtL (sweptL (S.ths.take i)))) := hown
    clear hig hown
    by_cases hlt : i < n
    · obtain ⟨x, hx⟩ : ∃ x, S.ths[i]? = some x := ⟨_, List.getElem?_eq_getElem (by rw [← HN.out]; exact hlt)⟩
      obtain ⟨g, c', hg, hgl, hcs⟩ := HH.out.elem hx
      have hgv := HV.out
      rw [hg] at hgv
      simp only [Value.slice.injEq] at hgv
      obtain ⟨rfl, _, _⟩ := hgv
      obtain ⟨d0, d1, d2, d3, d4, d5, d6, d7, d8⟩ := hcs
      have kc := fun j => hbr.cell (p := ⟨g, j, none⟩) hgl
      have d0 := (kc _).trans d0
      have d1 := (kc _).trans d1
      have d2 := (kc _).trans d2
      have d3 := (kc _).trans d3
      have d4 := (kc _).trans d4
      have d5 := (kc _).trans d5
      have d6 := (kc _).trans d6
      have d7 := (kc _).trans d7
      have d8 := (kc _).trans d8
      have HS := swept_succ hx
      have HS' : Hid (sweptL (S.ths.take (i + 1)) = _) := HS
      have HLB : Hid ((sweptL (S.ths.take i)).length ≤ i ∧ i < 900000 ∧ w.heap.size ≤ wr.heap.size) := ⟨swept_le _ _, by omega, hbr.size⟩
      have k0 : (0 : Int) ≤ (i : Int) := by omega
      have k1 : (i : Int) < (n : Int) := by omega
      clear kc hx hg hbr HS
      by_cases hm : x.mask = 0
      · have hm' : ((x.mask : Int) != 0) = false := by simp [hm]
        have HM : Hid ((x.mask != 0) = false) := show _ = _ by simp [hm]
        clear hm
        go_wp2_with fail
        go_roundg (gk - 1)
        case measure => have := HIG.out; omega
        case rel => exact ⟨i + 1, sv, by have := HIG.out; omega, by go_num, rfl, by rw [HS'.out, if_neg (by rw [HM.out]; decide), List.append_nil]; exact HOWN.out.alloc _, HBR.out.alloc HBR.out.size _⟩
      · have hm' : ((x.mask : Int) != 0) = true := by simpa using hm
        have HM : Hid ((x.mask != 0) = true) := show _ = _ by simpa using hm
        clear hm
        go_wp2_with (at_builtin; refine wpList_append_own _ rfl _ _ 39 rfl w.heap.size 84 i0 noRt.val 9 72 Try.underlying39 hi hz0 hz1 hz2 rfl (by decide) _ _ _ rfl ((HOWN.out.alloc _).alloc _) ⟨wr.heap.size + 1, 0, none⟩ 1 1 x.cells rfl rfl ?c1 ?c2 ?c3 ?c4 ?c5 ?_)
        case c1 => simpa using rt_news (wr.alloc _) x
        case c2 => exact rt_one_cells x
        case c3 => unfold maxLen; have := HLB.out; omega
        case c4 => have := HLB.out; omega
        case c5 => have := HLB.out; simp; omega
        intro v' w9 hown' hgrow _
        go_wp2_with fail
        go_roundg (gk - 1)
        case measure => have := HIG.out; omega
        case rel => exact ⟨i + 1, v', by have := HIG.out; omega, by go_num, rfl, by rw [HS'.out, if_pos HM.out, rtL_append, rt_one, List.length_append]; exact hown', ((HBR.out.alloc HBR.out.size _).alloc (by have := HBR.out.size; simp; omega) _).grown hgrow (by have := HBR.out.size; simp; omega) (fun g hg => (HOWN.out.lt g hg).1)⟩
    · have k1 : ¬ (i : Int) < (n : Int) := by omega
      have HOW : Hid (wr.ownsRow w.heap.size 84 9 sv (sweptL S.ths).length (rtL (sweptL S.ths))) := by
        have h := HOWN.out
        rw [List.take_of_length_le (by rw [← HN.out]; omega)] at h
        exact h
      have HSL : Hid ((sweptL S.ths).length ≤ n) := by rw [HN.out]; exact List.length_filter_le _ _
      have HEND : Hid (LedS w b G S.swept (wr.setCell ⟨b, 1, none⟩ sv)) := by
        refine ⟨fun k => G k ∨ sv.ownBlock = some k, fun k hk => ?_, ⟨_, HH.out.setThs (w1 := wr) (G' := fun k => G k ∨ sv.ownBlock = some k) (row_base HOW.out (Nat.zero_le _)) (fun _ h => .inl h) (fun k hk => ⟨.inr hk, .inr fun hg => ?_⟩) (fun k hk => ?_) fun k hk _ => HBR.out.block k (HH.out.flt k hk)⟩, ?_⟩
        · rcases hk with e | e
          · exact .inl e
          · exact .inr (HOW.out.lt k e).1
        · have := (HOW.out.lt k hk).1; have := HH.out.flt k hg; omega
        · rcases hk with e | e
          · exact Nat.lt_of_lt_of_le (HH.out.flt k e) HBR.out.size
          · exact (HOW.out.lt k e).2
        · exact ((Apart.of HBR.out).trans (Apart.set wr sv HH.out.fb) fun k hk => .inl hk)
      obtain ⟨a8, c8, hsv, _⟩ := row_slice HOW.out
      have cb := (hbr.cell (p := ⟨b, 1, none⟩) hblt).trans c1
      have fb := (World.frozen?_of_block (w := w) (a := ⟨b, 1, none⟩) (hbr.block b hblt)).trans (HH.out.raw.frozen 1)
      have hsl := HSL.out
      obtain ⟨m, hm⟩ : ∃ m, m = (sweptL S.ths).length := ⟨_, rfl⟩
      rw [← hm] at hsv hsl
      have HM : Hid (m = (sweptL S.ths).length) := hm
      clear hm HOW HOWN hbr c1
      subst hsv
      go_wp2_with fail
      go_ret
      rw [← HM.out]
      exact ⟨rfl, HEND.out⟩
end Go.Proofs.Ytfogedmghhacdaa.A
