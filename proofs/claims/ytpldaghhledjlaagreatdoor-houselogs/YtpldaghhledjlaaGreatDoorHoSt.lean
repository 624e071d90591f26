/- A house in memory, its blocks labelled. -/
import Derived.Test.YtpldaghhledjlaaGreatDoorHoLab
import Derived.Test.YtpldaghhledjlaaGreatDoorHoApp
import Derived.Test.YtpldaghhledjlaaGreatDoorTuRead
namespace Go.Proofs.YtpldaghhledjlaaGreatDoor.H
open Go.RowKit

/-- what a house holds, as far as it matters here: its turns, how many lines stay behind, how often it has ticked, its log -/
structure Hs where
  T : Tu
  ds : List Nat
  ticks : Nat
  log : List UInt8
/-- where it lies -/
structure Hm where
  av : Value
  tb : Nat
  R : Nat
  pr : Nat
  cp : Nat
  pbs : List Nat
/-- the labels of a house: 1 itself, 2 its turns, 3 its ports' row, 4 its log; of a tenant t: 10 + 3 t its port, 11 + 3 t what is behind, 12 + 3 t what it was told -/
def HL (l : Nat) : Prop := (1 ≤ l ∧ l ≤ 4) ∨ (10 ≤ l ∧ l < 1000)
structure PoAt (w : World) (o : Nat → Nat) (t pb d M : Nat) : Prop where
  lab : o pb = 10 + 3 * t
  ex : ∃ hv bv tv, ∃ l : List UInt8, PoB w pb hv ⟨#[]⟩ bv tv ∧ Qs w bv d ∧ (∀ k, QsOwn bv k → o k = 11 + 3 * t) ∧ w.ownsRow 0 5 1 tv l.length (Lib.byteCells l) ∧ (∀ k, tv.ownBlock = some k → o k = 12 + 3 * t) ∧ l.length ≤ M
structure HoAt (w : World) (o : Nat → Nat) (hb : Nat) (c : Hm) (S : Hs) (M : Nat) : Prop where
  own : o hb = 1
  turns : ∃ vs, TuAt w 0 c.tb c.R vs S.T ∧ ∀ k, TuOwn c.tb c.R vs k → o k = 2
  prl : o c.pr = 3
  prs : c.pr < w.heap.size
  ports : ∀ t pb, c.pbs[t]? = some pb → w.cell? ⟨c.pr, t, none⟩ = some (.pointer (some ⟨pb, 0, none⟩))
  cap : S.T.n ≤ c.cp
  cap2 : c.cp ≤ maxLen
  plen : c.pbs.length = S.T.n
  dlen : S.ds.length = S.T.n
  log : ∃ lv, HoB w hb c.av (.pointer (some ⟨c.tb, 0, none⟩)) (.slice (some ⟨c.pr, 0, none⟩) S.T.n c.cp) S.ticks lv ∧ w.ownsRow 0 5 1 lv S.log.length (Lib.byteCells S.log) ∧ ∀ k, lv.ownBlock = some k → o k = 4
  port : ∀ t pb d, c.pbs[t]? = some pb → S.ds[t]? = some d → PoAt w o t pb d M
variable {L : Nat → Prop} {o o' : Nat → Nat} {w w' : World} {hb : Nat} {c : Hm} {S : Hs} {M : Nat}
theorem Ch.at (h : Ch L o w o' w') {k l : Nat} (hk : k < w.heap.size) (hl : o k = l) (hn : ¬ L l) : w'.heap[k]? = w.heap[k]? ∧ o' k = l := ⟨h.block k hk (by rw [hl]; exact hn), (h.lab k hk).trans hl⟩
theorem PoAt.lt {t pb d : Nat} (h : PoAt w o t pb d M) : pb < w.heap.size := by
  obtain ⟨hv, bv, tv, l, h1, _⟩ := h.ex
  exact (Array.getElem?_eq_some_iff.1 h1).1
theorem PoAt.ch {t pb d : Nat} (h : PoAt w o t pb d M) (c : Ch L o w o' w') (h0 : ¬ L (10 + 3 * t)) (h1 : ¬ L (11 + 3 * t)) (h2 : ¬ L (12 + 3 * t)) : PoAt w' o' t pb d M := by
  have hlt := h.lt
  obtain ⟨hv, bv, tv, l, k1, k2, k3, k4, k5, k6⟩ := h.ex
  refine ⟨(c.at hlt h.lab h0).2, hv, bv, tv, l, (c.at hlt h.lab h0).1.trans k1, k2.keep fun k hk => (c.at (k2.lt hk) (k3 k hk) h1).1, fun k hk => (c.at (k2.lt hk) (k3 k hk) h1).2, ownsRow_keepB k4 fun k hk => (c.at (k4.lt k hk).2 (k5 k hk) h2).1, fun k hk => (c.at (k4.lt k hk).2 (k5 k hk) h2).2, k6⟩
theorem PoAt.more {t pb d N : Nat} (h : PoAt w o t pb d M) (hn : M ≤ N) : PoAt w o t pb d N := by
  obtain ⟨hv, bv, tv, l, k1, k2, k3, k4, k5, k6⟩ := h.ex
  exact ⟨h.lab, hv, bv, tv, l, k1, k2, k3, k4, k5, Nat.le_trans k6 hn⟩
theorem HoAt.n64 (h : HoAt w o hb c S M) : 1 ≤ S.T.n ∧ S.T.n ≤ 64 := by
  obtain ⟨vs, h1, _⟩ := h.turns
  exact ⟨h1.pos, h1.le⟩
theorem HoAt.hlt (h : HoAt w o hb c S M) : hb < w.heap.size := by
  obtain ⟨lv, h1, _⟩ := h.log
  exact (Array.getElem?_eq_some_iff.1 h1).1
/-- what is not the house's has changed -/
theorem HoAt.ch (h : HoAt w o hb c S M) (k : Ch L o w o' w') (hn : ∀ l, L l → ¬ HL l) : HoAt w' o' hb c S M := by
  have hL : ∀ l, HL l → ¬ L l := fun l h1 h2 => hn l h2 h1
  have h64 := h.n64
  have hlt := h.hlt
  obtain ⟨vs, t1, t2⟩ := h.turns
  obtain ⟨lv, l1, l2, l3⟩ := h.log
  have n1 := hL 1 (.inl (by omega))
  have n2 := hL 2 (.inl (by omega))
  have n3 := hL 3 (.inl (by omega))
  have n4 := hL 4 (.inl (by omega))
  refine ⟨(k.at hlt h.own n1).2, ⟨vs, t1.keep fun i hi => (k.at (t1.lt i hi).2 (t2 i hi) n2).1, fun i hi => (k.at (t1.lt i hi).2 (t2 i hi) n2).2⟩, (k.at h.prs h.prl n3).2, Nat.lt_of_lt_of_le h.prs k.size, fun t pb ht => (World.cell?_of_block (a := ⟨c.pr, t, none⟩) (k.at h.prs h.prl n3).1).trans (h.ports t pb ht), h.cap, h.cap2, h.plen, h.dlen, ⟨lv, (k.at hlt h.own n1).1.trans l1, ownsRow_keepB l2 fun i hi => (k.at (l2.lt i hi).2 (l3 i hi) n4).1, fun i hi => (k.at (l2.lt i hi).2 (l3 i hi) n4).2⟩, fun t pb d hp hd => ?_⟩
  have ht : t < S.T.n := by rw [← h.plen]; exact (List.getElem?_eq_some_iff.1 hp).1
  exact (h.port t pb d hp hd).ch k (hL _ (.inr (by omega))) (hL _ (.inr (by omega))) (hL _ (.inr (by omega)))
/-- the turns have changed -/
theorem HoAt.setT (h : HoAt w o hb c S M) {vs' : List Value} {T' : Tu} (k : Ch (fun l => l = 2) o w o' w') (ht : TuAt w' 0 c.tb c.R vs' T') (hl : ∀ i, TuOwn c.tb c.R vs' i → o' i = 2) (hn : T'.n = S.T.n) : HoAt w' o' hb c ⟨T', S.ds, S.ticks, S.log⟩ M := by
  have h64 := h.n64
  have hlt := h.hlt
  obtain ⟨lv, l1, l2, l3⟩ := h.log
  have n1 : ¬ (1 : Nat) = 2 := by omega
  have n3 : ¬ (3 : Nat) = 2 := by omega
  have n4 : ¬ (4 : Nat) = 2 := by omega
  refine ⟨(k.at hlt h.own n1).2, ⟨vs', ht, hl⟩, (k.at h.prs h.prl n3).2, Nat.lt_of_lt_of_le h.prs k.size, fun t pb ht => (World.cell?_of_block (a := ⟨c.pr, t, none⟩) (k.at h.prs h.prl n3).1).trans (h.ports t pb ht), by rw [hn]; exact h.cap, h.cap2, h.plen.trans hn.symm, h.dlen.trans hn.symm, ⟨lv, ?_, ownsRow_keepB l2 fun i hi => (k.at (l2.lt i hi).2 (l3 i hi) n4).1, fun i hi => (k.at (l2.lt i hi).2 (l3 i hi) n4).2⟩, fun t pb d hp hd => (h.port t pb d hp hd).ch k (by omega) (by omega) (by omega)⟩
  show HoB w' hb c.av _ (.slice (some ⟨c.pr, 0, none⟩) T'.n c.cp) _ lv
  rw [hn]
  exact (k.at hlt h.own n1).1.trans l1
/-- a port has changed -/
theorem HoAt.setP (h : HoAt w o hb c S M) {N t d' : Nat} (k : Ch (fun l => 10 + 3 * t ≤ l ∧ l ≤ 12 + 3 * t) o w o' w') (hM : M ≤ N) (hp : ∀ pb, c.pbs[t]? = some pb → PoAt w' o' t pb d' N) : HoAt w' o' hb c ⟨S.T, S.ds.set t d', S.ticks, S.log⟩ N := by
  have h64 := h.n64
  have hlt := h.hlt
  obtain ⟨vs, t1, t2⟩ := h.turns
  obtain ⟨lv, l1, l2, l3⟩ := h.log
  have n1 : ¬ (10 + 3 * t ≤ 1 ∧ 1 ≤ 12 + 3 * t) := by omega
  have n2 : ¬ (10 + 3 * t ≤ 2 ∧ 2 ≤ 12 + 3 * t) := by omega
  have n3 : ¬ (10 + 3 * t ≤ 3 ∧ 3 ≤ 12 + 3 * t) := by omega
  have n4 : ¬ (10 + 3 * t ≤ 4 ∧ 4 ≤ 12 + 3 * t) := by omega
  refine ⟨(k.at hlt h.own n1).2, ⟨vs, t1.keep fun i hi => (k.at (t1.lt i hi).2 (t2 i hi) n2).1, fun i hi => (k.at (t1.lt i hi).2 (t2 i hi) n2).2⟩, (k.at h.prs h.prl n3).2, Nat.lt_of_lt_of_le h.prs k.size, fun t pb ht => (World.cell?_of_block (a := ⟨c.pr, t, none⟩) (k.at h.prs h.prl n3).1).trans (h.ports t pb ht), h.cap, h.cap2, h.plen, by show (S.ds.set t d').length = _; rw [List.length_set]; exact h.dlen, ⟨lv, (k.at hlt h.own n1).1.trans l1, ownsRow_keepB l2 fun i hi => (k.at (l2.lt i hi).2 (l3 i hi) n4).1, fun i hi => (k.at (l2.lt i hi).2 (l3 i hi) n4).2⟩, fun u pb d hu hd => ?_⟩
  change (S.ds.set t d')[u]? = some d at hd
  rw [List.getElem?_set] at hd
  by_cases htu : t = u
  · subst htu
    rw [if_pos rfl] at hd
    split at hd
    · cases hd; exact hp pb hu
    · cases hd
  · rw [if_neg htu] at hd
    exact ((h.port u pb d hu hd).ch k (by omega) (by omega) (by omega)).more hM
/-- the house's own block and its log have changed -/
theorem HoAt.setL (h : HoAt w o hb c S M) {lv' : Value} {n' : Nat} {log' : List UInt8} (k : Ch (fun l => l = 1 ∨ l = 4) o w o' w') (h1 : HoB w' hb c.av (.pointer (some ⟨c.tb, 0, none⟩)) (.slice (some ⟨c.pr, 0, none⟩) S.T.n c.cp) n' lv') (h2 : w'.ownsRow 0 5 1 lv' log'.length (Lib.byteCells log')) (h3 : ∀ k, lv'.ownBlock = some k → o' k = 4) : HoAt w' o' hb c ⟨S.T, S.ds, n', log'⟩ M := by
  have hlt := h.hlt
  obtain ⟨vs, t1, t2⟩ := h.turns
  have n2 : ¬ ((2 : Nat) = 1 ∨ (2 : Nat) = 4) := by omega
  have n3 : ¬ ((3 : Nat) = 1 ∨ (3 : Nat) = 4) := by omega
  exact ⟨(k.lab hb hlt).trans h.own, ⟨vs, t1.keep fun i hi => (k.at (t1.lt i hi).2 (t2 i hi) n2).1, fun i hi => (k.at (t1.lt i hi).2 (t2 i hi) n2).2⟩, (k.at h.prs h.prl n3).2, Nat.lt_of_lt_of_le h.prs k.size, fun t pb ht => (World.cell?_of_block (a := ⟨c.pr, t, none⟩) (k.at h.prs h.prl n3).1).trans (h.ports t pb ht), h.cap, h.cap2, h.plen, h.dlen, ⟨lv', h1, h2, h3⟩, fun t pb d hp hd => (h.port t pb d hp hd).ch k (by omega) (by omega) (by omega)⟩
theorem HoAt.more {N : Nat} (h : HoAt w o hb c S M) (hn : M ≤ N) : HoAt w o hb c S N :=
  ⟨h.own, h.turns, h.prl, h.prs, h.ports, h.cap, h.cap2, h.plen, h.dlen, h.log, fun t pb d hp hd => (h.port t pb d hp hd).more hn⟩
end Go.Proofs.YtpldaghhledjlaaGreatDoor.H
