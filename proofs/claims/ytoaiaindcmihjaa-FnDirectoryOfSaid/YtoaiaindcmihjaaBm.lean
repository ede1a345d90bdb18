/-
  Buckets marked: laws.markBucketS, heldBucketS, eqBucketS.
-/
import Derived.Test.YtoaiaindcmihjaaBk
import Derived.Test.YtoaiaindcmihjaaTb
import Derived.Test.YtoaiaindcmihjaaNI
namespace Go.Proofs.Ytoaiaindcmihjaa
open Go.RowKit

theorem flat3_set {l : List Bc} : ∀ {i : Nat} {c c' : Bc}, l[i]? = some c → ((flat3 l).set (i * 3) (.int .i64 c'.1)).set (i * 3 + 1) (.int .i64 c'.2.1) = flat3 (l.set i (c'.1, c'.2.1, c.2.2)) := by
  induction l with
  | nil => intro i c c' h; simp at h
  | cons q l ih =>
    intro i c c' h
    cases i with
    | zero => simp at h; subst h; rfl
    | succ i =>
      have := ih (i := i) (c := c) (c' := c') (by simpa using h)
      rw [flat3_cons, show (i + 1) * 3 = i * 3 + 1 + 1 + 1 by omega]
      simp only [List.set_cons_succ, flat3_cons]
      rw [this]
/-- Buckets of the call's own, all their blocks from lo to hi, each one's names in a block of their own. -/
structure OwnD (w : World) (lo hi g C : Nat) (cs : List Bc) (bs : List Bk) : Prop where
  low : lo ≤ g
  hig : g < hi
  hsz : hi ≤ w.heap.size
  len : cs.length = bs.length
  row : w.ownsRow lo 30 3 (.slice (some ⟨g, 0, none⟩) bs.length C) bs.length (flat3 cs)
  each : ∀ r, r < bs.length → ∃ u, cs[r]? = some (((bkt bs r).1 : Int), ((bkt bs r).2.1 : Int), u) ∧ Own w lo u (bkt bs r).2.2 ∧ ∀ k, u.ownBlock = some k → k < hi
  apart : ∀ (r r' : Nat) (c c' : Bc), cs[r]? = some c → cs[r']? = some c' → r ≠ r' → c.2.2.ownBlock = none ∨ c.2.2.ownBlock ≠ c'.2.2.ownBlock
section
variable {w w' : World} {lo hi g C : Nat} {cs : List Bc} {bs : List Bk}
theorem OwnD.own (h : OwnD w lo hi g C cs bs) : OwnB w lo (.slice (some ⟨g, 0, none⟩) bs.length C) bs :=
  ⟨cs, h.len, h.row, fun r hr => by obtain ⟨u, h1, h2, _⟩ := h.each r hr; exact ⟨u, h1, h2⟩⟩
theorem OwnD.reads (h : OwnD w lo hi g C cs bs) : ReadsB w (some ⟨g, 0, none⟩) bs := by
  obtain ⟨a, c, e, _, _, h1⟩ := h.own.form
  cases e; exact h1
theorem OwnD.below (hb : Below w.heap.size w w') (h : OwnD w lo hi g C cs bs) : OwnD w' lo hi g C cs bs := by
  have hg : w.grownBy w' none := ⟨hb.os, hb.tape, hb.output, hb.size, fun i hi _ => hb.block i hi⟩
  refine ⟨h.low, h.hig, Nat.le_trans h.hsz hb.size, h.len, World.ownsRow.kept h.row hg (.inr (by simp [Value.ownBlock])), fun r hr => ?_, h.apart⟩
  obtain ⟨u, h1, h2, h3⟩ := h.each r hr
  exact ⟨u, h1, h2.below hb, h3⟩
/-- Writing into other blocks. -/
theorem OwnD.out {lo' hi' : Nat} (h : OwnD w lo hi g C cs bs) (ho : Out lo' hi' w w') (hd : hi ≤ lo' ∨ hi' ≤ lo) : OwnD w' lo hi g C cs bs := by
  have hh : ∀ q, lo ≤ q → q < hi → q < lo' ∨ hi' ≤ q := fun q h1 h2 => by omega
  refine ⟨h.low, h.hig, Nat.le_trans h.hsz ho.2.2.2.1, h.len, ?_, fun r hr => ?_, h.apart⟩
  · refine ⟨h.row.1, ?_⟩
    rcases h.row.2 with hn | ⟨q, cap, cur, hv, hbg, hg, r⟩
    · exact .inl hn
    · have e : q = g := by injection hv with e; injection e with e; injection e with e; exact e.symm
      exact .inr ⟨q, cap, cur, hv, hbg, (ho.2.2.2.2 q (Array.getElem?_eq_some_iff.1 hg).1 (hh q hbg (by rw [e]; exact h.hig))).trans hg, r⟩
  · obtain ⟨u, h1, h2, h3⟩ := h.each r hr
    exact ⟨u, h1, h2.out ho (fun k hk => hh k (h2.lt k hk).1 (h3 k hk)), h3⟩
theorem setB_at {bs : List Bk} {i r : Nat} {b : Bk} (hi : i < bs.length) : bkt (bs.set i b) r = if r = i then b else bkt bs r := by
  unfold bkt
  by_cases e : r = i
  · subst e; rw [if_pos rfl]; simp [List.getD, hi]
  · rw [if_neg e]; simp [List.getD, List.getElem?_set, show ¬ i = r from fun h => e h.symm]
/-- One bucket turned. -/
theorem OwnD.turn (h : OwnD w lo hi g C cs bs) {i : Nat} (hi' : i < bs.length) {u : Value} (hu : cs[i]? = some (((bkt bs i).1 : Int), ((bkt bs i).2.1 : Int), u)) (x y : Nat) {w3 : World} {L : List Int}
    (hg : ((w.setCell ⟨g, i * 3, none⟩ (.int .i64 (x : Int))).setCell ⟨g, i * 3 + 1, none⟩ (.int .i64 (y : Int))).grownBy w3 u.ownBlock) (hL : Own w3 lo u L) (hub : ∀ k, u.ownBlock = some k → k < hi) :
    OwnD w3 lo hi g C (cs.set i ((x : Int), (y : Int), u)) (bs.set i (x, y, L)) := by
  have hr1 := (World.ownsRow.stored h.row (i * 3) (.int .i64 (x : Int))).1
  have hr2 := (World.ownsRow.stored hr1 (i * 3 + 1) (.int .i64 (y : Int))).1
  rw [flat3_set (c' := ((x : Int), (y : Int), u)) hu] at hr2
  have hug : u.ownBlock = none ∨ u.ownBlock ≠ some g := by
    obtain ⟨u', h1, h2, _⟩ := h.each i hi'
    have e : u' = u := by rw [hu] at h1; injection h1 with h1; injection h1 with _ h1; injection h1 with _ h1; exact h1.symm
    subst e
    rcases h.own.ne_own h2 with h | h
    · exact .inl h
    · exact .inr (by simpa [Value.ownBlock] using h)
  refine ⟨h.low, h.hig, ?_, by simp [h.len], ?_, fun r hr => ?_, fun r r' c c' hc hc' hne => ?_⟩
  · have h1 := hg.size
    have h2 := h.hsz
    have h3 : ((w.setCell ⟨g, i * 3, none⟩ (.int .i64 (x : Int))).setCell ⟨g, i * 3 + 1, none⟩ (.int .i64 (y : Int))).heap.size = w.heap.size := by simp
    omega
  · rw [List.length_set]
    refine World.ownsRow.kept hr2 hg (.inr ?_)
    rcases hug with e | e
    · rw [e]; simp [Value.ownBlock]
    · exact fun e2 => e (by rw [← e2]; rfl)
  · rw [List.length_set] at hr
    rw [setB_at hi']
    by_cases e : r = i
    · subst e
      rw [if_pos rfl]
      exact ⟨u, by rw [List.getElem?_set_self (by rw [h.len]; exact hr)], hL, hub⟩
    · rw [if_neg e]
      obtain ⟨u', h1, h2, h3⟩ := h.each r hr
      refine ⟨u', by rw [List.getElem?_set_ne (fun q => e q.symm)]; exact h1, ?_, h3⟩
      have hne : u'.ownBlock = none ∨ u'.ownBlock ≠ some g := by
        rcases h.own.ne_own h2 with h | h
        · exact .inl h
        · exact .inr (by simpa [Value.ownBlock] using h)
      have k1 : w.grownBy (w.setCell ⟨g, i * 3, none⟩ (.int .i64 (x : Int))) (some g) := ⟨rfl, rfl, rfl, by simp, fun j _ hn => heap_setCell_other w ⟨g, i * 3, none⟩ j _ (fun q => hn (by rw [q]))⟩
      have k2 : (w.setCell ⟨g, i * 3, none⟩ (.int .i64 (x : Int))).grownBy ((w.setCell ⟨g, i * 3, none⟩ (.int .i64 (x : Int))).setCell ⟨g, i * 3 + 1, none⟩ (.int .i64 (y : Int))) (some g) := ⟨rfl, rfl, rfl, by simp, fun j _ hn => heap_setCell_other _ ⟨g, i * 3 + 1, none⟩ j _ (fun q => hn (by rw [q]))⟩
      exact ((h2.kept k1 hne).kept k2 hne).kept hg (h.apart r i _ _ h1 hu e)
  · by_cases e1 : r = i
    · subst e1
      rw [List.getElem?_set_self (by rw [h.len]; exact hi')] at hc
      rw [List.getElem?_set_ne hne] at hc'
      injection hc with hc; subst hc
      show u.ownBlock = none ∨ u.ownBlock ≠ c'.2.2.ownBlock
      exact h.apart r r' _ c' hu hc' hne
    · rw [List.getElem?_set_ne (fun q => e1 q.symm)] at hc
      by_cases e2 : r' = i
      · subst e2
        rw [List.getElem?_set_self (by rw [h.len]; exact hi')] at hc'
        injection hc' with hc'; subst hc'
        show c.2.2.ownBlock = none ∨ c.2.2.ownBlock ≠ u.ownBlock
        exact h.apart r r' c _ hc hu hne
      · rw [List.getElem?_set_ne (fun q => e2 q.symm)] at hc'
        exact h.apart r r' _ _ hc hc' hne
end
/-- Where the marks of a bucket begin. -/
def kAt (bs : List Bk) (k i : Nat) : Nat := k + ((bs.take i).map fun b => 2 + b.2.2.length).sum
theorem kAt_succ {bs : List Bk} {k i : Nat} (h : i < bs.length) : kAt bs k (i + 1) = kAt bs k i + 2 + (bkt bs i).2.2.length := by
  unfold kAt
  rw [List.take_succ_eq_append_getElem h, bkt_eq h]
  simp only [List.map_append, List.map_cons, List.map_nil, List.sum_append, List.sum_cons, List.sum_nil]
  omega
theorem kAt_zero (bs : List Bk) (k : Nat) : kAt bs k 0 = k := by simp [kAt]
theorem kAt_le {bs : List Bk} (h : ∀ b ∈ bs, b.2.2.length ≤ 4) (k : Nat) : ∀ i, kAt bs k i ≤ k + 6 * i := by
  intro i
  induction i with
  | zero => rw [kAt_zero]; omega
  | succ i ih =>
    by_cases e : i < bs.length
    · have := h _ (bkt_mem e)
      rw [kAt_succ e]; omega
    · have : kAt bs k (i + 1) = kAt bs k i := by unfold kAt; rw [List.take_of_length_le (by omega), List.take_of_length_le (by omega)]
      omega
/-- A bucket marked. -/
def mk1 (bs : List Bk) (k i : Nat) : Bk := (kAt bs k i, kAt bs k i + 1, marks ((kAt bs k i + 2 : Nat) : Int) (bkt bs i).2.2.length)
/-- The first i buckets marked. -/
def mkd (bs : List Bk) (k i : Nat) : List Bk := (List.range bs.length).map fun r => if r < i then mk1 bs k r else bkt bs r
theorem mkd_len (bs : List Bk) (k i : Nat) : (mkd bs k i).length = bs.length := by simp [mkd]
theorem mkd_bkt {bs : List Bk} {k i r : Nat} (h : r < bs.length) : bkt (mkd bs k i) r = if r < i then mk1 bs k r else bkt bs r := by
  unfold mkd; unfold bkt; simp [List.getD, h]
theorem mkd_zero (bs : List Bk) (k : Nat) : mkd bs k 0 = bs := by
  apply List.ext_getElem
  · simp [mkd]
  · intro r h1 h2
    simp only [mkd, List.getElem_map, List.getElem_range]
    rw [if_neg (by omega), bkt_eq h2]
theorem mkd_succ {bs : List Bk} {k i : Nat} (h : i < bs.length) : (mkd bs k i).set i (mk1 bs k i) = mkd bs k (i + 1) := by
  apply List.ext_getElem
  · simp [mkd]
  · intro r h1 h2
    simp only [mkd, List.getElem_set, List.getElem_map, List.getElem_range]
    by_cases e : i = r
    · subst e; rw [if_pos rfl, if_pos (by omega)]
    · rw [if_neg e]
      by_cases g : r < i
      · rw [if_pos g, if_pos (by omega)]
      · rw [if_neg g, if_neg (by omega)]
end Go.Proofs.Ytoaiaindcmihjaa
