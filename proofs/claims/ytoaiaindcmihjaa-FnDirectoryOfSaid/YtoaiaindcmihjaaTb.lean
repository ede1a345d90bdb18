/-
  Slices of slices of ints; laws.szIntS, szIntSS, toIntSS, eqIntSS, markIntSS.
-/
import Derived.Test.YtoaiaindcmihjaaBase
import Derived.Test.YtoaiaindcmihjaaLib
import Derived.Test.YtoaiaindcmihjaaG4
import Derived.Deep.Matrix
import Derived.Deep.OwnRows
namespace Go.Proofs.Ytoaiaindcmihjaa
open Go.RowKit

/-- The slice (its address, its length) reads as the rows. -/
def ReadsS (w : World) (a : Option Addr) (ts : List (List Int)) : Prop :=
  ts = [] ∨ ∃ b off, a = some ⟨b, off, none⟩ ∧ b < w.heap.size ∧ ∀ r, r < ts.length → ∃ A C, w.cell? ⟨b, off + r, none⟩ = some (.slice A (tr ts r).length C) ∧ (tr ts r).length ≤ C ∧ Reads w A (tr ts r)
theorem ReadsS.below {w w' : World} (h : Below w.heap.size w w') {a : Option Addr} {ts : List (List Int)} (hc : ReadsS w a ts) : ReadsS w' a ts := by
  rcases hc with h0 | ⟨b, off, ha, hb, hc⟩
  · exact .inl h0
  · refine .inr ⟨b, off, ha, Nat.lt_of_lt_of_le hb h.size, fun r hr => ?_⟩
    obtain ⟨A, C, h1, hc', h2⟩ := hc r hr
    exact ⟨A, C, (h.cell (p := ⟨b, off + r, none⟩) hb).trans h1, hc', h2.below h⟩
theorem ReadsS.get {w : World} {a : Option Addr} {ts : List (List Int)} (h : ReadsS w a ts) {r : Nat} (hr : r < ts.length) :
    ∃ b off A C, a = some ⟨b, off, none⟩ ∧ b < w.heap.size ∧ w.cell? ⟨b, off + r, none⟩ = some (.slice A (tr ts r).length C) ∧ Reads w A (tr ts r) ∧ (tr ts r).length ≤ C := by
  rcases h with rfl | ⟨b, off, ha, hb, hc⟩
  · simp at hr
  · obtain ⟨A, C, h1, hc', h2⟩ := hc r hr
    exact ⟨b, off, A, C, ha, hb, h1, h2, hc'⟩
/-- Beside the first row's address. -/
theorem ReadsS.at_ {w : World} {b off : Nat} {ts : List (List Int)} (h : ReadsS w (some ⟨b, off, none⟩) ts) {r : Nat} (hr : r < ts.length) :
    ∃ A C, w.cell? ⟨b, off + r, none⟩ = some (.slice A (tr ts r).length C) ∧ Reads w A (tr ts r) ∧ (tr ts r).length ≤ C := by
  obtain ⟨b', off', A, C, e, _, h1, h2, h3⟩ := h.get hr
  cases e
  exact ⟨A, C, h1, h2, h3⟩

/-- The blocks outside of a range stand. -/
def Out (lo hi : Nat) (w w' : World) : Prop := w'.os = w.os ∧ w'.tape = w.tape ∧ w'.output = w.output ∧ w.heap.size ≤ w'.heap.size ∧ ∀ q, q < w.heap.size → (q < lo ∨ hi ≤ q) → w'.heap[q]? = w.heap[q]?
theorem Out.refl (lo hi : Nat) (w : World) : Out lo hi w w := ⟨rfl, rfl, rfl, Nat.le_refl _, fun _ _ _ => rfl⟩
theorem Out.step {lo hi : Nat} {w w1 w2 : World} {g : Nat} (h : Out lo hi w w1) (hg : w1.grownBy w2 (some g)) (h1 : lo ≤ g) (h2 : g < hi) : Out lo hi w w2 :=
  ⟨hg.os.trans h.1, hg.tape.trans h.2.1, hg.output.trans h.2.2.1, Nat.le_trans h.2.2.2.1 hg.size, fun q hq hh => (hg.block q (Nat.lt_of_lt_of_le hq h.2.2.2.1) (fun e => by cases e; omega)).trans (h.2.2.2.2 q hq hh)⟩
theorem Own.out {w w' : World} {base lo hi : Nat} {v : Value} {l : List Int} (h : Own w base v l) (ho : Out lo hi w w') (hne : ∀ k, v.ownBlock = some k → k < lo ∨ hi ≤ k) : Own w' base v l := by
  refine ⟨h.1, ?_⟩
  rcases h.2 with hn | ⟨g, cap, cur, hv, hbg, hg, r⟩
  · exact .inl hn
  · refine .inr ⟨g, cap, cur, hv, hbg, (ho.2.2.2.2 g (Array.getElem?_eq_some_iff.1 hg).1 (hne g (by rw [hv]; rfl))).trans hg, r⟩
theorem Below.out {B lo hi : Nat} {a w w' : World} (h : Below B a w) (ho : Out lo hi w w') (hB : B ≤ w.heap.size) (hl : B ≤ lo) : Below B a w' :=
  ⟨ho.1.trans h.os, ho.2.1.trans h.tape, ho.2.2.1.trans h.output, Nat.le_trans h.size ho.2.2.2.1, fun k hk => (ho.2.2.2.2 k (by omega) (.inl (by omega))).trans (h.block k hk)⟩
theorem out_of {a : Option Nat} {lo hi lo' hi' : Nat} (h : Hid (∀ k, a = some k → lo' ≤ k ∧ k < hi')) (hd : hi' ≤ lo ∨ hi ≤ lo') : ∀ k, a = some k → k < lo ∨ hi ≤ k := fun k hk => by
  have := h.out k hk
  omega

/-- A copy of rows: all its blocks lie from lo to hi, each row has one of its own. -/
structure OwnS (w : World) (lo hi : Nat) (g : Nat) (G : Nat → Nat) (ts : List (List Int)) : Prop where
  low : lo ≤ g
  hig : g < hi
  hsz : hi ≤ w.heap.size
  rows : ∀ r, r < ts.length → g < G r ∧ G r < hi ∧ ∀ r', r' < r → G r' < G r
  top : ∀ r, r < ts.length → w.cell? ⟨g, r, none⟩ = some (.slice (some ⟨G r, 0, none⟩) (tr ts r).length (tr ts r).length)
  each : ∀ r, r < ts.length → Tab w lo (G r) (tr ts r).length (tr ts r).length (tr ts r)
section
variable {w w' : World} {lo hi g : Nat} {G : Nat → Nat} {ts : List (List Int)}
theorem OwnS.reads (h : OwnS w lo hi g G ts) : ReadsS w (some ⟨g, 0, none⟩) ts := by
  refine .inr ⟨g, 0, rfl, Nat.lt_of_lt_of_le h.hig h.hsz, fun r hr => ⟨_, _, by rw [Nat.zero_add]; exact h.top r hr, Nat.le_refl _, (h.each r hr).reads⟩⟩
theorem OwnS.below (hb : Below w.heap.size w w') (h : OwnS w lo hi g G ts) : OwnS w' lo hi g G ts :=
  ⟨h.low, h.hig, Nat.le_trans h.hsz hb.size, h.rows, fun r hr => (hb.cell (p := ⟨g, r, none⟩) (Nat.lt_of_lt_of_le h.hig h.hsz)).trans (h.top r hr), fun r hr => (h.each r hr).below hb⟩
end
theorem tr_mem {ts : List (List Int)} {r : Nat} (h : r < ts.length) : tr ts r ∈ ts := by rw [tr_eq h]; exact List.getElem_mem h

/-- What rows hold together. -/
def bulk (ts : List (List Int)) : Nat := ts.length + (ts.map List.length).sum
/-- The lengths of the first k rows. -/
def bulkK (ts : List (List Int)) (k : Nat) : Nat := ((ts.take k).map List.length).sum
theorem bulkK_zero (ts : List (List Int)) : bulkK ts 0 = 0 := by simp [bulkK]
theorem bulkK_succ {ts : List (List Int)} {k : Nat} (h : k < ts.length) : bulkK ts (k + 1) = bulkK ts k + (tr ts k).length := by
  unfold bulkK
  rw [List.take_succ_eq_append_getElem h, List.map_append, List.sum_append, tr_eq h]
  simp
theorem bulkK_all (ts : List (List Int)) : bulkK ts ts.length = (ts.map List.length).sum := by simp [bulkK]
theorem bulkK_mono (ts : List (List Int)) (k : Nat) : ∀ d, bulkK ts k ≤ bulkK ts (k + d) := by
  intro d
  induction d with
  | zero => exact Nat.le_refl _
  | succ d ih =>
    by_cases h : k + d < ts.length
    · rw [← Nat.add_assoc, bulkK_succ h]; omega
    · have e : bulkK ts (k + (d + 1)) = bulkK ts (k + d) := by
        unfold bulkK
        rw [List.take_of_length_le (by omega), List.take_of_length_le (by omega)]
      omega
theorem bulk_row {ts : List (List Int)} {r : Nat} (h : r < ts.length) : (tr ts r).length ≤ bulk ts := by
  have h1 := bulkK_succ h
  have h2 := bulkK_mono ts (r + 1) (ts.length - (r + 1))
  rw [Nat.add_sub_cancel' (by omega), bulkK_all] at h2
  unfold bulk
  omega
theorem bulk_len (ts : List (List Int)) : ts.length ≤ bulk ts := by unfold bulk; omega
theorem bulkK_le {ts : List (List Int)} {k : Nat} (h : k ≤ ts.length) : ts.length + bulkK ts k ≤ bulk ts := by
  have h2 := bulkK_mono ts k (ts.length - k)
  rw [Nat.add_sub_cancel' h, bulkK_all] at h2
  unfold bulk; omega

end Go.Proofs.Ytoaiaindcmihjaa
