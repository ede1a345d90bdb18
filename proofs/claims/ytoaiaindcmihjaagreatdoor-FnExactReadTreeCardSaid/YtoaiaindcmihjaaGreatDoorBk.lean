/-
  Slices of buckets: structs of two numbers and a slice of numbers.
-/
import Derived.Test.YtoaiaindcmihjaaGreatDoorSA
import Derived.Test.YtoaiaindcmihjaaGreatDoorN3
import Derived.Maps.AppendAt
namespace Go.Proofs.YtoaiaindcmihjaaGreatDoor
open Go.RowKit

/-- A bucket of a list. -/
def bkt (bs : List Bk) (r : Nat) : Bk := bs.getD r (0, 0, [])
theorem bkt_eq {bs : List Bk} {r : Nat} (h : r < bs.length) : bkt bs r = bs[r] := by simp [bkt, List.getD, h]
theorem bkt_mem {bs : List Bk} {r : Nat} (h : r < bs.length) : bkt bs r ∈ bs := by rw [bkt_eq h]; exact List.getElem_mem h
theorem bkt_snoc_lt {bs : List Bk} {t : Bk} {r : Nat} (h : r < bs.length) : bkt (bs ++ [t]) r = bkt bs r := by simp [bkt, List.getD, List.getElem?_append_left h]
theorem bkt_snoc_eq (bs : List Bk) (t : Bk) : bkt (bs ++ [t]) bs.length = t := by simp [bkt, List.getD]
/-- The cells of buckets. -/
abbrev Bc := Int × Int × Value
def flat3 (l : List Bc) : List Value := l.flatMap fun c => [.int .i64 c.1, .int .i64 c.2.1, c.2.2]
theorem flat3_cons (p : Bc) (l : List Bc) : flat3 (p :: l) = .int .i64 p.1 :: .int .i64 p.2.1 :: p.2.2 :: flat3 l := rfl
theorem flat3_append (l l' : List Bc) : flat3 (l ++ l') = flat3 l ++ flat3 l' := by simp [flat3]
theorem flat3_len (l : List Bc) : (flat3 l).length = l.length * 3 := by
  induction l with
  | nil => rfl
  | cons p l ih => rw [flat3_cons]; simp [ih]; omega
theorem flat3_get {l : List Bc} : ∀ {i : Nat} {c : Bc}, l[i]? = some c → (flat3 l)[i * 3]? = some (.int .i64 c.1) ∧ (flat3 l)[i * 3 + 1]? = some (.int .i64 c.2.1) ∧ (flat3 l)[i * 3 + 2]? = some c.2.2 := by
  induction l with
  | nil => intro i c h; simp at h
  | cons p l ih =>
    intro i c h
    cases i with
    | zero => simp at h; subst h; simp [flat3_cons]
    | succ i =>
      have := ih (i := i) (c := c) (by simpa using h)
      rw [flat3_cons, show (i + 1) * 3 = i * 3 + 1 + 1 + 1 by omega]
      simpa using this
/-- The slice (its address, its length) reads as the buckets. -/
def ReadsB (w : World) (a : Option Addr) (bs : List Bk) : Prop :=
  bs = [] ∨ ∃ b off, a = some ⟨b, off, none⟩ ∧ b < w.heap.size ∧ ∀ r, r < bs.length → w.cell? ⟨b, off + r * 3, none⟩ = some (.int .i64 ((bkt bs r).1 : Int)) ∧ w.cell? ⟨b, off + r * 3 + 1, none⟩ = some (.int .i64 ((bkt bs r).2.1 : Int)) ∧
    ∃ A C, w.cell? ⟨b, off + r * 3 + 2, none⟩ = some (.slice A (bkt bs r).2.2.length C) ∧ Reads w A (bkt bs r).2.2 ∧ (bkt bs r).2.2.length ≤ C
theorem ReadsB.below {w w' : World} (h : Below w.heap.size w w') {a : Option Addr} {bs : List Bk} (hc : ReadsB w a bs) : ReadsB w' a bs := by
  rcases hc with h0 | ⟨b, off, ha, hb, hc⟩
  · exact .inl h0
  · refine .inr ⟨b, off, ha, Nat.lt_of_lt_of_le hb h.size, fun r hr => ?_⟩
    obtain ⟨h1, h2, A, C, h3, h4, h5⟩ := hc r hr
    exact ⟨(h.cell (p := ⟨b, off + r * 3, none⟩) hb).trans h1, (h.cell (p := ⟨b, off + r * 3 + 1, none⟩) hb).trans h2, A, C, (h.cell (p := ⟨b, off + r * 3 + 2, none⟩) hb).trans h3, h4.below h, h5⟩
theorem ReadsB.get {w : World} {a : Option Addr} {bs : List Bk} (h : ReadsB w a bs) {r : Nat} (hr : r < bs.length) :
    ∃ b off A C, a = some ⟨b, off, none⟩ ∧ b < w.heap.size ∧ w.cell? ⟨b, off + r * 3, none⟩ = some (.int .i64 ((bkt bs r).1 : Int)) ∧ w.cell? ⟨b, off + r * 3 + 1, none⟩ = some (.int .i64 ((bkt bs r).2.1 : Int)) ∧ w.cell? ⟨b, off + r * 3 + 2, none⟩ = some (.slice A (bkt bs r).2.2.length C) ∧ Reads w A (bkt bs r).2.2 ∧ (bkt bs r).2.2.length ≤ C := by
  rcases h with rfl | ⟨b, off, ha, hb, hc⟩
  · simp at hr
  · obtain ⟨h1, h2, A, C, h3, h4, h5⟩ := hc r hr
    exact ⟨b, off, A, C, ha, hb, h1, h2, h3, h4, h5⟩

section
variable {w w' : World} {base : Nat} {v : Value} {bs : List Bk}
end
theorem trip_cell {w : World} {x y z : Value} {ty : TypeId} : ∀ j u, [x, y, z][j]? = some u → (w.alloc (.cells #[x, y, z] ty)).cell? (Addr.add ⟨w.heap.size, 0, none⟩ j) = some u := by
  intro j u h
  rw [Addr.add_lit, Nat.zero_add, cell_of_row _ _ _ _ _ _ (heap_alloc_new _ _)]
  have hj : j < 3 := by have := (List.getElem?_eq_some_iff.1 h).1; simpa using this
  have : j = 0 ∨ j = 1 ∨ j = 2 := by omega
  rcases this with rfl | rfl | rfl <;> simpa using h
end Go.Proofs.YtoaiaindcmihjaaGreatDoor
