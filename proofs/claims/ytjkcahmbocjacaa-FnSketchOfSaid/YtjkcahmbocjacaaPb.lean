/-
  Slices of pairs (structs of two ints) that read as a list; laws.toHomes, toHomesS, szHomesS, eqHomes, eqHomesS, markHomesS.
-/
import Derived.Test.YtjkcahmbocjacaaBase
import Derived.Test.YtjkcahmbocjacaaLib
import Derived.Test.YtjkcahmbocjacaaG1
import Derived.Deep.MidRow
namespace Go.Proofs.Ytjkcahmbocjacaa
open Go.RowKit

/-- The cells from an address on hold the pairs of a list. -/
def PCells (w : World) (b off : Nat) (l : List (Int × Int)) : Prop :=
  ∀ i, i < l.length → w.cell? ⟨b, off + i * 2, none⟩ = some (.int .i64 (pA l i)) ∧ w.cell? ⟨b, off + i * 2 + 1, none⟩ = some (.int .i64 (pB l i))
/-- The slice (its address, its length) reads as the list. -/
def ReadsP (w : World) (a : Option Addr) (l : List (Int × Int)) : Prop := l = [] ∨ ∃ b off, a = some ⟨b, off, none⟩ ∧ b < w.heap.size ∧ PCells w b off l
theorem ReadsP.below {w w' : World} (h : Below w.heap.size w w') {a : Option Addr} {l : List (Int × Int)} (hc : ReadsP w a l) : ReadsP w' a l := by
  rcases hc with h0 | ⟨b, off, ha, hb, hc⟩
  · exact .inl h0
  · exact .inr ⟨b, off, ha, Nat.lt_of_lt_of_le hb h.size, fun i hi => ⟨(h.cell (p := ⟨b, off + i * 2, none⟩) hb).trans (hc i hi).1, (h.cell (p := ⟨b, off + i * 2 + 1, none⟩) hb).trans (hc i hi).2⟩⟩
/-- An element, by names of its own. -/
theorem ReadsP.get {w : World} {a : Option Addr} {l : List (Int × Int)} (h : ReadsP w a l) {k : Nat} (hk : k < l.length) :
    ∃ b off x y, a = some ⟨b, off, none⟩ ∧ b < w.heap.size ∧ w.cell? ⟨b, off + k * 2, none⟩ = some (.int .i64 x) ∧ w.cell? ⟨b, off + k * 2 + 1, none⟩ = some (.int .i64 y) ∧ Hid (pA l k = x) ∧ Hid (pB l k = y) := by
  rcases h with rfl | ⟨b, off, ha, hb, hc⟩
  · simp at hk
  · exact ⟨b, off, _, _, ha, hb, (hc k hk).1, (hc k hk).2, rfl, rfl⟩
theorem ReadsP.nil (w : World) (a : Option Addr) : ReadsP w a [] := .inl rfl

/-- The pairs' cells. -/
def flat (l : List (Int × Int)) : List Value := l.flatMap fun p => [.int .i64 p.1, .int .i64 p.2]
theorem flat_len (l : List (Int × Int)) : (flat l).length = l.length * 2 := by
  induction l with
  | nil => rfl
  | cons p l ih => simp [flat] at ih ⊢; omega
theorem flat_cons (p : Int × Int) (l : List (Int × Int)) : flat (p :: l) = .int .i64 p.1 :: .int .i64 p.2 :: flat l := rfl
theorem flat_append (l l' : List (Int × Int)) : flat (l ++ l') = flat l ++ flat l' := by simp [flat]
theorem flat_get {l : List (Int × Int)} : ∀ {i : Nat}, i < l.length → (flat l)[i * 2]? = some (.int .i64 (pA l i)) ∧ (flat l)[i * 2 + 1]? = some (.int .i64 (pB l i)) := by
  induction l with
  | nil => intro i h; simp at h
  | cons p l ih =>
    intro i h
    cases i with
    | zero => simp [flat_cons, pA, pB]
    | succ i =>
      have := ih (i := i) (by simpa using h)
      rw [flat_cons, show (i + 1) * 2 = i * 2 + 1 + 1 by omega]
      simpa [pA, pB] using this
theorem flat_set {l : List (Int × Int)} : ∀ {i : Nat} {p : Int × Int}, i < l.length → ((flat l).set (i * 2) (.int .i64 p.1)).set (i * 2 + 1) (.int .i64 p.2) = flat (l.set i p) := by
  induction l with
  | nil => intro i p h; simp at h
  | cons q l ih =>
    intro i p h
    cases i with
    | zero => rfl
    | succ i =>
      have := ih (i := i) (p := p) (by simpa using h)
      rw [flat_cons, show (i + 1) * 2 = i * 2 + 1 + 1 by omega]
      simp only [List.set_cons_succ, flat_cons]
      rw [this]

/-- What toHomesS has copied. -/
def copP (l : List (Int × Int)) (k : Nat) : List (Int × Int) := l.take k ++ List.replicate (l.length - k) (0, 0)
theorem copP_len (l : List (Int × Int)) (k : Nat) (h : k ≤ l.length) : (copP l k).length = l.length := by simp [copP]; omega
theorem copP_all (l : List (Int × Int)) : copP l l.length = l := by simp [copP]
theorem copP_succ (l : List (Int × Int)) (k : Nat) (h : k < l.length) : (copP l k).set k (pA l k, pB l k) = copP l (k + 1) := by
  have e : (l.take k).length = k := by simp; omega
  unfold copP
  rw [List.set_append_right _ _ (by omega), e, Nat.sub_self, show l.length - k = (l.length - (k + 1)) + 1 by omega, List.replicate_succ, List.set_cons_zero, List.take_succ_eq_append_getElem h, List.append_assoc]
  rw [pA_eq h, pB_eq h]
  rfl
theorem flat_zero (n : Nat) : flat (List.replicate n (0, 0)) = (madeCells #[.int .i64 0, .int .i64 0] (n * 2)).toList := by
  refine List.ext_getElem? fun i => ?_
  have hl := flat_len (List.replicate n ((0 : Int), (0 : Int)))
  rw [List.length_replicate] at hl
  by_cases hi : i < n * 2
  · obtain ⟨j, hj, h⟩ : ∃ j, j < n ∧ (i = j * 2 ∨ i = j * 2 + 1) := ⟨i / 2, by omega, by omega⟩
    have g := flat_get (l := List.replicate n ((0 : Int), (0 : Int))) (i := j) (by simpa using hj)
    have eA : pA (List.replicate n ((0 : Int), (0 : Int))) j = 0 := by simp [pA, List.getD, List.getElem?_replicate, hj]
    have eB : pB (List.replicate n ((0 : Int), (0 : Int))) j = 0 := by simp [pB, List.getD, List.getElem?_replicate, hj]
    rw [eA, eB] at g
    have hm : ∀ q, (madeCells #[.int .i64 0, .int .i64 0] (n * 2)).toList[q]? = if q < n * 2 then some (.int .i64 0) else none := by
      intro q
      by_cases hq : q < n * 2
      · rw [if_pos hq]
        have : q % 2 = 0 ∨ q % 2 = 1 := by omega
        rcases this with h | h <;> simp [madeCells, hq, h]
      · rw [if_neg hq]; simp [madeCells]; omega
    rw [hm i, if_pos hi]
    rcases h with rfl | rfl
    · exact g.1
    · exact g.2
  · rw [List.getElem?_eq_none (by omega), List.getElem?_eq_none (by simp [madeCells]; omega)]

end Go.Proofs.Ytjkcahmbocjacaa
