/-
  The plain mathematics of chapter 5: sketches.
-/
import Derived.Test.YtoaiaindcmihjaaV1
namespace Go.Proofs.Ytoaiaindcmihjaa

/-- The first thing of an order that is in a set. -/
def fi (s : Nat) : List Int → Int
  | [] => -1
  | x :: r => if s.testBit x.toNat = true then x else fi s r
theorem fi_or (s t : Nat) (o : List Int) : fi (s ||| t) o = fi s o ∨ fi (s ||| t) o = fi t o := by
  induction o with
  | nil => exact .inl rfl
  | cons x r ih =>
    simp only [fi, Nat.testBit_or]
    cases h1 : s.testBit x.toNat <;> cases h2 : t.testBit x.toNat <;> simp [ih]
theorem fi_in {s : Nat} {o : List Int} (h : ∃ x ∈ o, s.testBit x.toNat = true) : fi s o ∈ o ∧ s.testBit (fi s o).toNat = true := by
  induction o with
  | nil => obtain ⟨x, hx, _⟩ := h; simp at hx
  | cons x r ih =>
    simp only [fi]
    by_cases e : s.testBit x.toNat = true
    · rw [if_pos e]; exact ⟨by simp, e⟩
    · rw [if_neg e]
      obtain ⟨y, hy, hy2⟩ := h
      rcases List.mem_cons.1 hy with rfl | hy
      · exact (e hy2).elim
      · have := ih ⟨y, hy, hy2⟩
        exact ⟨by simp [this.1], this.2⟩
theorem bit_iff (x j : Nat) : (x / 2 ^ j % 2 = 1) ↔ x.testBit j = true := by
  rw [Nat.testBit_eq_decide_div_mod_eq]; simp
theorem has_bit {s n : Nat} (h : 1 ≤ s) (hn : s < 2 ^ n) : ∃ j, j < n ∧ s.testBit j = true := by
  refine Decidable.byContradiction fun hc => ?_
  have : s = 0 := by
    apply Nat.eq_of_testBit_eq; intro i
    rw [Nat.zero_testBit]
    by_cases hi : i < n
    · cases e : s.testBit i with
      | false => rfl
      | true => exact (hc ⟨i, hi, e⟩).elim
    · exact Nat.testBit_lt_two_pow (Nat.lt_of_lt_of_le hn (Nat.pow_le_pow_right (by omega) (by omega)))
  omega

/-- How many orders that begin with some have the same first thing of two sets, and how many there are. -/
def mf (n a b : Nat) : Nat → List Int → Nat × Nat
  | 0, head => if fi a head = fi b head then (1, 1) else (0, 1)
  | f + 1, head => (List.range n).foldl (fun acc (x : Nat) => if head.contains (x : Int) then acc else ((acc.1 + (mf n a b f (head ++ [(x : Int)])).1), (acc.2 + (mf n a b f (head ++ [(x : Int)])).2))) (0, 0)
end Go.Proofs.Ytoaiaindcmihjaa
