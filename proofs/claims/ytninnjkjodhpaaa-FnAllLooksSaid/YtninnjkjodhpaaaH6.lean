/-
  AllLooks' numbers, one by one.
-/
import Derived.Test.YtninnjkjodhpaaaM6
namespace Go.Proofs.Ytninnjkjodhpaaa

theorem hf_vals : HF 1 0 [] = 0 ∧ HF 1 1 [] = 1 ∧ HF 2 0 [] = 0 ∧ HF 2 1 [] = 2 ∧ HF 2 2 [] = 10 ∧ HF 3 0 [] = 0 ∧ HF 3 1 [] = 3 ∧ HF 3 2 [] = 21 ∧ HF 3 3 [] = 117 ∧
    HF 4 0 [] = 0 ∧ HF 4 1 [] = 4 ∧ HF 4 2 [] = 36 ∧ HF 4 3 [] = 252 ∧ HF 4 4 [] = 1648 ∧ HF 5 0 [] = 0 ∧ HF 5 1 [] = 5 ∧ HF 5 2 [] = 55 ∧ HF 5 3 [] = 465 ∧ HF 5 4 [] = 3610 ∧ HF 5 5 [] = 27425 := by
  decide +kernel

/-- The numbers that the law asks of. -/
theorem AL_facts {m n : Int} (h : 1 ≤ m ∧ m ≤ 5 ∧ 0 ≤ n ∧ n ≤ m) :
    0 ≤ AL m n ∧ AL m n ≤ 27425 ∧ AL m n % m = 0 ∧ n * m ^ n.toNat ≤ AL m n ∧ (n ≤ 1 → AL m n = n * m ^ n.toNat) ∧ (n = 2 → AL m n = n * m ^ n.toNat + m) := by
  have hv := hf_vals
  obtain ⟨h1, h2, h3, h4⟩ := h
  unfold AL
  rw [if_pos ⟨h1, h2, h3, h4⟩]
  have hm : m = 1 ∨ m = 2 ∨ m = 3 ∨ m = 4 ∨ m = 5 := by omega
  have hn : n = 0 ∨ n = 1 ∨ n = 2 ∨ n = 3 ∨ n = 4 ∨ n = 5 := by omega
  rcases hm with rfl | rfl | rfl | rfl | rfl <;> rcases hn with rfl | rfl | rfl | rfl | rfl | rfl <;> first | (exfalso; omega) | simp [hv]

end Go.Proofs.Ytninnjkjodhpaaa
