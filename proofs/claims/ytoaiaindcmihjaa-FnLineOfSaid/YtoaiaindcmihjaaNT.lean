/-
  Texts: spec.number, trie, TreeText.
-/
import Derived.Test.YtoaiaindcmihjaaNG
import Derived.Test.YtoaiaindcmihjaaNF
import Derived.Laws.Concat
import Derived.Laws.Strings
import Derived.Laws.Strings2
import Derived.Laws.Strings3
namespace Go.Proofs.Ytoaiaindcmihjaa
open Go.RowKit

/-- The bytes of a list, as a text. -/
abbrev B8 (l : List UInt8) : ByteArray := ByteArray.mk l.toArray
theorem B8_app (x y : List UInt8) : B8 x ++ B8 y = B8 (x ++ y) := ByteArray.mk_append_mk x y
theorem digits_ex : ∀ n : Fin 10, (ByteArray.mk #[48, 49, 50, 51, 52, 53, 54, 55, 56, 57]).extract n.val (n.val + 1) = B8 [dgt n.val] := by decide +kernel
theorem dec_short {n : Nat} (h : n < 1000000) : (dec n).length ≤ 6 := by
  have h1 : ∀ k n : Nat, n < 10 ^ (k + 1) → (dec n).length ≤ k + 1 := by
    intro k
    induction k with
    | zero => intro n hn; rw [dec_lt (by simpa using hn)]; simp
    | succ k ih =>
      intro n hn
      by_cases h : n < 10
      · rw [dec_lt h]; simp
      · rw [dec_ge h, List.length_append, List.length_singleton]
        have := ih (n / 10) (by rw [Nat.pow_succ] at hn; omega)
        omega
  exact h1 5 n (by simpa using h)
theorem ttr_len' {l : List Int} (hv : VNm l = true) {f d e : Nat} (h1 : f + d = 6) (h2 : e < 2 ^ d) : (ttr l f d e).length ≤ 400 := by
  obtain ⟨a1, a2, a3⟩ := VNm_iff.1 hv
  have h3 := ttr_len a3 a2 f d e h1 h2
  have h4 : (tfl l d e).length ≤ 12 := Nat.le_trans (List.length_filter_le _ _) a1
  have h5 : 5 * f * (tfl l d e).length ≤ 30 * 12 := Nat.mul_le_mul (by omega) h4
  omega
end Go.Proofs.Ytoaiaindcmihjaa
