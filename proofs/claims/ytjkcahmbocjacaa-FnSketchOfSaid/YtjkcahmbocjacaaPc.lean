/-
  laws.szHomesS, eqHomes, eqHomesS, markHomesS.
-/
import Derived.Test.YtjkcahmbocjacaaPb
namespace Go.Proofs.Ytjkcahmbocjacaa
open Go.RowKit

theorem grownBy_trans' {a b c : World} {row : Option Nat} (h : a.grownBy b row) (h' : b.grownBy c row) : a.grownBy c row :=
  ⟨h'.os.trans h.os, h'.tape.trans h.tape, h'.output.trans h.output, Nat.le_trans h.size h'.size, fun q hq hne => (h'.block q (Nat.lt_of_lt_of_le hq h.size) hne).trans (h.block q hq hne)⟩
/-- The lists of pairs are equal. -/
def eqP (l l' : List (Int × Int)) : Bool := decide (l = l')
theorem eqP_self (l : List (Int × Int)) : eqP l l = true := by simp [eqP]
theorem eqP_all {l l' : List (Int × Int)} (hl : l.length = l'.length) (h : ∀ i, i < l.length → pA l i = pA l' i ∧ pB l i = pB l' i) : eqP l l' = true := by
  simp only [eqP, decide_eq_true_eq]
  refine List.ext_getElem hl fun i h1 h2 => ?_
  have := h i h1
  rw [pA_eq h1, pA_eq h2, pB_eq h1, pB_eq h2] at this
  exact Prod.ext this.1 this.2

end Go.Proofs.Ytjkcahmbocjacaa
