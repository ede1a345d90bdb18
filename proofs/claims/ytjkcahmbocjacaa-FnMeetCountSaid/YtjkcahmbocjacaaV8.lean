/-
  The law of MeetCount.
-/
import Derived.Test.YtjkcahmbocjacaaV4
import Derived.Test.YtjkcahmbocjacaaV6
namespace Go.Proofs.Ytjkcahmbocjacaa

theorem MC_law {n a b : Int} (h : MCo n a b = true) : MC1 n a b * ((wgt (a.toNat ||| b.toNat) : Nat) : Int) = MC2 n a b * ((wgt (a.toNat &&& b.toNat) : Nat) : Int) := by
  have h' := MCo_iff.1 h
  unfold MC1 MC2
  rw [if_pos h, if_pos h]
  have := meet_law (n := n.toNat) (a := a.toNat) (b := b.toNat) (by omega) (by omega) (by omega) (by omega) (by omega) (by omega)
  exact_mod_cast this
end Go.Proofs.Ytjkcahmbocjacaa
