/-
  laws.FnExactJumpTo: the walk. (Written by genexact.py.)
-/
import Derived.Test.YtbldfhfciihddaaY5
import Derived.Test.YtbldfhfciihddaaZ7
import Derived.Test.YtbldfhfciihddaaLib
namespace Go.Proofs.Ytbldfhfciihddaa
open Go.RowKit

set_option maxHeartbeats 4000000 in
set_option maxRecDepth 100000 in
theorem lawExactJumpTo (k : Int) (n : Int) (w : World) (hk : In64 k) (hn : In64 n) :
    Calls Try.prog 16 #[.int .i64 k, .int .i64 n] w fun e w' => e = .returned (.bool true) ∧ Below w.heap.size w w' := by
  obtain ⟨R0, hR0⟩ : ∃ R : Int, R = JT k n := ⟨_, rfl⟩
  have eR0 : (R0 != R0) = false := by simp
  have HR0 := Lib.hid hR0
  clear hR0
  have Bw := Below.refl w.heap.size w
  go_enter Try.func16, Try.ntmps16
  go_wp2_with fail
  refine (specJumpTo_any k n _ hk hn).mono ?_
  rintro e w1 ⟨rfl, bw1⟩
  have zw1 := bw1.size
  have Bw1 := Bw.trans (bw1.mono Bw.size)
  rw [← HR0.out]
  go_wp2_with fail
  refine (implJumpTo_any k n _ hk hn).mono ?_
  rintro e w2 ⟨rfl, bw2⟩
  have zw2 := bw2.size
  have Bw2 := Bw1.trans (bw2.mono Bw1.size)
  rw [← HR0.out]
  go_wp2
  go_ret
  exact ⟨rfl, Bw2⟩

end Go.Proofs.Ytbldfhfciihddaa
