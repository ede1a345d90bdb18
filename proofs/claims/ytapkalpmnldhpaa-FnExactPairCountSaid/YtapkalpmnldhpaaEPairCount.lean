/-
  laws.FnExactPairCount: the walk. (Written by genexact.py.)
-/
import Derived.Test.YtapkalpmnldhpaaF2
import Derived.Test.YtapkalpmnldhpaaF7
import Derived.Test.YtapkalpmnldhpaaLib
namespace Go.Proofs.Ytapkalpmnldhpaa
open Go.RowKit

set_option maxHeartbeats 4000000 in
set_option maxRecDepth 100000 in
theorem lawExactPairCount (m : Int) (x : Int) (y : Int) (w : World) (hm : In64 m) (hx : In64 x) (hy : In64 y) :
    Calls Try.prog 5 #[.int .i64 m, .int .i64 x, .int .i64 y] w fun e w' => e = .returned (.bool true) ∧ Below w.heap.size w w' := by
  obtain ⟨R0, hR0⟩ : ∃ R : Int, R = PC m x y := ⟨_, rfl⟩
  have eR0 : (R0 != R0) = false := by simp
  have HR0 := Lib.hid hR0
  clear hR0
  have Bw := Below.refl w.heap.size w
  go_enter Try.func5, Try.ntmps5
  go_wp2_with fail
  refine (specPairCount_any m x y _ hm hx hy).mono ?_
  rintro e w1 ⟨rfl, bw1⟩
  have zw1 := bw1.size
  have Bw1 := Bw.trans (bw1.mono Bw.size)
  rw [← HR0.out]
  go_wp2_with fail
  refine (implPairCount_any m x y _ hm hx hy).mono ?_
  rintro e w2 ⟨rfl, bw2⟩
  have zw2 := bw2.size
  have Bw2 := Bw1.trans (bw2.mono Bw1.size)
  rw [← HR0.out]
  go_wp2
  go_ret
  exact ⟨rfl, Bw2⟩

end Go.Proofs.Ytapkalpmnldhpaa
