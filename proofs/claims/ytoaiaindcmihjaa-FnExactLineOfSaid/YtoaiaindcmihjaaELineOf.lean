/-
  laws.FnExactLineOf: the walk. (Written by genexact.py.)
-/
import Derived.Test.YtoaiaindcmihjaaNX
import Derived.Test.YtoaiaindcmihjaaO8
import Derived.Test.YtoaiaindcmihjaaLib
namespace Go.Proofs.Ytoaiaindcmihjaa
open Go.RowKit

set_option maxHeartbeats 4000000 in
set_option maxRecDepth 100000 in
theorem lawExactLineOf (c : Int) (x : Int) (w : World) (hc : In64 c) (hx : In64 x) :
    Calls Try.prog 9 #[.int .i64 c, .int .i64 x] w fun e w' => e = .returned (.bool true) ∧ Below w.heap.size w w' := by
  obtain ⟨R0, hR0⟩ : ∃ R : Int, R = LNO c x := ⟨_, rfl⟩
  have eR0 : (R0 != R0) = false := by simp
  have HR0 := Lib.hid hR0
  clear hR0
  have Bw := Below.refl w.heap.size w
  go_enter Try.func9, Try.ntmps9
  go_wp2_with fail
  refine (specLineOf_e c x _ hc hx).mono ?_
  rintro e w1 ⟨rfl, bw1⟩
  have zw1 := bw1.size
  have Bw1 := Bw.trans (bw1.mono Bw.size)
  rw [← HR0.out]
  go_wp2_with fail
  refine (implLineOf_e c x _ hc hx).mono ?_
  rintro e w2 ⟨rfl, bw2⟩
  have zw2 := bw2.size
  have Bw2 := Bw1.trans (bw2.mono Bw1.size)
  rw [← HR0.out]
  go_wp2
  go_ret
  exact ⟨rfl, Bw2⟩

end Go.Proofs.Ytoaiaindcmihjaa
