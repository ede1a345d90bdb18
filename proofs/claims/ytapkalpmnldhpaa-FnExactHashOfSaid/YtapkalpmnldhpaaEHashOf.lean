/-
  laws.FnExactHashOf: the walk. (Written by genexact.py.)
-/
import Derived.Test.YtapkalpmnldhpaaF1
import Derived.Test.YtapkalpmnldhpaaF3
import Derived.Test.YtapkalpmnldhpaaLib
namespace Go.Proofs.Ytapkalpmnldhpaa
open Go.RowKit

set_option maxHeartbeats 4000000 in
set_option maxRecDepth 100000 in
theorem lawExactHashOf (a : Int) (b : Int) (m : Int) (k : Int) (w : World) (ha : In64 a) (hb : In64 b) (hm : In64 m) (hk : In64 k) :
    Calls Try.prog 3 #[.int .i64 a, .int .i64 b, .int .i64 m, .int .i64 k] w fun e w' => e = .returned (.bool true) ∧ Below w.heap.size w w' := by
  obtain ⟨R0, hR0⟩ : ∃ R : Int, R = HO a b m k := ⟨_, rfl⟩
  have eR0 : (R0 != R0) = false := by simp
  have HR0 := Lib.hid hR0
  clear hR0
  have Bw := Below.refl w.heap.size w
  go_enter Try.func3, Try.ntmps3
  go_wp2_with fail
  refine (specHashOf_any a b m k _ ha hb hm hk).mono ?_
  rintro e w1 ⟨rfl, bw1⟩
  have zw1 := bw1.size
  have Bw1 := Bw.trans (bw1.mono Bw.size)
  rw [← HR0.out]
  go_wp2_with fail
  refine (implHashOf_any a b m k _ ha hb hm hk).mono ?_
  rintro e w2 ⟨rfl, bw2⟩
  have zw2 := bw2.size
  have Bw2 := Bw1.trans (bw2.mono Bw1.size)
  rw [← HR0.out]
  go_wp2
  go_ret
  exact ⟨rfl, Bw2⟩

end Go.Proofs.Ytapkalpmnldhpaa
