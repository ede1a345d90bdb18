/-
  laws.FnExactValidHomes: the walk.
-/
import Derived.Test.YtninnjkjodhpaaaW1
import Derived.Test.YtninnjkjodhpaaaLib
namespace Go.Proofs.Ytninnjkjodhpaaa
open Go.RowKit

set_option maxHeartbeats 1000000 in
theorem lawExactValidHomes (m : Int) (a : Option Addr) (l : List Int) (cap : Nat) (w : World) (hm : In64 m) (hr : Reads w a l) (_hi : ∀ n ∈ l, In64 n) (hl : l.length ≤ 9223372036854775807) :
    Calls Try.prog 10 #[.int .i64 m, .slice a l.length cap] w fun e w' => e = .returned (.bool true) ∧ Below w.heap.size w w' := by
  by_cases hbig : 1048576 < l.length
  · go_enter Try.func10, Try.ntmps10
    go_wp2
    go_ret
    exact ⟨rfl, Below.refl _ _⟩
  have hl' : l.length ≤ 1048586 := by omega
  have eL := eqL_self l
  have eB : (VH m l != VH m l) = false := by simp
  go_enter Try.func10, Try.ntmps10
  go_wp2_with fail
  refine (toIntS_any _ _ _ _ hr hl').mono ?_
  rintro e w1 ⟨rfl, ho1, hb1, hs1⟩
  go_wp2_with fail
  refine (specValidHomes_any _ _ _ _ _ ho1.reads hm hl').mono ?_
  rintro e w' ⟨rfl, rfl⟩
  have hr1 := hr.below hb1
  go_wp2_with fail
  refine (toIntS_any _ _ _ _ hr1 hl').mono ?_
  rintro e w2 ⟨rfl, ho2, hb2, hs2⟩
  go_wp2_with fail
  refine (implValidHomes_any _ _ _ _ _ ho2.reads).mono ?_
  rintro e w' ⟨rfl, rfl⟩
  have hr2 := hr1.below hb2
  go_wp2_with fail
  refine (toIntS_any _ _ _ _ hr2 hl').mono ?_
  rintro e w3 ⟨rfl, ho3, hb3, hs3⟩
  go_wp2_with fail
  refine (eqIntS_any _ _ _ _ _ _ _ (ho2.below hb3).reads ho3.reads hl' hl').mono ?_
  rintro e w' ⟨rfl, n, rfl⟩
  go_wp2
  go_ret
  exact ⟨rfl, below_drewN (hb1.trans ((hb2.mono (by omega)).trans (hb3.mono (by omega)))) n⟩

end Go.Proofs.Ytninnjkjodhpaaa
