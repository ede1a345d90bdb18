/-
  laws.FnExactTreeText: the walk. (Written by genexact.py.)
-/
import Derived.Test.YtoaiaindcmihjaaDoorNX3
import Derived.Test.YtoaiaindcmihjaaDoorOT2
import Derived.Test.YtoaiaindcmihjaaDoorLib
namespace Go.Proofs.YtoaiaindcmihjaaDoor
open Go.RowKit

set_option maxHeartbeats 4000000 in
set_option maxRecDepth 100000 in
theorem lawExactTreeText (al : Option Addr) (l : List Int) (capl : Nat) (w : World) (rl : Reads w al l) (il : ∀ n ∈ l, In64 n) (_sl : l.length ≤ 9223372036854775807) :
    Calls Tryd.prog 3 #[.slice al l.length capl] w fun e w' => e = .returned (.bool true) ∧ Below w.heap.size w w' := by
  by_cases bigl : 1048576 < l.length
  · go_enter Tryd.func3, Tryd.ntmps3
    go_wp2
    go_ret
    exact ⟨rfl, Below.refl _ _⟩
  have ll : l.length ≤ 1048586 := by omega
  obtain ⟨R0, hR0⟩ : ∃ R : List UInt8, R = TXT l := ⟨_, rfl⟩
  have eR0 : (R0 != R0) = false := by simp
  have HR0 := Lib.hid hR0
  clear hR0
  have el := eqL_self l
  have Bw := Below.refl w.heap.size w
  go_enter Tryd.func3, Tryd.ntmps3
  go_wp2_with fail
  refine (toIntS_any _ _ _ _ (rl.below Bw) ll).mono ?_
  rintro e w1 ⟨rfl, Ocl, bw1, sw1⟩
  have zw1 := bw1.size
  have Bw1 := Bw.trans (bw1.mono Bw.size)
  have Kcl := Lib.hid Ocl.lt
  go_wp2_with fail
  refine (specTreeText_e _ l _ _ Ocl.reads il ll (Nat.le_refl _)).mono ?_
  rintro e w2 ⟨rfl, bw2⟩
  have zw2 := bw2.size
  have Bw2 := Bw1.trans (bw2.mono Bw1.size)
  replace Ocl := Ocl.below bw2
  rw [← HR0.out]
  clear Ocl Kcl
  go_wp2_with fail
  refine (toIntS_any _ _ _ _ (rl.below Bw2) ll).mono ?_
  rintro e w3 ⟨rfl, Oxl, bw3, sw3⟩
  have zw3 := bw3.size
  have Bw3 := Bw2.trans (bw3.mono Bw2.size)
  have Kxl := Lib.hid Oxl.lt
  go_wp2_with fail
  refine (implTreeText_e _ l _ _ Oxl.reads il ll (Nat.le_refl _)).mono ?_
  rintro e w4 ⟨rfl, bw4⟩
  have zw4 := bw4.size
  have Bw4 := Bw3.trans (bw4.mono Bw3.size)
  replace Oxl := Oxl.below bw4
  rw [← HR0.out]
  go_wp2_with fail
  refine (toIntS_any _ _ _ _ (rl.below Bw4) ll).mono ?_
  rintro e w5 ⟨rfl, Odl, bw5, sw5⟩
  have zw5 := bw5.size
  have Bw5 := Bw4.trans (bw5.mono Bw4.size)
  replace Oxl := Oxl.below bw5
  have Kdl := Lib.hid Odl.lt
  go_wp2_with fail
  refine (eqIntS_any _ _ _ _ _ _ _ Oxl.reads Odl.reads ll ll).mono ?_
  rintro e w6x ⟨rfl, nw6, rfl⟩
  have bw6 := below_drewN (Below.refl w5.heap.size w5) nw6
  obtain ⟨w6, qw6⟩ : ∃ x, x = w5.drewN nw6 := ⟨_, rfl⟩
  rw [← qw6] at bw6 ⊢
  clear qw6
  have zw6 := bw6.size
  have Bw6 := Bw5.trans (bw6.mono Bw5.size)
  replace Oxl := Oxl.below bw6
  replace Odl := Odl.below bw6
  clear Odl Kdl
  go_wp2
  go_ret
  exact ⟨rfl, Bw6⟩

end Go.Proofs.YtoaiaindcmihjaaDoor
