/-
  laws.FnExactReadTree: the walk. (Written by genexact.py.)
-/
import Derived.Test.YtoaiaindcmihjaaGreatDoorNX4
import Derived.Test.YtoaiaindcmihjaaGreatDoorOR4
import Derived.Test.YtoaiaindcmihjaaGreatDoorLib
namespace Go.Proofs.YtoaiaindcmihjaaGreatDoor
open Go.RowKit

set_option maxHeartbeats 4000000 in
set_option maxRecDepth 100000 in
theorem lawExactReadTree (s : List UInt8) (w : World) (hg : GW w) (hs : s.length ≤ 9223372036854775807) :
    Calls Tryz.prog 6 #[.string (B8 s)] w fun e w' => e = .returned (.bool true) ∧ Below w.heap.size w w' := by
  by_cases bigs : 1048576 < s.length
  · go_enter Tryz.func6, Tryz.ntmps6
    go_wp2
    go_ret
    exact ⟨rfl, Below.refl _ _⟩
  have ls : s.length ≤ 1048586 := by omega
  obtain ⟨R0, hR0⟩ : ∃ R : List Int, R = (RT s).getD [] := ⟨_, rfl⟩
  have lR0 : R0.length ≤ 1048586 := by rw [hR0]; exact RT_lenE s
  have eR0 := eqL_self R0
  have HR0 := Lib.hid hR0
  clear hR0
  obtain ⟨R1, hR1⟩ : ∃ R : Bool, R = (RT s).isSome := ⟨_, rfl⟩
  have eR1 : (R1 != R1) = false := by simp
  have HR1 := Lib.hid hR1
  clear hR1
  have Bw := Below.refl w.heap.size w
  go_enter Tryz.func6, Tryz.ntmps6
  go_wp2_with fail
  refine (specReadTree_e s _ hs).mono ?_
  rintro e w1 ⟨vp, rfl, Op, bw1⟩
  have zw1 := bw1.size
  have Bw1 := Bw.trans (bw1.mono Bw.size)
  rw [← HR0.out] at Op
  rw [← HR1.out]
  obtain ⟨ap, cp, rfl, _, _, _, _⟩ := Op.form
  have Kp := Lib.hid Op.lt
  go_wp2_with fail
  refine (implReadTree_e s _ ⟨GE.below hg.1 Bw1, GN.below hg.2 Bw1⟩ hs).mono ?_
  rintro e w2 ⟨vg, rfl, Og, bw2⟩
  have zw2 := bw2.size
  have Bw2 := Bw1.trans (bw2.mono Bw1.size)
  replace Op := Op.below bw2
  rw [← HR0.out] at Og
  rw [← HR1.out]
  obtain ⟨ag, cg, rfl, _, _, _, _⟩ := Og.form
  have Kg := Lib.hid Og.lt
  go_wp2_with fail
  refine (eqIntS_any _ _ _ _ _ _ _ Og.reads Op.reads lR0 lR0).mono ?_
  rintro e w3x ⟨rfl, nw3, rfl⟩
  have bw3 := Go.below_drewN (Below.refl w2.heap.size w2) nw3
  obtain ⟨w3, qw3⟩ : ∃ x, x = w2.drewN nw3 := ⟨_, rfl⟩
  rw [← qw3] at bw3 ⊢
  clear qw3
  have zw3 := bw3.size
  have Bw3 := Bw2.trans (bw3.mono Bw2.size)
  replace Op := Op.below bw3
  replace Og := Og.below bw3
  have app := apart_of Kp Kg (by omega)
  go_wp2_with fail
  refine (markIntS_any _ _ _ _ _ Og lR0 (by omega) (by omega)).mono ?_
  rintro e w4 ⟨rfl, Ng, gw4⟩
  have zw4 := gw4.size
  have Bw4 := Below.grownB Bw3 Og gw4 Bw3.size (by omega)
  replace Op := Op.kept gw4 app
  clear app
  replace Og := Ng
  clear Ng gw4
  go_wp2_with fail
  refine (heldIntS_any _ _ _ _ _ Og.reads lR0 (by omega) (by omega)).mono ?_
  rintro e w' ⟨rfl, rfl⟩
  go_wp2_with fail
  refine (implReadTree_e s _ ⟨GE.below hg.1 Bw4, GN.below hg.2 Bw4⟩ hs).mono ?_
  rintro e w5 ⟨vh, rfl, Oh, bw5⟩
  have zw5 := bw5.size
  have Bw5 := Bw4.trans (bw5.mono Bw4.size)
  replace Op := Op.below bw5
  replace Og := Og.below bw5
  rw [← HR0.out] at Oh
  rw [← HR1.out]
  obtain ⟨ah, ch, rfl, _, _, _, _⟩ := Oh.form
  have Kh := Lib.hid Oh.lt
  go_wp2_with fail
  refine (eqIntS_any _ _ _ _ _ _ _ Oh.reads Op.reads lR0 lR0).mono ?_
  rintro e w6x ⟨rfl, nw6, rfl⟩
  have bw6 := Go.below_drewN (Below.refl w5.heap.size w5) nw6
  obtain ⟨w6, qw6⟩ : ∃ x, x = w5.drewN nw6 := ⟨_, rfl⟩
  rw [← qw6] at bw6 ⊢
  clear qw6
  have zw6 := bw6.size
  have Bw6 := Bw5.trans (bw6.mono Bw5.size)
  replace Op := Op.below bw6
  replace Og := Og.below bw6
  replace Oh := Oh.below bw6
  go_wp2_with fail
  refine (heldIntS_any _ _ _ _ _ Og.reads lR0 (by omega) (by omega)).mono ?_
  rintro e w' ⟨rfl, rfl⟩
  go_wp2
  go_ret
  exact ⟨rfl, Bw6⟩

end Go.Proofs.YtoaiaindcmihjaaGreatDoor
