/-
  laws.FnExactDirectoryOf: the walk. (Written by genexact.py.)
-/
import Derived.Test.YtoaiaindcmihjaaNX2
import Derived.Test.YtoaiaindcmihjaaOD2
import Derived.Test.YtoaiaindcmihjaaLib
namespace Go.Proofs.Ytoaiaindcmihjaa
open Go.RowKit

set_option maxHeartbeats 4000000 in
set_option maxRecDepth 100000 in
theorem lawExactDirectoryOf (al : Option Addr) (l : List Int) (capl : Nat) (m : Int) (w : World) (rl : Reads w al l) (il : ∀ n ∈ l, In64 n) (_sl : l.length ≤ 9223372036854775807) (hm : In64 m) :
    Calls Try.prog 8 #[.slice al l.length capl, .int .i64 m] w fun e w' => e = .returned (.bool true) ∧ Below w.heap.size w w' := by
  by_cases bigl : 1048576 < l.length
  · go_enter Try.func8, Try.ntmps8
    go_wp2
    go_ret
    exact ⟨rfl, Below.refl _ _⟩
  have ll : l.length ≤ 1048586 := by omega
  obtain ⟨R0, hR0⟩ : ∃ R : Int, R = DRd l m := ⟨_, rfl⟩
  have eR0 : (R0 != R0) = false := by simp
  have HR0 := Lib.hid hR0
  clear hR0
  obtain ⟨R1, hR1⟩ : ∃ R : List Int, R = DRl l m := ⟨_, rfl⟩
  have lR1 : R1.length ≤ 1048586 := by rw [hR1]; exact DRl_lenE l m
  have eR1 := eqL_self R1
  have HR1 := Lib.hid hR1
  clear hR1
  have el := eqL_self l
  have Bw := Below.refl w.heap.size w
  go_enter Try.func8, Try.ntmps8
  go_wp2_with fail
  refine (toIntS_any _ _ _ _ (rl.below Bw) ll).mono ?_
  rintro e w1 ⟨rfl, Ocl, bw1, sw1⟩
  have zw1 := bw1.size
  have Bw1 := Bw.trans (bw1.mono Bw.size)
  have Kcl := Lib.hid Ocl.lt
  go_wp2_with fail
  refine (specDirectoryOf_e _ l _ m _ Ocl.reads il ll (Nat.le_refl _) hm).mono ?_
  rintro e w2 ⟨vp, rfl, Op, bw2⟩
  have zw2 := bw2.size
  have Bw2 := Bw1.trans (bw2.mono Bw1.size)
  replace Ocl := Ocl.below bw2
  rw [← HR1.out] at Op
  rw [← HR0.out]
  obtain ⟨ap, cp, rfl, _, _, _, _⟩ := Op.form
  have Kp := Lib.hid Op.lt
  clear Ocl Kcl
  go_wp2_with fail
  refine (toIntS_any _ _ _ _ (rl.below Bw2) ll).mono ?_
  rintro e w3 ⟨rfl, Oxl, bw3, sw3⟩
  have zw3 := bw3.size
  have Bw3 := Bw2.trans (bw3.mono Bw2.size)
  replace Op := Op.below bw3
  have Kxl := Lib.hid Oxl.lt
  go_wp2_with fail
  refine (implDirectoryOf_e _ l _ m _ Oxl.reads il ll (Nat.le_refl _) hm).mono ?_
  rintro e w4 ⟨vg, rfl, Og, bw4⟩
  have zw4 := bw4.size
  have Bw4 := Bw3.trans (bw4.mono Bw3.size)
  replace Op := Op.below bw4
  replace Oxl := Oxl.below bw4
  rw [← HR1.out] at Og
  rw [← HR0.out]
  obtain ⟨ag, cg, rfl, _, _, _, _⟩ := Og.form
  have Kg := Lib.hid Og.lt
  go_wp2_with fail
  refine (eqIntS_any _ _ _ _ _ _ _ Og.reads Op.reads lR1 lR1).mono ?_
  rintro e w5x ⟨rfl, nw5, rfl⟩
  have bw5 := below_drewN (Below.refl w4.heap.size w4) nw5
  obtain ⟨w5, qw5⟩ : ∃ x, x = w4.drewN nw5 := ⟨_, rfl⟩
  rw [← qw5] at bw5 ⊢
  clear qw5
  have zw5 := bw5.size
  have Bw5 := Bw4.trans (bw5.mono Bw4.size)
  replace Op := Op.below bw5
  replace Oxl := Oxl.below bw5
  replace Og := Og.below bw5
  go_wp2_with fail
  refine (toIntS_any _ _ _ _ (rl.below Bw5) ll).mono ?_
  rintro e w6 ⟨rfl, Odl, bw6, sw6⟩
  have zw6 := bw6.size
  have Bw6 := Bw5.trans (bw6.mono Bw5.size)
  replace Op := Op.below bw6
  replace Oxl := Oxl.below bw6
  replace Og := Og.below bw6
  have Kdl := Lib.hid Odl.lt
  go_wp2_with fail
  refine (eqIntS_any _ _ _ _ _ _ _ Oxl.reads Odl.reads ll ll).mono ?_
  rintro e w7x ⟨rfl, nw7, rfl⟩
  have bw7 := below_drewN (Below.refl w6.heap.size w6) nw7
  obtain ⟨w7, qw7⟩ : ∃ x, x = w6.drewN nw7 := ⟨_, rfl⟩
  rw [← qw7] at bw7 ⊢
  clear qw7
  have zw7 := bw7.size
  have Bw7 := Bw6.trans (bw7.mono Bw6.size)
  replace Op := Op.below bw7
  replace Oxl := Oxl.below bw7
  replace Og := Og.below bw7
  replace Odl := Odl.below bw7
  clear Odl Kdl
  have app := apart_of Kp Kxl (by omega)
  have apg := apart_of Kg Kxl (by omega)
  go_wp2_with fail
  refine (markIntS_any _ _ _ _ _ Oxl ll (by omega) (by omega)).mono ?_
  rintro e w8 ⟨rfl, Nxl, gw8⟩
  have zw8 := gw8.size
  have Bw8 := Below.grownB Bw7 Oxl gw8 Bw7.size (by omega)
  replace Op := Op.kept gw8 app
  clear app
  replace Og := Og.kept gw8 apg
  clear apg
  replace Oxl := Nxl
  clear Nxl gw8
  clear Oxl Kxl
  go_wp2_with fail
  refine (eqIntS_any _ _ _ _ _ _ _ Og.reads Op.reads lR1 lR1).mono ?_
  rintro e w9x ⟨rfl, nw9, rfl⟩
  have bw9 := below_drewN (Below.refl w8.heap.size w8) nw9
  obtain ⟨w9, qw9⟩ : ∃ x, x = w8.drewN nw9 := ⟨_, rfl⟩
  rw [← qw9] at bw9 ⊢
  clear qw9
  have zw9 := bw9.size
  have Bw9 := Bw8.trans (bw9.mono Bw8.size)
  replace Op := Op.below bw9
  replace Og := Og.below bw9
  have app := apart_of Kp Kg (by omega)
  go_wp2_with fail
  refine (markIntS_any _ _ _ _ _ Og lR1 (by omega) (by omega)).mono ?_
  rintro e w10 ⟨rfl, Ng, gw10⟩
  have zw10 := gw10.size
  have Bw10 := Below.grownB Bw9 Og gw10 Bw9.size (by omega)
  replace Op := Op.kept gw10 app
  clear app
  replace Og := Ng
  clear Ng gw10
  go_wp2_with fail
  refine (heldIntS_any _ _ _ _ _ Og.reads lR1 (by omega) (by omega)).mono ?_
  rintro e w' ⟨rfl, rfl⟩
  go_wp2_with fail
  refine (toIntS_any _ _ _ _ (rl.below Bw10) ll).mono ?_
  rintro e w11 ⟨rfl, Oyl, bw11, sw11⟩
  have zw11 := bw11.size
  have Bw11 := Bw10.trans (bw11.mono Bw10.size)
  replace Op := Op.below bw11
  replace Og := Og.below bw11
  have Kyl := Lib.hid Oyl.lt
  go_wp2_with fail
  refine (implDirectoryOf_e _ l _ m _ Oyl.reads il ll (Nat.le_refl _) hm).mono ?_
  rintro e w12 ⟨vh, rfl, Oh, bw12⟩
  have zw12 := bw12.size
  have Bw12 := Bw11.trans (bw12.mono Bw11.size)
  replace Op := Op.below bw12
  replace Og := Og.below bw12
  replace Oyl := Oyl.below bw12
  rw [← HR1.out] at Oh
  rw [← HR0.out]
  obtain ⟨ah, ch, rfl, _, _, _, _⟩ := Oh.form
  have Kh := Lib.hid Oh.lt
  clear Oyl Kyl
  go_wp2_with fail
  refine (eqIntS_any _ _ _ _ _ _ _ Oh.reads Op.reads lR1 lR1).mono ?_
  rintro e w13x ⟨rfl, nw13, rfl⟩
  have bw13 := below_drewN (Below.refl w12.heap.size w12) nw13
  obtain ⟨w13, qw13⟩ : ∃ x, x = w12.drewN nw13 := ⟨_, rfl⟩
  rw [← qw13] at bw13 ⊢
  clear qw13
  have zw13 := bw13.size
  have Bw13 := Bw12.trans (bw13.mono Bw12.size)
  replace Op := Op.below bw13
  replace Og := Og.below bw13
  replace Oh := Oh.below bw13
  go_wp2_with fail
  refine (heldIntS_any _ _ _ _ _ Og.reads lR1 (by omega) (by omega)).mono ?_
  rintro e w' ⟨rfl, rfl⟩
  go_wp2
  go_ret
  exact ⟨rfl, Bw13⟩

end Go.Proofs.Ytoaiaindcmihjaa
