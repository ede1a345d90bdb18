/-
  laws.FnExactBoundedOwners: the walk. (Written by genexact.py.)
-/
import Derived.Test.YtbldfhfciihddaaY6
import Derived.Test.YtbldfhfciihddaaZC
import Derived.Test.YtbldfhfciihddaaLib
namespace Go.Proofs.Ytbldfhfciihddaa
open Go.RowKit

set_option maxHeartbeats 4000000 in
set_option maxRecDepth 100000 in
theorem lawExactBoundedOwners (al : Option Addr) (l : List Int) (capl : Nat) (aks : Option Addr) (ks : List Int) (capks : Nat) (load : Int) (w : World) (rl : Reads w al l) (il : ∀ n ∈ l, In64 n) (_sl : l.length ≤ 9223372036854775807) (rks : Reads w aks ks) (iks : ∀ n ∈ ks, In64 n) (_sks : ks.length ≤ 9223372036854775807) (hload : In64 load) :
    Calls Try.prog 18 #[.slice al l.length capl, .slice aks ks.length capks, .int .i64 load] w fun e w' => e = .returned (.bool true) ∧ Below w.heap.size w w' := by
  by_cases bigl : 1048576 < l.length
  · go_enter Try.func18, Try.ntmps18
    go_wp2
    go_ret
    exact ⟨rfl, Below.refl _ _⟩
  have ll : l.length ≤ 1048586 := by omega
  by_cases bigks : 1048576 < ks.length
  · go_enter Try.func18, Try.ntmps18
    go_wp2
    go_ret
    exact ⟨rfl, Below.refl _ _⟩
  have lks : ks.length ≤ 1048586 := by omega
  obtain ⟨R0, hR0⟩ : ∃ R : List Int, R = (BO l ks load).1 := ⟨_, rfl⟩
  have lR0 : R0.length ≤ 1048586 := by rw [hR0]; exact BO_len l ks load
  have eR0 := eqL_self R0
  have HR0 := Lib.hid hR0
  clear hR0
  obtain ⟨R1, hR1⟩ : ∃ R : Bool, R = (BO l ks load).2 := ⟨_, rfl⟩
  have eR1 : (R1 != R1) = false := by simp
  have HR1 := Lib.hid hR1
  clear hR1
  have el := eqL_self l
  have eks := eqL_self ks
  have Bw := Below.refl w.heap.size w
  go_enter Try.func18, Try.ntmps18
  go_wp2_with fail
  refine (toIntS_any _ _ _ _ (rl.below Bw) ll).mono ?_
  rintro e w1 ⟨rfl, Ocl, bw1, sw1⟩
  have zw1 := bw1.size
  have Bw1 := Bw.trans (bw1.mono Bw.size)
  have Kcl := Lib.hid Ocl.lt
  go_wp2_with fail
  refine (toIntS_any _ _ _ _ (rks.below Bw1) lks).mono ?_
  rintro e w2 ⟨rfl, Ocks, bw2, sw2⟩
  have zw2 := bw2.size
  have Bw2 := Bw1.trans (bw2.mono Bw1.size)
  replace Ocl := Ocl.below bw2
  have Kcks := Lib.hid Ocks.lt
  go_wp2_with fail
  refine (specBoundedOwners_any _ l _ _ ks _ load _ Ocl.reads il ll (Nat.le_refl _) Ocks.reads iks lks (Nat.le_refl _) hload).mono ?_
  rintro e w3 ⟨vp, rfl, Op, bw3⟩
  have zw3 := bw3.size
  have Bw3 := Bw2.trans (bw3.mono Bw2.size)
  replace Ocl := Ocl.below bw3
  replace Ocks := Ocks.below bw3
  rw [← HR0.out] at Op
  rw [← HR1.out]
  obtain ⟨ap, cp, rfl, _, _, _, _⟩ := Op.form
  have Kp := Lib.hid Op.lt
  clear Ocl Kcl
  clear Ocks Kcks
  go_wp2_with fail
  refine (toIntS_any _ _ _ _ (rl.below Bw3) ll).mono ?_
  rintro e w4 ⟨rfl, Oxl, bw4, sw4⟩
  have zw4 := bw4.size
  have Bw4 := Bw3.trans (bw4.mono Bw3.size)
  replace Op := Op.below bw4
  have Kxl := Lib.hid Oxl.lt
  go_wp2_with fail
  refine (toIntS_any _ _ _ _ (rks.below Bw4) lks).mono ?_
  rintro e w5 ⟨rfl, Oxks, bw5, sw5⟩
  have zw5 := bw5.size
  have Bw5 := Bw4.trans (bw5.mono Bw4.size)
  replace Op := Op.below bw5
  replace Oxl := Oxl.below bw5
  have Kxks := Lib.hid Oxks.lt
  go_wp2_with fail
  refine (implBoundedOwners_any _ l _ _ ks _ load _ Oxl.reads il ll (Nat.le_refl _) Oxks.reads iks lks (Nat.le_refl _) hload).mono ?_
  rintro e w6 ⟨vg, rfl, Og, bw6⟩
  have zw6 := bw6.size
  have Bw6 := Bw5.trans (bw6.mono Bw5.size)
  replace Op := Op.below bw6
  replace Oxl := Oxl.below bw6
  replace Oxks := Oxks.below bw6
  rw [← HR0.out] at Og
  rw [← HR1.out]
  obtain ⟨ag, cg, rfl, _, _, _, _⟩ := Og.form
  have Kg := Lib.hid Og.lt
  go_wp2_with fail
  refine (eqIntS_any _ _ _ _ _ _ _ Og.reads Op.reads lR0 lR0).mono ?_
  rintro e w7x ⟨rfl, nw7, rfl⟩
  have bw7 := below_drewN (Below.refl w6.heap.size w6) nw7
  obtain ⟨w7, qw7⟩ : ∃ x, x = w6.drewN nw7 := ⟨_, rfl⟩
  rw [← qw7] at bw7 ⊢
  clear qw7
  have zw7 := bw7.size
  have Bw7 := Bw6.trans (bw7.mono Bw6.size)
  replace Op := Op.below bw7
  replace Oxl := Oxl.below bw7
  replace Oxks := Oxks.below bw7
  replace Og := Og.below bw7
  go_wp2_with fail
  refine (toIntS_any _ _ _ _ (rl.below Bw7) ll).mono ?_
  rintro e w8 ⟨rfl, Odl, bw8, sw8⟩
  have zw8 := bw8.size
  have Bw8 := Bw7.trans (bw8.mono Bw7.size)
  replace Op := Op.below bw8
  replace Oxl := Oxl.below bw8
  replace Oxks := Oxks.below bw8
  replace Og := Og.below bw8
  have Kdl := Lib.hid Odl.lt
  go_wp2_with fail
  refine (eqIntS_any _ _ _ _ _ _ _ Oxl.reads Odl.reads ll ll).mono ?_
  rintro e w9x ⟨rfl, nw9, rfl⟩
  have bw9 := below_drewN (Below.refl w8.heap.size w8) nw9
  obtain ⟨w9, qw9⟩ : ∃ x, x = w8.drewN nw9 := ⟨_, rfl⟩
  rw [← qw9] at bw9 ⊢
  clear qw9
  have zw9 := bw9.size
  have Bw9 := Bw8.trans (bw9.mono Bw8.size)
  replace Op := Op.below bw9
  replace Oxl := Oxl.below bw9
  replace Oxks := Oxks.below bw9
  replace Og := Og.below bw9
  replace Odl := Odl.below bw9
  clear Odl Kdl
  go_wp2_with fail
  refine (toIntS_any _ _ _ _ (rks.below Bw9) lks).mono ?_
  rintro e w10 ⟨rfl, Odks, bw10, sw10⟩
  have zw10 := bw10.size
  have Bw10 := Bw9.trans (bw10.mono Bw9.size)
  replace Op := Op.below bw10
  replace Oxl := Oxl.below bw10
  replace Oxks := Oxks.below bw10
  replace Og := Og.below bw10
  have Kdks := Lib.hid Odks.lt
  go_wp2_with fail
  refine (eqIntS_any _ _ _ _ _ _ _ Oxks.reads Odks.reads lks lks).mono ?_
  rintro e w11x ⟨rfl, nw11, rfl⟩
  have bw11 := below_drewN (Below.refl w10.heap.size w10) nw11
  obtain ⟨w11, qw11⟩ : ∃ x, x = w10.drewN nw11 := ⟨_, rfl⟩
  rw [← qw11] at bw11 ⊢
  clear qw11
  have zw11 := bw11.size
  have Bw11 := Bw10.trans (bw11.mono Bw10.size)
  replace Op := Op.below bw11
  replace Oxl := Oxl.below bw11
  replace Oxks := Oxks.below bw11
  replace Og := Og.below bw11
  replace Odks := Odks.below bw11
  clear Odks Kdks
  have app := apart_of Kp Kxl (by omega)
  have apxks := apart_of Kxks Kxl (by omega)
  have apg := apart_of Kg Kxl (by omega)
  go_wp2_with fail
  refine (markIntS_any _ _ _ _ _ Oxl ll (by omega) (by omega)).mono ?_
  rintro e w12 ⟨rfl, Nxl, gw12⟩
  have zw12 := gw12.size
  have Bw12 := Below.grownB Bw11 Oxl gw12 Bw11.size (by omega)
  replace Op := Op.kept gw12 app
  clear app
  replace Oxks := Oxks.kept gw12 apxks
  clear apxks
  replace Og := Og.kept gw12 apg
  clear apg
  replace Oxl := Nxl
  clear Nxl gw12
  clear Oxl Kxl
  have app := apart_of Kp Kxks (by omega)
  have apg := apart_of Kg Kxks (by omega)
  go_wp2_with fail
  refine (markIntS_any _ _ _ _ _ Oxks lks (by omega) (by omega)).mono ?_
  rintro e w13 ⟨rfl, Nxks, gw13⟩
  have zw13 := gw13.size
  have Bw13 := Below.grownB Bw12 Oxks gw13 Bw12.size (by omega)
  replace Op := Op.kept gw13 app
  clear app
  replace Og := Og.kept gw13 apg
  clear apg
  replace Oxks := Nxks
  clear Nxks gw13
  clear Oxks Kxks
  go_wp2_with fail
  refine (eqIntS_any _ _ _ _ _ _ _ Og.reads Op.reads lR0 lR0).mono ?_
  rintro e w14x ⟨rfl, nw14, rfl⟩
  have bw14 := below_drewN (Below.refl w13.heap.size w13) nw14
  obtain ⟨w14, qw14⟩ : ∃ x, x = w13.drewN nw14 := ⟨_, rfl⟩
  rw [← qw14] at bw14 ⊢
  clear qw14
  have zw14 := bw14.size
  have Bw14 := Bw13.trans (bw14.mono Bw13.size)
  replace Op := Op.below bw14
  replace Og := Og.below bw14
  have app := apart_of Kp Kg (by omega)
  go_wp2_with fail
  refine (markIntS_any _ _ _ _ _ Og lR0 (by omega) (by omega)).mono ?_
  rintro e w15 ⟨rfl, Ng, gw15⟩
  have zw15 := gw15.size
  have Bw15 := Below.grownB Bw14 Og gw15 Bw14.size (by omega)
  replace Op := Op.kept gw15 app
  clear app
  replace Og := Ng
  clear Ng gw15
  go_wp2_with fail
  refine (heldIntS_any _ _ _ _ _ Og.reads lR0 (by omega) (by omega)).mono ?_
  rintro e w' ⟨rfl, rfl⟩
  go_wp2_with fail
  refine (toIntS_any _ _ _ _ (rl.below Bw15) ll).mono ?_
  rintro e w16 ⟨rfl, Oyl, bw16, sw16⟩
  have zw16 := bw16.size
  have Bw16 := Bw15.trans (bw16.mono Bw15.size)
  replace Op := Op.below bw16
  replace Og := Og.below bw16
  have Kyl := Lib.hid Oyl.lt
  go_wp2_with fail
  refine (toIntS_any _ _ _ _ (rks.below Bw16) lks).mono ?_
  rintro e w17 ⟨rfl, Oyks, bw17, sw17⟩
  have zw17 := bw17.size
  have Bw17 := Bw16.trans (bw17.mono Bw16.size)
  replace Op := Op.below bw17
  replace Og := Og.below bw17
  replace Oyl := Oyl.below bw17
  have Kyks := Lib.hid Oyks.lt
  go_wp2_with fail
  refine (implBoundedOwners_any _ l _ _ ks _ load _ Oyl.reads il ll (Nat.le_refl _) Oyks.reads iks lks (Nat.le_refl _) hload).mono ?_
  rintro e w18 ⟨vh, rfl, Oh, bw18⟩
  have zw18 := bw18.size
  have Bw18 := Bw17.trans (bw18.mono Bw17.size)
  replace Op := Op.below bw18
  replace Og := Og.below bw18
  replace Oyl := Oyl.below bw18
  replace Oyks := Oyks.below bw18
  rw [← HR0.out] at Oh
  rw [← HR1.out]
  obtain ⟨ah, ch, rfl, _, _, _, _⟩ := Oh.form
  have Kh := Lib.hid Oh.lt
  clear Oyl Kyl
  clear Oyks Kyks
  go_wp2_with fail
  refine (eqIntS_any _ _ _ _ _ _ _ Oh.reads Op.reads lR0 lR0).mono ?_
  rintro e w19x ⟨rfl, nw19, rfl⟩
  have bw19 := below_drewN (Below.refl w18.heap.size w18) nw19
  obtain ⟨w19, qw19⟩ : ∃ x, x = w18.drewN nw19 := ⟨_, rfl⟩
  rw [← qw19] at bw19 ⊢
  clear qw19
  have zw19 := bw19.size
  have Bw19 := Bw18.trans (bw19.mono Bw18.size)
  replace Op := Op.below bw19
  replace Og := Og.below bw19
  replace Oh := Oh.below bw19
  go_wp2_with fail
  refine (heldIntS_any _ _ _ _ _ Og.reads lR0 (by omega) (by omega)).mono ?_
  rintro e w' ⟨rfl, rfl⟩
  go_wp2
  go_ret
  exact ⟨rfl, Bw19⟩

end Go.Proofs.Ytbldfhfciihddaa
