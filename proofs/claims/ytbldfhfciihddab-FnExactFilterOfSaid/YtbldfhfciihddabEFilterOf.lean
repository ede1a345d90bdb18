/-
  laws.FnExactFilterOf: the walk. (Written by genexact.py.)
-/
import Derived.Test.YtbldfhfciihddabPF
import Derived.Test.YtbldfhfciihddabQE
import Derived.Test.YtbldfhfciihddabLib
import Derived.Test.YtbldfhfciihddabTd
namespace Go.Proofs.Ytbldfhfciihddab
open Go.RowKit

set_option maxHeartbeats 4000000 in
set_option maxRecDepth 100000 in
theorem lawExactFilterOf (m : Int) (ats : Option Addr) (ts : List (List Int)) (capts : Nat) (ap : Option Addr) (p : List Int) (capp : Nat) (w : World) (hm : In64 m) (rts : ReadsS w ats ts) (_sts : TLen ts) (rp : Reads w ap p) (ip : ∀ n ∈ p, In64 n) (_sp : p.length ≤ 9223372036854775807) :
    Calls Try.prog 4 #[.int .i64 m, .slice ats ts.length capts, .slice ap p.length capp] w fun e w' => e = .returned (.bool true) ∧ Below w.heap.size w w' := by
  by_cases bigp : 1048576 < p.length
  · go_enter Try.func4, Try.ntmps4
    go_wp2
    go_ret
    exact ⟨rfl, Below.refl _ _⟩
  have lp : p.length ≤ 1048586 := by omega
  by_cases bigts : 1048576 < bulk ts
  · have szts := szIntSS_any ats ts capts w rts _sts
    rw [if_pos bigts] at szts
    go_enter Try.func4, Try.ntmps4
    go_wp2_with fail
    refine szts.mono ?_
    rintro e w1 ⟨rfl, rfl⟩
    go_wp2
    go_ret
    exact ⟨rfl, Below.refl _ _⟩
  have lts : bulk ts ≤ 1048586 := by omega
  have blts := bulk_len ts
  have bkts := bulkK_le (Nat.le_refl ts.length)
  obtain ⟨R0, hR0⟩ : ∃ R : List Int, R = (FO m ts p).1 := ⟨_, rfl⟩
  have lR0 : R0.length ≤ 1048586 := by rw [hR0]; exact FO_len m ts p
  have eR0 := eqL_self R0
  have HR0 := Lib.hid hR0
  clear hR0
  obtain ⟨R1, hR1⟩ : ∃ R : Bool, R = (FO m ts p).2 := ⟨_, rfl⟩
  have eR1 : (R1 != R1) = false := by simp
  have HR1 := Lib.hid hR1
  clear hR1
  have ep := eqL_self p
  have Bw := Below.refl w.heap.size w
  go_enter Try.func4, Try.ntmps4
  go_wp2_with fail
  have szts := szIntSS_any ats ts capts w rts _sts
  rw [if_neg bigts] at szts
  refine szts.mono ?_
  clear szts
  rintro e w' ⟨rfl, rfl⟩
  go_wp2_with fail
  refine (toIntSS_any _ _ _ _ (rts.below Bw) lts).mono ?_
  rintro e w1 ⟨Gcts, rfl, Octs, bw1⟩
  have zw1 := bw1.size
  have Bw1 := Bw.trans (bw1.mono Bw.size)
  go_wp2_with fail
  refine (toIntS_any _ _ _ _ (rp.below Bw1) lp).mono ?_
  rintro e w2 ⟨rfl, Ocp, bw2, sw2⟩
  have zw2 := bw2.size
  have Bw2 := Bw1.trans (bw2.mono Bw1.size)
  replace Octs := Octs.below bw2
  have Kcp := Lib.hid Ocp.lt
  go_wp2_with fail
  refine (specFilterOf_any m _ ts _ _ p _ _ hm Octs.reads lts Ocp.reads ip lp).mono ?_
  rintro e w3 ⟨vp, rfl, Op, bw3⟩
  have zw3 := bw3.size
  have Bw3 := Bw2.trans (bw3.mono Bw2.size)
  replace Octs := Octs.below bw3
  replace Ocp := Ocp.below bw3
  rw [← HR0.out] at Op
  rw [← HR1.out]
  obtain ⟨ap, cp, rfl, _, _, _, _⟩ := Op.form
  have Kp := Lib.hid Op.lt
  clear Octs
  clear Ocp Kcp
  go_wp2_with fail
  refine (toIntSS_any _ _ _ _ (rts.below Bw3) lts).mono ?_
  rintro e w4 ⟨Gxts, rfl, Oxts, bw4⟩
  have zw4 := bw4.size
  have Bw4 := Bw3.trans (bw4.mono Bw3.size)
  replace Op := Op.below bw4
  go_wp2_with fail
  refine (toIntS_any _ _ _ _ (rp.below Bw4) lp).mono ?_
  rintro e w5 ⟨rfl, Oxp, bw5, sw5⟩
  have zw5 := bw5.size
  have Bw5 := Bw4.trans (bw5.mono Bw4.size)
  replace Op := Op.below bw5
  replace Oxts := Oxts.below bw5
  have Kxp := Lib.hid Oxp.lt
  go_wp2_with fail
  refine (implFilterOf_any m _ ts _ _ p _ _ hm Oxts.reads lts Oxp.reads ip lp).mono ?_
  rintro e w6 ⟨vg, rfl, Og, bw6⟩
  have zw6 := bw6.size
  have Bw6 := Bw5.trans (bw6.mono Bw5.size)
  replace Op := Op.below bw6
  replace Oxts := Oxts.below bw6
  replace Oxp := Oxp.below bw6
  rw [← HR0.out] at Og
  rw [← HR1.out]
  obtain ⟨ag, cg, rfl, _, _, _, _⟩ := Og.form
  have Kg := Lib.hid Og.lt
  go_wp2_with fail
  refine (eqIntS_any _ _ _ _ _ _ _ Og.reads Op.reads lR0 lR0).mono ?_
  rintro e w7x ⟨rfl, nw7, rfl⟩
  have bw7 := below_drewN (Below.refl w6.heap.size w6) nw7
  obtain ⟨w7, qw7⟩ : ∃ x, x = w6.drewN nw7 := ⟨_, rfl⟩
  rw [← qw7] at bw7 ⊢
  clear qw7
  have zw7 := bw7.size
  have Bw7 := Bw6.trans (bw7.mono Bw6.size)
  replace Op := Op.below bw7
  replace Oxts := Oxts.below bw7
  replace Oxp := Oxp.below bw7
  replace Og := Og.below bw7
  go_wp2_with fail
  refine (toIntSS_any _ _ _ _ (rts.below Bw7) lts).mono ?_
  rintro e w8 ⟨Gdts, rfl, Odts, bw8⟩
  have zw8 := bw8.size
  have Bw8 := Bw7.trans (bw8.mono Bw7.size)
  replace Op := Op.below bw8
  replace Oxts := Oxts.below bw8
  replace Oxp := Oxp.below bw8
  replace Og := Og.below bw8
  go_wp2_with fail
  refine (eqIntSS_self _ _ _ _ _ _ Oxts.reads Odts.reads lts).mono ?_
  rintro e w9 ⟨rfl, bw9⟩
  have zw9 := bw9.size
  have Bw9 := Bw8.trans (bw9.mono Bw8.size)
  replace Op := Op.below bw9
  replace Oxts := Oxts.below bw9
  replace Oxp := Oxp.below bw9
  replace Og := Og.below bw9
  replace Odts := Odts.below bw9
  clear Odts
  go_wp2_with fail
  refine (toIntS_any _ _ _ _ (rp.below Bw9) lp).mono ?_
  rintro e w10 ⟨rfl, Odp, bw10, sw10⟩
  have zw10 := bw10.size
  have Bw10 := Bw9.trans (bw10.mono Bw9.size)
  replace Op := Op.below bw10
  replace Oxts := Oxts.below bw10
  replace Oxp := Oxp.below bw10
  replace Og := Og.below bw10
  have Kdp := Lib.hid Odp.lt
  go_wp2_with fail
  refine (eqIntS_any _ _ _ _ _ _ _ Oxp.reads Odp.reads lp lp).mono ?_
  rintro e w11x ⟨rfl, nw11, rfl⟩
  have bw11 := below_drewN (Below.refl w10.heap.size w10) nw11
  obtain ⟨w11, qw11⟩ : ∃ x, x = w10.drewN nw11 := ⟨_, rfl⟩
  rw [← qw11] at bw11 ⊢
  clear qw11
  have zw11 := bw11.size
  have Bw11 := Bw10.trans (bw11.mono Bw10.size)
  replace Op := Op.below bw11
  replace Oxts := Oxts.below bw11
  replace Oxp := Oxp.below bw11
  replace Og := Og.below bw11
  replace Odp := Odp.below bw11
  clear Odp Kdp
  go_wp2_with fail
  refine (markIntSS_any _ _ _ _ _ _ Oxts lts).mono ?_
  rintro e w12 ⟨rfl, gw12⟩
  have zw12 := gw12.2.2.2.1
  have Bw12 := Below.out Bw11 gw12 Bw11.size (by omega)
  replace Op := Op.out gw12 (out_of Kp (by omega))
  replace Oxp := Oxp.out gw12 (out_of Kxp (by omega))
  replace Og := Og.out gw12 (out_of Kg (by omega))
  clear gw12 Oxts
  have app := apart_of Kp Kxp (by omega)
  have apg := apart_of Kg Kxp (by omega)
  go_wp2_with fail
  refine (markIntS_any _ _ _ _ _ Oxp lp (by omega) (by omega)).mono ?_
  rintro e w13 ⟨rfl, Nxp, gw13⟩
  have zw13 := gw13.size
  have Bw13 := Below.grownB Bw12 Oxp gw13 Bw12.size (by omega)
  replace Op := Op.kept gw13 app
  clear app
  replace Og := Og.kept gw13 apg
  clear apg
  replace Oxp := Nxp
  clear Nxp gw13
  clear Oxp Kxp
  go_wp2_with fail
  refine (eqIntS_any _ _ _ _ _ _ _ Og.reads Op.reads lR0 lR0).mono ?_
  rintro e w14x ⟨rfl, nw14, rfl⟩
  have bw14 := below_drewN (Below.refl w13.heap.size w13) nw14
  obtain ⟨w14, qw14⟩ : ∃ x, x = w13.drewN nw14 := ⟨_, rfl⟩
  rw [← qw14] at bw14 ⊢
  clear qw14
  have zw14 := bw14.size
  have Bw14 := Bw13.trans (bw14.mono Bw13.size)
  replace Op := Op.below bw14
  replace Og := Og.below bw14
  have app := apart_of Kp Kg (by omega)
  go_wp2_with fail
  refine (markIntS_any _ _ _ _ _ Og lR0 (by omega) (by omega)).mono ?_
  rintro e w15 ⟨rfl, Ng, gw15⟩
  have zw15 := gw15.size
  have Bw15 := Below.grownB Bw14 Og gw15 Bw14.size (by omega)
  replace Op := Op.kept gw15 app
  clear app
  replace Og := Ng
  clear Ng gw15
  go_wp2_with fail
  refine (heldIntS_any _ _ _ _ _ Og.reads lR0 (by omega) (by omega)).mono ?_
  rintro e w' ⟨rfl, rfl⟩
  go_wp2_with fail
  refine (toIntSS_any _ _ _ _ (rts.below Bw15) lts).mono ?_
  rintro e w16 ⟨Gyts, rfl, Oyts, bw16⟩
  have zw16 := bw16.size
  have Bw16 := Bw15.trans (bw16.mono Bw15.size)
  replace Op := Op.below bw16
  replace Og := Og.below bw16
  go_wp2_with fail
  refine (toIntS_any _ _ _ _ (rp.below Bw16) lp).mono ?_
  rintro e w17 ⟨rfl, Oyp, bw17, sw17⟩
  have zw17 := bw17.size
  have Bw17 := Bw16.trans (bw17.mono Bw16.size)
  replace Op := Op.below bw17
  replace Og := Og.below bw17
  replace Oyts := Oyts.below bw17
  have Kyp := Lib.hid Oyp.lt
  go_wp2_with fail
  refine (implFilterOf_any m _ ts _ _ p _ _ hm Oyts.reads lts Oyp.reads ip lp).mono ?_
  rintro e w18 ⟨vh, rfl, Oh, bw18⟩
  have zw18 := bw18.size
  have Bw18 := Bw17.trans (bw18.mono Bw17.size)
  replace Op := Op.below bw18
  replace Og := Og.below bw18
  replace Oyts := Oyts.below bw18
  replace Oyp := Oyp.below bw18
  rw [← HR0.out] at Oh
  rw [← HR1.out]
  obtain ⟨ah, ch, rfl, _, _, _, _⟩ := Oh.form
  have Kh := Lib.hid Oh.lt
  clear Oyts
  clear Oyp Kyp
  go_wp2_with fail
  refine (eqIntS_any _ _ _ _ _ _ _ Oh.reads Op.reads lR0 lR0).mono ?_
  rintro e w19x ⟨rfl, nw19, rfl⟩
  have bw19 := below_drewN (Below.refl w18.heap.size w18) nw19
  obtain ⟨w19, qw19⟩ : ∃ x, x = w18.drewN nw19 := ⟨_, rfl⟩
  rw [← qw19] at bw19 ⊢
  clear qw19
  have zw19 := bw19.size
  have Bw19 := Bw18.trans (bw19.mono Bw18.size)
  replace Op := Op.below bw19
  replace Og := Og.below bw19
  replace Oh := Oh.below bw19
  go_wp2_with fail
  refine (heldIntS_any _ _ _ _ _ Og.reads lR0 (by omega) (by omega)).mono ?_
  rintro e w' ⟨rfl, rfl⟩
  go_wp2
  go_ret
  exact ⟨rfl, Bw19⟩

end Go.Proofs.Ytbldfhfciihddab
