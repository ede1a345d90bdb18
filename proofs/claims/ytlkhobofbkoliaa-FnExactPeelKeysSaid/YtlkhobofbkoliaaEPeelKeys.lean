/-
  laws.FnExactPeelKeys: the walk. (Written by genexact.py.)
-/
import Derived.Test.YtlkhobofbkoliaaPT
import Derived.Test.YtlkhobofbkoliaaQT
import Derived.Test.YtlkhobofbkoliaaLib
import Derived.Test.YtlkhobofbkoliaaTd
import Derived.Test.YtlkhobofbkoliaaTe
namespace Go.Proofs.Ytlkhobofbkoliaa
open Go.RowKit

set_option maxHeartbeats 4000000 in
set_option maxRecDepth 100000 in
theorem lawExactPeelKeys (m : Int) (ats : Option Addr) (ts : List (List Int)) (capts : Nat) (w : World) (hm : In64 m) (rts : ReadsS w ats ts) (_sts : TLen ts) :
    Calls Try.prog 17 #[.int .i64 m, .slice ats ts.length capts] w fun e w' => e = .returned (.bool true) ∧ Below w.heap.size w w' := by
  by_cases bigts : 1048576 < bulk ts
  · have szts := szIntSS_any ats ts capts w rts _sts
    rw [if_pos bigts] at szts
    go_enter Try.func17, Try.ntmps17
    go_wp2_with fail
    refine szts.mono ?_
    rintro e w1 ⟨rfl, rfl⟩
    go_wp2
    go_ret
    exact ⟨rfl, Below.refl _ _⟩
  have lts : bulk ts ≤ 1048586 := by omega
  have blts := bulk_len ts
  have bkts := bulkK_le (Nat.le_refl ts.length)
  obtain ⟨R0, hR0⟩ : ∃ R : List Int, R = (PK m ts).1 := ⟨_, rfl⟩
  have lR0 : R0.length ≤ 1048586 := by rw [hR0]; exact (by have := (PK_len m ts).1; omega)
  have eR0 := eqL_self R0
  have HR0 := Lib.hid hR0
  clear hR0
  obtain ⟨R1, hR1⟩ : ∃ R : List Int, R = (PK m ts).2 := ⟨_, rfl⟩
  have lR1 : R1.length ≤ 1048586 := by rw [hR1]; exact (by have := (PK_len m ts).2; omega)
  have eR1 := eqL_self R1
  have HR1 := Lib.hid hR1
  clear hR1
  have Bw := Below.refl w.heap.size w
  go_enter Try.func17, Try.ntmps17
  go_wp2_with fail
  have szts := szIntSS_any ats ts capts w rts _sts
  rw [if_neg bigts] at szts
  refine szts.mono ?_
  clear szts
  rintro e w' ⟨rfl, rfl⟩
  go_wp2_with fail
  refine (toIntSS_any _ _ _ _ (rts.below Bw) lts).mono ?_
  rintro e w1 ⟨Gcts, rfl, Octs, bw1⟩
  have zw1 := bw1.size
  have Bw1 := Bw.trans (bw1.mono Bw.size)
  go_wp2_with fail
  refine (specPeelKeys_any m _ ts _ _ hm Octs.reads lts).mono ?_
  rintro e w2 ⟨vp0, vp1, rfl, Op0, Op1, bw2, app⟩
  have zw2 := bw2.size
  have Bw2 := Bw1.trans (bw2.mono Bw1.size)
  replace Octs := Octs.below bw2
  rw [← HR0.out] at Op0
  rw [← HR1.out] at Op1
  obtain ⟨ap0, cp0, rfl, _, _, _, _⟩ := Op0.form
  have Kp0 := Lib.hid Op0.lt
  obtain ⟨ap1, cp1, rfl, _, _, _, _⟩ := Op1.form
  have Kp1 := Lib.hid Op1.lt
  have APp := Lib.hid app
  clear app
  clear Octs
  go_wp2_with fail
  refine (toIntSS_any _ _ _ _ (rts.below Bw2) lts).mono ?_
  rintro e w3 ⟨Gxts, rfl, Oxts, bw3⟩
  have zw3 := bw3.size
  have Bw3 := Bw2.trans (bw3.mono Bw2.size)
  replace Op0 := Op0.below bw3
  replace Op1 := Op1.below bw3
  go_wp2_with fail
  refine (implPeelKeys_any m _ ts _ _ hm Oxts.reads lts).mono ?_
  rintro e w4 ⟨vg0, vg1, rfl, Og0, Og1, bw4, apg⟩
  have zw4 := bw4.size
  have Bw4 := Bw3.trans (bw4.mono Bw3.size)
  replace Op0 := Op0.below bw4
  replace Op1 := Op1.below bw4
  replace Oxts := Oxts.below bw4
  rw [← HR0.out] at Og0
  rw [← HR1.out] at Og1
  obtain ⟨ag0, cg0, rfl, _, _, _, _⟩ := Og0.form
  have Kg0 := Lib.hid Og0.lt
  obtain ⟨ag1, cg1, rfl, _, _, _, _⟩ := Og1.form
  have Kg1 := Lib.hid Og1.lt
  have APg := Lib.hid apg
  clear apg
  go_wp2_with fail
  refine (eqIntS_any _ _ _ _ _ _ _ Og0.reads Op0.reads lR0 lR0).mono ?_
  rintro e w5x ⟨rfl, nw5, rfl⟩
  have bw5 := below_drewN (Below.refl w4.heap.size w4) nw5
  obtain ⟨w5, qw5⟩ : ∃ x, x = w4.drewN nw5 := ⟨_, rfl⟩
  rw [← qw5] at bw5 ⊢
  clear qw5
  have zw5 := bw5.size
  have Bw5 := Bw4.trans (bw5.mono Bw4.size)
  replace Op0 := Op0.below bw5
  replace Op1 := Op1.below bw5
  replace Oxts := Oxts.below bw5
  replace Og0 := Og0.below bw5
  replace Og1 := Og1.below bw5
  go_wp2_with fail
  refine (eqIntS_any _ _ _ _ _ _ _ Og1.reads Op1.reads lR1 lR1).mono ?_
  rintro e w6x ⟨rfl, nw6, rfl⟩
  have bw6 := below_drewN (Below.refl w5.heap.size w5) nw6
  obtain ⟨w6, qw6⟩ : ∃ x, x = w5.drewN nw6 := ⟨_, rfl⟩
  rw [← qw6] at bw6 ⊢
  clear qw6
  have zw6 := bw6.size
  have Bw6 := Bw5.trans (bw6.mono Bw5.size)
  replace Op0 := Op0.below bw6
  replace Op1 := Op1.below bw6
  replace Oxts := Oxts.below bw6
  replace Og0 := Og0.below bw6
  replace Og1 := Og1.below bw6
  go_wp2_with fail
  refine (toIntSS_any _ _ _ _ (rts.below Bw6) lts).mono ?_
  rintro e w7 ⟨Gdts, rfl, Odts, bw7⟩
  have zw7 := bw7.size
  have Bw7 := Bw6.trans (bw7.mono Bw6.size)
  replace Op0 := Op0.below bw7
  replace Op1 := Op1.below bw7
  replace Oxts := Oxts.below bw7
  replace Og0 := Og0.below bw7
  replace Og1 := Og1.below bw7
  go_wp2_with fail
  refine (eqIntSS_self _ _ _ _ _ _ Oxts.reads Odts.reads lts).mono ?_
  rintro e w8 ⟨rfl, bw8⟩
  have zw8 := bw8.size
  have Bw8 := Bw7.trans (bw8.mono Bw7.size)
  replace Op0 := Op0.below bw8
  replace Op1 := Op1.below bw8
  replace Oxts := Oxts.below bw8
  replace Og0 := Og0.below bw8
  replace Og1 := Og1.below bw8
  replace Odts := Odts.below bw8
  clear Odts
  go_wp2_with fail
  refine (markIntSS_any _ _ _ _ _ _ Oxts lts).mono ?_
  rintro e w9 ⟨rfl, gw9⟩
  have zw9 := gw9.2.2.2.1
  have Bw9 := Below.out Bw8 gw9 Bw8.size (by omega)
  replace Op0 := Op0.out gw9 (out_of Kp0 (by omega))
  replace Op1 := Op1.out gw9 (out_of Kp1 (by omega))
  replace Og0 := Og0.out gw9 (out_of Kg0 (by omega))
  replace Og1 := Og1.out gw9 (out_of Kg1 (by omega))
  clear gw9 Oxts
  go_wp2_with fail
  refine (eqIntS_any _ _ _ _ _ _ _ Og0.reads Op0.reads lR0 lR0).mono ?_
  rintro e w10x ⟨rfl, nw10, rfl⟩
  have bw10 := below_drewN (Below.refl w9.heap.size w9) nw10
  obtain ⟨w10, qw10⟩ : ∃ x, x = w9.drewN nw10 := ⟨_, rfl⟩
  rw [← qw10] at bw10 ⊢
  clear qw10
  have zw10 := bw10.size
  have Bw10 := Bw9.trans (bw10.mono Bw9.size)
  replace Op0 := Op0.below bw10
  replace Op1 := Op1.below bw10
  replace Og0 := Og0.below bw10
  replace Og1 := Og1.below bw10
  go_wp2_with fail
  refine (eqIntS_any _ _ _ _ _ _ _ Og1.reads Op1.reads lR1 lR1).mono ?_
  rintro e w11x ⟨rfl, nw11, rfl⟩
  have bw11 := below_drewN (Below.refl w10.heap.size w10) nw11
  obtain ⟨w11, qw11⟩ : ∃ x, x = w10.drewN nw11 := ⟨_, rfl⟩
  rw [← qw11] at bw11 ⊢
  clear qw11
  have zw11 := bw11.size
  have Bw11 := Bw10.trans (bw11.mono Bw10.size)
  replace Op0 := Op0.below bw11
  replace Op1 := Op1.below bw11
  replace Og0 := Og0.below bw11
  replace Og1 := Og1.below bw11
  have app0 := apart_of Kp0 Kg0 (by omega)
  have app1 := apart_of Kp1 Kg0 (by omega)
  have apg1 := (Ap.symm APg.out)
  go_wp2_with fail
  refine (markIntS_any _ _ _ _ _ Og0 lR0 (by omega) (by omega)).mono ?_
  rintro e w12 ⟨rfl, Ng0, gw12⟩
  have zw12 := gw12.size
  have Bw12 := Below.grownB Bw11 Og0 gw12 Bw11.size (by omega)
  replace Op0 := Op0.kept gw12 app0
  clear app0
  replace Op1 := Op1.kept gw12 app1
  clear app1
  replace Og1 := Og1.kept gw12 apg1
  clear apg1
  replace Og0 := Ng0
  clear Ng0 gw12
  have app0 := apart_of Kp0 Kg1 (by omega)
  have app1 := apart_of Kp1 Kg1 (by omega)
  have apg0 := APg.out
  go_wp2_with fail
  refine (markIntS_any _ _ _ _ _ Og1 lR1 (by omega) (by omega)).mono ?_
  rintro e w13 ⟨rfl, Ng1, gw13⟩
  have zw13 := gw13.size
  have Bw13 := Below.grownB Bw12 Og1 gw13 Bw12.size (by omega)
  replace Op0 := Op0.kept gw13 app0
  clear app0
  replace Op1 := Op1.kept gw13 app1
  clear app1
  replace Og0 := Og0.kept gw13 apg0
  clear apg0
  replace Og1 := Ng1
  clear Ng1 gw13
  go_wp2_with fail
  refine (heldIntS_any _ _ _ _ _ Og0.reads lR0 (by omega) (by omega)).mono ?_
  rintro e w' ⟨rfl, rfl⟩
  go_wp2_with fail
  refine (heldIntS_any _ _ _ _ _ Og1.reads lR1 (by omega) (by omega)).mono ?_
  rintro e w' ⟨rfl, rfl⟩
  go_wp2_with fail
  refine (toIntSS_any _ _ _ _ (rts.below Bw13) lts).mono ?_
  rintro e w14 ⟨Gyts, rfl, Oyts, bw14⟩
  have zw14 := bw14.size
  have Bw14 := Bw13.trans (bw14.mono Bw13.size)
  replace Op0 := Op0.below bw14
  replace Op1 := Op1.below bw14
  replace Og0 := Og0.below bw14
  replace Og1 := Og1.below bw14
  go_wp2_with fail
  refine (implPeelKeys_any m _ ts _ _ hm Oyts.reads lts).mono ?_
  rintro e w15 ⟨vh0, vh1, rfl, Oh0, Oh1, bw15, aph⟩
  have zw15 := bw15.size
  have Bw15 := Bw14.trans (bw15.mono Bw14.size)
  replace Op0 := Op0.below bw15
  replace Op1 := Op1.below bw15
  replace Og0 := Og0.below bw15
  replace Og1 := Og1.below bw15
  replace Oyts := Oyts.below bw15
  rw [← HR0.out] at Oh0
  rw [← HR1.out] at Oh1
  obtain ⟨ah0, ch0, rfl, _, _, _, _⟩ := Oh0.form
  have Kh0 := Lib.hid Oh0.lt
  obtain ⟨ah1, ch1, rfl, _, _, _, _⟩ := Oh1.form
  have Kh1 := Lib.hid Oh1.lt
  have APh := Lib.hid aph
  clear aph
  clear Oyts
  go_wp2_with fail
  refine (eqIntS_any _ _ _ _ _ _ _ Oh0.reads Op0.reads lR0 lR0).mono ?_
  rintro e w16x ⟨rfl, nw16, rfl⟩
  have bw16 := below_drewN (Below.refl w15.heap.size w15) nw16
  obtain ⟨w16, qw16⟩ : ∃ x, x = w15.drewN nw16 := ⟨_, rfl⟩
  rw [← qw16] at bw16 ⊢
  clear qw16
  have zw16 := bw16.size
  have Bw16 := Bw15.trans (bw16.mono Bw15.size)
  replace Op0 := Op0.below bw16
  replace Op1 := Op1.below bw16
  replace Og0 := Og0.below bw16
  replace Og1 := Og1.below bw16
  replace Oh0 := Oh0.below bw16
  replace Oh1 := Oh1.below bw16
  go_wp2_with fail
  refine (eqIntS_any _ _ _ _ _ _ _ Oh1.reads Op1.reads lR1 lR1).mono ?_
  rintro e w17x ⟨rfl, nw17, rfl⟩
  have bw17 := below_drewN (Below.refl w16.heap.size w16) nw17
  obtain ⟨w17, qw17⟩ : ∃ x, x = w16.drewN nw17 := ⟨_, rfl⟩
  rw [← qw17] at bw17 ⊢
  clear qw17
  have zw17 := bw17.size
  have Bw17 := Bw16.trans (bw17.mono Bw16.size)
  replace Op0 := Op0.below bw17
  replace Op1 := Op1.below bw17
  replace Og0 := Og0.below bw17
  replace Og1 := Og1.below bw17
  replace Oh0 := Oh0.below bw17
  replace Oh1 := Oh1.below bw17
  go_wp2_with fail
  refine (heldIntS_any _ _ _ _ _ Og0.reads lR0 (by omega) (by omega)).mono ?_
  rintro e w' ⟨rfl, rfl⟩
  go_wp2_with fail
  refine (heldIntS_any _ _ _ _ _ Og1.reads lR1 (by omega) (by omega)).mono ?_
  rintro e w' ⟨rfl, rfl⟩
  go_wp2
  go_ret
  exact ⟨rfl, Bw17⟩

end Go.Proofs.Ytlkhobofbkoliaa
