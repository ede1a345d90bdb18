/-
  laws.FnExactSketchOf: the walk. (Written by genexact.py.)
-/
import Derived.Test.YtjkcahmbocjacaaK7
import Derived.Test.YtjkcahmbocjacaaK5
import Derived.Test.YtjkcahmbocjacaaTw
import Derived.Test.YtjkcahmbocjacaaTm
import Derived.Test.YtjkcahmbocjacaaLib
import Derived.Test.YtjkcahmbocjacaaTd
namespace Go.Proofs.Ytjkcahmbocjacaa
open Go.RowKit

set_option maxHeartbeats 4000000 in
set_option maxRecDepth 100000 in
theorem lawExactSketchOf (ats : Option Addr) (ts : List (List Int)) (capts : Nat) (k : Int) (w : World) (rts : ReadsS w ats ts) (_sts : TLen64 ts) (hk : In64 k) :
    Calls Try.prog 19 #[.slice ats ts.length capts, .int .i64 k] w fun e w' => e = .returned (.bool true) ∧ Below w.heap.size w w' := by
  by_cases bigts : 1048576 < bulk ts
  · have szts := szIntSS_any ats ts capts w rts _sts.1
    rw [if_pos bigts] at szts
    go_enter Try.func19, Try.ntmps19
    go_wp2_with fail
    refine szts.mono ?_
    rintro e w1 ⟨rfl, rfl⟩
    go_wp2
    go_ret
    exact ⟨rfl, Below.refl _ _⟩
  have lts : bulk ts ≤ 1048586 := by omega
  have blts := bulk_len ts
  have bkts := bulkK_le (Nat.le_refl ts.length)
  obtain ⟨R0, hR0⟩ : ∃ R : List Int, R = SKO ts k := ⟨_, rfl⟩
  have lR0 : R0.length ≤ 1048586 := by rw [hR0]; exact SKO_len ts k
  have eR0 := eqL_self R0
  have HR0 := Lib.hid hR0
  clear hR0
  have Bw := Below.refl w.heap.size w
  go_enter Try.func19, Try.ntmps19
  go_wp2_with fail
  have szts := szIntSS_any ats ts capts w rts _sts.1
  rw [if_neg bigts] at szts
  refine szts.mono ?_
  clear szts
  rintro e w' ⟨rfl, rfl⟩
  go_wp2_with fail
  refine (toIntSS_any _ _ _ _ (rts.below Bw) lts).mono ?_
  rintro e w1 ⟨Gcts, rfl, Octs, bw1⟩
  have zw1 := bw1.size
  have Bw1 := Bw.trans (bw1.mono Bw.size)
  go_wp2_with fail
  refine (specSketchOf_any _ ts _ k _ Octs.reads lts hk).mono ?_
  rintro e w2 ⟨vp, rfl, Op, bw2⟩
  have zw2 := bw2.size
  have Bw2 := Bw1.trans (bw2.mono Bw1.size)
  replace Octs := Octs.below bw2
  rw [← HR0.out] at Op
  obtain ⟨ap, cp, rfl, _, _, _, _⟩ := Op.form
  have Kp := Lib.hid Op.lt
  clear Octs
  go_wp2_with fail
  refine (toIntSS_any _ _ _ _ (rts.below Bw2) lts).mono ?_
  rintro e w3 ⟨Gxts, rfl, Oxts, bw3⟩
  have zw3 := bw3.size
  have Bw3 := Bw2.trans (bw3.mono Bw2.size)
  replace Op := Op.below bw3
  go_wp2_with fail
  refine (implSketchOf_any _ ts _ k _ Oxts.reads lts hk _sts.2).mono ?_
  rintro e w4 ⟨vg, rfl, Og, bw4⟩
  have zw4 := bw4.size
  have Bw4 := Bw3.trans (bw4.mono Bw3.size)
  replace Op := Op.below bw4
  replace Oxts := Oxts.below bw4
  rw [← HR0.out] at Og
  obtain ⟨ag, cg, rfl, _, _, _, _⟩ := Og.form
  have Kg := Lib.hid Og.lt
  go_wp2_with fail
  refine (eqIntS_any _ _ _ _ _ _ _ Og.reads Op.reads lR0 lR0).mono ?_
  rintro e w5x ⟨rfl, nw5, rfl⟩
  have bw5 := below_drewN (Below.refl w4.heap.size w4) nw5
  obtain ⟨w5, qw5⟩ : ∃ x, x = w4.drewN nw5 := ⟨_, rfl⟩
  rw [← qw5] at bw5 ⊢
  clear qw5
  have zw5 := bw5.size
  have Bw5 := Bw4.trans (bw5.mono Bw4.size)
  replace Op := Op.below bw5
  replace Oxts := Oxts.below bw5
  replace Og := Og.below bw5
  go_wp2_with fail
  refine (toIntSS_any _ _ _ _ (rts.below Bw5) lts).mono ?_
  rintro e w6 ⟨Gdts, rfl, Odts, bw6⟩
  have zw6 := bw6.size
  have Bw6 := Bw5.trans (bw6.mono Bw5.size)
  replace Op := Op.below bw6
  replace Oxts := Oxts.below bw6
  replace Og := Og.below bw6
  go_wp2_with fail
  refine (eqIntSS_self _ _ _ _ _ _ Oxts.reads Odts.reads lts).mono ?_
  rintro e w7 ⟨rfl, bw7⟩
  have zw7 := bw7.size
  have Bw7 := Bw6.trans (bw7.mono Bw6.size)
  replace Op := Op.below bw7
  replace Oxts := Oxts.below bw7
  replace Og := Og.below bw7
  replace Odts := Odts.below bw7
  clear Odts
  go_wp2_with fail
  refine (markIntSS_any _ _ _ _ _ _ Oxts lts).mono ?_
  rintro e w8 ⟨rfl, gw8⟩
  have zw8 := gw8.2.2.2.1
  have Bw8 := Below.out Bw7 gw8 Bw7.size (by omega)
  replace Op := Op.out gw8 (out_of Kp (by omega))
  replace Og := Og.out gw8 (out_of Kg (by omega))
  clear gw8 Oxts
  go_wp2_with fail
  refine (eqIntS_any _ _ _ _ _ _ _ Og.reads Op.reads lR0 lR0).mono ?_
  rintro e w9x ⟨rfl, nw9, rfl⟩
  have bw9 := below_drewN (Below.refl w8.heap.size w8) nw9
  obtain ⟨w9, qw9⟩ : ∃ x, x = w8.drewN nw9 := ⟨_, rfl⟩
  rw [← qw9] at bw9 ⊢
  clear qw9
  have zw9 := bw9.size
  have Bw9 := Bw8.trans (bw9.mono Bw8.size)
  replace Op := Op.below bw9
  replace Og := Og.below bw9
  have app := apart_of Kp Kg (by omega)
  go_wp2_with fail
  refine (markIntS_any _ _ _ _ _ Og lR0 (by omega) (by omega)).mono ?_
  rintro e w10 ⟨rfl, Ng, gw10⟩
  have zw10 := gw10.size
  have Bw10 := Below.grownB Bw9 Og gw10 Bw9.size (by omega)
  replace Op := Op.kept gw10 app
  clear app
  replace Og := Ng
  clear Ng gw10
  go_wp2_with fail
  refine (heldIntS_any _ _ _ _ _ Og.reads lR0 (by omega) (by omega)).mono ?_
  rintro e w' ⟨rfl, rfl⟩
  go_wp2_with fail
  refine (toIntSS_any _ _ _ _ (rts.below Bw10) lts).mono ?_
  rintro e w11 ⟨Gyts, rfl, Oyts, bw11⟩
  have zw11 := bw11.size
  have Bw11 := Bw10.trans (bw11.mono Bw10.size)
  replace Op := Op.below bw11
  replace Og := Og.below bw11
  go_wp2_with fail
  refine (implSketchOf_any _ ts _ k _ Oyts.reads lts hk _sts.2).mono ?_
  rintro e w12 ⟨vh, rfl, Oh, bw12⟩
  have zw12 := bw12.size
  have Bw12 := Bw11.trans (bw12.mono Bw11.size)
  replace Op := Op.below bw12
  replace Og := Og.below bw12
  replace Oyts := Oyts.below bw12
  rw [← HR0.out] at Oh
  obtain ⟨ah, ch, rfl, _, _, _, _⟩ := Oh.form
  have Kh := Lib.hid Oh.lt
  clear Oyts
  go_wp2_with fail
  refine (eqIntS_any _ _ _ _ _ _ _ Oh.reads Op.reads lR0 lR0).mono ?_
  rintro e w13x ⟨rfl, nw13, rfl⟩
  have bw13 := below_drewN (Below.refl w12.heap.size w12) nw13
  obtain ⟨w13, qw13⟩ : ∃ x, x = w12.drewN nw13 := ⟨_, rfl⟩
  rw [← qw13] at bw13 ⊢
  clear qw13
  have zw13 := bw13.size
  have Bw13 := Bw12.trans (bw13.mono Bw12.size)
  replace Op := Op.below bw13
  replace Og := Og.below bw13
  replace Oh := Oh.below bw13
  go_wp2_with fail
  refine (heldIntS_any _ _ _ _ _ Og.reads lR0 (by omega) (by omega)).mono ?_
  rintro e w' ⟨rfl, rfl⟩
  go_wp2
  go_ret
  exact ⟨rfl, Bw13⟩

end Go.Proofs.Ytjkcahmbocjacaa
