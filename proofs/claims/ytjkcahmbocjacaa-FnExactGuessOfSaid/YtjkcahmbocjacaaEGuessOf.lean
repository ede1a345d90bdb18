/-
  laws.FnExactGuessOf: the walk. (Written by genexact.py.)
-/
import Derived.Test.YtjkcahmbocjacaaK2
import Derived.Test.YtjkcahmbocjacaaLib
import Derived.Test.YtjkcahmbocjacaaTd
namespace Go.Proofs.Ytjkcahmbocjacaa
open Go.RowKit

set_option maxHeartbeats 4000000 in
set_option maxRecDepth 100000 in
theorem lawExactGuessOf (ats : Option Addr) (ts : List (List Int)) (capts : Nat) (k : Int) (w : World) (rts : ReadsS w ats ts) (_sts : TLen ts) (hk : In64 k) :
    Calls Try.prog 18 #[.slice ats ts.length capts, .int .i64 k] w fun e w' => e = .returned (.bool true) ∧ Below w.heap.size w w' := by
  by_cases bigts : 1048576 < bulk ts
  · have szts := szIntSS_any ats ts capts w rts _sts
    rw [if_pos bigts] at szts
    go_enter Try.func18, Try.ntmps18
    go_wp2_with fail
    refine szts.mono ?_
    rintro e w1 ⟨rfl, rfl⟩
    go_wp2
    go_ret
    exact ⟨rfl, Below.refl _ _⟩
  have lts : bulk ts ≤ 1048586 := by omega
  have blts := bulk_len ts
  have bkts := bulkK_le (Nat.le_refl ts.length)
  obtain ⟨R0, hR0⟩ : ∃ R : Int, R = GSO ts k := ⟨_, rfl⟩
  have eR0 : (R0 != R0) = false := by simp
  have HR0 := Lib.hid hR0
  clear hR0
  have Bw := Below.refl w.heap.size w
  go_enter Try.func18, Try.ntmps18
  go_wp2_with fail
  have szts := szIntSS_any ats ts capts w rts _sts
  rw [if_neg bigts] at szts
  refine szts.mono ?_
  clear szts
  rintro e w' ⟨rfl, rfl⟩
  go_wp2_with fail
  refine (toIntSS_any _ _ _ _ (rts.below Bw) lts).mono ?_
  rintro e w1 ⟨Gcts, rfl, Octs, bw1⟩
  have zw1 := bw1.size
  have Bw1 := Bw.trans (bw1.mono Bw.size)
  go_wp2_with fail
  refine (specGuessOf_any _ ts _ k _ Octs.reads lts hk).mono ?_
  rintro e w2 ⟨rfl, bw2⟩
  have zw2 := bw2.size
  have Bw2 := Bw1.trans (bw2.mono Bw1.size)
  replace Octs := Octs.below bw2
  rw [← HR0.out]
  clear Octs
  go_wp2_with fail
  refine (toIntSS_any _ _ _ _ (rts.below Bw2) lts).mono ?_
  rintro e w3 ⟨Gxts, rfl, Oxts, bw3⟩
  have zw3 := bw3.size
  have Bw3 := Bw2.trans (bw3.mono Bw2.size)
  go_wp2_with fail
  refine (implGuessOf_any _ ts _ k _ Oxts.reads lts hk).mono ?_
  rintro e w4 ⟨rfl, bw4⟩
  have zw4 := bw4.size
  have Bw4 := Bw3.trans (bw4.mono Bw3.size)
  replace Oxts := Oxts.below bw4
  rw [← HR0.out]
  go_wp2_with fail
  refine (toIntSS_any _ _ _ _ (rts.below Bw4) lts).mono ?_
  rintro e w5 ⟨Gdts, rfl, Odts, bw5⟩
  have zw5 := bw5.size
  have Bw5 := Bw4.trans (bw5.mono Bw4.size)
  replace Oxts := Oxts.below bw5
  go_wp2_with fail
  refine (eqIntSS_self _ _ _ _ _ _ Oxts.reads Odts.reads lts).mono ?_
  rintro e w6 ⟨rfl, bw6⟩
  have zw6 := bw6.size
  have Bw6 := Bw5.trans (bw6.mono Bw5.size)
  replace Oxts := Oxts.below bw6
  replace Odts := Odts.below bw6
  clear Odts
  go_wp2
  go_ret
  exact ⟨rfl, Bw6⟩

end Go.Proofs.Ytjkcahmbocjacaa
