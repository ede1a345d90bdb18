/-
  laws.FnExactIsFound: the walk. (Written by genexact.py.)
-/
import Derived.Test.YtninnjkjodhpaaaS3
import Derived.Test.YtninnjkjodhpaaaI4
import Derived.Test.YtninnjkjodhpaaaLib
namespace Go.Proofs.Ytninnjkjodhpaaa
open Go.RowKit

set_option maxHeartbeats 4000000 in
set_option maxRecDepth 100000 in
theorem lawExactIsFound (m : Int) (al : Option Addr) (l : List Int) (capl : Nat) (au : Option Addr) (u : List Int) (capu : Nat) (w : World) (hm : In64 m) (rl : Reads w al l) (il : ∀ n ∈ l, In64 n) (_sl : l.length ≤ 9223372036854775807) (ru : Reads w au u) (iu : ∀ n ∈ u, In64 n) (_su : u.length ≤ 9223372036854775807) :
    Calls Try.prog 14 #[.int .i64 m, .slice al l.length capl, .slice au u.length capu] w fun e w' => e = .returned (.bool true) ∧ Below w.heap.size w w' := by
  by_cases bigl : 1048576 < l.length
  · go_enter Try.func14, Try.ntmps14
    go_wp2
    go_ret
    exact ⟨rfl, Below.refl _ _⟩
  have ll : l.length ≤ 1048586 := by omega
  by_cases bigu : 1048576 < u.length
  · go_enter Try.func14, Try.ntmps14
    go_wp2
    go_ret
    exact ⟨rfl, Below.refl _ _⟩
  have lu : u.length ≤ 1048586 := by omega
  obtain ⟨R0, hR0⟩ : ∃ R : Bool, R = FD m l u := ⟨_, rfl⟩
  have eR0 : (R0 != R0) = false := by simp
  have HR0 := Lib.hid hR0
  clear hR0
  have el := eqL_self l
  have eu := eqL_self u
  have Bw := Below.refl w.heap.size w
  go_enter Try.func14, Try.ntmps14
  go_wp2_with fail
  refine (toIntS_any _ _ _ _ (rl.below Bw) ll).mono ?_
  rintro e w1 ⟨rfl, Ocl, bw1, sw1⟩
  have zw1 := bw1.size
  have Bw1 := Bw.trans (bw1.mono Bw.size)
  have Kcl := Lib.hid Ocl.lt
  go_wp2_with fail
  refine (toIntS_any _ _ _ _ (ru.below Bw1) lu).mono ?_
  rintro e w2 ⟨rfl, Ocu, bw2, sw2⟩
  have zw2 := bw2.size
  have Bw2 := Bw1.trans (bw2.mono Bw1.size)
  replace Ocl := Ocl.below bw2
  have Kcu := Lib.hid Ocu.lt
  go_wp2_with fail
  refine (specIsFound_any m _ l _ _ u _ _ hm Ocl.reads il ll Ocu.reads iu lu).mono ?_
  rintro e w3 ⟨rfl, bw3⟩
  have zw3 := bw3.size
  have Bw3 := Bw2.trans (bw3.mono Bw2.size)
  replace Ocl := Ocl.below bw3
  replace Ocu := Ocu.below bw3
  rw [← HR0.out]
  clear Ocl Kcl
  clear Ocu Kcu
  go_wp2_with fail
  refine (toIntS_any _ _ _ _ (rl.below Bw3) ll).mono ?_
  rintro e w4 ⟨rfl, Oxl, bw4, sw4⟩
  have zw4 := bw4.size
  have Bw4 := Bw3.trans (bw4.mono Bw3.size)
  have Kxl := Lib.hid Oxl.lt
  go_wp2_with fail
  refine (toIntS_any _ _ _ _ (ru.below Bw4) lu).mono ?_
  rintro e w5 ⟨rfl, Oxu, bw5, sw5⟩
  have zw5 := bw5.size
  have Bw5 := Bw4.trans (bw5.mono Bw4.size)
  replace Oxl := Oxl.below bw5
  have Kxu := Lib.hid Oxu.lt
  go_wp2_with fail
  refine (implIsFound_any m _ l _ _ u _ _ hm Oxl.reads il ll Oxu.reads iu lu).mono ?_
  rintro e w6 ⟨rfl, bw6⟩
  have zw6 := bw6.size
  have Bw6 := Bw5.trans (bw6.mono Bw5.size)
  replace Oxl := Oxl.below bw6
  replace Oxu := Oxu.below bw6
  rw [← HR0.out]
  go_wp2_with fail
  refine (toIntS_any _ _ _ _ (rl.below Bw6) ll).mono ?_
  rintro e w7 ⟨rfl, Odl, bw7, sw7⟩
  have zw7 := bw7.size
  have Bw7 := Bw6.trans (bw7.mono Bw6.size)
  replace Oxl := Oxl.below bw7
  replace Oxu := Oxu.below bw7
  have Kdl := Lib.hid Odl.lt
  go_wp2_with fail
  refine (eqIntS_any _ _ _ _ _ _ _ Oxl.reads Odl.reads ll ll).mono ?_
  rintro e w8x ⟨rfl, nw8, rfl⟩
  have bw8 := below_drewN (Below.refl w7.heap.size w7) nw8
  obtain ⟨w8, qw8⟩ : ∃ x, x = w7.drewN nw8 := ⟨_, rfl⟩
  rw [← qw8] at bw8 ⊢
  clear qw8
  have zw8 := bw8.size
  have Bw8 := Bw7.trans (bw8.mono Bw7.size)
  replace Oxl := Oxl.below bw8
  replace Oxu := Oxu.below bw8
  replace Odl := Odl.below bw8
  clear Odl Kdl
  go_wp2_with fail
  refine (toIntS_any _ _ _ _ (ru.below Bw8) lu).mono ?_
  rintro e w9 ⟨rfl, Odu, bw9, sw9⟩
  have zw9 := bw9.size
  have Bw9 := Bw8.trans (bw9.mono Bw8.size)
  replace Oxl := Oxl.below bw9
  replace Oxu := Oxu.below bw9
  have Kdu := Lib.hid Odu.lt
  go_wp2_with fail
  refine (eqIntS_any _ _ _ _ _ _ _ Oxu.reads Odu.reads lu lu).mono ?_
  rintro e w10x ⟨rfl, nw10, rfl⟩
  have bw10 := below_drewN (Below.refl w9.heap.size w9) nw10
  obtain ⟨w10, qw10⟩ : ∃ x, x = w9.drewN nw10 := ⟨_, rfl⟩
  rw [← qw10] at bw10 ⊢
  clear qw10
  have zw10 := bw10.size
  have Bw10 := Bw9.trans (bw10.mono Bw9.size)
  replace Oxl := Oxl.below bw10
  replace Oxu := Oxu.below bw10
  replace Odu := Odu.below bw10
  clear Odu Kdu
  go_wp2
  go_ret
  exact ⟨rfl, Bw10⟩

end Go.Proofs.Ytninnjkjodhpaaa
