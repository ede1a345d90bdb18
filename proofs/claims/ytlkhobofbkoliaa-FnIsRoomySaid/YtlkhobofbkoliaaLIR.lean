/-
  laws.FnIsRoomy: the walk.
-/
import Derived.Test.YtlkhobofbkoliaaDp
import Derived.Test.YtlkhobofbkoliaaPR
import Derived.Test.YtlkhobofbkoliaaQP
import Derived.Test.YtlkhobofbkoliaaQR
import Derived.Test.YtlkhobofbkoliaaG8
namespace Go.Proofs.Ytlkhobofbkoliaa
open Go.RowKit

theorem PL_rmy {m : Int} {l : List (Int × Int)} (h : VP m l = true) : (PL m l).2 = IRm m l := by
  obtain ⟨M, rfl, hP⟩ := Prs.of_VP h
  unfold PL IRm
  rw [if_pos h, h, Int.toNat_natCast, rmy_pla hP]
  cases pla M l <;> rfl

set_option maxHeartbeats 4000000 in
set_option maxRecDepth 100000 in
theorem lawFnIsRoomy (a : Option Addr) (n cap : Nat) (w : World) (hBy : Bytes w w.heap.size a n) (hn : n ≤ 9223372036854775807) (hc : n ≤ cap) :
    Calls Try.prog 7 #[.slice a n cap] w fun e w' => e = .returned (.bool true) ∧ Below w.heap.size w w' := by
  by_cases hbig : 1048576 < n
  · go_enter Try.func7, Try.ntmps7
    go_wp2
    go_ret
    exact ⟨rfl, Below.refl _ _⟩
  go_enter Try.func7, Try.ntmps7
  go_wp2_with fail
  refine (drawIsRoomy_any a n cap w hBy hn hc).mono ?_
  rintro e w1 ⟨m, v, l, rfl, hm, ho, hl, hb⟩
  obtain ⟨av, cv, rfl, hr, _, _, _⟩ := ho.form
  have hm64 : In64 m := by unfold In64; omega
  have z1 := hb.size
  clear ho
  obtain ⟨b0, hb0⟩ : ∃ b0, b0 = IRm m l := ⟨_, rfl⟩
  obtain ⟨b1, hb1⟩ : ∃ b1, b1 = VP m l := ⟨_, rfl⟩
  have HB0 := Lib.hid hb0
  have HB1 := Lib.hid hb1
  have e00 : (b0 != b0) = false := by simp
  have e01 : (b0 == b0) = true := by simp
  have ci := implIsRoomy_any m av l cv w1 hm64 hr (by omega)
  rw [← HB0.out] at ci
  clear hb0 hb1
  go_wp2_with fail
  refine ci.mono ?_
  rintro e w2 ⟨rfl, hb2⟩
  clear ci
  have B2 := hb.trans (hb2.mono z1)
  have z2 := B2.size
  have hr2 := hr.below hb2
  have cs := specIsRoomy_any m av l cv w2 hm64 hr2 (by omega)
  rw [← HB0.out] at cs
  go_wp2_with fail
  refine cs.mono ?_
  rintro e w3 ⟨rfl, hb3⟩
  clear cs
  have B3 := B2.trans (hb3.mono z2)
  have z3 := B3.size
  have hr3 := hr2.below hb3
  clear hb2 hb3 hr2 B2 hr hb
  have cv1 := implValidPairs_any m av l cv w3 hm64 hr3 (by omega)
  rw [← HB1.out] at cv1
  go_wp2_with fail
  refine cv1.mono ?_
  rintro e w4 ⟨rfl, hb4⟩
  clear cv1
  have B4 := B3.trans (hb4.mono z3)
  have z4 := B4.size
  have hr4 := hr3.below hb4
  clear hb4 hr3 B3
  cases b1 with
  | true =>
    have hpl := PL_rmy HB1.out.symm
    rw [← HB0.out] at hpl
    have cp := implPlaceAll_any m av l cv w4 hm64 hr4 (by omega)
    rw [hpl] at cp
    clear hpl
    go_wp2_with fail
    refine cp.mono ?_
    rintro e w5 ⟨v5, rfl, _, hb5⟩
    clear cp
    have B5 := B4.trans (hb5.mono z4)
    go_wp2
    go_ret
    exact ⟨rfl, B5⟩
  | false =>
    have cs2 := specIsRoomy_any m av l cv w4 hm64 hr4 (by omega)
    rw [← HB0.out] at cs2
    go_wp2_with fail
    refine cs2.mono ?_
    rintro e w5 ⟨rfl, hb5⟩
    clear cs2
    have B5 := B4.trans (hb5.mono z4)
    go_wp2
    go_ret
    exact ⟨rfl, B5⟩
end Go.Proofs.Ytlkhobofbkoliaa
