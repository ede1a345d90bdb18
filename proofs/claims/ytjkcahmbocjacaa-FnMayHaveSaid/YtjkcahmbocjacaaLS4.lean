/-
  laws.FnMayHave: the walk.
-/
import Derived.Test.YtjkcahmbocjacaaJ2
import Derived.Test.YtjkcahmbocjacaaW9
import Derived.Test.YtjkcahmbocjacaaDF
import Derived.Test.YtjkcahmbocjacaaEq
namespace Go.Proofs.Ytjkcahmbocjacaa
open Go.RowKit

set_option maxHeartbeats 8000000 in
set_option maxRecDepth 100000 in
theorem lawFnMayHave (a : Option Addr) (n cap : Nat) (w : World) (hB : Bytes w w.heap.size a n) (hn : n ≤ 9223372036854775807) (hc : n ≤ cap) :
    Calls Try.prog 6 #[.slice a n cap] w fun e w' => e = .returned (.bool true) ∧ Below w.heap.size w w' := by
  by_cases hbig : 1048576 < n
  · go_enter Try.func6, Try.ntmps6
    go_wp2
    go_ret
    exact ⟨rfl, Below.refl _ _⟩
  go_enter Try.func6, Try.ntmps6
  go_wp2_with fail
  refine (drawMayHave_any a n cap w hB hn hc).mono ?_
  rintro e w1 ⟨b, ww, s, k, rfl, hin, hk, B1⟩
  clear hB hn hc
  have zz := B1.size
  have x0 := SBox.new w1 b ww s
  have B0 := B1.alloc zz (.cells #[.int .i64 b, .int .i64 ww, .int .i64 s] 24)
  obtain ⟨w0, e0⟩ : ∃ w0, w0 = w1.alloc (.cells #[.int .i64 b, .int .i64 ww, .int .i64 s] 24) := ⟨_, rfl⟩
  rw [← e0] at x0 B0
  have E0 := Lib.hid e0
  clear e0 B1
  obtain ⟨R, hR⟩ : ∃ R, R = MHS b ww s k := ⟨_, rfl⟩
  obtain ⟨V, hV⟩ : ∃ V, V = VSv b ww s := ⟨_, rfl⟩
  have ci := fun wx => implMayHave_any b ww s k wx
  have cs := fun wx => specMayHave_any b ww s k wx
  have cv := fun wx => implValidSieve_any b ww s wx
  rw [← hR] at ci cs
  rw [← hV] at cv
  have CI := Lib.hid ci
  have CS := Lib.hid cs
  have CV := Lib.hid cv
  have HR := Lib.hid hR
  have HV := Lib.hid hV
  have eR : (R != R) = false := by simp
  have eR2 : (R == R) = true := by simp
  clear ci cs cv hR hV hin
  have p0 := x0.c0
  have p1 := x0.c1
  have p2 := x0.c2
  go_wp2_with fail
  rw [← E0.out]
  refine (CI.out _).mono ?_
  rintro e w2 ⟨rfl, c2⟩
  have x2 := x0.belowAll c2
  have B2 := B0.trans (c2.mono B0.size)
  clear c2 x0 B0 p0 p1 p2
  have p0 := x2.c0
  have p1 := x2.c1
  have p2 := x2.c2
  go_wp2_with fail
  refine (CS.out _).mono ?_
  rintro e w3 ⟨rfl, c3⟩
  have x3 := x2.belowAll c3
  have B3 := B2.trans (c3.mono B2.size)
  clear c3 x2 B2 p0 p1 p2
  have p0 := x3.c0
  have p1 := x3.c1
  have p2 := x3.c2
  go_wp2_with fail
  refine (CV.out _).mono ?_
  rintro e w4 ⟨rfl, c4⟩
  have x4 := x3.belowAll c4
  have B4 := B3.trans (c4.mono B3.size)
  clear c4 x3 B3 p0 p1 p2
  have p0 := x4.c0
  have p1 := x4.c1
  have p2 := x4.c2
  cases V with
  | false =>
    go_wp2_with fail
    refine (CS.out _).mono ?_
    rintro e w5 ⟨rfl, c5⟩
    have x5 := x4.belowAll c5
    have B5 := B4.trans (c5.mono B4.size)
    clear c5 x4 B4 p0 p1 p2
    have p0 := x5.c0
    have p1 := x5.c1
    have p2 := x5.c2
    go_wp2
    go_ret
    exact ⟨rfl, B5⟩
  | true =>
    by_cases k0 : k < 0
    · skip
      go_wp2_with fail
      refine (CS.out _).mono ?_
      rintro e w5 ⟨rfl, c5⟩
      have x5 := x4.belowAll c5
      have B5 := B4.trans (c5.mono B4.size)
      clear c5 x4 B4 p0 p1 p2
      have p0 := x5.c0
      have p1 := x5.c1
      have p2 := x5.c2
      go_wp2
      go_ret
      exact ⟨rfl, B5⟩
    by_cases k9 : k > 92
    · skip
      go_wp2_with fail
      refine (CS.out _).mono ?_
      rintro e w5 ⟨rfl, c5⟩
      have x5 := x4.belowAll c5
      have B5 := B4.trans (c5.mono B4.size)
      clear c5 x4 B4 p0 p1 p2
      have p0 := x5.c0
      have p1 := x5.c1
      have p2 := x5.c2
      go_wp2
      go_ret
      exact ⟨rfl, B5⟩
    have hvk : VSv b ww s = true ∧ KM k = true := ⟨HV.out.symm, KM_iff.2 (by omega)⟩
    have ha := fun wx => implAddKey_any b ww s k wx
    have hiff := MHS_iff hvk.1 hvk.2
    rw [← HR.out] at hiff
    rw [show ADb b ww s k = b from if_pos hvk, show ADw b ww s k = ww from if_pos hvk, show ADo b ww s k = true from by unfold ADo; rw [hvk.1, hvk.2]; rfl] at ha
    obtain ⟨s2, hs2⟩ : ∃ x, x = ADs b ww s k := ⟨_, rfl⟩
    rw [← hs2] at ha hiff
    have q1 := eqg_sv
    have q2 := eq_sv_set b ww s2 s
    rw [← hiff] at q2
    have CA := Lib.hid ha
    clear ha hvk hs2 hiff HR HV CI CS CV
    go_wp2_with fail
    refine (CA.out _).mono ?_
    rintro e w5 ⟨rfl, c5⟩
    have x5 := x4.belowAll c5
    have B5 := B4.trans (c5.mono B4.size)
    clear c5 x4 B4 p0 p1 p2
    have p0 := x5.c0
    have p1 := x5.c1
    have p2 := x5.c2
    have z5 := B5.size
    have zx := x5.lt
    have y6 := SBox.new w5 b ww s2
    have x6 := x5.alloc (.cells #[.int .i64 b, .int .i64 ww, .int .i64 s2] 24)
    have B6 := B5.alloc z5 (.cells #[.int .i64 b, .int .i64 ww, .int .i64 s2] 24)
    obtain ⟨w6, e6⟩ : ∃ w6, w6 = w5.alloc (.cells #[.int .i64 b, .int .i64 ww, .int .i64 s2] 24) := ⟨_, rfl⟩
    rw [← e6] at y6 x6 B6
    have E6 := Lib.hid e6
    clear e6 x5 B5
    go_upto_region 8 with fail
    rw [← E6.out]
    clear p0 p1 p2
    have p0 := x6.c0
    have p1 := x6.c1
    have p2 := x6.c2
    have r0 := y6.c0
    have r1 := y6.c1
    have r2 := y6.c2
    go_wp2
    go_ret
    exact ⟨by first | rfl | simp, B6⟩
end Go.Proofs.Ytjkcahmbocjacaa
