/-
  laws.FnAddKey: the walk.
-/
import Derived.Test.YtjkcahmbocjacaaJ2
import Derived.Test.YtjkcahmbocjacaaW9
import Derived.Test.YtjkcahmbocjacaaDF
import Derived.Test.YtjkcahmbocjacaaEq
namespace Go.Proofs.Ytjkcahmbocjacaa
open Go.RowKit

set_option maxHeartbeats 8000000 in
set_option maxRecDepth 100000 in
theorem lawFnAddKey (a : Option Addr) (n cap : Nat) (w : World) (hB : Bytes w w.heap.size a n) (hn : n ≤ 9223372036854775807) (hc : n ≤ cap) :
    Calls Try.prog 5 #[.slice a n cap] w fun e w' => e = .returned (.bool true) ∧ Below w.heap.size w w' := by
  by_cases hbig : 1048576 < n
  · go_enter Try.func5, Try.ntmps5
    go_wp2
    go_ret
    exact ⟨rfl, Below.refl _ _⟩
  go_enter Try.func5, Try.ntmps5
  go_wp2_with fail
  refine (drawAddKey_any a n cap w hB hn hc).mono ?_
  rintro e w1 ⟨b, ww, s, k, rfl, hin, hk, B1⟩
  clear hB hn hc
  have zz := B1.size
  have x0 := SBox.new w1 b ww s
  have B0 := B1.alloc zz (.cells #[.int .i64 b, .int .i64 ww, .int .i64 s] 24)
  obtain ⟨w0, e0⟩ : ∃ w0, w0 = w1.alloc (.cells #[.int .i64 b, .int .i64 ww, .int .i64 s] 24) := ⟨_, rfl⟩
  rw [← e0] at x0 B0
  have E0 := Lib.hid e0
  clear e0 B1
  obtain ⟨b2, hb2⟩ : ∃ x, x = ADb b ww s k := ⟨_, rfl⟩
  obtain ⟨ww2, hww2⟩ : ∃ x, x = ADw b ww s k := ⟨_, rfl⟩
  obtain ⟨s2, hs2⟩ : ∃ x, x = ADs b ww s k := ⟨_, rfl⟩
  obtain ⟨ok, hok⟩ : ∃ x, x = ADo b ww s k := ⟨_, rfl⟩
  have ci := fun wx => implAddKey_any b ww s k wx
  have cs := fun wx => specAddKey_any b ww s k wx
  rw [← hb2, ← hww2, ← hs2, ← hok] at ci cs
  have CI := Lib.hid ci
  have CS := Lib.hid cs
  have HB2 := Lib.hid hb2
  have HW2 := Lib.hid hww2
  have HS2 := Lib.hid hs2
  have HOK := Lib.hid hok
  have q1 := eqg_sv
  have q2 := eq_sv_self b2 ww2 s2
  clear ci cs hb2 hww2 hs2 hok hin
  go_wp2_with fail
  rw [← E0.out]
  refine (CI.out _).mono ?_
  rintro e w2 ⟨rfl, c2⟩
  have x2 := x0.belowAll c2
  have B2 := B0.trans (c2.mono B0.size)
  have zx := x2.lt
  clear c2 x0 B0
  have z2 := B2.size
  have y3 := SBox.new w2 b2 ww2 s2
  have x3 := x2.alloc (.cells #[.int .i64 b2, .int .i64 ww2, .int .i64 s2] 24)
  have B3 := B2.alloc z2 (.cells #[.int .i64 b2, .int .i64 ww2, .int .i64 s2] 24)
  obtain ⟨w3, e3⟩ : ∃ w3, w3 = w2.alloc (.cells #[.int .i64 b2, .int .i64 ww2, .int .i64 s2] 24) := ⟨_, rfl⟩
  rw [← e3] at y3 x3 B3
  have E3 := Lib.hid e3
  clear e3 x2 B2
  go_upto_region 5 with fail
  rw [← E3.out]
  have p0 := x3.c0
  have p1 := x3.c1
  have p2 := x3.c2
  go_wp2_with fail
  refine (CS.out _).mono ?_
  rintro e w4 ⟨rfl, c4⟩
  have x4 := x3.belowAll c4
  have y4 := y3.belowAll c4
  have B4 := B3.trans (c4.mono B3.size)
  have zy := y4.lt
  clear c4 x3 y3 B3 p0 p1 p2
  have z4 := B4.size
  have v5 := SBox.new w4 b2 ww2 s2
  have x5 := x4.alloc (.cells #[.int .i64 b2, .int .i64 ww2, .int .i64 s2] 24)
  have y5 := y4.alloc (.cells #[.int .i64 b2, .int .i64 ww2, .int .i64 s2] 24)
  have B5 := B4.alloc z4 (.cells #[.int .i64 b2, .int .i64 ww2, .int .i64 s2] 24)
  obtain ⟨w5, e5⟩ : ∃ w5, w5 = w4.alloc (.cells #[.int .i64 b2, .int .i64 ww2, .int .i64 s2] 24) := ⟨_, rfl⟩
  rw [← e5] at v5 y5 x5 B5
  have E5 := Lib.hid e5
  clear e5 x4 y4 B4
  go_upto_region 6 with fail
  rw [← E5.out]
  have p0 := y5.c0
  have p1 := y5.c1
  have p2 := y5.c2
  have r0 := v5.c0
  have r1 := v5.c1
  have r2 := v5.c2
  cases ok with
  | false =>
    go_wp2
    go_ret
    exact ⟨rfl, B5⟩
  | true =>
    have hvk : VSv b ww s = true ∧ KM k = true := by
      have := HOK.out
      unfold ADo at this
      simpa using this.symm
    have eb : b2 = b := by rw [HB2.out]; exact if_pos hvk
    have ew : ww2 = ww := by rw [HW2.out]; exact if_pos hvk
    subst eb
    subst ew
    have h1 := ADs_again hvk.1 hvk.2
    have h2 := MHS_add hvk.1 hvk.2
    have h3 := ADs_keeps hvk.1 hvk.2
    have h4 := fun x => MHS_mono (x := x) hvk.1 hvk.2
    have hs0 := (VSv_iff.1 hvk.1).2.2.1
    have hsn := VSv_nat hvk.1
    have hvo := VSv_or (k := k) hvk.1
    rw [← HS2.out] at h1 h2 h3
    rw [← HS2.out] at h4
    have hs2n : s2.toNat < 65536 := by
      have e : s2 = ((s.toNat ||| MKn b2 ww2 k : Nat) : Int) := by rw [HS2.out]; exact if_pos hvk
      rw [← e] at hvo
      exact (VSv_nat hvo).2
    obtain ⟨S, rfl⟩ : ∃ S : Nat, s = S := ⟨s.toNat, by omega⟩
    obtain ⟨S2, rfl⟩ : ∃ S2 : Nat, s2 = S2 := ⟨s2.toNat, h3.1⟩
    rw [Int.toNat_natCast] at hsn hs2n
    rw [Int.toNat_natCast, Int.toNat_natCast] at h3
    have han := bits_and_i64_nat S2 S (by omega) (by omega)
    rw [h3.2] at han
    have ha := fun wx => implAddKey_any b2 ww2 (S2 : Int) k wx
    have hvo2 : VSv b2 ww2 (S2 : Int) = true := by
      have e : (S2 : Int) = ((S ||| MKn b2 ww2 k : Nat) : Int) := by rw [HS2.out]; exact if_pos hvk
      rw [e]; exact hvo
    have hvk2 : VSv b2 ww2 (S2 : Int) = true ∧ KM k = true := ⟨hvo2, hvk.2⟩
    rw [h1, show ADb b2 ww2 (S2 : Int) k = b2 from if_pos hvk2, show ADw b2 ww2 (S2 : Int) k = ww2 from if_pos hvk2, show ADo b2 ww2 (S2 : Int) k = true from by unfold ADo; rw [hvk2.1, hvk2.2]; rfl] at ha
    have hm := fun wx => implMayHave_any b2 ww2 (S2 : Int) k wx
    rw [h2] at hm
    have CA := Lib.hid ha
    have CM := Lib.hid hm
    have H4 := Lib.hid h4
    clear hvk h1 h2 h3 h4 ha hm hvo hvo2 hvk2 HB2 HW2 HS2 HOK hs0 CI CS E0 E3 E5
    go_wp2_with fail
    clear p0 p1 p2 r0 r1 r2 v5
    go_loopw [9] (fun jv wr => ∃ j : Nat, jv = .int .i64 (j : Int) ∧ j ≤ 93 ∧ SBox wr w1.heap.size b2 ww2 S ∧ SBox wr w2.heap.size b2 ww2 S2 ∧ Below w.heap.size w wr) (fun jv _ => 93 - (intOf jv).toNat)
    case atStart => exact ⟨0, rfl, by omega, x5, y5, B5⟩
    case round =>
      clear x5 y5 B5
      obtain ⟨j, rfl, hj, x6, y6, B6⟩ := hrel
      by_cases hlt : j < 93
      · have hj1 : (j : Int) ≤ 92 := by omega
        have c1 := fun wx => implMayHave_any b2 ww2 (S : Int) (j : Int) wx
        have c2 := fun wx => implMayHave_any b2 ww2 (S2 : Int) (j : Int) wx
        have p0 := x6.c0
        have p1 := x6.c1
        have p2 := x6.c2
        by_cases hh : MHS b2 ww2 (S : Int) (j : Int) = true
        · rw [hh] at c1
          rw [H4.out _ hh] at c2
          have C1 := Lib.hid c1
          have C2 := Lib.hid c2
          clear c1 c2 hh
          go_wp2_with fail
          refine (C1.out _).mono ?_
          rintro e w7 ⟨rfl, c7⟩
          have x7 := x6.belowAll c7
          have y7 := y6.belowAll c7
          have B7 := B6.trans (c7.mono B6.size)
          clear x6 y6 B6 c7 p0 p1 p2
          have p0 := y7.c0
          have p1 := y7.c1
          have p2 := y7.c2
          go_wp2_with fail
          refine (C2.out _).mono ?_
          rintro e w8 ⟨rfl, c8⟩
          have x8 := x7.belowAll c8
          have y8 := y7.belowAll c8
          have B8 := B7.trans (c8.mono B7.size)
          clear x7 y7 B7 c8 p0 p1 p2
          go_wp2
          go_roundw
          case rel => exact ⟨j + 1, by go_num, by omega, x8, y8, B8⟩
          case measure => simp [intOf]; omega
        · rw [eq_false_of_ne_true hh] at c1
          have C1 := Lib.hid c1
          clear c1 c2 hh
          go_wp2_with fail
          refine (C1.out _).mono ?_
          rintro e w7 ⟨rfl, c7⟩
          have x7 := x6.belowAll c7
          have y7 := y6.belowAll c7
          have B7 := B6.trans (c7.mono B6.size)
          clear x6 y6 B6 c7 p0 p1 p2
          go_wp2
          go_roundw
          case rel => exact ⟨j + 1, by go_num, by omega, x7, y7, B7⟩
          case measure => simp [intOf]; omega
      · obtain rfl : j = 93 := by omega
        have p0 := y6.c0
        have p1 := y6.c1
        have p2 := y6.c2
        go_wp2_with fail
        refine (CA.out _).mono ?_
        rintro e w7 ⟨rfl, c7⟩
        have x7 := x6.belowAll c7
        have y7 := y6.belowAll c7
        have B7 := B6.trans (c7.mono B6.size)
        clear x6 y6 B6 c7 p0 p1 p2
        have z7 := B7.size
        have v8 := SBox.new w7 b2 ww2 (S2 : Int)
        have x8 := x7.alloc (.cells #[.int .i64 b2, .int .i64 ww2, .int .i64 (S2 : Int)] 24)
        have y8 := y7.alloc (.cells #[.int .i64 b2, .int .i64 ww2, .int .i64 (S2 : Int)] 24)
        have B8 := B7.alloc z7 (.cells #[.int .i64 b2, .int .i64 ww2, .int .i64 (S2 : Int)] 24)
        obtain ⟨w8, e8⟩ : ∃ w8, w8 = w7.alloc (.cells #[.int .i64 b2, .int .i64 ww2, .int .i64 (S2 : Int)] 24) := ⟨_, rfl⟩
        rw [← e8] at v8 y8 x8 B8
        have E8 := Lib.hid e8
        clear e8 x7 y7 B7
        go_upto_region 14 with fail
        rw [← E8.out]
        have p0 := y8.c0
        have p1 := y8.c1
        have p2 := y8.c2
        go_wp2_with fail
        refine (CM.out _).mono ?_
        rintro e w9 ⟨rfl, c9⟩
        have x9 := x8.belowAll c9
        have y9 := y8.belowAll c9
        have v9 := v8.belowAll c9
        have B9 := B8.trans (c9.mono B8.size)
        clear x8 y8 v8 B8 c9 p0 p1 p2
        have p0 := y9.c0
        have p1 := y9.c1
        have p2 := y9.c2
        have r0 := v9.c0
        have r1 := v9.c1
        have r2 := v9.c2
        have u2 := x9.c2
        go_wp2
        go_ret
        exact ⟨rfl, B9⟩
end Go.Proofs.Ytjkcahmbocjacaa
