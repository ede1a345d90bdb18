/-
  laws.FnValidSieve, FnMarksOf, FnHowMany: the walks.
-/
import Derived.Test.YtjkcahmbocjacaaJ2
import Derived.Test.YtjkcahmbocjacaaW9
import Derived.Test.YtjkcahmbocjacaaDF
namespace Go.Proofs.Ytjkcahmbocjacaa
open Go.RowKit

set_option maxHeartbeats 8000000 in
set_option maxRecDepth 100000 in
theorem lawFnValidSieve (a : Option Addr) (n cap : Nat) (w : World) (hB : Bytes w w.heap.size a n) (hn : n ≤ 9223372036854775807) (hc : n ≤ cap) :
    Calls Try.prog 3 #[.slice a n cap] w fun e w' => e = .returned (.bool true) ∧ Below w.heap.size w w' := by
  by_cases hbig : 1048576 < n
  · go_enter Try.func3, Try.ntmps3
    go_wp2
    go_ret
    exact ⟨rfl, Below.refl _ _⟩
  go_enter Try.func3, Try.ntmps3
  go_wp2_with fail
  refine (drawValidSieve_any a n cap w hB hn hc).mono ?_
  rintro e w1 ⟨b, ww, s, rfl, hin, B1⟩
  clear hB hn hc
  have zz := B1.size
  have x0 := SBox.new w1 b ww s
  have B0 := B1.alloc zz (.cells #[.int .i64 b, .int .i64 ww, .int .i64 s] 24)
  obtain ⟨w0, e0⟩ : ∃ w0, w0 = w1.alloc (.cells #[.int .i64 b, .int .i64 ww, .int .i64 s] 24) := ⟨_, rfl⟩
  rw [← e0] at x0 B0
  have E0 := Lib.hid e0
  clear e0 B1
  obtain ⟨V, hV⟩ : ∃ V, V = VSv b ww s := ⟨_, rfl⟩
  have ci := fun wx => implValidSieve_any b ww s wx
  have cs := fun wx => specValidSieve_any b ww s wx
  rw [← hV] at ci cs
  have CI := Lib.hid ci
  have CS := Lib.hid cs
  have HV := Lib.hid hV
  clear ci cs hV
  go_wp2_with fail
  rw [← E0.out]
  refine (CI.out _).mono ?_
  rintro e w2 ⟨rfl, b2⟩
  have x2 := x0.belowAll b2
  have B2 := B0.trans (b2.mono B0.size)
  clear b2 x0 B0
  have p0 := x2.c0
  have p1 := x2.c1
  have p2 := x2.c2
  go_wp2_with fail
  clear p0 p1 p2
  refine (CS.out _).mono ?_
  rintro e w3 ⟨rfl, b3⟩
  have x3 := x2.belowAll b3
  have B3 := B2.trans (b3.mono B2.size)
  clear b3 x2 B2
  have p0 := x3.c0
  have p1 := x3.c1
  have p2 := x3.c2
  cases V with
  | false =>
    go_wp2_with fail
    clear p0 p1 p2
    refine (CS.out _).mono ?_
    rintro e w4 ⟨rfl, b4⟩
    have x4 := x3.belowAll b4
    have B4 := B3.trans (b4.mono B3.size)
    clear b4 x3 B3
    have p0 := x4.c0
    have p1 := x4.c1
    have p2 := x4.c2
    go_wp2
    go_ret
    exact ⟨rfl, B4⟩
  | true =>
    have hv := HV.out.symm
    have ci := fun wx => implValidSieve_any b ww 0 wx
    have ch := fun wx => implHowMany_any b ww 0 wx
    rw [VSv_zero hv] at ci
    rw [HMS_zero hv] at ch
    have CI0 := Lib.hid ci
    have CH := Lib.hid ch
    have pf := x3.fz 2
    have x4 := x3.set2 0
    have B4 := B3.setCell (p := ⟨w1.heap.size, 2, none⟩) zz (.int .i64 0)
    obtain ⟨w4, e4⟩ : ∃ w4, w4 = w3.setCell ⟨w1.heap.size, 2, none⟩ (.int .i64 0) := ⟨_, rfl⟩
    rw [← e4] at x4 B4
    have E4 := Lib.hid e4
    clear e4 ci ch hv x3 B3
    go_upto_region 8 with fail
    rw [← E4.out]
    clear p0 p1 p2 pf
    have p0 := x4.c0
    have p1 := x4.c1
    have p2 := x4.c2
    go_wp2_with fail
    clear p0 p1 p2
    refine (CI0.out _).mono ?_
    rintro e w5 ⟨rfl, b5⟩
    have x5 := x4.belowAll b5
    have B5 := B4.trans (b5.mono B4.size)
    clear b5 x4 B4
    have p0 := x5.c0
    have p1 := x5.c1
    have p2 := x5.c2
    go_wp2_with fail
    clear p0 p1 p2
    refine (CH.out _).mono ?_
    rintro e w6 ⟨rfl, b6⟩
    have x6 := x5.belowAll b6
    have B6 := B5.trans (b6.mono B5.size)
    clear b6 x5 B5
    have p0 := x6.c0
    have p1 := x6.c1
    have p2 := x6.c2
    go_wp2
    go_ret
    exact ⟨rfl, B6⟩

set_option maxHeartbeats 8000000 in
set_option maxRecDepth 100000 in
theorem lawFnMarksOf (a : Option Addr) (n cap : Nat) (w : World) (hB : Bytes w w.heap.size a n) (hn : n ≤ 9223372036854775807) (hc : n ≤ cap) :
    Calls Try.prog 4 #[.slice a n cap] w fun e w' => e = .returned (.bool true) ∧ Below w.heap.size w w' := by
  by_cases hbig : 1048576 < n
  · go_enter Try.func4, Try.ntmps4
    go_wp2
    go_ret
    exact ⟨rfl, Below.refl _ _⟩
  go_enter Try.func4, Try.ntmps4
  go_wp2_with fail
  refine (drawMarksOf_any a n cap w hB hn hc).mono ?_
  rintro e w1 ⟨b, ww, s, k, rfl, hin, hk, B1⟩
  clear hB hn hc
  have zz := B1.size
  have x0 := SBox.new w1 b ww s
  have B0 := B1.alloc zz (.cells #[.int .i64 b, .int .i64 ww, .int .i64 s] 24)
  obtain ⟨w0, e0⟩ : ∃ w0, w0 = w1.alloc (.cells #[.int .i64 b, .int .i64 ww, .int .i64 s] 24) := ⟨_, rfl⟩
  rw [← e0] at x0 B0
  have E0 := Lib.hid e0
  clear e0 B1
  obtain ⟨M, hM⟩ : ∃ M, M = MKS b ww s k := ⟨_, rfl⟩
  have ci := fun wx => implMarksOf_any b ww s k wx
  have cs := fun wx => specMarksOf_any b ww s k wx
  rw [← hM] at ci cs
  have CI := Lib.hid ci
  have CS := Lib.hid cs
  have eM : (M != M) = false := by simp
  have eM2 : (M == M) = true := by simp
  have hcs := MKS_cases b ww s k
  rw [← hM] at hcs
  have HCS := Lib.hid hcs
  clear ci cs hM hcs
  go_wp2_with fail
  rw [← E0.out]
  refine (CI.out _).mono ?_
  rintro e w2 ⟨rfl, b2⟩
  have x2 := x0.belowAll b2
  have B2 := B0.trans (b2.mono B0.size)
  clear b2 x0 B0
  have p0 := x2.c0
  have p1 := x2.c1
  have p2 := x2.c2
  go_wp2_with fail
  clear p0 p1 p2
  refine (CS.out _).mono ?_
  rintro e w3 ⟨rfl, b3⟩
  have x3 := x2.belowAll b3
  have B3 := B2.trans (b3.mono B2.size)
  clear b3 x2 B2
  have p0 := x3.c0
  have p1 := x3.c1
  have p2 := x3.c2
  by_cases hneg : M < 0
  · go_wp2_with fail
    refine (CS.out _).mono ?_
    rintro e w4 ⟨rfl, b4⟩
    have B4 := B3.trans (b4.mono B3.size)
    go_wp2
    go_ret
    exact ⟨rfl, B4⟩
  · rcases HCS.out with ⟨g1, g2, m, hm, hmn, hm16⟩ | ⟨_, hm⟩
    · have h' := VSv_iff.1 g1
      have hlaw := MKS_law (k := k) g1
      rw [← hmn] at hlaw
      obtain ⟨B, rfl⟩ : ∃ B : Nat, b = B := ⟨b.toNat, by omega⟩
      rw [Int.toNat_natCast] at hlaw h'
      have cw := fun wx => weight_any m wx (by omega)
      have cp := fun wx => lawspower_any B wx (by omega)
      have hps := pow_small (n := B) (by omega)
      obtain ⟨P, hP⟩ : ∃ P, P = 2 ^ B := ⟨_, rfl⟩
      rw [← hP] at hlaw cp hps
      obtain ⟨g, hg⟩ : ∃ g, g = wgt m := ⟨_, rfl⟩
      rw [← hg] at hlaw cw
      have l1 : ((g : Nat) : Int) ≥ 1 := by omega
      have l2 : ((g : Nat) : Int) ≤ ww := hlaw.2.1
      have l3 : (m : Int) < (P : Int) := by omega
      have D1 := Lib.hid (fun (wx : World) n => cw (wx.drewN n))
      have D2 := Lib.hid (fun (wx : World) n => cp (wx.drewN n))
      subst hm
      clear cw cp hP hg hlaw h' g1 g2 hmn hm16 HCS eM eM2 hps hneg
      go_wp2_with fail
      go_quiet (with_reducible first | (go_at_call 28; exact quiet_v (D1.out _ _)) | (go_at_call 29; exact quiet_v (D2.out _ _)))
      all_goals
        go_wp2
        go_ret
        exact ⟨rfl, below_drewN B3 _⟩
    · exfalso; omega
end Go.Proofs.Ytjkcahmbocjacaa
