/-
  laws.FnHowMany: the walk.
-/
import Derived.Test.YtjkcahmbocjacaaJ2
import Derived.Test.YtjkcahmbocjacaaW9
import Derived.Test.YtjkcahmbocjacaaDF
namespace Go.Proofs.Ytjkcahmbocjacaa
open Go.RowKit

set_option maxHeartbeats 8000000 in
set_option maxRecDepth 100000 in
theorem lawFnHowMany (a : Option Addr) (n cap : Nat) (w : World) (hB : Bytes w w.heap.size a n) (hn : n ≤ 9223372036854775807) (hc : n ≤ cap) :
    Calls Try.prog 7 #[.slice a n cap] w fun e w' => e = .returned (.bool true) ∧ Below w.heap.size w w' := by
  by_cases hbig : 1048576 < n
  · go_enter Try.func7, Try.ntmps7
    go_wp2
    go_ret
    exact ⟨rfl, Below.refl _ _⟩
  go_enter Try.func7, Try.ntmps7
  go_wp2_with fail
  refine (drawHowMany_any a n cap w hB hn hc).mono ?_
  rintro e w1 ⟨b, ww, s, rfl, hin, B1⟩
  clear hB hn hc
  have zz := B1.size
  have x0 := SBox.new w1 b ww s
  have B0 := B1.alloc zz (.cells #[.int .i64 b, .int .i64 ww, .int .i64 s] 24)
  obtain ⟨w0, e0⟩ : ∃ w0, w0 = w1.alloc (.cells #[.int .i64 b, .int .i64 ww, .int .i64 s] 24) := ⟨_, rfl⟩
  rw [← e0] at x0 B0
  have E0 := Lib.hid e0
  clear e0 B1
  obtain ⟨M, hM⟩ : ∃ M, M = HMS b ww s := ⟨_, rfl⟩
  have ci := fun wx => implHowMany_any b ww s wx
  have cs := fun wx => specHowMany_any b ww s wx
  rw [← hM] at ci cs
  have CI := Lib.hid ci
  have CS := Lib.hid cs
  have eM : (M != M) = false := by simp
  have eM2 : (M == M) = true := by simp
  have HM := Lib.hid hM
  clear ci cs hM
  go_wp2_with fail
  rw [← E0.out]
  refine (CI.out _).mono ?_
  rintro e w2 ⟨rfl, b2⟩
  have x2 := x0.belowAll b2
  have B2 := B0.trans (b2.mono B0.size)
  clear b2 x0 B0
  have p0 := x2.c0
  have p1 := x2.c1
  have p2 := x2.c2
  go_wp2_with fail
  clear p0 p1 p2
  refine (CS.out _).mono ?_
  rintro e w3 ⟨rfl, b3⟩
  have x3 := x2.belowAll b3
  have B3 := B2.trans (b3.mono B2.size)
  clear b3 x2 B2
  have p0 := x3.c0
  have p1 := x3.c1
  have p2 := x3.c2
  by_cases hneg : M < 0
  · go_wp2_with fail
    refine (CS.out _).mono ?_
    rintro e w4 ⟨rfl, b4⟩
    have B4 := B3.trans (b4.mono B3.size)
    go_wp2
    go_ret
    exact ⟨rfl, B4⟩
  · have hv : VSv b ww s = true := by
      cases h : VSv b ww s with
      | true => rfl
      | false => exact (hneg (by rw [HM.out]; unfold HMS; rw [h, if_neg (by simp)]; omega)).elim
    obtain ⟨hf1, hf2⟩ := HMS_full hv
    obtain ⟨B, W, S, rfl, rfl, rfl, h1, h2, h3, h4, h5⟩ := VSv_nats hv
    have hl := HMS_less hv (2 ^ (B / 2) - 1)
    rw [Int.toNat_natCast] at hf1 hf2 hl
    have hpp := Nat.two_pow_pos (B / 2)
    have cp1 := fun wx => lawspower_any B wx (by omega)
    have hps1 := pow_small (n := B) (by omega)
    have cp2 := fun wx => lawspower_any (B / 2) wx (by omega)
    have hps2 := pow_small (n := B / 2) (by omega)
    obtain ⟨P, hP⟩ : ∃ P, P = 2 ^ B := ⟨_, rfl⟩
    obtain ⟨B2', hB2⟩ : ∃ B2', B2' = B / 2 := ⟨_, rfl⟩
    rw [← hB2] at cp2 hps2 hl hpp
    obtain ⟨Q, hQ⟩ : ∃ Q, Q = 2 ^ B2' := ⟨_, rfl⟩
    rw [← hP] at cp1 hps1 hf1 hf2
    rw [← hQ] at cp2 hps2 hl hpp
    have edv : (B : Int).tdiv 2 = (B2' : Int) := by rw [hB2, Int.tdiv_eq_ediv_of_nonneg (by omega)]; omega
    have ewr : IntKind.i64.wrap (B2' : Int) = (B2' : Int) := IntWalk.i64_in _ (by omega)
    have han := bits_and_i64_nat S (Q - 1) (by omega) (by omega)
    rw [show ((Q - 1 : Nat) : Int) = (Q : Int) - 1 by omega] at han
    obtain ⟨O, hO⟩ : ∃ O, O = S &&& (Q - 1) := ⟨_, rfl⟩
    rw [← hO] at han hl
    have cf := fun wx => implHowMany_any B W ((P : Int) - 1) wx
    rw [hf2] at cf
    have cl := fun wx => implHowMany_any B W (O : Int) wx
    obtain ⟨L, hL⟩ : ∃ L, L = HMS B W (O : Int) := ⟨_, rfl⟩
    rw [← hL] at cl hl
    have hLM : L ≤ M := by rw [HM.out]; exact hl.2
    have CP1 := Lib.hid cp1
    have CP2 := Lib.hid cp2
    have CF := Lib.hid cf
    have CL := Lib.hid cl
    clear cp1 cp2 cf cl hf1 hf2 hl hP hB2 hQ hO hL HM CI CS hv
    -- the whole
    have z3 := B3.size
    have zx := x3.lt
    have y4 := SBox.new w3 B W S
    have x4 := x3.alloc (.cells #[.int .i64 (B : Int), .int .i64 (W : Int), .int .i64 (S : Int)] 24)
    have B4 := B3.alloc z3 (.cells #[.int .i64 (B : Int), .int .i64 (W : Int), .int .i64 (S : Int)] 24)
    obtain ⟨w4, e4⟩ : ∃ w4, w4 = w3.alloc (.cells #[.int .i64 (B : Int), .int .i64 (W : Int), .int .i64 (S : Int)] 24) := ⟨_, rfl⟩
    have z4 : w4.heap.size = w3.heap.size + 1 := by rw [e4]; simp
    rw [← e4] at y4 x4 B4
    have E4 := Lib.hid e4
    clear e4 x3 B3
    go_upto_region 8 with fail
    rw [← E4.out]
    clear p0 p1 p2
    have p0 := x4.c0
    have f2 := y4.fz 2
    have q2 := y4.c2
    go_wp2_with fail
    refine (CP1.out _).mono ?_
    rintro e w' ⟨rfl, rfl⟩
    have y5 := y4.set2 ((P : Int) - 1)
    have x5 := x4.other (g' := w3.heap.size) (by omega) 2 (.int .i64 ((P : Int) - 1))
    have B5 := B4.setCell (p := ⟨w3.heap.size, 2, none⟩) z3 (.int .i64 ((P : Int) - 1))
    have z5 : (w4.setCell ⟨w3.heap.size, 2, none⟩ (.int .i64 ((P : Int) - 1))).heap.size = w3.heap.size + 1 := by simp [z4]
    obtain ⟨w5, e5⟩ : ∃ w5, w5 = w4.setCell ⟨w3.heap.size, 2, none⟩ (.int .i64 ((P : Int) - 1)) := ⟨_, rfl⟩
    rw [← e5] at y5 x5 B5 z5
    have E5 := Lib.hid e5
    clear e5 x4 y4 B4
    go_upto_region 9 with fail
    rw [← E5.out]
    clear p0 f2 q2 z4
    have p0 := x5.c0
    have p1 := x5.c1
    have p2 := x5.c2
    have v6 := SBox.new w5 B W S
    have y6 := y5.alloc (.cells #[.int .i64 (B : Int), .int .i64 (W : Int), .int .i64 (S : Int)] 24)
    have x6 := x5.alloc (.cells #[.int .i64 (B : Int), .int .i64 (W : Int), .int .i64 (S : Int)] 24)
    have B6 := B5.alloc (by omega) (.cells #[.int .i64 (B : Int), .int .i64 (W : Int), .int .i64 (S : Int)] 24)
    rw [z5] at v6
    obtain ⟨w6, e6⟩ : ∃ w6, w6 = w5.alloc (.cells #[.int .i64 (B : Int), .int .i64 (W : Int), .int .i64 (S : Int)] 24) := ⟨_, rfl⟩
    rw [← e6] at v6 y6 x6 B6
    have E6 := Lib.hid e6
    clear e6 x5 y5 B5
    go_upto_region 10 with fail
    rw [← E6.out]
    clear p0 p1 p2
    have p0 := x6.c0
    have p2 := x6.c2
    have f2 := v6.fz 2
    have q2 := v6.c2
    refine region_tail 8 (by kernel_rfl) (by kernel_rfl) ?_
    simp only [List.take_succ_cons, List.take_zero, List.drop_succ_cons, List.drop_zero]
    repeat still_step
    still_call (still_of (CP2.out _))
    repeat still_step
    refine wpStill_nil ?_
    have v7 : SBox (w6.setCell ⟨w3.heap.size + 1, 2, none⟩ (.int .i64 (O : Int))).drew (w3.heap.size + 1) B W O := SBox.set2 (w := w6) v6 O
    have y7 : SBox (w6.setCell ⟨w3.heap.size + 1, 2, none⟩ (.int .i64 (O : Int))).drew w3.heap.size B W ((P : Int) - 1) := SBox.other (w := w6) y6 (g' := w3.heap.size + 1) (by omega) 2 (.int .i64 (O : Int))
    have B7 := (B6.setCell (p := ⟨w3.heap.size + 1, 2, none⟩) (show w.heap.size ≤ w3.heap.size + 1 by omega) (.int .i64 (O : Int))).drew
    obtain ⟨w7, e7⟩ : ∃ w7, w7 = (w6.setCell ⟨w3.heap.size + 1, 2, none⟩ (.int .i64 (O : Int))).drew := ⟨_, rfl⟩
    rw [← e7] at v7 y7 B7
    have E7 := Lib.hid e7
    go_upto_region 11 with fail
    rw [han, ← E7.out]
    clear e7 v6 y6 x6 B6 p0 p2 f2 q2
    have p0 := y7.c0
    have p1 := y7.c1
    have p2 := y7.c2
    go_wp2_with fail
    refine (CF.out _).mono ?_
    rintro e w8 ⟨rfl, b8⟩
    have v8 := v7.belowAll b8
    have B8 := B7.trans (b8.mono B7.size)
    clear p0 p1 p2 v7 y7 B7 b8
    have p0 := v8.c0
    have p1 := v8.c1
    have p2 := v8.c2
    go_wp2_with fail
    refine (CL.out _).mono ?_
    rintro e w9 ⟨rfl, b9⟩
    have B9 := B8.trans (b9.mono B8.size)
    go_wp2
    go_ret
    exact ⟨rfl, B9⟩
end Go.Proofs.Ytjkcahmbocjacaa
