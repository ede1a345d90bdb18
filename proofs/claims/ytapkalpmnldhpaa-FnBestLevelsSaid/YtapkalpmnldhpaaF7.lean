/-
  impl.PairCount.
-/
import Derived.Test.YtapkalpmnldhpaaF5
namespace Go.Proofs.Ytapkalpmnldhpaa
open Go.RowKit

theorem VX_eq2 (m x y : Int) : VX m x y = (SZ m && KR x && KR y && !decide (x = y)) := by
  rw [Bool.eq_iff_iff]; simp only [VX_iff, Bool.and_eq_true, KR_iff, SZ_iff, Bool.not_eq_true', decide_eq_false_iff_not]; omega
theorem quiet_l0 {P : Program} {f : FuncId} {args : Array Value} {w : World} {n : Nat} {v : Value}
    (h : Calls P f args (w.drewN n) fun e w' => e = .returned v ∧ w.drewN n = w') : Calls P f args (w.drewN n) fun e w'' => e = .returned v ∧ ∃ m, w'' = w.drewN m :=
  h.mono fun _ _ ⟨he, hm⟩ => ⟨he, n, hm.symm⟩
theorem FunAt.q {w : World} {A B M : Nat} {a b m : Int} (h : FunAt w A B M a b m) (n : Nat) : FunAt (w.drewN n) A B M a b m := ⟨h.ca, h.cb, h.cm⟩

set_option maxHeartbeats 4000000 in
set_option maxRecDepth 100000 in
theorem implPairCount_yes (m x y : Int) (w : World) (hv : VX m x y = true) :
    Calls Try.prog 26 #[.int .i64 m, .int .i64 x, .int .i64 y] w fun e w' => e = .returned (.int .i64 (PC m x y)) ∧ Below w.heap.size w w' := by
  obtain ⟨m1, m2, x0, x1, y0, y1, hne⟩ := VX_iff.1 hv
  have hPC : PC m x y = (cntN (meet m x y) 930 : Nat) := by unfold PC; rw [if_pos hv]
  have HP := Lib.hid hPC
  have c1 : ∀ wx, Calls Try.prog 62 #[.int .i64 m] wx fun e w' => e = .returned (.bool true) ∧ wx = w' := fun wx => by have := isSize_any m wx; rwa [SZ_iff.2 ⟨m1, m2⟩] at this
  have c2 : ∀ wx, Calls Try.prog 56 #[.int .i64 x] wx fun e w' => e = .returned (.bool true) ∧ wx = w' := fun wx => by have := isRest_any x wx; rwa [KR_iff.2 ⟨x0, x1⟩] at this
  have c3 : ∀ wx, Calls Try.prog 56 #[.int .i64 y] wx fun e w' => e = .returned (.bool true) ∧ wx = w' := fun wx => by have := isRest_any y wx; rwa [KR_iff.2 ⟨y0, y1⟩] at this
  have C1 := Lib.hid c1
  have C2 := Lib.hid c2
  have C3 := Lib.hid c3
  have hxy : (x == y) = false := by simpa using hne
  clear hPC hv c1 c2 c3 hne
  go_enter Try.func26, Try.ntmps26
  go_wp2_with fail
  refine (C1.out _).mono ?_
  rintro e w' ⟨rfl, rfl⟩
  go_wp2_with fail
  refine (C2.out _).mono ?_
  rintro e w' ⟨rfl, rfl⟩
  go_wp2_with fail
  refine (C3.out _).mono ?_
  rintro e w' ⟨rfl, rfl⟩
  go_wp2_with fail
  refine (familyOf_any m w).mono ?_
  rintro e w1 ⟨G, cap, rfl, k1, k2, hFam, b1⟩
  clear C1 C2 C3
  go_wp2
  go_loopw [7, 31] (fun c i wr => ∃ t : Nat, t ≤ 930 ∧ i = .int .i64 t ∧ c = .int .i64 (cntN (meet m x y) t : Nat) ∧ Fam wr G m ∧ Below w.heap.size w wr) (fun _ i _ => 930 - (intOf i).toNat)
  case atStart => exact ⟨0, by omega, rfl, rfl, hFam, b1⟩
  case round =>
    clear hFam b1
    obtain ⟨t, ht, rfl, rfl, hFam, hB⟩ := hrel
    have hcn := cntN_le (meet m x y) t
    by_cases hlt : t < 930
    · obtain ⟨A, B, M, q0, q1, q2, hF⟩ := hFam.el t hlt
      have hA := fA_le hlt
      have hBb := fB_le t
      have hS : cntN (meet m x y) (t + 1) = cntN (meet m x y) t + (if hs (fA t) (fB t) m x = hs (fA t) (fB t) m y then 1 else 0) := by
        rw [cntN]; unfold meet; simp only [decide_eq_true_eq]
      have HS := Lib.hid hS
      obtain ⟨a, ha⟩ : ∃ a, a = fA t := ⟨_, rfl⟩
      obtain ⟨b, hb⟩ : ∃ b, b = fB t := ⟨_, rfl⟩
      rw [← ha] at hA q0 hF HS
      rw [← hb] at hBb q1 hF HS
      have x5 := FBox.new wr (a : Int) (b : Int) (FnV A B M)
      have bA : Below wr.heap.size wr (wr.alloc (.cells #[.int .i64 (a : Int), .int .i64 (b : Int), FnV A B M] 65)) := (Below.refl _ _).alloc (Nat.le_refl _) _
      have hFam2 := hFam.below bA
      have hF2 := hF.below bA
      have hB2 := hB.trans (bA.mono hB.size)
      obtain ⟨w2, e2⟩ : ∃ w2, w2 = wr.alloc (.cells #[.int .i64 (a : Int), .int .i64 (b : Int), FnV A B M] 65) := ⟨_, rfl⟩
      rw [← e2] at x5 hFam2 hF2 hB2
      have E2 := Lib.hid e2
      have qq2 := x5.c2
      obtain ⟨X, hX⟩ : ∃ X, X = hs a b m x := ⟨_, rfl⟩
      obtain ⟨Y, hY⟩ : ∃ Y, Y = hs a b m y := ⟨_, rfl⟩
      have D1 := Lib.hid (fun n => (by have := slot_any A B M a b m x (w2.drewN n) (hF2.q n) (by omega) (by omega) (by omega) (by omega) m1 m2 x0 x1; rwa [← hX] at this : Calls Try.prog 79 #[.int .i64 x, .pointer (some ⟨A, 0, none⟩), .pointer (some ⟨B, 0, none⟩), .pointer (some ⟨M, 0, none⟩)] (w2.drewN n) fun e w' => e = .returned (.int .i64 X) ∧ w2.drewN n = w'))
      have D2 := Lib.hid (fun n => (by have := slot_any A B M a b m y (w2.drewN n) (hF2.q n) (by omega) (by omega) (by omega) (by omega) m1 m2 y0 y1; rwa [← hY] at this : Calls Try.prog 79 #[.int .i64 y, .pointer (some ⟨A, 0, none⟩), .pointer (some ⟨B, 0, none⟩), .pointer (some ⟨M, 0, none⟩)] (w2.drewN n) fun e w' => e = .returned (.int .i64 Y) ∧ w2.drewN n = w'))
      have HX := Lib.hid hX
      have HY := Lib.hid hY
      clear hS hX hY e2 hFam hF hB bA hA hBb ha hb
      by_cases e : X = Y
      · have hd : (X == Y) = true := by simp [e]
        have hn : cntN (meet m x y) (t + 1) = cntN (meet m x y) t + 1 := by rw [HS.out, if_pos (by rw [← HX.out, ← HY.out]; exact e)]
        have HN := Lib.hid hn
        clear e hn
        go_wp2_with fail
        rw [← E2.out]
        go_quiet ((with_reducible first | (go_at_call 79; exact quiet_l0 (D1.out _)) | (go_at_call 79; exact quiet_l0 (D2.out _))))
        all_goals
          go_wp2
          go_roundw
          case rel => exact ⟨t + 1, by omega, by go_num, by rw [HN.out]; go_num, hFam2.below below_q, below_drewN hB2 _⟩
          case measure => simp [intOf]; omega
      · have hd : (X == Y) = false := by simp [e]
        have hn : cntN (meet m x y) (t + 1) = cntN (meet m x y) t := by rw [HS.out, if_neg (by rw [← HX.out, ← HY.out]; exact e)]; rfl
        have HN := Lib.hid hn
        clear e hn
        go_wp2_with fail
        rw [← E2.out]
        go_quiet ((with_reducible first | (go_at_call 79; exact quiet_l0 (D1.out _)) | (go_at_call 79; exact quiet_l0 (D2.out _))))
        all_goals
          go_wp2
          go_roundw
          case rel => exact ⟨t + 1, by omega, by go_num, by rw [HN.out], hFam2.below below_q, below_drewN hB2 _⟩
          case measure => simp [intOf]; omega
    · obtain rfl : t = 930 := by omega
      go_wp2
      go_ret
      exact ⟨ret_int HP.out.symm, hB⟩

set_option maxHeartbeats 2000000 in
theorem implPairCount_any (m x y : Int) (w : World) (_hm : In64 m) (_hx : In64 x) (_hy : In64 y) :
    Calls Try.prog 26 #[.int .i64 m, .int .i64 x, .int .i64 y] w fun e w' => e = .returned (.int .i64 (PC m x y)) ∧ Below w.heap.size w w' := by
  by_cases hv : VX m x y = true
  · exact implPairCount_yes m x y w hv
  · have hP : PC m x y = -1 := by unfold PC; rw [if_neg hv]
    rw [hP]
    rw [VX_eq2] at hv
    by_cases g1 : SZ m = true
    · by_cases g2 : KR x = true
      · by_cases g3 : KR y = true
        · have hxy : (x == y) = true := by simp [g1, g2, g3] at hv; simp [hv]
          clear hv
          go_enter Try.func26, Try.ntmps26
          go_wp2_with (first | (go_at_call 56; refine (isRest_any _ _).mono ?_; rintro e w' ⟨rfl, rfl⟩) | (go_at_call 62; refine (isSize_any _ _).mono ?_; rintro e w' ⟨rfl, rfl⟩))
          go_ret
          exact ⟨rfl, Below.refl _ _⟩
        · have g3' : KR y = false := by simpa using g3
          clear hv
          go_enter Try.func26, Try.ntmps26
          go_wp2_with (first | (go_at_call 56; refine (isRest_any _ _).mono ?_; rintro e w' ⟨rfl, rfl⟩) | (go_at_call 62; refine (isSize_any _ _).mono ?_; rintro e w' ⟨rfl, rfl⟩))
          go_ret
          exact ⟨rfl, Below.refl _ _⟩
      · have g2' : KR x = false := by simpa using g2
        clear hv
        go_enter Try.func26, Try.ntmps26
        go_wp2_with (first | (go_at_call 56; refine (isRest_any _ _).mono ?_; rintro e w' ⟨rfl, rfl⟩) | (go_at_call 62; refine (isSize_any _ _).mono ?_; rintro e w' ⟨rfl, rfl⟩))
        go_ret
        exact ⟨rfl, Below.refl _ _⟩
    · have g1' : SZ m = false := by simpa using g1
      clear hv
      go_enter Try.func26, Try.ntmps26
      go_wp2_with (first | (go_at_call 56; refine (isRest_any _ _).mono ?_; rintro e w' ⟨rfl, rfl⟩) | (go_at_call 62; refine (isSize_any _ _).mono ?_; rintro e w' ⟨rfl, rfl⟩))
      go_ret
      exact ⟨rfl, Below.refl _ _⟩
end Go.Proofs.Ytapkalpmnldhpaa
