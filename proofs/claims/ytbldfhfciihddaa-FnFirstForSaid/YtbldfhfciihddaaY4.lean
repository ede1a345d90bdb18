/-
  spec.validServers, score, first, FirstFor, jump, JumpTo.
-/
import Derived.Test.YtbldfhfciihddaaY1
namespace Go.Proofs.Ytbldfhfciihddaa
open Go.RowKit

theorem VS_end {l : List Int} (h : FitS l l.length) : VS l = inR (l.length : Int) 1 6 := by
  rw [Bool.eq_iff_iff, VS_iff, inR_iff]
  constructor
  · intro h2; omega
  · intro h2; exact ⟨by omega, by omega, h⟩

set_option maxHeartbeats 4000000 in
theorem specvalidServers_any (a : Option Addr) (l : List Int) (cap : Nat) (w : World) (hr : Reads w a l) (hl : l.length ≤ 1048586) :
    Calls Try.prog 68 #[.slice a l.length cap] w fun e w' => e = .returned (.bool (VS l)) ∧ ∃ n, w' = w.drewN n := by
  go_enter Try.func68, Try.ntmps68
  go_wp2
  go_loopw [3] (fun i wr => ∃ k n : Nat, k ≤ l.length ∧ i = .int .i64 k ∧ Hid (FitS l k) ∧ wr = w.drewN n) (fun i _ => l.length - (intOf i).toNat)
  case atStart => exact ⟨0, 0, Nat.zero_le _, rfl, fun j hj => by omega, rfl⟩
  case round =>
    obtain ⟨k, n, hk, rfl, hf, rfl⟩ := hrel
    by_cases hlt : k < l.length
    · obtain ⟨b, off, y, rfl, hb, hcell, hy⟩ := hr.get hlt
      have hk2 : (k : Int) < (l.length : Int) := by omega
      by_cases g1 : inR y 0 40 = true
      · have c1 : ∀ wx, Calls Try.prog 64 #[.int .i64 y, .int .i64 0, .int .i64 40] wx fun e w' => e = .returned (.bool true) ∧ wx = w' := fun wx => by
          have := inRange_any y 0 40 wx; rwa [g1] at this
        have D1 := Lib.hid (fun n => c1 (w.drewN n))
        have r1 := inR_iff.1 g1
        by_cases hk0 : k = 0
        · have hnew := hf.out.succ (by rw [hy.out]; exact r1.1) (by rw [hy.out]; exact r1.2) (fun h => by omega)
          have HB := Lib.hid hnew
          clear c1 g1 hnew r1 hy
          subst hk0
          rw [Nat.add_zero] at hcell
          go_wp2_with fail
          go_quiet ((with_reducible first | (go_at_call 64; exact quiet_lf (D1.out _))))
          all_goals
            go_wp2
            go_roundw
            case rel => exact ⟨1, _, by omega, by go_num, HB, rfl⟩
            case measure => simp [intOf]; omega
        · obtain ⟨km, hkm⟩ : ∃ km, k = km + 1 := ⟨k - 1, by omega⟩
          obtain ⟨z, hcz, hz⟩ := hr.at_ (k := km) (by omega)
          have hw : IntKind.i64.wrap ((k : Int) - 1) = (km : Int) := by rw [IntWalk.i64_in _ (by omega)]; omega
          have hkm1 : (km : Int) < (l.length : Int) := by omega
          have hz0 : 0 < k := by omega
          have hzz : l.getD (k - 1) 0 = z := by rw [hkm, Nat.add_sub_cancel]; exact hz.out
          by_cases hle : y ≤ z
          · have hbad : VS l = false := VS_false fun h => by
              have := (h.2.2 k hlt).2.2 (by omega)
              rw [hzz, hy.out] at this; omega
            have HB := Lib.hid hbad
            have HK := Lib.hid hkm
            clear c1 g1 hbad r1 hy hz hzz hkm hk0
            go_wp2_with fail
            go_quiet ((with_reducible first | (go_at_call 64; exact quiet_lf (D1.out _))))
            all_goals
              go_wp2
              go_ret
              exact ⟨ret_bool HB.out.symm, _, by first | rfl | exact World.drewN_drewN _ _ _⟩
          · have hnew := hf.out.succ (by rw [hy.out]; exact r1.1) (by rw [hy.out]; exact r1.2) (fun _ => by rw [hzz, hy.out]; omega)
            have HB := Lib.hid hnew
            have HK := Lib.hid hkm
            clear c1 g1 hnew r1 hy hz hzz hkm hk0
            go_wp2_with fail
            go_quiet ((with_reducible first | (go_at_call 64; exact quiet_lf (D1.out _))))
            all_goals
              go_wp2
              go_roundw
              case rel => exact ⟨k + 1, _, by omega, by go_num, HB, rfl⟩
              case measure => simp [intOf]; omega
      · have g1' : inR y 0 40 = false := by simpa using g1
        have c1 : ∀ wx, Calls Try.prog 64 #[.int .i64 y, .int .i64 0, .int .i64 40] wx fun e w' => e = .returned (.bool false) ∧ wx = w' := fun wx => by
          have := inRange_any y 0 40 wx; rwa [g1'] at this
        have D1 := Lib.hid (fun n => c1 (w.drewN n))
        have hbad : VS l = false := VS_false fun h => by
          have := h.2.2 k hlt
          rw [hy.out] at this
          exact g1 (inR_iff.2 ⟨this.1, this.2.1⟩)
        have HB := Lib.hid hbad
        clear c1 g1 g1' hbad hy
        go_wp2_with fail
        go_quiet ((with_reducible first | (go_at_call 64; exact quiet_lf (D1.out _))))
        all_goals
          go_wp2
          go_ret
          exact ⟨ret_bool HB.out.symm, _, by first | rfl | exact World.drewN_drewN _ _ _⟩
    · obtain rfl : k = l.length := by omega
      have c1 : ∀ wx, Calls Try.prog 64 #[.int .i64 (l.length : Int), .int .i64 1, .int .i64 6] wx fun e w' => e = .returned (.bool (VS l)) ∧ wx = w' := fun wx => by
        have := inRange_any (l.length : Int) 1 6 wx; rwa [← VS_end hf.out] at this
      have C1 := Lib.hid c1
      clear c1
      go_wp2_with fail
      refine (C1.out _).mono ?_
      rintro e w2 ⟨rfl, rfl⟩
      go_wp2
      go_ret
      exact ⟨rfl, _, rfl⟩

theorem sco_eq (s k : Int) : sco s k = (s * s * 7 + s * k * 5 + k * 3 + s) % 97 := by
  unfold sco
  have e1 : 7 * s * s = 7 * (s * s) := Int.mul_assoc _ _ _
  have e2 : 5 * s * k = 5 * (s * k) := Int.mul_assoc _ _ _
  rw [e1, e2]
  congr 1
  omega
theorem sco_bounds {s k : Int} (hs : 0 ≤ s) (hs' : s ≤ 40) (hk : 0 ≤ k) (hk' : k ≤ 63) : 0 ≤ s * s ∧ s * s ≤ 1600 ∧ 0 ≤ s * k ∧ s * k ≤ 2520 := by
  have a := Int.mul_nonneg hs hs
  have b := Int.mul_nonneg hs hk
  have c : s * s ≤ 40 * 40 := Int.mul_le_mul hs' hs' hs (by omega)
  have d : s * k ≤ 40 * 63 := Int.mul_le_mul hs' hk' hk (by omega)
  omega
theorem sco_range {s k : Int} : 0 ≤ sco s k ∧ sco s k < 97 := by unfold sco; omega

set_option maxHeartbeats 1000000 in
theorem score_any (s k : Int) (w : World) (hs : 0 ≤ s) (hs' : s ≤ 40) (hk : 0 ≤ k) (hk' : k ≤ 63) :
    Calls Try.prog 87 #[.int .i64 s, .int .i64 k] w fun e w' => e = .returned (.int .i64 (sco s k)) ∧ w = w' := by
  obtain ⟨b1, b2, b3, b4⟩ := sco_bounds hs hs' hk hk'
  go_enter Try.func87, Try.ntmps87
  go_wp2
  go_ret
  exact ⟨ret_int (by rw [sco_eq]), rfl⟩

set_option maxHeartbeats 4000000 in
theorem specfirst_any (a : Option Addr) (l : List Int) (cap : Nat) (k : Int) (w : World) (hr : Reads w a l) (hv : VS l = true) (hk : 0 ≤ k) (hk' : k ≤ 63) :
    Calls Try.prog 69 #[.slice a l.length cap, .int .i64 k] w fun e w' => e = .returned (.int .i64 (l.getD (fst' l k) 0)) ∧ w = w' := by
  have hl1 := (VS_iff.1 hv).1
  have hl6 := (VS_iff.1 hv).2.1
  have HF := Lib.hid (VS_iff.1 hv).2.2
  clear hv
  obtain ⟨b, off, y0, rfl, hb, hc0, hy0⟩ := hr.get (k := 0) (by omega)
  have h0l : 0 < l.length := by omega
  rw [Nat.add_zero] at hc0
  obtain ⟨f, hf⟩ : ∃ f : Nat → Int, f = fun i => - sco (l.getD i 0) k := ⟨_, rfl⟩
  have HFF := Lib.hid hf
  clear hf
  go_enter Try.func69, Try.ntmps69
  go_wp2
  go_loopw [5, 6] (fun bv i wr => ∃ (t t1 : Nat) (x : Int), t + 1 ≤ l.length ∧ i = .int .i64 (t1 : Int) ∧ bv = .int .i64 x ∧ Hid (t1 = t + 1) ∧ Hid (l.getD (bsm f t) 0 = x) ∧ wr = w) (fun _ i _ => l.length - (intOf i).toNat)
  case atStart => exact ⟨0, 1, y0, by omega, rfl, rfl, rfl, hy0, rfl⟩
  case round =>
    clear hc0 hy0
    obtain ⟨t, t1, x, ht, rfl, rfl, HT1, HX, rfl⟩ := hrel
    by_cases hlt : t + 1 < l.length
    · have hbt := bsm_le f t
      obtain ⟨y, hcy, hy⟩ := hr.at_ hlt
      have hnew : bsm f (t + 1) = if f (t + 1) < f (bsm f t) then t + 1 else bsm f t := rfl
      have e1 : f (t + 1) = - sco y k := by rw [HFF.out]; show - sco (l.getD (t + 1) 0) k = _; rw [hy.out]
      have e2 : f (bsm f t) = - sco x k := by
        conv => lhs; rw [show f = fun i => - sco (l.getD i 0) k from HFF.out]
        show - sco (l.getD (bsm (fun i => - sco (l.getD i 0) k) t) 0) k = _
        rw [← HFF.out, HX.out]
      rw [e1, e2] at hnew
      have ry := HF.out _ hlt
      have rx := HF.out (bsm f t) (by omega)
      have hxy := HF.out.lt (i := bsm f t) (j := t + 1) (by omega) hlt
      rw [hy.out] at ry hxy
      rw [HX.out] at rx hxy
      have cy := score_any y k wr ry.1 ry.2.1 hk hk'
      have cx := score_any x k wr rx.1 rx.2.1 hk hk'
      obtain ⟨A, hA⟩ : ∃ A, A = sco y k := ⟨_, rfl⟩
      obtain ⟨B, hB⟩ : ∃ B, B = sco x k := ⟨_, rfl⟩
      rw [← hA] at cy hnew
      rw [← hB] at cx hnew
      have CY := Lib.hid cy
      have CX := Lib.hid cx
      have ht1 : (t1 : Int) < (l.length : Int) := by have := HT1.out; omega
      rw [← HT1.out] at hcy
      have hlt2 : t1 < l.length := by have := HT1.out; omega
      have HY := Lib.hid (show l.getD t1 0 = y by rw [HT1.out]; exact hy.out)
      have hnot : ¬ y < x := by omega
      clear cy cx hA hB e1 e2 ry rx hxy hy
      by_cases hc : B < A
      · rw [if_pos (by omega)] at hnew
        have HN := Lib.hid hnew
        clear hnew
        go_wp2_with fail
        refine CY.out.mono ?_
        rintro e w2 ⟨rfl, rfl⟩
        go_wp2_with fail
        refine CX.out.mono ?_
        rintro e w2 ⟨rfl, rfl⟩
        go_wp2
        go_roundw
        case rel => exact ⟨t1, t1 + 1, y, by omega, by first | rfl | go_num, rfl, rfl, Lib.hid (by rw [HT1.out, HN.out, ← HT1.out]; exact HY.out), by first | rfl | trivial⟩
        case measure => simp [intOf]; omega
      · rw [if_neg (by omega)] at hnew
        have HN := Lib.hid hnew
        clear hnew
        by_cases hab : A = B
        · subst hab
          go_wp2_with fail
          refine CY.out.mono ?_
          rintro e w2 ⟨rfl, rfl⟩
          go_wp2_with fail
          refine CX.out.mono ?_
          rintro e w2 ⟨rfl, rfl⟩
          go_wp2
          go_roundw
          case rel => exact ⟨t1, t1 + 1, x, by omega, by first | rfl | go_num, rfl, rfl, Lib.hid (by rw [HT1.out, HN.out]; exact HX.out), by first | rfl | trivial⟩
          case measure => simp [intOf]; omega
        · have hab' : (A == B) = false := by simpa using hab
          clear hab
          go_wp2_with fail
          refine CY.out.mono ?_
          rintro e w2 ⟨rfl, rfl⟩
          go_wp2_with fail
          refine CX.out.mono ?_
          rintro e w2 ⟨rfl, rfl⟩
          go_wp2
          go_roundw
          case rel => exact ⟨t1, t1 + 1, x, by omega, by first | rfl | go_num, rfl, rfl, Lib.hid (by rw [HT1.out, HN.out]; exact HX.out), by first | rfl | trivial⟩
          case measure => simp [intOf]; omega
    · have ht1 : ¬ (t1 : Int) < (l.length : Int) := by have := HT1.out; omega
      have e : l.getD (fst' l k) 0 = x := by
        unfold fst'
        rw [← HFF.out, show l.length - 1 = t from by omega]; exact HX.out
      have E := Lib.hid e
      clear e
      go_wp2
      go_ret
      exact ⟨ret_int E.out.symm, by first | rfl | trivial⟩
end Go.Proofs.Ytbldfhfciihddaa
