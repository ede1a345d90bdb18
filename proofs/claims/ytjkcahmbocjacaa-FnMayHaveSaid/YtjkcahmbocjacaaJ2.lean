/-
  impl.MarksOf, AddKey, MayHave, HowMany.
-/
import Derived.Test.YtjkcahmbocjacaaJ1
import Derived.Test.YtjkcahmbocjacaaW8
namespace Go.Proofs.Ytjkcahmbocjacaa
open Go.RowKit

set_option maxHeartbeats 4000000 in
theorem implMarksOf_any (b ww s k : Int) (w : World) :
    Calls Try.prog 26 #[.agg #[.int .i64 b, .int .i64 ww, .int .i64 s], .int .i64 k] w fun e w' => e = .returned (.int .i64 (MKS b ww s k)) ∧ Below w.heap.size w w' := by
  have hbA := (Below.refl w.heap.size w).alloc (Nat.le_refl _) (.cells #[.int .i64 b, .int .i64 ww, .int .i64 s] 24)
  have x0 := SBox.new w b ww s
  obtain ⟨W0, hW0⟩ : ∃ W0, W0 = w.alloc (.cells #[.int .i64 b, .int .i64 ww, .int .i64 s] 24) := ⟨_, rfl⟩
  have hz : w.heap.size + 1 = W0.heap.size := by rw [hW0]; simp
  rw [← hW0] at hbA x0
  have HW0 := Lib.hid hW0
  have cv := implValidSieve_any b ww s W0
  clear hW0
  obtain ⟨R, hR⟩ : ∃ R, R = MKS b ww s k := ⟨_, rfl⟩
  rw [← hR]
  by_cases g1 : VSv b ww s = true
  · rw [g1] at cv
    have C1 := Lib.hid cv
    by_cases g2 : KM k = true
    · obtain ⟨B, W, S, rfl, rfl, rfl, h1, h2, h3, h4, h5⟩ := VSv_nats g1
      have hk := KM_iff.1 g2
      obtain ⟨K, rfl⟩ : ∃ K : Nat, k = K := ⟨k.toNat, by omega⟩
      have e : R = ((mkb B K W : Nat) : Int) := by rw [hR]; unfold MKS; rw [if_pos ⟨g1, g2⟩, MKn_nat]
      have HR := Lib.hid e
      have k1 : ¬ (K : Int) < 0 := by omega
      have k2 : ¬ (K : Int) > 92 := by omega
      clear cv g1 g2 e hR
      go_enter Try.func26, Try.ntmps26
      go_wp2_with fail
      rw [← HW0.out]
      refine C1.out.mono ?_
      rintro e w1 ⟨rfl, b1⟩
      have x1 := x0.belowAll b1
      have p1 := x1.c1
      have bA := hbA.trans (b1.mono (by omega))
      clear x0 b1 hbA
      go_wp2_with fail
      go_loopw [5, 20] (fun mv kv wr => ∃ i P : Nat, i ≤ W ∧ kv = .int .i64 (i : Int) ∧ mv = .int .i64 (P : Int) ∧ Hid (P = mkb B K i) ∧ SBox wr w.heap.size B W S ∧ Below w.heap.size w wr) (fun _ kv _ => W - (intOf kv).toNat)
      case atStart => exact ⟨0, 0, by omega, rfl, rfl, rfl, x1, bA⟩
      case round =>
        clear x1 bA p1
        obtain ⟨i, P, hi, rfl, rfl, hP, hx, hb⟩ := hrel
        by_cases hlt : i < W
        · have hi1 : (i : Int) < (W : Int) := by omega
          have p0 := hx.c0
          have cp := fun wx => placeOf0_any i B K wx (by omega) h1 h2 (by omega)
          have hP16 := mkb_16 (key := K) (k := i) h1 h2
          rw [← hP.out] at hP16
          have hst : mkb B K (i + 1) = P ||| 2 ^ wb B K i := by rw [hP.out]; rfl
          have htb := wb_lt (bits := B) (key := K) (k := i) h1
          obtain ⟨t, ht⟩ : ∃ t, t = wb B K i := ⟨_, rfl⟩
          rw [← ht] at cp hst htb
          have hp16 := pow_le16 (b := t) (by omega)
          obtain ⟨p, hp⟩ : ∃ p, p = 2 ^ t := ⟨_, rfl⟩
          obtain ⟨e1, e2, e3⟩ := shl_one t p (by omega) hp
          rw [← hp] at hst hp16
          have hor := bits_or_i64_nat P p (by omega) (by omega)
          obtain ⟨O, hO⟩ : ∃ O, O = P ||| p := ⟨_, rfl⟩
          rw [← hO] at hor hst
          have HST := Lib.hid hst
          have CP := Lib.hid cp
          clear cp ht hp hO hst
          go_wp2_with fail
          refine (CP.out _).mono ?_
          rintro e w2 ⟨rfl, b2⟩
          have hx2 := hx.belowAll b2
          have hb2 := hb.trans (b2.mono hb.size)
          clear hx hb b2
          go_wp2
          go_roundw
          case rel => exact ⟨i + 1, O, by omega, by go_num, rfl, HST.out.symm, hx2, hb2⟩
          case measure => simp [intOf]; omega
        · obtain rfl : i = W := by omega
          go_wp2
          go_ret
          exact ⟨ret_int (by rw [hP.out, HR.out]), hb⟩
    · have e : R = -1 := by rw [hR]; unfold MKS; rw [if_neg (fun h => g2 h.2)]
      subst e
      have hk : ¬ (0 ≤ k ∧ k ≤ 92) := fun h => g2 (KM_iff.2 h)
      clear cv g1 g2 hR
      by_cases k0 : k < 0
      · go_enter Try.func26, Try.ntmps26
        go_wp2_with fail
        rw [← HW0.out]
        refine C1.out.mono ?_
        rintro e w1 ⟨rfl, b1⟩
        have bA := hbA.trans (b1.mono (by omega))
        go_wp2
        go_ret
        exact ⟨rfl, bA⟩
      · have k2 : k > 92 := by omega
        go_enter Try.func26, Try.ntmps26
        go_wp2_with fail
        rw [← HW0.out]
        refine C1.out.mono ?_
        rintro e w1 ⟨rfl, b1⟩
        have bA := hbA.trans (b1.mono (by omega))
        go_wp2
        go_ret
        exact ⟨rfl, bA⟩
  · have e : R = -1 := by rw [hR]; unfold MKS; rw [if_neg (fun h => g1 h.1)]
    subst e
    rw [eq_false_of_ne_true g1] at cv
    have C1 := Lib.hid cv
    clear cv g1 hR
    go_enter Try.func26, Try.ntmps26
    go_wp2_with fail
    rw [← HW0.out]
    refine C1.out.mono ?_
    rintro e w1 ⟨rfl, b1⟩
    have bA := hbA.trans (b1.mono (by omega))
    go_wp2
    go_ret
    exact ⟨rfl, bA⟩

theorem MKS_cases (b ww s k : Int) : (VSv b ww s = true ∧ KM k = true ∧ ∃ m : Nat, MKS b ww s k = m ∧ m = MKn b ww k ∧ m < 65536) ∨ (¬ (VSv b ww s = true ∧ KM k = true) ∧ MKS b ww s k = -1) := by
  by_cases h : VSv b ww s = true ∧ KM k = true
  · refine .inl ⟨h.1, h.2, MKn b ww k, ?_, rfl, ?_⟩
    · unfold MKS; rw [if_pos h]
    · have := VSv_iff.1 h.1
      exact MKn_16 (by omega) (by omega)
  · exact .inr ⟨h, by unfold MKS; rw [if_neg h]⟩

set_option maxHeartbeats 4000000 in
theorem implAddKey_any (b ww s k : Int) (w : World) :
    Calls Try.prog 31 #[.agg #[.int .i64 b, .int .i64 ww, .int .i64 s], .int .i64 k] w fun e w' => e = .returned (.tuple #[.agg #[.int .i64 (ADb b ww s k), .int .i64 (ADw b ww s k), .int .i64 (ADs b ww s k)], .bool (ADo b ww s k)]) ∧ Below w.heap.size w w' := by
  have hbA := ((Below.refl w.heap.size w).alloc (Nat.le_refl _) (.cells #[.int .i64 b, .int .i64 ww, .int .i64 s] 24)).alloc (by simp) (.cells #[.int .i64 0, .int .i64 0, .int .i64 0] 24)
  have x0 := (SBox.new w b ww s).alloc (.cells #[.int .i64 0, .int .i64 0, .int .i64 0] 24)
  have y0 := SBox.new (w.alloc (.cells #[.int .i64 b, .int .i64 ww, .int .i64 s] 24)) 0 0 0
  obtain ⟨W0, hW0⟩ : ∃ W0, W0 = (w.alloc (.cells #[.int .i64 b, .int .i64 ww, .int .i64 s] 24)).alloc (.cells #[.int .i64 0, .int .i64 0, .int .i64 0] 24) := ⟨_, rfl⟩
  have hz : w.heap.size + 2 = W0.heap.size := by rw [hW0]; simp
  rw [← hW0] at hbA x0 y0
  rw [World.size_alloc] at y0
  have HW0 := Lib.hid hW0
  have cv := implMarksOf_any b ww s k W0
  clear hW0
  rcases MKS_cases b ww s k with ⟨g1, g2, m, hm, hmn, hm16⟩ | ⟨g, hm⟩
  · rw [hm] at cv
    have eb : ADb b ww s k = b := if_pos ⟨g1, g2⟩
    have ew : ADw b ww s k = ww := if_pos ⟨g1, g2⟩
    have eo : ADo b ww s k = true := by unfold ADo; rw [g1, g2]; rfl
    have ea : ADs b ww s k = ((s.toNat ||| m : Nat) : Int) := by rw [hmn]; exact if_pos ⟨g1, g2⟩
    have hs := VSv_nat g1
    have hs0 := (VSv_iff.1 g1).2.2.1
    obtain ⟨S, rfl⟩ : ∃ S : Nat, s = S := ⟨s.toNat, by omega⟩
    rw [Int.toNat_natCast] at ea hs
    have hor := bits_or_i64_nat S m (by omega) (by omega)
    obtain ⟨O, hO⟩ : ∃ O, O = S ||| m := ⟨_, rfl⟩
    rw [← hO] at hor ea
    rw [ea, eb, ew, eo]
    have hm0 : ¬ (m : Int) < 0 := by omega
    have C1 := Lib.hid cv
    clear cv g1 g2 hm hmn eb ew eo ea hO
    go_enter Try.func31, Try.ntmps31
    go_wp2_with fail
    rw [← HW0.out]
    refine C1.out.mono ?_
    rintro e w1 ⟨rfl, b1⟩
    have x1 := x0.belowAll b1
    have y1 := y0.belowAll b1
    have p2 := x1.c2
    have f2 := x1.fz 2
    have bA := hbA.trans (b1.mono (by omega))
    clear x0 y0 b1 hbA C1
    go_upto_region 5 with fail
    have x3 := x1.set2 O
    have y3 := y1.other (g' := w.heap.size) (by omega) 2 (.int .i64 O)
    have b3 := bA.setCell (p := ⟨w.heap.size, 2, none⟩) (Nat.le_refl _) (.int .i64 O)
    obtain ⟨w4, e4⟩ : ∃ w4, w4 = w1.setCell ⟨w.heap.size, 2, none⟩ (.int .i64 O) := ⟨_, rfl⟩
    rw [← e4] at x3 y3 b3
    rw [← e4]
    have r0 := x3.c0
    have r1 := x3.c1
    have r2 := x3.c2
    have t0 := y3.fz 0
    have t1 := y3.fz 1
    have t2 := y3.fz 2
    have t3 := y3.c0
    have t4 := y3.c1
    have t5 := y3.c2
    clear e4 p2 f2 x1 y1 bA
    go_wp2
    exact ret_sv2 rfl rfl (w.heap.size + 1) rfl _ _ _ y3.put _ rfl ⟨rfl, below_putS b3 (by omega) _ _ _⟩
  · rw [hm] at cv
    have eb : ADb b ww s k = 0 := if_neg g
    have ew : ADw b ww s k = 0 := if_neg g
    have ea : ADs b ww s k = 0 := if_neg g
    have eo : ADo b ww s k = false := by
      unfold ADo
      cases h1 : VSv b ww s <;> cases h2 : KM k <;> simp_all
    rw [ea, eb, ew, eo]
    have C1 := Lib.hid cv
    clear cv g hm eb ew eo ea
    go_enter Try.func31, Try.ntmps31
    go_wp2_with fail
    rw [← HW0.out]
    refine C1.out.mono ?_
    rintro e w1 ⟨rfl, b1⟩
    have y1 := y0.belowAll b1
    have t0 := y1.fz 0
    have t1 := y1.fz 1
    have t2 := y1.fz 2
    have t3 := y1.c0
    have t4 := y1.c1
    have t5 := y1.c2
    have bA := hbA.trans (b1.mono (by omega))
    go_wp2
    exact ret_sv2 rfl rfl (w.heap.size + 1) rfl _ _ _ y1.put _ rfl ⟨rfl, below_putS bA (by omega) _ _ _⟩

set_option maxHeartbeats 4000000 in
theorem implMayHave_any (b ww s k : Int) (w : World) :
    Calls Try.prog 33 #[.agg #[.int .i64 b, .int .i64 ww, .int .i64 s], .int .i64 k] w fun e w' => e = .returned (.bool (MHS b ww s k)) ∧ Below w.heap.size w w' := by
  have hbA := (Below.refl w.heap.size w).alloc (Nat.le_refl _) (.cells #[.int .i64 b, .int .i64 ww, .int .i64 s] 24)
  have x0 := SBox.new w b ww s
  obtain ⟨W0, hW0⟩ : ∃ W0, W0 = w.alloc (.cells #[.int .i64 b, .int .i64 ww, .int .i64 s] 24) := ⟨_, rfl⟩
  have hz : w.heap.size + 1 = W0.heap.size := by rw [hW0]; simp
  rw [← hW0] at hbA x0
  have HW0 := Lib.hid hW0
  have cv := implMarksOf_any b ww s k W0
  clear hW0
  obtain ⟨R, hR⟩ : ∃ R, R = MHS b ww s k := ⟨_, rfl⟩
  rw [← hR]
  rcases MKS_cases b ww s k with ⟨g1, g2, m, hm, hmn, hm16⟩ | ⟨g, hm⟩
  · rw [hm] at cv
    have hs := VSv_nat g1
    have hs0 := (VSv_iff.1 g1).2.2.1
    obtain ⟨S, rfl⟩ : ∃ S : Nat, s = S := ⟨s.toNat, by omega⟩
    rw [Int.toNat_natCast] at hs
    have e : R = decide (S &&& m = m) := by
      rw [hR]; unfold MHS
      rw [Bool.eq_iff_iff, decide_eq_true_eq, decide_eq_true_eq, ← hmn, Int.toNat_natCast, Nat.and_comm]
      exact ⟨fun h => h.2.2, fun h => ⟨g1, g2, h⟩⟩
    have han := bits_and_i64_nat S m (by omega) (by omega)
    obtain ⟨O, hO⟩ : ∃ O, O = S &&& m := ⟨_, rfl⟩
    rw [← hO] at han e
    have heq := eqN O m
    rw [← e] at heq
    have hm0 : (m : Int) ≥ 0 := by omega
    have C1 := Lib.hid cv
    clear cv g1 g2 hm hmn hO hR e
    go_enter Try.func33, Try.ntmps33
    go_wp2_with fail
    rw [← HW0.out]
    refine C1.out.mono ?_
    rintro e w1 ⟨rfl, b1⟩
    have x1 := x0.belowAll b1
    have p2 := x1.c2
    have bA := hbA.trans (b1.mono (by omega))
    go_wp2
    go_ret
    exact ⟨rfl, bA⟩
  · rw [hm] at cv
    have e : R = false := by
      rw [hR]; unfold MHS; rw [decide_eq_false_iff_not]; exact fun h => g ⟨h.1, h.2.1⟩
    subst e
    have C1 := Lib.hid cv
    clear cv g hm hR
    go_enter Try.func33, Try.ntmps33
    go_wp2_with fail
    rw [← HW0.out]
    refine C1.out.mono ?_
    rintro e w1 ⟨rfl, b1⟩
    have bA := hbA.trans (b1.mono (by omega))
    go_wp2
    go_ret
    exact ⟨rfl, bA⟩

set_option maxHeartbeats 4000000 in
theorem implHowMany_any (b ww s : Int) (w : World) :
    Calls Try.prog 24 #[.agg #[.int .i64 b, .int .i64 ww, .int .i64 s]] w fun e w' => e = .returned (.int .i64 (HMS b ww s)) ∧ Below w.heap.size w w' := by
  have hbA := (Below.refl w.heap.size w).alloc (Nat.le_refl _) (.cells #[.int .i64 b, .int .i64 ww, .int .i64 s] 24)
  have x0 := SBox.new w b ww s
  obtain ⟨W0, hW0⟩ : ∃ W0, W0 = w.alloc (.cells #[.int .i64 b, .int .i64 ww, .int .i64 s] 24) := ⟨_, rfl⟩
  have hz : w.heap.size + 1 = W0.heap.size := by rw [hW0]; simp
  rw [← hW0] at hbA x0
  have HW0 := Lib.hid hW0
  have cv := implValidSieve_any b ww s W0
  clear hW0
  obtain ⟨R, hR⟩ : ∃ R, R = HMS b ww s := ⟨_, rfl⟩
  rw [← hR]
  by_cases g1 : VSv b ww s = true
  · rw [g1] at cv
    have hMH : ∀ x : Nat, x ≤ 92 → MHS b ww s x = decide (mkb b.toNat x ww.toNat &&& s.toNat = mkb b.toNat x ww.toNat) := by
      intro x hx
      unfold MHS
      rw [Bool.eq_iff_iff, decide_eq_true_eq, decide_eq_true_eq]
      exact ⟨fun h => h.2.2, fun h => ⟨g1, KM_iff.2 (by omega), h⟩⟩
    have e : R = (hm b.toNat ww.toNat s.toNat 93 : Int) := by rw [hR]; unfold HMS; rw [if_pos g1]
    have HR := Lib.hid e
    have HMH := Lib.hid hMH
    have C1 := Lib.hid cv
    clear cv g1 hR e hMH
    go_enter Try.func24, Try.ntmps24
    go_wp2_with fail
    rw [← HW0.out]
    refine C1.out.mono ?_
    rintro e w1 ⟨rfl, b1⟩
    have x1 := x0.belowAll b1
    have bA := hbA.trans (b1.mono (by omega))
    clear x0 b1 hbA
    go_wp2_with fail
    go_loopw [3, 8] (fun nv kv wr => ∃ k n : Nat, k ≤ 93 ∧ kv = .int .i64 (k : Int) ∧ nv = .int .i64 (n : Int) ∧ Hid (n = hm b.toNat ww.toNat s.toNat k) ∧ SBox wr w.heap.size b ww s ∧ Below w.heap.size w wr) (fun _ kv _ => 93 - (intOf kv).toNat)
    case atStart => exact ⟨0, 0, by omega, rfl, rfl, rfl, x1, bA⟩
    case round =>
      clear x1 bA
      obtain ⟨k, n, hk, rfl, rfl, hn, hx, hb⟩ := hrel
      have hnk : n ≤ k := by rw [hn.out]; exact hm_le
      by_cases hlt : k < 93
      · have hk1 : (k : Int) < 93 := by omega
        have p0 := hx.c0
        have p1 := hx.c1
        have p2 := hx.c2
        have cm := fun wx => implMayHave_any b ww s (k : Int) wx
        rw [HMH.out k (by omega)] at cm
        have hst := hm_succ (bits := b.toNat) (ways := ww.toNat) (s := s.toNat) (n := k)
        by_cases hc : mkb b.toNat k ww.toNat &&& s.toNat = mkb b.toNat k ww.toNat
        · rw [if_pos hc, ← hn.out] at hst
          rw [decide_eq_true hc] at cm
          have HST := Lib.hid hst
          have CM := Lib.hid cm
          clear cm hst hc
          go_wp2_with fail
          refine (CM.out _).mono ?_
          rintro e w2 ⟨rfl, b2⟩
          have hx2 := hx.belowAll b2
          have hb2 := hb.trans (b2.mono hb.size)
          clear hx hb b2
          go_wp2
          go_roundw
          case rel => exact ⟨k + 1, n + 1, by omega, by go_num, by go_num, HST.out.symm, hx2, hb2⟩
          case measure => simp [intOf]; omega
        · rw [if_neg hc, ← hn.out] at hst
          rw [decide_eq_false hc] at cm
          have HST := Lib.hid hst
          have CM := Lib.hid cm
          clear cm hst hc
          go_wp2_with fail
          refine (CM.out _).mono ?_
          rintro e w2 ⟨rfl, b2⟩
          have hx2 := hx.belowAll b2
          have hb2 := hb.trans (b2.mono hb.size)
          clear hx hb b2
          go_wp2
          go_roundw
          case rel => exact ⟨k + 1, n, by omega, by go_num, rfl, HST.out.symm, hx2, hb2⟩
          case measure => simp [intOf]; omega
      · obtain rfl : k = 93 := by omega
        go_wp2
        go_ret
        exact ⟨ret_int (by rw [HR.out, hn.out]), hb⟩
  · have e : R = -1 := by rw [hR]; unfold HMS; rw [if_neg g1]
    subst e
    rw [eq_false_of_ne_true g1] at cv
    have C1 := Lib.hid cv
    clear cv g1 hR
    go_enter Try.func24, Try.ntmps24
    go_wp2_with fail
    rw [← HW0.out]
    refine C1.out.mono ?_
    rintro e w1 ⟨rfl, b1⟩
    have bA := hbA.trans (b1.mono (by omega))
    go_wp2
    go_ret
    exact ⟨rfl, bA⟩
end Go.Proofs.Ytjkcahmbocjacaa
