/-
  spec.validRing, owner, ValidRing, OwnerOf, SharesOf, MovedBy.
-/
import Derived.Test.YtbldfhfciihddaaF1
import Derived.Test.YtbldfhfciihddaaR3
namespace Go.Proofs.Ytbldfhfciihddaa
open Go.RowKit

theorem VR_end {l : List Int} (h : FitV l l.length) : VR l = inR (l.length : Int) 1 6 := by
  rw [Bool.eq_iff_iff, VR_iff, inR_iff]
  constructor
  · intro h2; omega
  · intro h2; exact ⟨by omega, by omega, h⟩
theorem VR_bad1 {l : List Int} {k : Nat} (hk : k < l.length) (h : ¬ (0 ≤ l.getD k 0 ∧ l.getD k 0 ≤ 63)) : VR l = false :=
  VR_false fun h2 => h ⟨(h2.2.2 k hk).1, (h2.2.2 k hk).2.1⟩
theorem VR_bad2 {l : List Int} {k : Nat} (hk : k < l.length) (h : l.getD k 0 ∈ l.take k) : VR l = false :=
  VR_false fun h2 => (h2.2.2 k hk).2.2 h

set_option maxHeartbeats 4000000 in
theorem specvalidRing_any (a : Option Addr) (l : List Int) (cap : Nat) (w : World) (hr : Reads w a l) (hl : l.length ≤ 1048586) (hcap : l.length ≤ cap) :
    Calls Try.prog 60 #[.slice a l.length cap] w fun e w' => e = .returned (.bool (VR l)) ∧ ∃ n, w' = w.drewN n := by
  go_enter Try.func60, Try.ntmps60
  go_wp2
  go_loopw [3] (fun i wr => ∃ k n : Nat, k ≤ l.length ∧ i = .int .i64 k ∧ Hid (FitV l k) ∧ wr = w.drewN n) (fun i _ => l.length - (intOf i).toNat)
  case atStart => exact ⟨0, 0, Nat.zero_le _, rfl, fun j hj => by omega, rfl⟩
  case round =>
    obtain ⟨k, n, hk, rfl, hf, rfl⟩ := hrel
    by_cases hlt : k < l.length
    · obtain ⟨b, off, y, rfl, hb, hcell, hy⟩ := hr.get hlt
      by_cases g1 : inR y 0 63 = true
      · have c1 : ∀ wx, Calls Try.prog 64 #[.int .i64 y, .int .i64 0, .int .i64 63] wx fun e w' => e = .returned (.bool true) ∧ wx = w' := fun wx => by
          have := inRange_any y 0 63 wx; rwa [g1] at this
        have D1 := Lib.hid (fun n => c1 (w.drewN n))
        have ht := hr.take' k
        have hk1 : (k : Int) ≤ (cap : Int) := by omega
        have hk2 : (k : Int) < (l.length : Int) := by omega
        have hk3 : (0 : Int) ≤ (k : Int) := by omega
        by_cases g2 : inL (l.take k) y = true
        · have c2 : ∀ wx, Reads wx (some ⟨b, off, none⟩) (l.take k) → Calls Try.prog 82 #[.slice (some ⟨b, off, none⟩) k cap, .int .i64 y] wx fun e w' => e = .returned (.bool true) ∧ wx = w' := fun wx h => by
            have := has_any (some ⟨b, off, none⟩) (l.take k) k cap y wx h (by rw [List.length_take]; omega) (by omega)
            rwa [g2] at this
          have D2 := Lib.hid (fun n => c2 (w.drewN n) ht)
          have HB := Lib.hid (VR_bad2 hlt (by rw [hy.out]; simpa [inL] using g2))
          clear c1 c2 g1 g2
          go_wp2_with fail
          go_quiet ((with_reducible first | (go_at_call 64; exact quiet_lf (D1.out _)) | (go_at_call 82; exact quiet_lf (D2.out _))))
          all_goals
            go_wp2
            go_ret
            exact ⟨ret_bool HB.out.symm, _, World.drewN_drewN _ _ _⟩
        · have g2' : inL (l.take k) y = false := by simpa using g2
          have c2 : ∀ wx, Reads wx (some ⟨b, off, none⟩) (l.take k) → Calls Try.prog 82 #[.slice (some ⟨b, off, none⟩) k cap, .int .i64 y] wx fun e w' => e = .returned (.bool false) ∧ wx = w' := fun wx h => by
            have := has_any (some ⟨b, off, none⟩) (l.take k) k cap y wx h (by rw [List.length_take]; omega) (by omega)
            rwa [g2'] at this
          have D2 := Lib.hid (fun n => c2 (w.drewN n) ht)
          have HB := Lib.hid (hf.out.succ (by rw [hy.out]; exact (inR_iff.1 g1).1) (by rw [hy.out]; exact (inR_iff.1 g1).2) (by rw [hy.out]; simpa [inL] using g2))
          clear c1 c2 g1 g2 g2'
          go_wp2_with fail
          go_quiet ((with_reducible first | (go_at_call 64; exact quiet_lf (D1.out _)) | (go_at_call 82; exact quiet_lf (D2.out _))))
          all_goals
            go_wp2
            go_roundw
            case rel => exact ⟨k + 1, _, by omega, by go_num, HB, rfl⟩
            case measure => simp [intOf]; omega
      · have g1' : inR y 0 63 = false := by simpa using g1
        have c1 : ∀ wx, Calls Try.prog 64 #[.int .i64 y, .int .i64 0, .int .i64 63] wx fun e w' => e = .returned (.bool false) ∧ wx = w' := fun wx => by
          have := inRange_any y 0 63 wx; rwa [g1'] at this
        have D1 := Lib.hid (fun n => c1 (w.drewN n))
        have HB := Lib.hid (VR_bad1 hlt (by rw [hy.out]; exact fun h => g1 (inR_iff.2 h)))
        have hk1 : (k : Int) ≤ (cap : Int) := by omega
        have hk2 : (k : Int) < (l.length : Int) := by omega
        have hk3 : (0 : Int) ≤ (k : Int) := by omega
        clear c1 g1 g1'
        go_wp2_with fail
        go_quiet ((with_reducible first | (go_at_call 64; exact quiet_lf (D1.out _))))
        all_goals
          go_wp2
          go_ret
          exact ⟨ret_bool HB.out.symm, _, World.drewN_drewN _ _ _⟩
    · obtain rfl : k = l.length := by omega
      have c1 : ∀ wx, Calls Try.prog 64 #[.int .i64 (l.length : Int), .int .i64 1, .int .i64 6] wx fun e w' => e = .returned (.bool (VR l)) ∧ wx = w' := fun wx => by
        have := inRange_any (l.length : Int) 1 6 wx; rwa [← VR_end hf.out] at this
      have C1 := Lib.hid c1
      clear c1
      go_wp2_with fail
      refine (C1.out _).mono ?_
      rintro e w2 ⟨rfl, rfl⟩
      go_wp2
      go_ret
      exact ⟨rfl, _, rfl⟩


theorem st_eq {l : List Int} {k : Int} {i : Nat} {y : Int} (h : l.getD i 0 = y) (hy : 0 ≤ y) (hy' : y ≤ 63) (hk : 0 ≤ k) (hk' : k ≤ 63) : ∃ Y Z T, T = st l k i ∧ IntKind.i64.wrap (y - k) = Y ∧ IntKind.i64.wrap (Y + 64) = Z ∧ Z.tmod 64 = T ∧ 0 ≤ T ∧ T < 64 ∧ 0 ≤ Z ∧ Z < 200 ∧ -100 ≤ Y ∧ Y ≤ 100 := by
  refine ⟨y - k, y - k + 64, st l k i, rfl, IntWalk.i64_in _ (by omega), IntWalk.i64_in _ (by omega), ?_, ?_, ?_, by omega, by omega, by omega, by omega⟩
  · rw [Int.tmod_eq_emod_of_nonneg (by omega)]; unfold st offI; rw [h]
  · unfold st; exact off_nn.1
  · unfold st; exact off_nn.2

set_option maxHeartbeats 2000000 in
theorem specowner_any (a : Option Addr) (l : List Int) (cap : Nat) (k : Int) (w : World) (hr : Reads w a l) (hv : VR l = true) (hk : 0 ≤ k) (hk' : k ≤ 63) :
    Calls Try.prog 65 #[.slice a l.length cap, .int .i64 k] w fun e w' => e = .returned (.int .i64 (own l k : Nat)) ∧ ∃ n, w' = w.drewN n := by
  have hl1 := (VR_iff.1 hv).1
  have hl6 := (VR_iff.1 hv).2.1
  have HV := Lib.hid hv
  clear hv
  go_enter Try.func65, Try.ntmps65
  go_wp2
  go_loopw [5, 6] (fun b i wr => ∃ t q bb t1 : Nat, t + 1 ≤ l.length ∧ i = .int .i64 (t1 : Int) ∧ b = .int .i64 (bb : Int) ∧ Hid (t1 = t + 1) ∧ Hid (bb = bsm (st l k) t) ∧ wr = w.drewN q) (fun _ i _ => l.length - (intOf i).toNat)
  case atStart => exact ⟨0, 0, 0, 1, by omega, rfl, rfl, rfl, rfl, rfl⟩
  case round =>
    obtain ⟨t, q, bb, t1, ht, rfl, rfl, HT1, HBB, rfl⟩ := hrel
    by_cases hlt : t + 1 < l.length
    · have hbt := bsm_le (st l k) t
      have hbb := HBB.out
      have hnew : bsm (st l k) (t + 1) = if st l k (t + 1) < st l k bb then t + 1 else bb := by rw [bsm, hbb]
      rw [← hbb] at hbt
      obtain ⟨b1, o1, y1, rfl, hb1, hc1, hy1⟩ := hr.get hlt
      obtain ⟨y2, hc2, hy2⟩ := hr.at_ (k := bb) (by omega)
      have r1 := VR_rng HV.out hlt
      have r2 := VR_rng HV.out (i := bb) (by omega)
      rw [hy1.out] at r1
      rw [hy2.out] at r2
      obtain ⟨Y1, Z1, T1, hT1, e1, e2, e3, n1, n2, n3, n4, n5, n6⟩ := st_eq (k := k) hy1.out r1.1 r1.2 hk hk'
      obtain ⟨Y2, Z2, T2, hT2, f1, f2, f3, m1, m2, m3, m4, m5, m6⟩ := st_eq (k := k) hy2.out r2.1 r2.2 hk hk'
      rw [← hT1, ← hT2] at hnew
      have ht1 : ((t + 1 : Nat) : Int) < (l.length : Int) := by omega
      have hb1' : (bb : Int) < (l.length : Int) := by omega
      have ht1e := HT1.out
      rw [← ht1e] at ht1 hc1
      have ht1w : IntKind.i64.wrap ((t1 : Int) + 1) = ((t1 + 1 : Nat) : Int) := by rw [IntWalk.i64_in _ (by omega)]; rfl
      clear hT1 hT2 hbb hy1 hy2 ht1e
      by_cases hc : T1 < T2
      · rw [if_pos hc] at hnew
        have HN := Lib.hid hnew
        clear hnew
        go_wp2
        go_quiet (fail)
        go_wp2
        go_roundw
        case rel => exact ⟨t1, _, t1, t1 + 1, by have := HT1.out; omega, by first | rfl | go_num, rfl, rfl, Lib.hid (by rw [HT1.out, HN.out]), by first | rfl | exact World.drewN_drewN _ _ _⟩
        case measure => simp [intOf]; omega
      · rw [if_neg hc] at hnew
        have HN := Lib.hid hnew
        clear hnew
        go_wp2
        go_quiet (fail)
        go_wp2
        go_roundw
        case rel => exact ⟨t1, _, bb, t1 + 1, by have := HT1.out; omega, by first | rfl | go_num, rfl, rfl, Lib.hid (by rw [HT1.out, HN.out]), by first | rfl | exact World.drewN_drewN _ _ _⟩
        case measure => simp [intOf]; omega
    · have ht1 : ¬ (t1 : Int) < (l.length : Int) := by have := HT1.out; omega
      have e : bb = own l k := by rw [HBB.out, own, show l.length - 1 = t from by omega]
      have E := Lib.hid e
      clear e
      go_wp2
      go_ret
      exact ⟨by first | rfl | (rw [E.out]; rfl), _, rfl⟩
end Go.Proofs.Ytbldfhfciihddaa
