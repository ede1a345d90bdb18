/-
  Names: spec.validNames.
-/
import Derived.Test.YtoaiaindcmihjaaGreatDoorPw
import Derived.Test.YtoaiaindcmihjaaGreatDoorN4
namespace Go.Proofs.YtoaiaindcmihjaaGreatDoor
open Go.RowKit

/-- The first k keys are different ones. -/
def VNp (l : List Int) (k : Nat) : Prop := ∀ i, i < k → (0 ≤ l.getD i 0 ∧ l.getD i 0 ≤ 63) ∧ l.getD i 0 ∉ l.take i
theorem VNp.succ {l : List Int} {k : Nat} (h : VNp l k) (h1 : 0 ≤ l.getD k 0 ∧ l.getD k 0 ≤ 63) (h2 : l.getD k 0 ∉ l.take k) : VNp l (k + 1) := by
  intro i hi
  by_cases e : i = k
  · subst e; exact ⟨h1, h2⟩
  · exact h i (by omega)
theorem take_snocN {l : List Int} {k : Nat} (h : k < l.length) : l.take (k + 1) = l.take k ++ [l.getD k 0] := by
  rw [List.take_succ_eq_append_getElem h]; simp [List.getD, h]
theorem VNp.nodup {l : List Int} : ∀ k, k ≤ l.length → VNp l k → (l.take k).Nodup ∧ ∀ x ∈ l.take k, 0 ≤ x ∧ x ≤ 63 := by
  intro k
  induction k with
  | zero => intro _ _; simp
  | succ k ih =>
    intro hk h
    obtain ⟨i1, i2⟩ := ih (by omega) (fun i hi => h i (by omega))
    obtain ⟨h1, h2⟩ := h k (by omega)
    rw [take_snocN (by omega)]
    refine ⟨?_, ?_⟩
    · rw [List.nodup_append]
      refine ⟨i1, by simp, fun x hx y hy => ?_⟩
      simp only [List.mem_singleton] at hy
      rintro rfl
      exact h2 (hy ▸ hx)
    · intro x hx
      rcases List.mem_append.1 hx with hx | hx
      · exact i2 x hx
      · simp only [List.mem_singleton] at hx; subst hx; exact h1
theorem VNm_end {l : List Int} (h : VNp l l.length) : VNm l = decide (l.length ≤ 12) := by
  obtain ⟨h1, h2⟩ := VNp.nodup l.length (Nat.le_refl _) h
  rw [List.take_length] at h1 h2
  rw [Bool.eq_iff_iff, VNm_iff, decide_eq_true_eq]
  exact ⟨fun h => h.1, fun h => ⟨h, h2, h1⟩⟩
theorem VNm_bad1 {l : List Int} {k : Nat} (hk : k < l.length) (h : ¬ (0 ≤ l.getD k 0 ∧ l.getD k 0 ≤ 63)) : VNm l = false := by
  rw [← Bool.not_eq_true, VNm_iff]
  rintro ⟨_, h2, _⟩
  exact h (h2 _ (getD_mem hk))
theorem VNm_bad2 {l : List Int} {k : Nat} (hk : k < l.length) (h : l.getD k 0 ∈ l.take k) : VNm l = false := by
  rw [← Bool.not_eq_true, VNm_iff]
  rintro ⟨_, _, h3⟩
  have h4 : (l.take (k + 1)).Nodup := h3.sublist (List.take_sublist _ _)
  rw [take_snocN hk, List.nodup_append] at h4
  exact h4.2.2 _ h _ (by simp) rfl

set_option maxHeartbeats 4000000 in
theorem specvalidNames_any (a : Option Addr) (l : List Int) (cap : Nat) (w : World) (hr : Reads w a l) (hl : l.length ≤ 1048586) (hcap : l.length ≤ cap) :
    Calls Tryz.prog 33 #[.slice a l.length cap] w fun e w' => e = .returned (.bool (VNm l)) ∧ ∃ n, w' = w.drewN n := by
  go_enter Tryz.func33, Tryz.ntmps33
  go_wp2
  have D0 := Lib.hid (fun n => pow6_any (w.drewN n))
  go_loopw [3] (fun i wr => ∃ k n : Nat, k ≤ l.length ∧ i = .int .i64 k ∧ Hid (VNp l k) ∧ wr = w.drewN n) (fun i _ => l.length - (intOf i).toNat)
  case atStart => exact ⟨0, 0, Nat.zero_le _, rfl, fun j hj => by omega, rfl⟩
  case round =>
    obtain ⟨k, n, hk, rfl, hf, rfl⟩ := hrel
    by_cases hlt : k < l.length
    · obtain ⟨b, off, y, rfl, hb, hcell, hy⟩ := hr.get hlt
      by_cases g1 : inR y 0 63 = true
      · have c1 : ∀ wx, Calls Tryz.prog 58 #[.int .i64 y, .int .i64 0, .int .i64 63] wx fun e w' => e = .returned (.bool true) ∧ wx = w' := fun wx => by
          have := inRange_any y 0 63 wx; rwa [g1] at this
        have D1 := Lib.hid (fun n => c1 (w.drewN n))
        have ht := hr.take' k
        have hk1 : (k : Int) ≤ (cap : Int) := by omega
        have hk2 : (k : Int) < (l.length : Int) := by omega
        have hk3 : (0 : Int) ≤ (k : Int) := by omega
        by_cases g2 : inL (l.take k) y = true
        · have c2 : ∀ wx, Reads wx (some ⟨b, off, none⟩) (l.take k) → Calls Tryz.prog 51 #[.slice (some ⟨b, off, none⟩) k cap, .int .i64 y] wx fun e w' => e = .returned (.bool true) ∧ wx = w' := fun wx h => by
            have := has_any (some ⟨b, off, none⟩) (l.take k) k cap y wx h (by rw [List.length_take]; omega) (by omega)
            rwa [g2] at this
          have D2 := Lib.hid (fun n => c2 (w.drewN n) ht)
          have HB := Lib.hid (VNm_bad2 hlt (by rw [hy.out]; simpa [inL] using g2))
          clear c1 c2 g1 g2
          go_wp2_with fail
          go_quiet ((with_reducible first | (go_at_call 59; exact quiet_lf (D0.out _)) | (go_at_call 58; exact quiet_lf (D1.out _)) | (go_at_call 51; exact quiet_lf (D2.out _))))
          all_goals
            go_wp2
            go_ret
            exact ⟨ret_bool HB.out.symm, _, World.drewN_drewN _ _ _⟩
        · have g2' : inL (l.take k) y = false := by simpa using g2
          have c2 : ∀ wx, Reads wx (some ⟨b, off, none⟩) (l.take k) → Calls Tryz.prog 51 #[.slice (some ⟨b, off, none⟩) k cap, .int .i64 y] wx fun e w' => e = .returned (.bool false) ∧ wx = w' := fun wx h => by
            have := has_any (some ⟨b, off, none⟩) (l.take k) k cap y wx h (by rw [List.length_take]; omega) (by omega)
            rwa [g2'] at this
          have D2 := Lib.hid (fun n => c2 (w.drewN n) ht)
          have HB := Lib.hid (hf.out.succ (by rw [hy.out]; exact inR_iff.1 g1) (by rw [hy.out]; simpa [inL] using g2))
          clear c1 c2 g1 g2 g2'
          go_wp2_with fail
          go_quiet ((with_reducible first | (go_at_call 59; exact quiet_lf (D0.out _)) | (go_at_call 58; exact quiet_lf (D1.out _)) | (go_at_call 51; exact quiet_lf (D2.out _))))
          all_goals
            go_wp2
            go_roundw
            case rel => exact ⟨k + 1, _, by omega, by go_num, HB, rfl⟩
            case measure => simp [intOf]; omega
      · have g1' : inR y 0 63 = false := by simpa using g1
        have c1 : ∀ wx, Calls Tryz.prog 58 #[.int .i64 y, .int .i64 0, .int .i64 63] wx fun e w' => e = .returned (.bool false) ∧ wx = w' := fun wx => by
          have := inRange_any y 0 63 wx; rwa [g1'] at this
        have D1 := Lib.hid (fun n => c1 (w.drewN n))
        have HB := Lib.hid (VNm_bad1 hlt (by rw [hy.out]; exact fun h => g1 (inR_iff.2 h)))
        have hk1 : (k : Int) ≤ (cap : Int) := by omega
        have hk2 : (k : Int) < (l.length : Int) := by omega
        have hk3 : (0 : Int) ≤ (k : Int) := by omega
        clear c1 g1 g1'
        go_wp2_with fail
        go_quiet ((with_reducible first | (go_at_call 59; exact quiet_lf (D0.out _)) | (go_at_call 58; exact quiet_lf (D1.out _))))
        all_goals
          go_wp2
          go_ret
          exact ⟨ret_bool HB.out.symm, _, World.drewN_drewN _ _ _⟩
    · obtain rfl : k = l.length := by omega
      have HB := Lib.hid (VNm_end hf.out)
      go_wp2
      go_ret
      exact ⟨ret_bool (by rw [HB.out]; simp; omega), _, rfl⟩

end Go.Proofs.YtoaiaindcmihjaaGreatDoor
