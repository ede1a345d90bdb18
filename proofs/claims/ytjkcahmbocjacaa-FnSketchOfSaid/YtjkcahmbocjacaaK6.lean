/-
  spec.validOrder, spec.firstIn.
-/
import Derived.Test.YtjkcahmbocjacaaV7
import Derived.Test.YtjkcahmbocjacaaF1
import Derived.Test.YtjkcahmbocjacaaW5
namespace Go.Proofs.Ytjkcahmbocjacaa
open Go.RowKit

/-- What validOrder says. -/
def VO5 (l : List Int) : Bool := decide ((1 ≤ l.length ∧ l.length ≤ 5) ∧ VOn l.length l)
set_option maxHeartbeats 4000000 in
theorem specValidOrder_any (a : Option Addr) (l : List Int) (cap : Nat) (w : World) (hr : Reads w a l) (hl : l.length ≤ 1048586) (hcap : l.length ≤ cap) :
    Calls Try.prog 90 #[.slice a l.length cap] w fun e w' => e = .returned (.bool (VO5 l)) ∧ ∃ n, w' = w.drewN n := by
  obtain ⟨R, hR⟩ : ∃ R, R = VO5 l := ⟨_, rfl⟩
  rw [← hR]
  have HR := Lib.hid hR
  clear hR
  go_enter Try.func90, Try.ntmps90
  go_wp2
  go_loopw [3] (fun i wr => ∃ k n : Nat, k ≤ l.length ∧ i = .int .i64 k ∧ Hid (∀ j, j < k → (0 ≤ l.getD j 0 ∧ l.getD j 0 < (l.length : Nat)) ∧ l.getD j 0 ∉ l.take j) ∧ wr = w.drewN n) (fun i _ => l.length - (intOf i).toNat)
  case atStart => exact ⟨0, 0, Nat.zero_le _, rfl, fun j hj => by omega, rfl⟩
  case round =>
    obtain ⟨k, n, hk, rfl, hf, rfl⟩ := hrel
    by_cases hlt : k < l.length
    · obtain ⟨b, off, y, rfl, hb, hcell, hy⟩ := hr.get hlt
      have BAD : ¬ ((0 ≤ y ∧ y < (l.length : Nat)) ∧ y ∉ l.take k) → R = false := fun h => by
        rw [HR.out]; unfold VO5; rw [decide_eq_false_iff_not]; rintro ⟨_, h2⟩
        have := h2 k hlt
        rw [hy.out] at this
        exact h this
      by_cases g1 : inR y 0 ((l.length : Int) - 1) = true
      · have c1 : ∀ wx, Calls Try.prog 75 #[.int .i64 y, .int .i64 0, .int .i64 ((l.length : Int) - 1)] wx fun e w' => e = .returned (.bool true) ∧ wx = w' := fun wx => by
          have := inRange_any y 0 ((l.length : Int) - 1) wx; rwa [g1] at this
        have D1 := Lib.hid (fun n => c1 (w.drewN n))
        have ht := hr.take' k
        have hk1 : (k : Int) ≤ (cap : Int) := by omega
        have hk2 : (k : Int) < (l.length : Int) := by omega
        have hk3 : (0 : Int) ≤ (k : Int) := by omega
        by_cases g2 : inL (l.take k) y = true
        · have c2 : ∀ wx, Reads wx (some ⟨b, off, none⟩) (l.take k) → Calls Try.prog 103 #[.slice (some ⟨b, off, none⟩) k cap, .int .i64 y] wx fun e w' => e = .returned (.bool true) ∧ wx = w' := fun wx h => by
            have := has_any (some ⟨b, off, none⟩) (l.take k) k cap y wx h (by rw [List.length_take]; omega) (by omega)
            rwa [g2] at this
          have D2 := Lib.hid (fun n => c2 (w.drewN n) ht)
          have e : R = false := BAD (fun h => h.2 (by simpa [inL] using g2))
          subst e
          clear c1 c2 g1 g2 BAD
          go_wp2_with fail
          go_quiet ((with_reducible first | (go_at_call 75; exact quiet_lf (D1.out _)) | (go_at_call 103; exact quiet_lf (D2.out _))))
          all_goals
            go_wp2
            go_ret
            exact ⟨rfl, _, World.drewN_drewN _ _ _⟩
        · have g2' : inL (l.take k) y = false := by simpa using g2
          have c2 : ∀ wx, Reads wx (some ⟨b, off, none⟩) (l.take k) → Calls Try.prog 103 #[.slice (some ⟨b, off, none⟩) k cap, .int .i64 y] wx fun e w' => e = .returned (.bool false) ∧ wx = w' := fun wx h => by
            have := has_any (some ⟨b, off, none⟩) (l.take k) k cap y wx h (by rw [List.length_take]; omega) (by omega)
            rwa [g2'] at this
          have D2 := Lib.hid (fun n => c2 (w.drewN n) ht)
          have HB := Lib.hid (VOn.snoc hf.out (by rw [hy.out]; have := inR_iff.1 g1; exact ⟨by omega, by simpa [inL] using g2⟩))
          clear c1 c2 g1 g2 g2' BAD
          go_wp2_with fail
          go_quiet ((with_reducible first | (go_at_call 75; exact quiet_lf (D1.out _)) | (go_at_call 103; exact quiet_lf (D2.out _))))
          all_goals
            go_wp2
            go_roundw
            case rel => exact ⟨k + 1, _, by omega, by go_num, HB, rfl⟩
            case measure => simp [intOf]; omega
      · have g1' : inR y 0 ((l.length : Int) - 1) = false := by simpa using g1
        have c1 : ∀ wx, Calls Try.prog 75 #[.int .i64 y, .int .i64 0, .int .i64 ((l.length : Int) - 1)] wx fun e w' => e = .returned (.bool false) ∧ wx = w' := fun wx => by
          have := inRange_any y 0 ((l.length : Int) - 1) wx; rwa [g1'] at this
        have D1 := Lib.hid (fun n => c1 (w.drewN n))
        have e : R = false := BAD (fun h => g1 (inR_iff.2 (by omega)))
        subst e
        have hk1 : (k : Int) ≤ (cap : Int) := by omega
        have hk2 : (k : Int) < (l.length : Int) := by omega
        have hk3 : (0 : Int) ≤ (k : Int) := by omega
        clear c1 g1 g1' BAD
        go_wp2_with fail
        go_quiet ((with_reducible first | (go_at_call 75; exact quiet_lf (D1.out _))))
        all_goals
          go_wp2
          go_ret
          exact ⟨rfl, _, World.drewN_drewN _ _ _⟩
    · obtain rfl : k = l.length := by omega
      have c1 := fun wx => inRange_any (l.length : Int) 1 5 wx
      have e : R = inR (l.length : Int) 1 5 := by
        rw [HR.out]; unfold VO5 inR
        have hv : VOn l.length l := hf.out
        simp only [hv, and_true]
        rw [Bool.eq_iff_iff]
        simp
        omega
      rw [← e] at c1
      clear e
      go_wp2_with fail
      refine (c1 _).mono ?_
      rintro e w' ⟨rfl, rfl⟩
      go_wp2
      go_ret
      exact ⟨rfl, _, rfl⟩
set_option maxHeartbeats 4000000 in
theorem specFirstIn_any (s : Nat) (a : Option Addr) (l : List Int) (cap : Nat) (w : World) (hr : Reads w a l) (hl : l.length ≤ 1048586) (hs : s ≤ 1000000) (hm : ∀ x ∈ l, 0 ≤ x ∧ x ≤ 40) :
    Calls Try.prog 91 #[.slice a l.length cap, .int .i64 (s : Int)] w fun e w' => e = .returned (.int .i64 (fi s l)) ∧ w = w' := by
  obtain ⟨R, hR⟩ : ∃ R, R = fi s l := ⟨_, rfl⟩
  rw [← hR]
  have HR := Lib.hid hR
  clear hR
  go_enter Try.func91, Try.ntmps91
  go_wp2
  go_loop [5] (fun i => ∃ k : Nat, k ≤ l.length ∧ i = .int .i64 k ∧ Hid (fi s (l.drop k) = R)) (fun i => l.length - (intOf i).toNat)
  case atStart => exact ⟨0, Nat.zero_le _, rfl, HR.out.symm⟩
  case round =>
    obtain ⟨k, hk, rfl, hf⟩ := hrel
    by_cases hlt : k < l.length
    · obtain ⟨b, off, y, rfl, hb, hcell, hy⟩ := hr.get hlt
      have hk2 : (k : Int) < (l.length : Int) := by omega
      have hyb := hm (l.getD k 0) (by simp [List.getD, List.getElem?_eq_getElem hlt])
      rw [hy.out] at hyb
      have hd : l.drop k = y :: l.drop (k + 1) := by
        rw [List.drop_eq_getElem_cons hlt]
        congr 1
        rw [← hy.out]; simp [List.getD, hlt]
      have hf2 := hf.out
      rw [hd] at hf2
      simp only [fi] at hf2
      obtain ⟨t, rfl⟩ : ∃ t : Nat, y = t := ⟨y.toNat, by omega⟩
      rw [Int.toNat_natCast] at hf2
      have c := fun wx => bit_any s t wx hs (by omega)
      by_cases g : s.testBit t = true
      · rw [if_pos g] at hf2
        have e : bt s t = 1 := by unfold bt; rw [if_pos g]
        rw [e] at c
        have CC := Lib.hid c
        have HF := Lib.hid hf2
        clear c hf hf2 hd g e hy
        go_wp2_with fail
        refine (CC.out _).mono ?_
        rintro e w' ⟨rfl, rfl⟩
        go_wp2
        go_ret
        exact ⟨congrArg (fun z => Ending.returned (.int .i64 z)) HF.out, rfl⟩
      · rw [if_neg g] at hf2
        have e : bt s t = 0 := by unfold bt; rw [if_neg g]
        rw [e] at c
        have CC := Lib.hid c
        have HF : Hid (fi s (l.drop (k + 1)) = R) := hf2
        clear c hf hf2 hd g e hy
        go_wp2_with fail
        refine (CC.out _).mono ?_
        rintro e w' ⟨rfl, rfl⟩
        go_wp2
        go_round
        case rel => exact ⟨k + 1, by omega, by go_num, HF⟩
        case measure => simp [intOf]; omega
    · obtain rfl : k = l.length := by omega
      have e : R = -1 := by rw [← hf.out, List.drop_length]; rfl
      subst e
      go_wp2
      go_ret
      exact ⟨rfl, rfl⟩
end Go.Proofs.Ytjkcahmbocjacaa
