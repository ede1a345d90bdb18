/-
  laws.equalBuckets of the same, laws.ascends of what ascends.
-/
import Derived.Test.YtoaiaindcmihjaaBk
import Derived.Test.YtoaiaindcmihjaaLH
import Derived.Test.YtoaiaindcmihjaaNA
namespace Go.Proofs.Ytoaiaindcmihjaa
open Go.RowKit

set_option maxHeartbeats 8000000 in
theorem equalBuckets_same (a a' : Option Addr) (bs : List Bk) (cap cap' : Nat) (w : World) (hr : ReadsB w a bs) (hr' : ReadsB w a' bs) (hl : bs.length ≤ 1000) (hn : ∀ b ∈ bs, b.2.2.length ≤ 1000) :
    Calls Try.prog 13 #[.slice a bs.length cap, .slice a' bs.length cap'] w fun e w' => e = .returned (.bool true) ∧ ∃ n, w' = w.drewN n := by
  obtain ⟨B, hB⟩ : ∃ B, B = bs.length := ⟨_, rfl⟩
  have HB := Lib.hid hB
  rw [← hB] at hl ⊢
  clear hB
  have hBB : ((B : Int) != (B : Int)) = false := by simp
  have HN := Lib.hid hn
  clear hn
  go_enter Try.func13, Try.ntmps13
  go_wp2
  go_loopw [5] (fun iv wr => ∃ i n : Nat, i ≤ B ∧ iv = .int .i64 (i : Int) ∧ wr = w.drewN n) (fun iv _ => B - (intOf iv).toNat)
  case atStart => exact ⟨0, 0, by omega, rfl, rfl⟩
  case round =>
    obtain ⟨i, n, hi, rfl, rfl⟩ := hrel
    by_cases hlt : i < B
    · have hi1 : (i : Int) < (B : Int) := by omega
      have hib : i < bs.length := by have := HB.out; omega
      obtain ⟨b, off, A, C, rfl, hbb, hc0, hc1, hc2, hrA, _⟩ := hr.get hib
      obtain ⟨b', off', A', C', rfl, hbb', hc0', hc1', hc2', hrA', _⟩ := hr'.get hib
      have hle := HN.out _ (bkt_mem hib)
      obtain ⟨p, hp⟩ : ∃ p, p = (bkt bs i).1 := ⟨_, rfl⟩
      obtain ⟨q, hq⟩ : ∃ q, q = (bkt bs i).2.1 := ⟨_, rfl⟩
      obtain ⟨L, hL⟩ : ∃ L, L = (bkt bs i).2.2 := ⟨_, rfl⟩
      rw [← hp] at hc0 hc0'
      rw [← hq] at hc1 hc1'
      rw [← hL] at hc2 hc2' hrA hrA' hle
      have ce := fun k => equalInts_any A A' L L C C' (w.drewN k) hrA hrA' (by omega) (by omega)
      simp only [eqL_self] at ce
      have CE := Lib.hid ce
      have hpp : ((p : Int) != (p : Int)) = false := by simp
      have hqq : ((q : Int) != (q : Int)) = false := by simp
      clear hp hq hL ce hib hrA hrA'
      go_wp2_with fail
      go_quiet ((with_reducible first | (go_at_call 16; first | exact quiet_ldN (CE.out _) | exact quiet_pdN (CE.out _))))
      all_goals
        go_wp2
        go_roundw
        case rel => exact ⟨i + 1, _, by omega, by go_num, rfl⟩
        case measure => simp [intOf]; omega
    · obtain rfl : i = B := by omega
      go_wp2
      go_ret
      exact ⟨rfl, _, rfl⟩
end Go.Proofs.Ytoaiaindcmihjaa
