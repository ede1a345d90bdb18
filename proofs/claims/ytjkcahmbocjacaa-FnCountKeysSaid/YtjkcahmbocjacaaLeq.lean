/-
  laws.equalLists.
-/
import Derived.Test.YtjkcahmbocjacaaTc
import Derived.Test.YtjkcahmbocjacaaLH
namespace Go.Proofs.Ytjkcahmbocjacaa
open Go.RowKit

set_option maxHeartbeats 1000000 in
set_option maxRecDepth 100000 in
theorem equalLists_self (a a' : Option Addr) (ts : List (List Int)) (cap cap' : Nat) (w : World) (hr : ReadsS w a ts) (hr' : ReadsS w a' ts) (hl : bulk ts ≤ 1048586) :
    Calls Try.prog 40 #[.slice a ts.length cap, .slice a' ts.length cap'] w fun e w' => e = .returned (.bool true) ∧ Below w.heap.size w w' := by
  have hblen := bulk_len ts
  have hlen : ((ts.length : Int) != (ts.length : Int)) = false := by simp
  go_enter Try.func40, Try.ntmps40
  go_wp2
  go_loopw [5] (fun i wr => ∃ k : Nat, k ≤ ts.length ∧ i = .int .i64 k ∧ Below w.heap.size w wr) (fun i _ => ts.length - (intOf i).toNat)
  case atStart => exact ⟨0, Nat.zero_le _, rfl, Below.refl _ _⟩
  case round =>
    obtain ⟨k, hk, rfl, hb⟩ := hrel
    by_cases hlt : k < ts.length
    · obtain ⟨b, off, A, C, rfl, hbb, hc, hrow, _⟩ := hr.get hlt
      obtain ⟨b', off', A', C', rfl, hbb', hc', hrow', _⟩ := hr'.get hlt
      have hrl := bulk_row hlt
      have c1 : wr.cell? ⟨b, off + k, none⟩ = some (.slice A (tr ts k).length C) := (hb.cell (by exact hbb)).trans hc
      have c2 : wr.cell? ⟨b', off' + k, none⟩ = some (.slice A' (tr ts k).length C') := (hb.cell (by exact hbb')).trans hc'
      have r1 := hrow.below hb
      have r2 := hrow'.below hb
      have c := fun wx h1 h2 => equalInts_any A A' (tr ts k) (tr ts k) C C' wx h1 h2 (by omega) (by omega)
      simp only [eqL_self] at c
      have HC := Lib.hid c
      clear hc hc' hrow hrow' c
      go_wp2
      refine region_tail 8 (by kernel_rfl) (by kernel_rfl) ?_
      simp only [List.take_succ_cons, List.take_zero, List.drop_succ_cons, List.drop_zero]
      repeat still_step
      refine wpStill_nil ?_
      go_wp2_with fail
      refine (HC.out wr.drew r1 r2).mono ?_
      rintro e w2 ⟨rfl, nn, rfl⟩
      go_wp2
      go_roundw
      case rel => exact ⟨k + 1, by omega, by go_num, below_drewN hb _⟩
      case measure => simp [intOf]; omega
    · obtain rfl : k = ts.length := by omega
      go_wp2
      go_ret
      exact ⟨rfl, hb⟩
end Go.Proofs.Ytjkcahmbocjacaa
