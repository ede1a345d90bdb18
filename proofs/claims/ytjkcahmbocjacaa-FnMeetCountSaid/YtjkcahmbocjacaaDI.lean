/-
  spec.DrawMeetCount.
-/
import Derived.Test.YtjkcahmbocjacaaD9
namespace Go.Proofs.Ytjkcahmbocjacaa
open Go.RowKit

set_option maxHeartbeats 4000000 in
theorem drawMeetCount_any (a : Option Addr) (n cap : Nat) (w : World) (hB : Bytes w w.heap.size a n) (hn : n ≤ 9223372036854775807) (hc : n ≤ cap) :
    Calls Try.prog 52 #[.slice a n cap] w fun e w' => ∃ (k x y : Int), e = .returned (.tuple #[.int .i64 k, .int .i64 x, .int .i64 y]) ∧ (0 ≤ k ∧ k ≤ 6) ∧ (0 ≤ x ∧ x ≤ 31) ∧ (0 ≤ y ∧ y ≤ 31) ∧ Below w.heap.size w w' := by
  go_enter Try.func52, Try.ntmps52
  go_wp2_with fail
  refine (newReader_any a n cap w hB hn hc).mono ?_
  rintro e w1 ⟨rfl, R1, B1, s1⟩
  clear hB hn hc
  go_wp2_with fail
  refine (one_litR w.heap.size 0 w1 [4, 5, 3, 2, 1, 0, 6] 7 R1 (by omega) (by simp) (by simp) rfl).mono ?_
  rintro e w2 ⟨k, rfl, hk, R2, g2⟩
  have B2 := B1.grown g2 B1.size (fun k hk => by cases hk; exact Nat.le_refl _)
  have hk' : 0 ≤ k ∧ k ≤ 6 := by simp at hk; omega
  clear hk g2 R1
  go_wp2_with fail
  refine (pick_any w.heap.size 1 31 _ R2 (by omega) (by omega)).mono ?_
  rintro e w3 ⟨x, rfl, hx, R3, g3⟩
  have hx' := hx.1 (by omega)
  have B3 := B2.grown g3 B2.size (fun k hk => by cases hk; exact Nat.le_refl _)
  have ex : IntKind.i64.wrap (1 + x) = 1 + x := IntWalk.i64_in _ (by omega)
  clear hx g3 R2
  go_wp2_with fail
  refine (pick_any w.heap.size 2 31 _ R3 (by omega) (by omega)).mono ?_
  rintro e w4 ⟨y, rfl, hy, R4, g4⟩
  have hy' := hy.1 (by omega)
  have B4 := B3.grown g4 B3.size (fun k hk => by cases hk; exact Nat.le_refl _)
  have ey : IntKind.i64.wrap (1 + y) = 1 + y := IntWalk.i64_in _ (by omega)
  clear hy g4 R3
  go_wp2_with fail
  refine (pick_any w.heap.size 3 7 _ R4 (by omega) (by omega)).mono ?_
  rintro e w5 ⟨z, rfl, hz, R5, g5⟩
  have hz' := hz.1 (by omega)
  have B5 := B4.grown g5 B4.size (fun k hk => by cases hk; exact Nat.le_refl _)
  have ez : IntKind.i64.wrap (1 + z) = 1 + z := IntWalk.i64_in _ (by omega)
  clear hz g5 R4
  go_wp2_with fail
  refine (one_litR w.heap.size 4 w5 [1 + y, 1 + z, 0] 3 R5 (by omega) (by simp) (by simp) rfl).mono ?_
  rintro e w6 ⟨u, rfl, hu, R6, g6⟩
  have hu' : 0 ≤ u ∧ u ≤ 31 := by simp at hu; omega
  have B6 := B5.grown g6 B5.size (fun k hk => by cases hk; exact Nat.le_refl _)
  clear hu g6 R5
  go_wp2
  go_ret3
  exact ⟨k, 1 + x, u, rfl, hk', by omega, hu', B6⟩
end Go.Proofs.Ytjkcahmbocjacaa
