/-
  Chapter 6's draws: LineOf, LineMoves, TreeText.
-/
import Derived.Test.YtoaiaindcmihjaaDL
namespace Go.Proofs.Ytoaiaindcmihjaa
open Go.RowKit

set_option maxHeartbeats 4000000 in
theorem drawLineOf_any (a : Option Addr) (n cap : Nat) (w : World) (hB : Bytes w w.heap.size a n) (hn : n ≤ 9223372036854775807) (hc : n ≤ cap) :
    Calls Try.prog 23 #[.slice a n cap] w fun e w' => ∃ (c x : Int), e = .returned (.tuple #[.int .i64 c, .int .i64 x]) ∧ (0 ≤ c ∧ c ≤ 41) ∧ (-1 ≤ x ∧ x ≤ 64) ∧ Below w.heap.size w w' := by
  go_enter Try.func23, Try.ntmps23
  go_wp2_with fail
  refine (newReader_any a n cap w hB hn hc).mono ?_
  rintro e w1 ⟨rfl, R1, B1, s1⟩
  clear hB hn hc
  go_wp2_with fail
  refine (pick_any w.heap.size 0 40 _ R1 (by omega) (by omega)).mono ?_
  rintro e w2 ⟨y1, rfl, hy1, R2, g2⟩
  have hy1' := hy1.1 (by omega)
  have B2 := B1.grown g2 B1.size (fun k hk => by cases hk; exact Nat.le_refl _)
  have e1 : IntKind.i64.wrap (1 + y1) = 1 + y1 := IntWalk.i64_in _ (by omega)
  clear hy1 g2 R1
  go_wp2_with fail
  refine (pick_any w.heap.size 1 40 _ R2 (by omega) (by omega)).mono ?_
  rintro e w3 ⟨y2, rfl, hy2, R3, g3⟩
  have hy2' := hy2.1 (by omega)
  have B3 := B2.grown g3 B2.size (fun k hk => by cases hk; exact Nat.le_refl _)
  have e2 : IntKind.i64.wrap (1 + y2) = 1 + y2 := IntWalk.i64_in _ (by omega)
  clear hy2 g3 R2
  go_wp2_with fail
  refine (one_lit w.heap.size 2 w3 [1 + y1, 1 + y2, 1, 40, 41, 0] 6 R3 (by omega) (by simp) (by simp) rfl).mono ?_
  rintro e w4 ⟨c, rfl, hcc, R4, g4⟩
  have hc' : 0 ≤ c ∧ c ≤ 41 := by simp at hcc; omega
  have B4 := B3.grown g4 B3.size (fun k hk => by cases hk; exact Nat.le_refl _)
  clear hcc g4 R3
  go_wp2_with fail
  refine (pick_any w.heap.size 3 64 _ R4 (by omega) (by omega)).mono ?_
  rintro e w5 ⟨y3, rfl, hy3, R5, g5⟩
  have hy3' := hy3.1 (by omega)
  have B5 := B4.grown g5 B4.size (fun k hk => by cases hk; exact Nat.le_refl _)
  clear hy3 g5 R4
  go_wp2_with fail
  refine (pick_any w.heap.size 4 64 _ R5 (by omega) (by omega)).mono ?_
  rintro e w6 ⟨y4, rfl, hy4, R6, g6⟩
  have hy4' := hy4.1 (by omega)
  have B6 := B5.grown g6 B5.size (fun k hk => by cases hk; exact Nat.le_refl _)
  clear hy4 g6 R5
  go_wp2_with fail
  refine (one_lit w.heap.size 5 w6 [y3, y4, 0, 63, 64, -1] 6 R6 (by omega) (by simp) (by simp) rfl).mono ?_
  rintro e w7 ⟨x, rfl, hx, R7, g7⟩
  have hx' : -1 ≤ x ∧ x ≤ 64 := by simp at hx; omega
  have B7 := B6.grown g7 B6.size (fun k hk => by cases hk; exact Nat.le_refl _)
  clear hx g7 R6
  go_wp2
  go_ret2
  exact ⟨c, x, rfl, hc', hx', B7⟩
set_option maxHeartbeats 4000000 in
theorem drawLineMoves_any (a : Option Addr) (n cap : Nat) (w : World) (hB : Bytes w w.heap.size a n) (hn : n ≤ 9223372036854775807) (hc : n ≤ cap) :
    Calls Try.prog 26 #[.slice a n cap] w fun e w' => ∃ (c : Int) (v : Value) (l : List Int), e = .returned (.tuple #[.int .i64 c, v]) ∧ (0 ≤ c ∧ c ≤ 40) ∧ Own w' w.heap.size v l ∧ l.length ≤ 15 ∧ (∀ x ∈ l, -1 ≤ x ∧ x ≤ 64) ∧ Below w.heap.size w w' := by
  go_enter Try.func26, Try.ntmps26
  go_wp2_with fail
  refine (newReader_any a n cap w hB hn hc).mono ?_
  rintro e w1 ⟨rfl, R1, B1, s1⟩
  clear hB hn hc
  go_wp2_with fail
  refine (pick_any w.heap.size 0 39 _ R1 (by omega) (by omega)).mono ?_
  rintro e w2 ⟨y1, rfl, hy1, R2, g2⟩
  have hy1' := hy1.1 (by omega)
  have B2 := B1.grown g2 B1.size (fun k hk => by cases hk; exact Nat.le_refl _)
  have e1 : IntKind.i64.wrap (1 + y1) = 1 + y1 := IntWalk.i64_in _ (by omega)
  clear hy1 g2 R1
  go_wp2_with fail
  refine (pick_any w.heap.size 1 12 _ R2 (by omega) (by omega)).mono ?_
  rintro e w3 ⟨y2, rfl, hy2, R3, g3⟩
  have hy2' := hy2.1 (by omega)
  have B3 := B2.grown g3 B2.size (fun k hk => by cases hk; exact Nat.le_refl _)
  have e2 : IntKind.i64.wrap (1 + y2) = 1 + y2 := IntWalk.i64_in _ (by omega)
  clear hy2 g3 R2
  go_wp2_with fail
  refine (one_lit w.heap.size 2 w3 [1 + y1, 1 + y2, 1, 39, 40, 0] 6 R3 (by omega) (by simp) (by simp) rfl).mono ?_
  rintro e w4 ⟨c, rfl, hcc, R4, g4⟩
  have hc' : 0 ≤ c ∧ c ≤ 40 := by simp at hcc; omega
  have B4 := B3.grown g4 B3.size (fun k hk => by cases hk; exact Nat.le_refl _)
  clear hcc g4 R3
  go_wp2_with fail
  refine (someNames_any w.heap.size 3 w4 R4 (by omega)).mono ?_
  rintro e w5 ⟨v, l, q, rfl, o5, hl, hx, R5, hq, g5⟩
  have B5 := B4.grown g5 B4.size (fun k hk => by cases hk; exact Nat.le_refl _)
  go_wp2
  go_ret2
  exact ⟨c, v, l, rfl, hc', o5.mono B4.size, hl, hx, B5⟩
end Go.Proofs.Ytoaiaindcmihjaa
