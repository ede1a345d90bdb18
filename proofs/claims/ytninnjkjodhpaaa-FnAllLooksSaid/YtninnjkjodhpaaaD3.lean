/-
  The draw of AllLooks' two numbers.
-/
import Derived.Test.YtninnjkjodhpaaaD2
namespace Go.Proofs.Ytninnjkjodhpaaa
open Go.RowKit

set_option maxHeartbeats 1000000 in
theorem drawAllLooks_any (a : Option Addr) (n cap : Nat) (w : World) (hB : Bytes w w.heap.size a n) (hn : n ≤ 9223372036854775807) (hc : n ≤ cap) :
    Calls Try.prog 41 #[.slice a n cap] w fun e w' => ∃ (m k : Int), e = .returned (.tuple #[.int .i64 m, .int .i64 k]) ∧ (0 ≤ m ∧ m ≤ 6) ∧ (-1 ≤ k ∧ k ≤ 5) ∧ Below w.heap.size w w' := by
  go_enter Try.func41, Try.ntmps41
  go_wp2_with fail
  refine (newReader_any a n cap w hB hn hc).mono ?_
  rintro e w1 ⟨rfl, hR, hb1, hs1⟩
  have hc1 : CellsAt (w1.alloc (.cells #[.int .i64 4, .int .i64 3, .int .i64 5, .int .i64 2, .int .i64 1, .int .i64 0, .int .i64 6] 3)) w1.heap.size 0 [4, 3, 5, 2, 1, 0, 6] := CellsAt.lit w1 [4, 3, 5, 2, 1, 0, 6]
  have hR2 := hR.below ((Below.refl w1.heap.size w1).alloc (Nat.le_refl _) (.cells #[.int .i64 4, .int .i64 3, .int .i64 5, .int .i64 2, .int .i64 1, .int .i64 0, .int .i64 6] 3))
  have hz1 := hb1.size
  have hb2 : Below w.heap.size w (w1.alloc (.cells #[.int .i64 4, .int .i64 3, .int .i64 5, .int .i64 2, .int .i64 1, .int .i64 0, .int .i64 6] 3)) := hb1.alloc hz1 _
  clear hR hb1 hB
  go_wp2_with fail
  refine (one_any w.heap.size 0 _ _ [4, 3, 5, 2, 1, 0, 6] _ hR2 (by omega) hc1 hs1 (by simp) (by simp) 7 rfl).mono ?_
  rintro e w2 ⟨m, rfl, hm, hR3, hg3⟩
  have hb3 := hb2.grown hg3 hb2.size (fun k hk => by cases hk; omega)
  have hm2 : 0 ≤ m ∧ m ≤ 6 := by simp at hm; omega
  have hz3 := hb3.size
  have hs3 := hR3.lt
  clear hm hg3 hb2 hc1 hR2
  have hc2 : CellsAt (w2.alloc (.cells #[.int .i64 2, .int .i64 3, .int .i64 1, .int .i64 4, .int .i64 0, .int .i64 5, .int .i64 (-1)] 3)) w2.heap.size 0 [2, 3, 1, 4, 0, 5, -1] := CellsAt.lit w2 [2, 3, 1, 4, 0, 5, -1]
  have hR4 := hR3.below ((Below.refl w2.heap.size w2).alloc (Nat.le_refl _) (.cells #[.int .i64 2, .int .i64 3, .int .i64 1, .int .i64 4, .int .i64 0, .int .i64 5, .int .i64 (-1)] 3))
  have hb4 : Below w.heap.size w (w2.alloc (.cells #[.int .i64 2, .int .i64 3, .int .i64 1, .int .i64 4, .int .i64 0, .int .i64 5, .int .i64 (-1)] 3)) := hb3.alloc hz3 _
  clear hR3 hb3
  go_wp2_with fail
  refine (one_any w.heap.size 1 _ _ [2, 3, 1, 4, 0, 5, -1] _ hR4 (by omega) hc2 hs3 (by simp) (by simp) 7 rfl).mono ?_
  rintro e w3 ⟨k, rfl, hk, hR5, hg5⟩
  have hb5 := hb4.grown hg5 hb4.size (fun k hk => by cases hk; omega)
  have hk2 : -1 ≤ k ∧ k ≤ 5 := by simp at hk; omega
  clear hk hg5 hb4 hc2 hR4
  go_wp2
  go_ret2
  exact ⟨m, k, rfl, hm2, hk2, hb5⟩

end Go.Proofs.Ytninnjkjodhpaaa
