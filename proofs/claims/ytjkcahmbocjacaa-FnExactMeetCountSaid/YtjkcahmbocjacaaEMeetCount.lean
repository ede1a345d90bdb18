/-
  laws.FnExactMeetCount: the walk. (Written by genexact.py.)
-/
import Derived.Test.YtjkcahmbocjacaaK9
import Derived.Test.YtjkcahmbocjacaaKA
import Derived.Test.YtjkcahmbocjacaaLib
namespace Go.Proofs.Ytjkcahmbocjacaa
open Go.RowKit

set_option maxHeartbeats 4000000 in
set_option maxRecDepth 100000 in
theorem lawExactMeetCount_of (HO : OrdersGive) (n : Int) (a : Int) (b : Int) (w : World) (hn : In64 n) (ha : In64 a) (hb : In64 b) :
    Calls Try.prog 20 #[.int .i64 n, .int .i64 a, .int .i64 b] w fun e w' => e = .returned (.bool true) ∧ Below w.heap.size w w' := by
  obtain ⟨R0, hR0⟩ : ∃ R : Int, R = MC1 n a b := ⟨_, rfl⟩
  have eR0 : (R0 != R0) = false := by simp
  have HR0 := Lib.hid hR0
  clear hR0
  obtain ⟨R1, hR1⟩ : ∃ R : Int, R = MC2 n a b := ⟨_, rfl⟩
  have eR1 : (R1 != R1) = false := by simp
  have HR1 := Lib.hid hR1
  clear hR1
  have Bw := Below.refl w.heap.size w
  go_enter Try.func20, Try.ntmps20
  go_wp2_with fail
  refine (specMeetCount_any n a b _ hn ha hb).mono ?_
  rintro e w1 ⟨rfl, bw1⟩
  have zw1 := bw1.size
  have Bw1 := Bw.trans (bw1.mono Bw.size)
  rw [← HR0.out]
  rw [← HR1.out]
  go_wp2_with fail
  refine (implMeetCount_of HO n a b _ hn ha hb).mono ?_
  rintro e w2 ⟨rfl, bw2⟩
  have zw2 := bw2.size
  have Bw2 := Bw1.trans (bw2.mono Bw1.size)
  rw [← HR0.out]
  rw [← HR1.out]
  go_wp2
  go_ret
  exact ⟨rfl, Bw2⟩

end Go.Proofs.Ytjkcahmbocjacaa
