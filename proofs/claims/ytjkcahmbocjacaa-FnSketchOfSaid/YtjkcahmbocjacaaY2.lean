/-
  spec.ValidRing, OwnerOf, SharesOf.
-/
import Derived.Deep.OwnRows
import Derived.Test.YtjkcahmbocjacaaY1
namespace Go.Proofs.Ytjkcahmbocjacaa
open Go.RowKit

theorem made_tabR (w : World) (base n : Nat) (hb : base ≤ w.heap.size) (hn : n ≤ 100) : Tab (w.alloc (.cells (madeCells #[.int .i64 0] n) 3)) base w.heap.size n n (List.replicate n 0) := by
  have e := toList_madeCells_one (Value.int .i64 0) n
  have := World.ownsRow_lit (e := 3) (size := 1) (base := base) w (madeCells #[.int .i64 0] n) n hb (by unfold maxLen; omega) (by rw [← Array.length_toList, e]; simp)
  rw [e] at this
  unfold Tab
  rw [List.map_replicate]
  exact this

end Go.Proofs.Ytjkcahmbocjacaa
