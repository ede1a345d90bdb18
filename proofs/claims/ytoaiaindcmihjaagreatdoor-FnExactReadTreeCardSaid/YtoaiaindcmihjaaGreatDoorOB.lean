/-
  errors.As, at a target of the error's own type (from XOA, that wip/tools/genas.py writes): true, and nothing below the target's block has changed.
-/
import Derived.Test.YtoaiaindcmihjaaGreatDoorOA
namespace Go.Proofs.YtoaiaindcmihjaaGreatDoor
open Go.RowKit

/-- What errors.errorType holds: error's own description. -/
abbrev GE (w : World) : Prop := w.cell? ⟨0, 0, none⟩ = some (.iface 120 (.agg #[.pointer (some ⟨9, 53, none⟩)]))
theorem GE.below {w w' : World} (h : GE w) (hb : Below w.heap.size w w') : GE w' := (hb.cell (World.block_lt_of_cell? w _ h)).trans h
theorem as_hitB {B : Nat} (e : ByteArray) (t : Addr) (old : Value) (w : World) (hg : GE w) (ht : w.cell? t = some old) (hf : w.frozen? t = false) (hB : B ≤ t.block) (hw : B ≤ w.heap.size) :
    Calls Tryz.prog 36 #[.iface 56 (.string e), .iface 58 (.pointer (some t))] w fun ev w' => ev = .returned (.bool true) ∧ Below B w w' := by
  refine (as_hit e t old w hg ht hf).mono ?_
  rintro ev w' ⟨rfl, rfl⟩
  refine ⟨rfl, Below.setCell (Below.alloc (Below.alloc (Below.alloc (Below.alloc (Below.refl B w) hw _) ?_ _) ?_ _) ?_ _) hB _⟩ <;> simp [World.size_alloc] <;> omega
end Go.Proofs.YtoaiaindcmihjaaGreatDoor
