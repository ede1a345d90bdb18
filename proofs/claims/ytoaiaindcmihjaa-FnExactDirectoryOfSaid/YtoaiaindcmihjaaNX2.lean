/-
  Chapter 6: the specification's contracts in the form that the exact laws' walks take: directories.
-/
import Derived.Test.YtoaiaindcmihjaaNH
namespace Go.Proofs.Ytoaiaindcmihjaa
open Go.RowKit

theorem DRl_lenE (l : List Int) (m : Int) : (DRl l m).length ≤ 1048586 := by
  unfold DRl
  split
  · rename_i h
    rw [drs_len]
    have h1 := spl_dpt (m := m.toNat) h.1 (by omega)
    have h2 : 2 ^ dpt (spl l m.toNat 6 0 0) ≤ 2 ^ 6 := Nat.pow_le_pow_right (by omega) h1
    omega
  · simp
theorem specDirectoryOf_e (a : Option Addr) (l : List Int) (cap : Nat) (m : Int) (w : World) (hr : Reads w a l) (_hi : ∀ n ∈ l, In64 n) (hl : l.length ≤ 1048586) (hcap : l.length ≤ cap) (_hm : In64 m) :
    Calls Try.prog 21 #[.slice a l.length cap, .int .i64 m] w fun e w' => ∃ v, e = .returned (.tuple #[.int .i64 (DRd l m), v]) ∧ Own w' w.heap.size v (DRl l m) ∧ Below w.heap.size w w' := specDirectoryOf_any a l cap m w hr hl hcap
end Go.Proofs.Ytoaiaindcmihjaa
