/-
  Chapter 6: the specification's contracts in the form that the exact laws' walks take.
-/
import Derived.Test.YtoaiaindcmihjaaNG
import Derived.Test.YtoaiaindcmihjaaNH
import Derived.Test.YtoaiaindcmihjaaNU
namespace Go.Proofs.Ytoaiaindcmihjaa
open Go.RowKit

theorem LMV_lenE (c : Int) (l : List Int) (h : l.length ≤ 1048586) : (LMV c l).length ≤ 1048586 := Nat.le_trans (LMV_len c l) h
theorem DRl_lenE (l : List Int) (m : Int) : (DRl l m).length ≤ 1048586 := by
  unfold DRl
  split
  · rename_i h
    rw [drs_len]
    have h1 := spl_dpt (m := m.toNat) h.1 (by omega)
    have h2 : 2 ^ dpt (spl l m.toNat 6 0 0) ≤ 2 ^ 6 := Nat.pow_le_pow_right (by omega) h1
    omega
  · simp
theorem specLineOf_e (c x : Int) (w : World) (_hc : In64 c) (_hx : In64 x) : Calls Try.prog 25 #[.int .i64 c, .int .i64 x] w fun e w' => e = .returned (.int .i64 (LNO c x)) ∧ Below w.heap.size w w' := by
  refine (specLineOf_any c x w).mono ?_
  rintro e w' ⟨rfl, rfl⟩
  exact ⟨rfl, Below.refl _ _⟩
theorem specLineMoves_e (c : Int) (a : Option Addr) (l : List Int) (cap : Nat) (w : World) (_hc : In64 c) (hr : Reads w a l) (_hi : ∀ n ∈ l, In64 n) (hl : l.length ≤ 1048586) (hcap : l.length ≤ cap) :
    Calls Try.prog 28 #[.int .i64 c, .slice a l.length cap] w fun e w' => ∃ v, e = .returned v ∧ Own w' w.heap.size v (LMV c l) ∧ Below w.heap.size w w' := specLineMoves_any c a l cap w hr hl hcap
theorem specDirectoryOf_e (a : Option Addr) (l : List Int) (cap : Nat) (m : Int) (w : World) (hr : Reads w a l) (_hi : ∀ n ∈ l, In64 n) (hl : l.length ≤ 1048586) (hcap : l.length ≤ cap) (_hm : In64 m) :
    Calls Try.prog 21 #[.slice a l.length cap, .int .i64 m] w fun e w' => ∃ v, e = .returned (.tuple #[.int .i64 (DRd l m), v]) ∧ Own w' w.heap.size v (DRl l m) ∧ Below w.heap.size w w' := specDirectoryOf_any a l cap m w hr hl hcap
theorem RT_lenE (s : List UInt8) : ((RT s).getD []).length ≤ 1048586 := by
  cases h : RT s with
  | none => simp
  | some R =>
    have := (VNm_iff.1 (RT_iff.1 h).1).1
    simp only [Option.getD_some]; omega
end Go.Proofs.Ytoaiaindcmihjaa
