/-
  bits.Len, by the kit's shelf: what 'shelf_lay' lays, written out (wip/tools/laysay.py prints it).
-/
import Derived.Shelf.Small.Bits
import Derived.Test.YtoaiaindcmihjaaBase
namespace Go.Proofs
open Go.RowKit
def Try.lenA_ren : Go.Shelf.Ren := ⟨fun | 125 => 53 | 128 => 63 | 129 => 64 | n => n, fun | 46 => 63 | 3 => 3 | 51 => 73 | 53 => 75 | 4 => 4 | 5 => 5 | 9 => 9 | n => n, fun | n => n⟩
theorem Try.lenA : Go.Proofs.Lays.n125 Try.prog Try.lenA_ren where
  mixed := by kernel_rfl
  f125 := Try.func53.trans (congrArg some (by kernel_rfl))
  f128 := Try.func63.trans (congrArg some (by kernel_rfl))
  f129 := Try.func64.trans (congrArg some (by kernel_rfl))
  t3 := Try.underlying3
  a3 := Try.isAgg3
  z3 := Try.sizeOf3
  v3 := Try.zeroValue3
  t4 := Try.underlying4
  a4 := Try.isAgg4
  z4 := Try.sizeOf4
  v4 := Try.zeroValue4
  t5 := Try.underlying5
  a5 := Try.isAgg5
  z5 := Try.sizeOf5
  v5 := Try.zeroValue5
  t9 := Try.underlying9
  a9 := Try.isAgg9
  z9 := Try.sizeOf9
  v9 := Try.zeroValue9
  t46 := Try.underlying63
  a46 := Try.isAgg63
  z46 := Try.sizeOf63
  v46 := Try.zeroValue63
  t51 := Try.underlying73
  a51 := Try.isAgg73
  z51 := Try.sizeOf73
  v51 := Try.zeroValue73
  t53 := Try.underlying75
  a53 := Try.isAgg75
  z53 := Try.sizeOf75
  v53 := Try.zeroValue75
end Go.Proofs
namespace Go.Proofs.Ytoaiaindcmihjaa
open Go.RowKit
theorem bitsLen_any (x : Nat) (w : World) (h : x ≤ 18446744073709551615) : Calls Try.prog 53 #[.int .u64 (x : Int)] w fun e w' => e = .returned (.int .i64 (Go.Lib.bitLen x)) ∧ w = w' := by
  have c := Any.bits_Len Try.lenA (x : Int) w (by omega) (by omega)
  rw [Int.toNat_natCast] at c
  exact c.mono (fun e w' h => ⟨h.1, h.2.symm⟩)
end Go.Proofs.Ytoaiaindcmihjaa
