/-
  spec.readTree, ReadTree.
-/
import Derived.Test.YtoaiaindcmihjaaNT
import Derived.Test.YtoaiaindcmihjaaNQ
namespace Go.Proofs.Ytoaiaindcmihjaa
open Go.RowKit

theorem B8_size (s : List UInt8) : (B8 s).size = s.length := rfl
theorem B8_list (s : List UInt8) : (B8 s).toList = s := ByteArray.toList_mk s
theorem B8_get (s : List UInt8) (k : Nat) (h : k < (B8 s).size) : ((B8 s)[k]'h).toNat = (s.getD k 0).toNat := by
  have h2 : k < s.length := h
  have e : (B8 s)[k]'h = s[k] := by show s.toArray[k] = s[k]; simp
  rw [e]; simp [List.getD, h2]
theorem B8_drop (s : List UInt8) (k : Nat) : (B8 s).extract k s.length = B8 (s.drop k) := by
  rw [ByteArray.extract_mk]
  congr 2
  exact List.take_of_length_le (by rw [List.length_drop]; omega)
/-- What readTree gives. -/
def RdP (w w' : World) (e : Ending) (o : Option (List Int × List UInt8)) : Prop :=
  (o = none ∧ e = .returned (.tuple #[.slice none 0 0, .string (B8 []), .bool false]) ∨ ∃ v L r, o = some (L, r) ∧ e = .returned (.tuple #[v, .string (B8 r), .bool true]) ∧ Own w' w.heap.size v L) ∧ Below w.heap.size w w'
end Go.Proofs.Ytoaiaindcmihjaa
