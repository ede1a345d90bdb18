/-
  The closed facts of every row of this translation that turn on its head (the words of its first line): laid once, out of the written-out signs; by the kernel alone they want 9.6 GB each.
-/
import Derived.Test.YtbldfhfciihddabRows
namespace Go.Proofs.Ytbldfhfciihddab
theorem band {a b : Bool} (ha : a = true) (hb : b = true) : (a && b) = true := by rw [ha, hb]; rfl
set_option maxRecDepth 100000
def signs : List Char := [104, 97, 114, 110, 101, 115, 115, 32, 97, 102, 50, 102, 52, 97, 51, 48, 97, 48, 102, 48, 51, 99, 55, 57, 49, 52, 102, 52, 98, 49, 52, 51, 53, 101, 55, 54, 52, 100, 55, 49, 52, 98, 53, 50, 53, 49, 101, 55, 56, 48, 56, 54, 100, 54, 50, 55, 97, 54, 102, 48, 102, 49, 101, 49, 98, 53, 56, 49, 53, 102, 56, 57, 32, 99, 117, 116, 32, 97, 116, 32, 108, 111, 111, 112, 46, 101, 120, 97, 109, 112, 108, 101, 47, 116, 97, 98, 108, 101, 115, 116, 104, 97, 116, 115, 112, 114, 101, 97, 100, 47, 108, 97, 119, 115, 46, 70, 110, 70, 105, 108, 116, 101, 114, 79, 102, 32, 108, 111, 111, 112, 46, 101, 120, 97, 109, 112, 108, 101, 47, 116, 97, 98, 108, 101, 115, 116, 104, 97, 116, 115, 112, 114, 101, 97, 100, 47, 108, 97, 119, 115, 46, 70, 110, 69, 120, 97, 99, 116, 70, 105, 108, 116, 101, 114, 79, 102].map Char.ofNat
def wordsIn : List (List Char) := [[99, 117, 116], [97, 116], [108, 111, 111, 112, 46, 101, 120, 97, 109, 112, 108, 101, 47, 116, 97, 98, 108, 101, 115, 116, 104, 97, 116, 115, 112, 114, 101, 97, 100, 47, 108, 97, 119, 115, 46, 70, 110, 70, 105, 108, 116, 101, 114, 79, 102], [108, 111, 111, 112, 46, 101, 120, 97, 109, 112, 108, 101, 47, 116, 97, 98, 108, 101, 115, 116, 104, 97, 116, 115, 112, 114, 101, 97, 100, 47, 108, 97, 119, 115, 46, 70, 110, 69, 120, 97, 99, 116, 70, 105, 108, 116, 101, 114, 79, 102]].map (List.map Char.ofNat)
theorem order_is : Try.checked.prog.initOrder.toList = signs := by
  have h : Try.checked.prog.initOrder = String.ofList signs := by kernel_rfl
  rw [h, String.toList_ofList]
theorem words_is : behindMainWord (wordsSigns signs) = wordsIn := by kernel_rfl
theorem words : behindMainWord (wordsSigns Try.checked.prog.initOrder.toList) = wordsIn := by rw [order_is]; exact words_is
theorem strip_cut (ws : List (List Char)) : stripLifts liftWords ([99, 117, 116].map Char.ofNat :: ws) = ([], [99, 117, 116].map Char.ofNat :: ws) := rfl
theorem make_cut (P : Program) (ws : List (List Char)) (h : behindMainWord (wordsSigns P.initOrder.toList) = [99, 117, 116].map Char.ofNat :: ws) : P.make = some .cut := by
  unfold Program.make
  rw [h]
  rfl
theorem lifts_cut (P : Program) (ws : List (List Char)) (h : behindMainWord (wordsSigns P.initOrder.toList) = [99, 117, 116].map Char.ofNat :: ws) : P.liftsFinal = false := by
  unfold Program.liftsFinal Program.headLifts
  rw [h, strip_cut]
  rfl
theorem enter_cut (P : Program) (ws : List (List Char)) (h : behindMainWord (wordsSigns P.initOrder.toList) = [99, 117, 116].map Char.ofNat :: ws) (h1 : P.laysLater = false) (h2 : P.bearsReflect = false) (h3 : P.doorRows = []) : P.mayEnter = true := by
  unfold Program.mayEnter
  rw [h]
  simp only [strip_cut]
  unfold Program.doorFits
  rw [h1, h2, h3]
  rfl
theorem mayEnter : Try.checked.prog.mayEnter = true := enter_cut _ _ words (by kernel_rfl) (by kernel_rfl) (by kernel_rfl)
theorem liftsFinal : Try.checked.prog.liftsFinal = false := lifts_cut _ _ words
theorem make : Try.checked.prog.make = some .cut := make_cut _ _ words
end Go.Proofs.Ytbldfhfciihddab
