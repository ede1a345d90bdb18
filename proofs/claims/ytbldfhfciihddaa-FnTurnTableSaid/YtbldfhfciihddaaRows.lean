/-
  No cell of these rows narrows 'for every input' (looked for: loops, veiled, ifaces, maps, wideKeys, modest, calm, conditions, laid).
  DERIVED. THE GIVEN ROWS OF THIS SEAT. 16 by the template 'for every input the law returns true; each argument reads behind the call as it read before'; 0 by the template 'total and deterministic' (their statements: YtbldfhfciihddaaTotals.lean).
  GIVEN WITH THE SEED: the statements are not yours to turn. If you find one false, say at which input.
  Laid BY PROGRAM, IN A SANDBOX (cutbox-rows.mjs): the forced cells as the released guide's own fill.sh prints them over the translation 60ba23de8b6c7973… (all of the seat's roots in one cut). By AI agents, Wed Nov 11 2026. No macro, syntax, notation, axiom, sorry.
-/
import Derived.Test.YtbldfhfciihddaaChecked
import GoSem.Claim
import GoSem.ClaimJoined
import GoSem.ClaimMapViews
import Derived.JoinedTies
import Derived.KernelRfl
namespace Go.Proofs.Ytbldfhfciihddaa
/- THE CELL 'sum', in the pinned program and in every row, IS THE sha256 OF THE DUMP (.gsa) THAT YtbldfhfciihddaaProg.lean LOADS. Nothing in Lean hashes anything: it is a label: what it is worth is what the hold of that sum in a sandbox is worth. -/
noncomputable def Try.pinned : Pinned := { name := "ytbldfhfciihddaa", sum := "60ba23de8b6c7973a4424122780709e587b1e525448a0898dfb15d3666ba4589", checked := Try.checked }
namespace Rows
def none {H : Type} : Left H := { results := [], args := [] }

/-- 'laws.FnValidRing': WHATEVER THE INPUT: true; the input reads as it did. -/
def fnValidRingSpec : ChangeSpec := { name := "fnValidRing", fn := fun _ => fun
  | [d] => { results := [.lit (.bool true)], args := [d] }
  | _ => none }
def fnValidRingRow : OpenClaim := { program := "ytbldfhfciihddaa", sum := "60ba23de8b6c7973a4424122780709e587b1e525448a0898dfb15d3666ba4589", func := "loop.example/tablesthatspread/laws.FnValidRing", spec := "fnValidRing", apart := false }
def FnValidRingSaid : Prop := fnValidRingRow.holds Try.pinned (OpenSpec.ofChange fnValidRingSpec)

/-- ITS FALSE NEIGHBOUR: 'it returns false'. Refute it at one input. -/
def fnValidRingWrong : ChangeSpec := { name := "fnValidRing", fn := fun _ => fun
  | [d] => { results := [.lit (.bool false)], args := [d] }
  | _ => none }
def FnValidRingWrongFalsely : Prop := fnValidRingRow.holds Try.pinned (OpenSpec.ofChange fnValidRingWrong)

/-- 'laws.FnOwnerOf': WHATEVER THE INPUT: true; the input reads as it did. -/
def fnOwnerOfSpec : ChangeSpec := { name := "fnOwnerOf", fn := fun _ => fun
  | [d] => { results := [.lit (.bool true)], args := [d] }
  | _ => none }
def fnOwnerOfRow : OpenClaim := { program := "ytbldfhfciihddaa", sum := "60ba23de8b6c7973a4424122780709e587b1e525448a0898dfb15d3666ba4589", func := "loop.example/tablesthatspread/laws.FnOwnerOf", spec := "fnOwnerOf", unfollowed := true, recurses := true, apart := false }
def FnOwnerOfSaid : Prop := fnOwnerOfRow.holds Try.pinned (OpenSpec.ofChange fnOwnerOfSpec)

/-- ITS FALSE NEIGHBOUR: 'it returns false'. Refute it at one input. -/
def fnOwnerOfWrong : ChangeSpec := { name := "fnOwnerOf", fn := fun _ => fun
  | [d] => { results := [.lit (.bool false)], args := [d] }
  | _ => none }
def FnOwnerOfWrongFalsely : Prop := fnOwnerOfRow.holds Try.pinned (OpenSpec.ofChange fnOwnerOfWrong)

/-- 'laws.FnSharesOf': WHATEVER THE INPUT: true; the input reads as it did. -/
def fnSharesOfSpec : ChangeSpec := { name := "fnSharesOf", fn := fun _ => fun
  | [d] => { results := [.lit (.bool true)], args := [d] }
  | _ => none }
def fnSharesOfRow : OpenClaim := { program := "ytbldfhfciihddaa", sum := "60ba23de8b6c7973a4424122780709e587b1e525448a0898dfb15d3666ba4589", func := "loop.example/tablesthatspread/laws.FnSharesOf", spec := "fnSharesOf", unfollowed := true, recurses := true, apart := false }
def FnSharesOfSaid : Prop := fnSharesOfRow.holds Try.pinned (OpenSpec.ofChange fnSharesOfSpec)

/-- ITS FALSE NEIGHBOUR: 'it returns false'. Refute it at one input. -/
def fnSharesOfWrong : ChangeSpec := { name := "fnSharesOf", fn := fun _ => fun
  | [d] => { results := [.lit (.bool false)], args := [d] }
  | _ => none }
def FnSharesOfWrongFalsely : Prop := fnSharesOfRow.holds Try.pinned (OpenSpec.ofChange fnSharesOfWrong)

/-- 'laws.FnMovedBy': WHATEVER THE INPUT: true; the input reads as it did. -/
def fnMovedBySpec : ChangeSpec := { name := "fnMovedBy", fn := fun _ => fun
  | [d] => { results := [.lit (.bool true)], args := [d] }
  | _ => none }
def fnMovedByRow : OpenClaim := { program := "ytbldfhfciihddaa", sum := "60ba23de8b6c7973a4424122780709e587b1e525448a0898dfb15d3666ba4589", func := "loop.example/tablesthatspread/laws.FnMovedBy", spec := "fnMovedBy", unfollowed := true, recurses := true, apart := false }
def FnMovedBySaid : Prop := fnMovedByRow.holds Try.pinned (OpenSpec.ofChange fnMovedBySpec)

/-- ITS FALSE NEIGHBOUR: 'it returns false'. Refute it at one input. -/
def fnMovedByWrong : ChangeSpec := { name := "fnMovedBy", fn := fun _ => fun
  | [d] => { results := [.lit (.bool false)], args := [d] }
  | _ => none }
def FnMovedByWrongFalsely : Prop := fnMovedByRow.holds Try.pinned (OpenSpec.ofChange fnMovedByWrong)

/-- 'laws.FnFirstFor': WHATEVER THE INPUT: true; the input reads as it did. -/
def fnFirstForSpec : ChangeSpec := { name := "fnFirstFor", fn := fun _ => fun
  | [d] => { results := [.lit (.bool true)], args := [d] }
  | _ => none }
def fnFirstForRow : OpenClaim := { program := "ytbldfhfciihddaa", sum := "60ba23de8b6c7973a4424122780709e587b1e525448a0898dfb15d3666ba4589", func := "loop.example/tablesthatspread/laws.FnFirstFor", spec := "fnFirstFor", unfollowed := true, recurses := true, apart := false }
def FnFirstForSaid : Prop := fnFirstForRow.holds Try.pinned (OpenSpec.ofChange fnFirstForSpec)

/-- ITS FALSE NEIGHBOUR: 'it returns false'. Refute it at one input. -/
def fnFirstForWrong : ChangeSpec := { name := "fnFirstFor", fn := fun _ => fun
  | [d] => { results := [.lit (.bool false)], args := [d] }
  | _ => none }
def FnFirstForWrongFalsely : Prop := fnFirstForRow.holds Try.pinned (OpenSpec.ofChange fnFirstForWrong)

/-- 'laws.FnJumpTo': WHATEVER THE INPUT: true; the input reads as it did. -/
def fnJumpToSpec : ChangeSpec := { name := "fnJumpTo", fn := fun _ => fun
  | [d] => { results := [.lit (.bool true)], args := [d] }
  | _ => none }
def fnJumpToRow : OpenClaim := { program := "ytbldfhfciihddaa", sum := "60ba23de8b6c7973a4424122780709e587b1e525448a0898dfb15d3666ba4589", func := "loop.example/tablesthatspread/laws.FnJumpTo", spec := "fnJumpTo", unfollowed := true, recurses := true, apart := false }
def FnJumpToSaid : Prop := fnJumpToRow.holds Try.pinned (OpenSpec.ofChange fnJumpToSpec)

/-- ITS FALSE NEIGHBOUR: 'it returns false'. Refute it at one input. -/
def fnJumpToWrong : ChangeSpec := { name := "fnJumpTo", fn := fun _ => fun
  | [d] => { results := [.lit (.bool false)], args := [d] }
  | _ => none }
def FnJumpToWrongFalsely : Prop := fnJumpToRow.holds Try.pinned (OpenSpec.ofChange fnJumpToWrong)

/-- 'laws.FnTurnTable': WHATEVER THE INPUT: true; the input reads as it did. -/
def fnTurnTableSpec : ChangeSpec := { name := "fnTurnTable", fn := fun _ => fun
  | [d] => { results := [.lit (.bool true)], args := [d] }
  | _ => none }
def fnTurnTableRow : OpenClaim := { program := "ytbldfhfciihddaa", sum := "60ba23de8b6c7973a4424122780709e587b1e525448a0898dfb15d3666ba4589", func := "loop.example/tablesthatspread/laws.FnTurnTable", spec := "fnTurnTable", apart := false }
def FnTurnTableSaid : Prop := fnTurnTableRow.holds Try.pinned (OpenSpec.ofChange fnTurnTableSpec)

/-- ITS FALSE NEIGHBOUR: 'it returns false'. Refute it at one input. -/
def fnTurnTableWrong : ChangeSpec := { name := "fnTurnTable", fn := fun _ => fun
  | [d] => { results := [.lit (.bool false)], args := [d] }
  | _ => none }
def FnTurnTableWrongFalsely : Prop := fnTurnTableRow.holds Try.pinned (OpenSpec.ofChange fnTurnTableWrong)

/-- 'laws.FnBoundedOwners': WHATEVER THE INPUT: true; the input reads as it did. -/
def fnBoundedOwnersSpec : ChangeSpec := { name := "fnBoundedOwners", fn := fun _ => fun
  | [d] => { results := [.lit (.bool true)], args := [d] }
  | _ => none }
def fnBoundedOwnersRow : OpenClaim := { program := "ytbldfhfciihddaa", sum := "60ba23de8b6c7973a4424122780709e587b1e525448a0898dfb15d3666ba4589", func := "loop.example/tablesthatspread/laws.FnBoundedOwners", spec := "fnBoundedOwners", unfollowed := true, recurses := true, apart := false }
def FnBoundedOwnersSaid : Prop := fnBoundedOwnersRow.holds Try.pinned (OpenSpec.ofChange fnBoundedOwnersSpec)

/-- ITS FALSE NEIGHBOUR: 'it returns false'. Refute it at one input. -/
def fnBoundedOwnersWrong : ChangeSpec := { name := "fnBoundedOwners", fn := fun _ => fun
  | [d] => { results := [.lit (.bool false)], args := [d] }
  | _ => none }
def FnBoundedOwnersWrongFalsely : Prop := fnBoundedOwnersRow.holds Try.pinned (OpenSpec.ofChange fnBoundedOwnersWrong)

/-- 'laws.FnExactValidRing': WHATEVER THE INPUT: true; the input reads as it did. -/
def fnExactValidRingSpec : ChangeSpec := { name := "fnExactValidRing", fn := fun _ => fun
  | [d] => { results := [.lit (.bool true)], args := [d] }
  | _ => none }
def fnExactValidRingRow : OpenClaim := { program := "ytbldfhfciihddaa", sum := "60ba23de8b6c7973a4424122780709e587b1e525448a0898dfb15d3666ba4589", func := "loop.example/tablesthatspread/laws.FnExactValidRing", spec := "fnExactValidRing", apart := false }
def FnExactValidRingSaid : Prop := fnExactValidRingRow.holds Try.pinned (OpenSpec.ofChange fnExactValidRingSpec)

/-- ITS FALSE NEIGHBOUR: 'it returns false'. Refute it at one input. -/
def fnExactValidRingWrong : ChangeSpec := { name := "fnExactValidRing", fn := fun _ => fun
  | [d] => { results := [.lit (.bool false)], args := [d] }
  | _ => none }
def FnExactValidRingWrongFalsely : Prop := fnExactValidRingRow.holds Try.pinned (OpenSpec.ofChange fnExactValidRingWrong)

/-- 'laws.FnExactOwnerOf': WHATEVER THE INPUT: true; the input reads as it did. -/
def fnExactOwnerOfSpec : ChangeSpec := { name := "fnExactOwnerOf", fn := fun _ => fun
  | [d1, d2] => { results := [.lit (.bool true)], args := [d1, d2] }
  | _ => none }
def fnExactOwnerOfRow : OpenClaim := { program := "ytbldfhfciihddaa", sum := "60ba23de8b6c7973a4424122780709e587b1e525448a0898dfb15d3666ba4589", func := "loop.example/tablesthatspread/laws.FnExactOwnerOf", spec := "fnExactOwnerOf", unfollowed := true, recurses := true, apart := false }
def FnExactOwnerOfSaid : Prop := fnExactOwnerOfRow.holds Try.pinned (OpenSpec.ofChange fnExactOwnerOfSpec)

/-- ITS FALSE NEIGHBOUR: 'it returns false'. Refute it at one input. -/
def fnExactOwnerOfWrong : ChangeSpec := { name := "fnExactOwnerOf", fn := fun _ => fun
  | [d1, d2] => { results := [.lit (.bool false)], args := [d1, d2] }
  | _ => none }
def FnExactOwnerOfWrongFalsely : Prop := fnExactOwnerOfRow.holds Try.pinned (OpenSpec.ofChange fnExactOwnerOfWrong)

/-- 'laws.FnExactSharesOf': WHATEVER THE INPUT: true; the input reads as it did. -/
def fnExactSharesOfSpec : ChangeSpec := { name := "fnExactSharesOf", fn := fun _ => fun
  | [d] => { results := [.lit (.bool true)], args := [d] }
  | _ => none }
def fnExactSharesOfRow : OpenClaim := { program := "ytbldfhfciihddaa", sum := "60ba23de8b6c7973a4424122780709e587b1e525448a0898dfb15d3666ba4589", func := "loop.example/tablesthatspread/laws.FnExactSharesOf", spec := "fnExactSharesOf", unfollowed := true, recurses := true, apart := false }
def FnExactSharesOfSaid : Prop := fnExactSharesOfRow.holds Try.pinned (OpenSpec.ofChange fnExactSharesOfSpec)

/-- ITS FALSE NEIGHBOUR: 'it returns false'. Refute it at one input. -/
def fnExactSharesOfWrong : ChangeSpec := { name := "fnExactSharesOf", fn := fun _ => fun
  | [d] => { results := [.lit (.bool false)], args := [d] }
  | _ => none }
def FnExactSharesOfWrongFalsely : Prop := fnExactSharesOfRow.holds Try.pinned (OpenSpec.ofChange fnExactSharesOfWrong)

/-- 'laws.FnExactMovedBy': WHATEVER THE INPUT: true; the input reads as it did. -/
def fnExactMovedBySpec : ChangeSpec := { name := "fnExactMovedBy", fn := fun _ => fun
  | [d1, d2] => { results := [.lit (.bool true)], args := [d1, d2] }
  | _ => none }
def fnExactMovedByRow : OpenClaim := { program := "ytbldfhfciihddaa", sum := "60ba23de8b6c7973a4424122780709e587b1e525448a0898dfb15d3666ba4589", func := "loop.example/tablesthatspread/laws.FnExactMovedBy", spec := "fnExactMovedBy", unfollowed := true, recurses := true, apart := false }
def FnExactMovedBySaid : Prop := fnExactMovedByRow.holds Try.pinned (OpenSpec.ofChange fnExactMovedBySpec)

/-- ITS FALSE NEIGHBOUR: 'it returns false'. Refute it at one input. -/
def fnExactMovedByWrong : ChangeSpec := { name := "fnExactMovedBy", fn := fun _ => fun
  | [d1, d2] => { results := [.lit (.bool false)], args := [d1, d2] }
  | _ => none }
def FnExactMovedByWrongFalsely : Prop := fnExactMovedByRow.holds Try.pinned (OpenSpec.ofChange fnExactMovedByWrong)

/-- 'laws.FnExactFirstFor': WHATEVER THE INPUT: true; the input reads as it did. -/
def fnExactFirstForSpec : ChangeSpec := { name := "fnExactFirstFor", fn := fun _ => fun
  | [d1, d2] => { results := [.lit (.bool true)], args := [d1, d2] }
  | _ => none }
def fnExactFirstForRow : OpenClaim := { program := "ytbldfhfciihddaa", sum := "60ba23de8b6c7973a4424122780709e587b1e525448a0898dfb15d3666ba4589", func := "loop.example/tablesthatspread/laws.FnExactFirstFor", spec := "fnExactFirstFor", unfollowed := true, recurses := true, apart := false }
def FnExactFirstForSaid : Prop := fnExactFirstForRow.holds Try.pinned (OpenSpec.ofChange fnExactFirstForSpec)

/-- ITS FALSE NEIGHBOUR: 'it returns false'. Refute it at one input. -/
def fnExactFirstForWrong : ChangeSpec := { name := "fnExactFirstFor", fn := fun _ => fun
  | [d1, d2] => { results := [.lit (.bool false)], args := [d1, d2] }
  | _ => none }
def FnExactFirstForWrongFalsely : Prop := fnExactFirstForRow.holds Try.pinned (OpenSpec.ofChange fnExactFirstForWrong)

/-- 'laws.FnExactJumpTo': WHATEVER THE INPUT: true; the input reads as it did. -/
def fnExactJumpToSpec : ChangeSpec := { name := "fnExactJumpTo", fn := fun _ => fun
  | [d1, d2] => { results := [.lit (.bool true)], args := [d1, d2] }
  | _ => none }
def fnExactJumpToRow : OpenClaim := { program := "ytbldfhfciihddaa", sum := "60ba23de8b6c7973a4424122780709e587b1e525448a0898dfb15d3666ba4589", func := "loop.example/tablesthatspread/laws.FnExactJumpTo", spec := "fnExactJumpTo", unfollowed := true, recurses := true, apart := false }
def FnExactJumpToSaid : Prop := fnExactJumpToRow.holds Try.pinned (OpenSpec.ofChange fnExactJumpToSpec)

/-- ITS FALSE NEIGHBOUR: 'it returns false'. Refute it at one input. -/
def fnExactJumpToWrong : ChangeSpec := { name := "fnExactJumpTo", fn := fun _ => fun
  | [d1, d2] => { results := [.lit (.bool false)], args := [d1, d2] }
  | _ => none }
def FnExactJumpToWrongFalsely : Prop := fnExactJumpToRow.holds Try.pinned (OpenSpec.ofChange fnExactJumpToWrong)

/-- 'laws.FnExactTurnTable': WHATEVER THE INPUT: true; the input reads as it did. -/
def fnExactTurnTableSpec : ChangeSpec := { name := "fnExactTurnTable", fn := fun _ => fun
  | [d] => { results := [.lit (.bool true)], args := [d] }
  | _ => none }
def fnExactTurnTableRow : OpenClaim := { program := "ytbldfhfciihddaa", sum := "60ba23de8b6c7973a4424122780709e587b1e525448a0898dfb15d3666ba4589", func := "loop.example/tablesthatspread/laws.FnExactTurnTable", spec := "fnExactTurnTable", apart := false }
def FnExactTurnTableSaid : Prop := fnExactTurnTableRow.holds Try.pinned (OpenSpec.ofChange fnExactTurnTableSpec)

/-- ITS FALSE NEIGHBOUR: 'it returns false'. Refute it at one input. -/
def fnExactTurnTableWrong : ChangeSpec := { name := "fnExactTurnTable", fn := fun _ => fun
  | [d] => { results := [.lit (.bool false)], args := [d] }
  | _ => none }
def FnExactTurnTableWrongFalsely : Prop := fnExactTurnTableRow.holds Try.pinned (OpenSpec.ofChange fnExactTurnTableWrong)

/-- 'laws.FnExactBoundedOwners': WHATEVER THE INPUT: true; the input reads as it did. -/
def fnExactBoundedOwnersSpec : ChangeSpec := { name := "fnExactBoundedOwners", fn := fun _ => fun
  | [d1, d2, d3] => { results := [.lit (.bool true)], args := [d1, d2, d3] }
  | _ => none }
def fnExactBoundedOwnersRow : OpenClaim := { program := "ytbldfhfciihddaa", sum := "60ba23de8b6c7973a4424122780709e587b1e525448a0898dfb15d3666ba4589", func := "loop.example/tablesthatspread/laws.FnExactBoundedOwners", spec := "fnExactBoundedOwners", unfollowed := true, recurses := true, apart := false }
def FnExactBoundedOwnersSaid : Prop := fnExactBoundedOwnersRow.holds Try.pinned (OpenSpec.ofChange fnExactBoundedOwnersSpec)

/-- ITS FALSE NEIGHBOUR: 'it returns false'. Refute it at one input. -/
def fnExactBoundedOwnersWrong : ChangeSpec := { name := "fnExactBoundedOwners", fn := fun _ => fun
  | [d1, d2, d3] => { results := [.lit (.bool false)], args := [d1, d2, d3] }
  | _ => none }
def FnExactBoundedOwnersWrongFalsely : Prop := fnExactBoundedOwnersRow.holds Try.pinned (OpenSpec.ofChange fnExactBoundedOwnersWrong)

/- THE SECOND FORM. 'bulk': how many values and letters a reading holds, each counted each time it is reached (what is shared counts as often as it is met; a slice's spare places count too). A statement '..UptoSaid' is the law's where the arguments, and the package variables that the reading takes, are together of bulk at most 1048576: NARROWER than '..Said'. Prove '..Said' where nothing that the law and all that it calls make is longer than what came in: it says more and counts as full. Else prove '..UptoSaid'. A law counts once. -/
mutual
def uptoBulk {H : Type} : DataW H → Nat
  | .lit (.string bytes) => bytes.length + 1
  | .lit _ => 1
  | .nil => 1
  | .ptr d => uptoBulk d + 1
  | .slice elems spare => uptoBulkAll elems + uptoBulkAll spare + 1
  | .agg parts => uptoBulkAll parts + 1
  | .iface _ d => uptoBulk d + 1
  | .map entries => uptoBulkEntries entries + 1
  | .held _ => 1
def uptoBulkAll {H : Type} : List (DataW H) → Nat
  | [] => 0
  | d :: r => uptoBulk d + uptoBulkAll r
def uptoBulkEntries {H : Type} : List (Lit × DataW H) → Nat
  | [] => 0
  | x :: r => uptoBulkEntry x + uptoBulkEntries r
def uptoBulkEntry {H : Type} : Lit × DataW H → Nat
  | (.string bytes, d) => bytes.length + uptoBulk d + 1
  | (_, d) => uptoBulk d + 1
 end
def uptoSmall : (H : Type) → List (DataW H) → Bool := fun _ ds => decide (uptoBulkAll ds ≤ 1048576)
def OpenSpec.upto (s : _root_.Go.ChangeSpec) : _root_.Go.OpenSpec := { _root_.Go.OpenSpec.ofChange s with cond := some uptoSmall }

/-- 'laws.FnValidRing', WHERE WHAT IT READS IS OF BULK AT MOST 1048576: true; the input reads as it did. -/
def fnValidRingUptoRow : OpenClaim := { program := "ytbldfhfciihddaa", sum := "60ba23de8b6c7973a4424122780709e587b1e525448a0898dfb15d3666ba4589", func := "loop.example/tablesthatspread/laws.FnValidRing", spec := "fnValidRing", apart := false, narrowed := true }
def FnValidRingUptoSaid : Prop := fnValidRingUptoRow.holds Try.pinned (OpenSpec.upto fnValidRingSpec)

/-- 'laws.FnOwnerOf', WHERE WHAT IT READS IS OF BULK AT MOST 1048576: true; the input reads as it did. -/
def fnOwnerOfUptoRow : OpenClaim := { program := "ytbldfhfciihddaa", sum := "60ba23de8b6c7973a4424122780709e587b1e525448a0898dfb15d3666ba4589", func := "loop.example/tablesthatspread/laws.FnOwnerOf", spec := "fnOwnerOf", unfollowed := true, recurses := true, apart := false, narrowed := true }
def FnOwnerOfUptoSaid : Prop := fnOwnerOfUptoRow.holds Try.pinned (OpenSpec.upto fnOwnerOfSpec)

/-- 'laws.FnSharesOf', WHERE WHAT IT READS IS OF BULK AT MOST 1048576: true; the input reads as it did. -/
def fnSharesOfUptoRow : OpenClaim := { program := "ytbldfhfciihddaa", sum := "60ba23de8b6c7973a4424122780709e587b1e525448a0898dfb15d3666ba4589", func := "loop.example/tablesthatspread/laws.FnSharesOf", spec := "fnSharesOf", unfollowed := true, recurses := true, apart := false, narrowed := true }
def FnSharesOfUptoSaid : Prop := fnSharesOfUptoRow.holds Try.pinned (OpenSpec.upto fnSharesOfSpec)

/-- 'laws.FnMovedBy', WHERE WHAT IT READS IS OF BULK AT MOST 1048576: true; the input reads as it did. -/
def fnMovedByUptoRow : OpenClaim := { program := "ytbldfhfciihddaa", sum := "60ba23de8b6c7973a4424122780709e587b1e525448a0898dfb15d3666ba4589", func := "loop.example/tablesthatspread/laws.FnMovedBy", spec := "fnMovedBy", unfollowed := true, recurses := true, apart := false, narrowed := true }
def FnMovedByUptoSaid : Prop := fnMovedByUptoRow.holds Try.pinned (OpenSpec.upto fnMovedBySpec)

/-- 'laws.FnFirstFor', WHERE WHAT IT READS IS OF BULK AT MOST 1048576: true; the input reads as it did. -/
def fnFirstForUptoRow : OpenClaim := { program := "ytbldfhfciihddaa", sum := "60ba23de8b6c7973a4424122780709e587b1e525448a0898dfb15d3666ba4589", func := "loop.example/tablesthatspread/laws.FnFirstFor", spec := "fnFirstFor", unfollowed := true, recurses := true, apart := false, narrowed := true }
def FnFirstForUptoSaid : Prop := fnFirstForUptoRow.holds Try.pinned (OpenSpec.upto fnFirstForSpec)

/-- 'laws.FnJumpTo', WHERE WHAT IT READS IS OF BULK AT MOST 1048576: true; the input reads as it did. -/
def fnJumpToUptoRow : OpenClaim := { program := "ytbldfhfciihddaa", sum := "60ba23de8b6c7973a4424122780709e587b1e525448a0898dfb15d3666ba4589", func := "loop.example/tablesthatspread/laws.FnJumpTo", spec := "fnJumpTo", unfollowed := true, recurses := true, apart := false, narrowed := true }
def FnJumpToUptoSaid : Prop := fnJumpToUptoRow.holds Try.pinned (OpenSpec.upto fnJumpToSpec)

/-- 'laws.FnTurnTable', WHERE WHAT IT READS IS OF BULK AT MOST 1048576: true; the input reads as it did. -/
def fnTurnTableUptoRow : OpenClaim := { program := "ytbldfhfciihddaa", sum := "60ba23de8b6c7973a4424122780709e587b1e525448a0898dfb15d3666ba4589", func := "loop.example/tablesthatspread/laws.FnTurnTable", spec := "fnTurnTable", apart := false, narrowed := true }
def FnTurnTableUptoSaid : Prop := fnTurnTableUptoRow.holds Try.pinned (OpenSpec.upto fnTurnTableSpec)

/-- 'laws.FnBoundedOwners', WHERE WHAT IT READS IS OF BULK AT MOST 1048576: true; the input reads as it did. -/
def fnBoundedOwnersUptoRow : OpenClaim := { program := "ytbldfhfciihddaa", sum := "60ba23de8b6c7973a4424122780709e587b1e525448a0898dfb15d3666ba4589", func := "loop.example/tablesthatspread/laws.FnBoundedOwners", spec := "fnBoundedOwners", unfollowed := true, recurses := true, apart := false, narrowed := true }
def FnBoundedOwnersUptoSaid : Prop := fnBoundedOwnersUptoRow.holds Try.pinned (OpenSpec.upto fnBoundedOwnersSpec)

/-- 'laws.FnExactValidRing', WHERE WHAT IT READS IS OF BULK AT MOST 1048576: true; the input reads as it did. -/
def fnExactValidRingUptoRow : OpenClaim := { program := "ytbldfhfciihddaa", sum := "60ba23de8b6c7973a4424122780709e587b1e525448a0898dfb15d3666ba4589", func := "loop.example/tablesthatspread/laws.FnExactValidRing", spec := "fnExactValidRing", apart := false, narrowed := true }
def FnExactValidRingUptoSaid : Prop := fnExactValidRingUptoRow.holds Try.pinned (OpenSpec.upto fnExactValidRingSpec)

/-- 'laws.FnExactOwnerOf', WHERE WHAT IT READS IS OF BULK AT MOST 1048576: true; the input reads as it did. -/
def fnExactOwnerOfUptoRow : OpenClaim := { program := "ytbldfhfciihddaa", sum := "60ba23de8b6c7973a4424122780709e587b1e525448a0898dfb15d3666ba4589", func := "loop.example/tablesthatspread/laws.FnExactOwnerOf", spec := "fnExactOwnerOf", unfollowed := true, recurses := true, apart := false, narrowed := true }
def FnExactOwnerOfUptoSaid : Prop := fnExactOwnerOfUptoRow.holds Try.pinned (OpenSpec.upto fnExactOwnerOfSpec)

/-- 'laws.FnExactSharesOf', WHERE WHAT IT READS IS OF BULK AT MOST 1048576: true; the input reads as it did. -/
def fnExactSharesOfUptoRow : OpenClaim := { program := "ytbldfhfciihddaa", sum := "60ba23de8b6c7973a4424122780709e587b1e525448a0898dfb15d3666ba4589", func := "loop.example/tablesthatspread/laws.FnExactSharesOf", spec := "fnExactSharesOf", unfollowed := true, recurses := true, apart := false, narrowed := true }
def FnExactSharesOfUptoSaid : Prop := fnExactSharesOfUptoRow.holds Try.pinned (OpenSpec.upto fnExactSharesOfSpec)

/-- 'laws.FnExactMovedBy', WHERE WHAT IT READS IS OF BULK AT MOST 1048576: true; the input reads as it did. -/
def fnExactMovedByUptoRow : OpenClaim := { program := "ytbldfhfciihddaa", sum := "60ba23de8b6c7973a4424122780709e587b1e525448a0898dfb15d3666ba4589", func := "loop.example/tablesthatspread/laws.FnExactMovedBy", spec := "fnExactMovedBy", unfollowed := true, recurses := true, apart := false, narrowed := true }
def FnExactMovedByUptoSaid : Prop := fnExactMovedByUptoRow.holds Try.pinned (OpenSpec.upto fnExactMovedBySpec)

/-- 'laws.FnExactFirstFor', WHERE WHAT IT READS IS OF BULK AT MOST 1048576: true; the input reads as it did. -/
def fnExactFirstForUptoRow : OpenClaim := { program := "ytbldfhfciihddaa", sum := "60ba23de8b6c7973a4424122780709e587b1e525448a0898dfb15d3666ba4589", func := "loop.example/tablesthatspread/laws.FnExactFirstFor", spec := "fnExactFirstFor", unfollowed := true, recurses := true, apart := false, narrowed := true }
def FnExactFirstForUptoSaid : Prop := fnExactFirstForUptoRow.holds Try.pinned (OpenSpec.upto fnExactFirstForSpec)

/-- 'laws.FnExactJumpTo', WHERE WHAT IT READS IS OF BULK AT MOST 1048576: true; the input reads as it did. -/
def fnExactJumpToUptoRow : OpenClaim := { program := "ytbldfhfciihddaa", sum := "60ba23de8b6c7973a4424122780709e587b1e525448a0898dfb15d3666ba4589", func := "loop.example/tablesthatspread/laws.FnExactJumpTo", spec := "fnExactJumpTo", unfollowed := true, recurses := true, apart := false, narrowed := true }
def FnExactJumpToUptoSaid : Prop := fnExactJumpToUptoRow.holds Try.pinned (OpenSpec.upto fnExactJumpToSpec)

/-- 'laws.FnExactTurnTable', WHERE WHAT IT READS IS OF BULK AT MOST 1048576: true; the input reads as it did. -/
def fnExactTurnTableUptoRow : OpenClaim := { program := "ytbldfhfciihddaa", sum := "60ba23de8b6c7973a4424122780709e587b1e525448a0898dfb15d3666ba4589", func := "loop.example/tablesthatspread/laws.FnExactTurnTable", spec := "fnExactTurnTable", apart := false, narrowed := true }
def FnExactTurnTableUptoSaid : Prop := fnExactTurnTableUptoRow.holds Try.pinned (OpenSpec.upto fnExactTurnTableSpec)

/-- 'laws.FnExactBoundedOwners', WHERE WHAT IT READS IS OF BULK AT MOST 1048576: true; the input reads as it did. -/
def fnExactBoundedOwnersUptoRow : OpenClaim := { program := "ytbldfhfciihddaa", sum := "60ba23de8b6c7973a4424122780709e587b1e525448a0898dfb15d3666ba4589", func := "loop.example/tablesthatspread/laws.FnExactBoundedOwners", spec := "fnExactBoundedOwners", unfollowed := true, recurses := true, apart := false, narrowed := true }
def FnExactBoundedOwnersUptoSaid : Prop := fnExactBoundedOwnersUptoRow.holds Try.pinned (OpenSpec.upto fnExactBoundedOwnersSpec)

end Rows
end Go.Proofs.Ytbldfhfciihddaa
