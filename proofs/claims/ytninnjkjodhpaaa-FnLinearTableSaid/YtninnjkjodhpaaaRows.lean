/-
  No cell of these rows narrows 'for every input' (looked for: loops, veiled, ifaces, maps, wideKeys, modest, calm, conditions, laid).
  DERIVED. THE GIVEN ROWS OF THIS SEAT. 14 by the template 'for every input the law returns true; each argument reads behind the call as it read before'; 0 by the template 'total and deterministic' (their statements: YtninnjkjodhpaaaTotals.lean).
  GIVEN WITH THE SEED: the statements are not yours to turn. If you find one false, say at which input.
  Laid BY PROGRAM, IN A SANDBOX (cutbox-rows.mjs): the forced cells as the released guide's own fill.sh prints them over the translation d38aa3e6bf55d10d… (all of the seat's roots in one cut). By AI agents, Wed Nov 11 2026. No macro, syntax, notation, axiom, sorry.
-/
import Derived.Test.YtninnjkjodhpaaaChecked
import GoSem.Claim
import GoSem.ClaimJoined
import GoSem.ClaimMapViews
import Derived.JoinedTies
import Derived.KernelRfl
namespace Go.Proofs.Ytninnjkjodhpaaa
/- THE CELL 'sum', in the pinned program and in every row, IS THE sha256 OF THE DUMP (.gsa) THAT YtninnjkjodhpaaaProg.lean LOADS. Nothing in Lean hashes anything: it is a label: what it is worth is what the hold of that sum in a sandbox is worth. -/
noncomputable def Try.pinned : Pinned := { name := "ytninnjkjodhpaaa", sum := "d38aa3e6bf55d10d8a0a20a69d9e91451617bb6e98d21f2eb7ec024d09d3f9ed", checked := Try.checked }
namespace Rows
def none {H : Type} : Left H := { results := [], args := [] }

/-- 'laws.FnValidHomes': WHATEVER THE INPUT: true; the input reads as it did. -/
def fnValidHomesSpec : ChangeSpec := { name := "fnValidHomes", fn := fun _ => fun
  | [d] => { results := [.lit (.bool true)], args := [d] }
  | _ => none }
def fnValidHomesRow : OpenClaim := { program := "ytninnjkjodhpaaa", sum := "d38aa3e6bf55d10d8a0a20a69d9e91451617bb6e98d21f2eb7ec024d09d3f9ed", func := "loop.example/tablesthatspread/laws.FnValidHomes", spec := "fnValidHomes", apart := false }
def FnValidHomesSaid : Prop := fnValidHomesRow.holds Try.pinned (OpenSpec.ofChange fnValidHomesSpec)

/-- ITS FALSE NEIGHBOUR: 'it returns false'. Refute it at one input. -/
def fnValidHomesWrong : ChangeSpec := { name := "fnValidHomes", fn := fun _ => fun
  | [d] => { results := [.lit (.bool false)], args := [d] }
  | _ => none }
def FnValidHomesWrongFalsely : Prop := fnValidHomesRow.holds Try.pinned (OpenSpec.ofChange fnValidHomesWrong)

/-- 'laws.FnLinearTable': WHATEVER THE INPUT: true; the input reads as it did. -/
def fnLinearTableSpec : ChangeSpec := { name := "fnLinearTable", fn := fun _ => fun
  | [d] => { results := [.lit (.bool true)], args := [d] }
  | _ => none }
def fnLinearTableRow : OpenClaim := { program := "ytninnjkjodhpaaa", sum := "d38aa3e6bf55d10d8a0a20a69d9e91451617bb6e98d21f2eb7ec024d09d3f9ed", func := "loop.example/tablesthatspread/laws.FnLinearTable", spec := "fnLinearTable", unfollowed := true, recurses := true, apart := false }
def FnLinearTableSaid : Prop := fnLinearTableRow.holds Try.pinned (OpenSpec.ofChange fnLinearTableSpec)

/-- ITS FALSE NEIGHBOUR: 'it returns false'. Refute it at one input. -/
def fnLinearTableWrong : ChangeSpec := { name := "fnLinearTable", fn := fun _ => fun
  | [d] => { results := [.lit (.bool false)], args := [d] }
  | _ => none }
def FnLinearTableWrongFalsely : Prop := fnLinearTableRow.holds Try.pinned (OpenSpec.ofChange fnLinearTableWrong)

/-- 'laws.FnFairTable': WHATEVER THE INPUT: true; the input reads as it did. -/
def fnFairTableSpec : ChangeSpec := { name := "fnFairTable", fn := fun _ => fun
  | [d] => { results := [.lit (.bool true)], args := [d] }
  | _ => none }
def fnFairTableRow : OpenClaim := { program := "ytninnjkjodhpaaa", sum := "d38aa3e6bf55d10d8a0a20a69d9e91451617bb6e98d21f2eb7ec024d09d3f9ed", func := "loop.example/tablesthatspread/laws.FnFairTable", spec := "fnFairTable", unfollowed := true, recurses := true, apart := false }
def FnFairTableSaid : Prop := fnFairTableRow.holds Try.pinned (OpenSpec.ofChange fnFairTableSpec)

/-- ITS FALSE NEIGHBOUR: 'it returns false'. Refute it at one input. -/
def fnFairTableWrong : ChangeSpec := { name := "fnFairTable", fn := fun _ => fun
  | [d] => { results := [.lit (.bool false)], args := [d] }
  | _ => none }
def FnFairTableWrongFalsely : Prop := fnFairTableRow.holds Try.pinned (OpenSpec.ofChange fnFairTableWrong)

/-- 'laws.FnLooksOf': WHATEVER THE INPUT: true; the input reads as it did. -/
def fnLooksOfSpec : ChangeSpec := { name := "fnLooksOf", fn := fun _ => fun
  | [d] => { results := [.lit (.bool true)], args := [d] }
  | _ => none }
def fnLooksOfRow : OpenClaim := { program := "ytninnjkjodhpaaa", sum := "d38aa3e6bf55d10d8a0a20a69d9e91451617bb6e98d21f2eb7ec024d09d3f9ed", func := "loop.example/tablesthatspread/laws.FnLooksOf", spec := "fnLooksOf", apart := false }
def FnLooksOfSaid : Prop := fnLooksOfRow.holds Try.pinned (OpenSpec.ofChange fnLooksOfSpec)

/-- ITS FALSE NEIGHBOUR: 'it returns false'. Refute it at one input. -/
def fnLooksOfWrong : ChangeSpec := { name := "fnLooksOf", fn := fun _ => fun
  | [d] => { results := [.lit (.bool false)], args := [d] }
  | _ => none }
def FnLooksOfWrongFalsely : Prop := fnLooksOfRow.holds Try.pinned (OpenSpec.ofChange fnLooksOfWrong)

/-- 'laws.FnIsFound': WHATEVER THE INPUT: true; the input reads as it did. -/
def fnIsFoundSpec : ChangeSpec := { name := "fnIsFound", fn := fun _ => fun
  | [d] => { results := [.lit (.bool true)], args := [d] }
  | _ => none }
def fnIsFoundRow : OpenClaim := { program := "ytninnjkjodhpaaa", sum := "d38aa3e6bf55d10d8a0a20a69d9e91451617bb6e98d21f2eb7ec024d09d3f9ed", func := "loop.example/tablesthatspread/laws.FnIsFound", spec := "fnIsFound", unfollowed := true, recurses := true, apart := false }
def FnIsFoundSaid : Prop := fnIsFoundRow.holds Try.pinned (OpenSpec.ofChange fnIsFoundSpec)

/-- ITS FALSE NEIGHBOUR: 'it returns false'. Refute it at one input. -/
def fnIsFoundWrong : ChangeSpec := { name := "fnIsFound", fn := fun _ => fun
  | [d] => { results := [.lit (.bool false)], args := [d] }
  | _ => none }
def FnIsFoundWrongFalsely : Prop := fnIsFoundRow.holds Try.pinned (OpenSpec.ofChange fnIsFoundWrong)

/-- 'laws.FnTakeOut': WHATEVER THE INPUT: true; the input reads as it did. -/
def fnTakeOutSpec : ChangeSpec := { name := "fnTakeOut", fn := fun _ => fun
  | [d] => { results := [.lit (.bool true)], args := [d] }
  | _ => none }
def fnTakeOutRow : OpenClaim := { program := "ytninnjkjodhpaaa", sum := "d38aa3e6bf55d10d8a0a20a69d9e91451617bb6e98d21f2eb7ec024d09d3f9ed", func := "loop.example/tablesthatspread/laws.FnTakeOut", spec := "fnTakeOut", unfollowed := true, recurses := true, apart := false }
def FnTakeOutSaid : Prop := fnTakeOutRow.holds Try.pinned (OpenSpec.ofChange fnTakeOutSpec)

/-- ITS FALSE NEIGHBOUR: 'it returns false'. Refute it at one input. -/
def fnTakeOutWrong : ChangeSpec := { name := "fnTakeOut", fn := fun _ => fun
  | [d] => { results := [.lit (.bool false)], args := [d] }
  | _ => none }
def FnTakeOutWrongFalsely : Prop := fnTakeOutRow.holds Try.pinned (OpenSpec.ofChange fnTakeOutWrong)

/-- 'laws.FnAllLooks': WHATEVER THE INPUT: true; the input reads as it did. -/
def fnAllLooksSpec : ChangeSpec := { name := "fnAllLooks", fn := fun _ => fun
  | [d] => { results := [.lit (.bool true)], args := [d] }
  | _ => none }
def fnAllLooksRow : OpenClaim := { program := "ytninnjkjodhpaaa", sum := "d38aa3e6bf55d10d8a0a20a69d9e91451617bb6e98d21f2eb7ec024d09d3f9ed", func := "loop.example/tablesthatspread/laws.FnAllLooks", spec := "fnAllLooks", unfollowed := true, recurses := true, apart := false }
def FnAllLooksSaid : Prop := fnAllLooksRow.holds Try.pinned (OpenSpec.ofChange fnAllLooksSpec)

/-- ITS FALSE NEIGHBOUR: 'it returns false'. Refute it at one input. -/
def fnAllLooksWrong : ChangeSpec := { name := "fnAllLooks", fn := fun _ => fun
  | [d] => { results := [.lit (.bool false)], args := [d] }
  | _ => none }
def FnAllLooksWrongFalsely : Prop := fnAllLooksRow.holds Try.pinned (OpenSpec.ofChange fnAllLooksWrong)

/-- 'laws.FnExactValidHomes': WHATEVER THE INPUT: true; the input reads as it did. -/
def fnExactValidHomesSpec : ChangeSpec := { name := "fnExactValidHomes", fn := fun _ => fun
  | [d1, d2] => { results := [.lit (.bool true)], args := [d1, d2] }
  | _ => none }
def fnExactValidHomesRow : OpenClaim := { program := "ytninnjkjodhpaaa", sum := "d38aa3e6bf55d10d8a0a20a69d9e91451617bb6e98d21f2eb7ec024d09d3f9ed", func := "loop.example/tablesthatspread/laws.FnExactValidHomes", spec := "fnExactValidHomes", apart := false }
def FnExactValidHomesSaid : Prop := fnExactValidHomesRow.holds Try.pinned (OpenSpec.ofChange fnExactValidHomesSpec)

/-- ITS FALSE NEIGHBOUR: 'it returns false'. Refute it at one input. -/
def fnExactValidHomesWrong : ChangeSpec := { name := "fnExactValidHomes", fn := fun _ => fun
  | [d1, d2] => { results := [.lit (.bool false)], args := [d1, d2] }
  | _ => none }
def FnExactValidHomesWrongFalsely : Prop := fnExactValidHomesRow.holds Try.pinned (OpenSpec.ofChange fnExactValidHomesWrong)

/-- 'laws.FnExactLinearTable': WHATEVER THE INPUT: true; the input reads as it did. -/
def fnExactLinearTableSpec : ChangeSpec := { name := "fnExactLinearTable", fn := fun _ => fun
  | [d1, d2] => { results := [.lit (.bool true)], args := [d1, d2] }
  | _ => none }
def fnExactLinearTableRow : OpenClaim := { program := "ytninnjkjodhpaaa", sum := "d38aa3e6bf55d10d8a0a20a69d9e91451617bb6e98d21f2eb7ec024d09d3f9ed", func := "loop.example/tablesthatspread/laws.FnExactLinearTable", spec := "fnExactLinearTable", unfollowed := true, recurses := true, apart := false }
def FnExactLinearTableSaid : Prop := fnExactLinearTableRow.holds Try.pinned (OpenSpec.ofChange fnExactLinearTableSpec)

/-- ITS FALSE NEIGHBOUR: 'it returns false'. Refute it at one input. -/
def fnExactLinearTableWrong : ChangeSpec := { name := "fnExactLinearTable", fn := fun _ => fun
  | [d1, d2] => { results := [.lit (.bool false)], args := [d1, d2] }
  | _ => none }
def FnExactLinearTableWrongFalsely : Prop := fnExactLinearTableRow.holds Try.pinned (OpenSpec.ofChange fnExactLinearTableWrong)

/-- 'laws.FnExactFairTable': WHATEVER THE INPUT: true; the input reads as it did. -/
def fnExactFairTableSpec : ChangeSpec := { name := "fnExactFairTable", fn := fun _ => fun
  | [d1, d2] => { results := [.lit (.bool true)], args := [d1, d2] }
  | _ => none }
def fnExactFairTableRow : OpenClaim := { program := "ytninnjkjodhpaaa", sum := "d38aa3e6bf55d10d8a0a20a69d9e91451617bb6e98d21f2eb7ec024d09d3f9ed", func := "loop.example/tablesthatspread/laws.FnExactFairTable", spec := "fnExactFairTable", unfollowed := true, recurses := true, apart := false }
def FnExactFairTableSaid : Prop := fnExactFairTableRow.holds Try.pinned (OpenSpec.ofChange fnExactFairTableSpec)

/-- ITS FALSE NEIGHBOUR: 'it returns false'. Refute it at one input. -/
def fnExactFairTableWrong : ChangeSpec := { name := "fnExactFairTable", fn := fun _ => fun
  | [d1, d2] => { results := [.lit (.bool false)], args := [d1, d2] }
  | _ => none }
def FnExactFairTableWrongFalsely : Prop := fnExactFairTableRow.holds Try.pinned (OpenSpec.ofChange fnExactFairTableWrong)

/-- 'laws.FnExactLooksOf': WHATEVER THE INPUT: true; the input reads as it did. -/
def fnExactLooksOfSpec : ChangeSpec := { name := "fnExactLooksOf", fn := fun _ => fun
  | [d1, d2, d3] => { results := [.lit (.bool true)], args := [d1, d2, d3] }
  | _ => none }
def fnExactLooksOfRow : OpenClaim := { program := "ytninnjkjodhpaaa", sum := "d38aa3e6bf55d10d8a0a20a69d9e91451617bb6e98d21f2eb7ec024d09d3f9ed", func := "loop.example/tablesthatspread/laws.FnExactLooksOf", spec := "fnExactLooksOf", apart := false }
def FnExactLooksOfSaid : Prop := fnExactLooksOfRow.holds Try.pinned (OpenSpec.ofChange fnExactLooksOfSpec)

/-- ITS FALSE NEIGHBOUR: 'it returns false'. Refute it at one input. -/
def fnExactLooksOfWrong : ChangeSpec := { name := "fnExactLooksOf", fn := fun _ => fun
  | [d1, d2, d3] => { results := [.lit (.bool false)], args := [d1, d2, d3] }
  | _ => none }
def FnExactLooksOfWrongFalsely : Prop := fnExactLooksOfRow.holds Try.pinned (OpenSpec.ofChange fnExactLooksOfWrong)

/-- 'laws.FnExactIsFound': WHATEVER THE INPUT: true; the input reads as it did. -/
def fnExactIsFoundSpec : ChangeSpec := { name := "fnExactIsFound", fn := fun _ => fun
  | [d1, d2, d3] => { results := [.lit (.bool true)], args := [d1, d2, d3] }
  | _ => none }
def fnExactIsFoundRow : OpenClaim := { program := "ytninnjkjodhpaaa", sum := "d38aa3e6bf55d10d8a0a20a69d9e91451617bb6e98d21f2eb7ec024d09d3f9ed", func := "loop.example/tablesthatspread/laws.FnExactIsFound", spec := "fnExactIsFound", unfollowed := true, recurses := true, apart := false }
def FnExactIsFoundSaid : Prop := fnExactIsFoundRow.holds Try.pinned (OpenSpec.ofChange fnExactIsFoundSpec)

/-- ITS FALSE NEIGHBOUR: 'it returns false'. Refute it at one input. -/
def fnExactIsFoundWrong : ChangeSpec := { name := "fnExactIsFound", fn := fun _ => fun
  | [d1, d2, d3] => { results := [.lit (.bool false)], args := [d1, d2, d3] }
  | _ => none }
def FnExactIsFoundWrongFalsely : Prop := fnExactIsFoundRow.holds Try.pinned (OpenSpec.ofChange fnExactIsFoundWrong)

/-- 'laws.FnExactTakeOut': WHATEVER THE INPUT: true; the input reads as it did. -/
def fnExactTakeOutSpec : ChangeSpec := { name := "fnExactTakeOut", fn := fun _ => fun
  | [d1, d2, d3, d4] => { results := [.lit (.bool true)], args := [d1, d2, d3, d4] }
  | _ => none }
def fnExactTakeOutRow : OpenClaim := { program := "ytninnjkjodhpaaa", sum := "d38aa3e6bf55d10d8a0a20a69d9e91451617bb6e98d21f2eb7ec024d09d3f9ed", func := "loop.example/tablesthatspread/laws.FnExactTakeOut", spec := "fnExactTakeOut", unfollowed := true, recurses := true, apart := false }
def FnExactTakeOutSaid : Prop := fnExactTakeOutRow.holds Try.pinned (OpenSpec.ofChange fnExactTakeOutSpec)

/-- ITS FALSE NEIGHBOUR: 'it returns false'. Refute it at one input. -/
def fnExactTakeOutWrong : ChangeSpec := { name := "fnExactTakeOut", fn := fun _ => fun
  | [d1, d2, d3, d4] => { results := [.lit (.bool false)], args := [d1, d2, d3, d4] }
  | _ => none }
def FnExactTakeOutWrongFalsely : Prop := fnExactTakeOutRow.holds Try.pinned (OpenSpec.ofChange fnExactTakeOutWrong)

/-- 'laws.FnExactAllLooks': WHATEVER THE INPUT: true; the input reads as it did. -/
def fnExactAllLooksSpec : ChangeSpec := { name := "fnExactAllLooks", fn := fun _ => fun
  | [d1, d2] => { results := [.lit (.bool true)], args := [d1, d2] }
  | _ => none }
def fnExactAllLooksRow : OpenClaim := { program := "ytninnjkjodhpaaa", sum := "d38aa3e6bf55d10d8a0a20a69d9e91451617bb6e98d21f2eb7ec024d09d3f9ed", func := "loop.example/tablesthatspread/laws.FnExactAllLooks", spec := "fnExactAllLooks", unfollowed := true, recurses := true, apart := false }
def FnExactAllLooksSaid : Prop := fnExactAllLooksRow.holds Try.pinned (OpenSpec.ofChange fnExactAllLooksSpec)

/-- ITS FALSE NEIGHBOUR: 'it returns false'. Refute it at one input. -/
def fnExactAllLooksWrong : ChangeSpec := { name := "fnExactAllLooks", fn := fun _ => fun
  | [d1, d2] => { results := [.lit (.bool false)], args := [d1, d2] }
  | _ => none }
def FnExactAllLooksWrongFalsely : Prop := fnExactAllLooksRow.holds Try.pinned (OpenSpec.ofChange fnExactAllLooksWrong)

/- THE SECOND FORM. 'bulk': how many values and letters a reading holds, each counted each time it is reached (what is shared counts as often as it is met; a slice's spare places count too). A statement '..UptoSaid' is the law's where the arguments, and the package variables that the reading takes, are together of bulk at most 1048576: NARROWER than '..Said'. Prove '..Said' where nothing that the law and all that it calls make is longer than what came in: it says more and counts as full. Else prove '..UptoSaid'. A law counts once. -/
mutual
def uptoBulk {H : Type} : DataW H → Nat
  | .lit (.string bytes) => bytes.length + 1
  | .lit _ => 1
  | .nil => 1
  | .ptr d => uptoBulk d + 1
  | .slice elems spare => uptoBulkAll elems + uptoBulkAll spare + 1
  | .agg parts => uptoBulkAll parts + 1
  | .iface _ d => uptoBulk d + 1
  | .map entries => uptoBulkEntries entries + 1
  | .held _ => 1
def uptoBulkAll {H : Type} : List (DataW H) → Nat
  | [] => 0
  | d :: r => uptoBulk d + uptoBulkAll r
def uptoBulkEntries {H : Type} : List (Lit × DataW H) → Nat
  | [] => 0
  | x :: r => uptoBulkEntry x + uptoBulkEntries r
def uptoBulkEntry {H : Type} : Lit × DataW H → Nat
  | (.string bytes, d) => bytes.length + uptoBulk d + 1
  | (_, d) => uptoBulk d + 1
 end
def uptoSmall : (H : Type) → List (DataW H) → Bool := fun _ ds => decide (uptoBulkAll ds ≤ 1048576)
def OpenSpec.upto (s : _root_.Go.ChangeSpec) : _root_.Go.OpenSpec := { _root_.Go.OpenSpec.ofChange s with cond := some uptoSmall }

/-- 'laws.FnValidHomes', WHERE WHAT IT READS IS OF BULK AT MOST 1048576: true; the input reads as it did. -/
def fnValidHomesUptoRow : OpenClaim := { program := "ytninnjkjodhpaaa", sum := "d38aa3e6bf55d10d8a0a20a69d9e91451617bb6e98d21f2eb7ec024d09d3f9ed", func := "loop.example/tablesthatspread/laws.FnValidHomes", spec := "fnValidHomes", apart := false, narrowed := true }
def FnValidHomesUptoSaid : Prop := fnValidHomesUptoRow.holds Try.pinned (OpenSpec.upto fnValidHomesSpec)

/-- 'laws.FnLinearTable', WHERE WHAT IT READS IS OF BULK AT MOST 1048576: true; the input reads as it did. -/
def fnLinearTableUptoRow : OpenClaim := { program := "ytninnjkjodhpaaa", sum := "d38aa3e6bf55d10d8a0a20a69d9e91451617bb6e98d21f2eb7ec024d09d3f9ed", func := "loop.example/tablesthatspread/laws.FnLinearTable", spec := "fnLinearTable", unfollowed := true, recurses := true, apart := false, narrowed := true }
def FnLinearTableUptoSaid : Prop := fnLinearTableUptoRow.holds Try.pinned (OpenSpec.upto fnLinearTableSpec)

/-- 'laws.FnFairTable', WHERE WHAT IT READS IS OF BULK AT MOST 1048576: true; the input reads as it did. -/
def fnFairTableUptoRow : OpenClaim := { program := "ytninnjkjodhpaaa", sum := "d38aa3e6bf55d10d8a0a20a69d9e91451617bb6e98d21f2eb7ec024d09d3f9ed", func := "loop.example/tablesthatspread/laws.FnFairTable", spec := "fnFairTable", unfollowed := true, recurses := true, apart := false, narrowed := true }
def FnFairTableUptoSaid : Prop := fnFairTableUptoRow.holds Try.pinned (OpenSpec.upto fnFairTableSpec)

/-- 'laws.FnLooksOf', WHERE WHAT IT READS IS OF BULK AT MOST 1048576: true; the input reads as it did. -/
def fnLooksOfUptoRow : OpenClaim := { program := "ytninnjkjodhpaaa", sum := "d38aa3e6bf55d10d8a0a20a69d9e91451617bb6e98d21f2eb7ec024d09d3f9ed", func := "loop.example/tablesthatspread/laws.FnLooksOf", spec := "fnLooksOf", apart := false, narrowed := true }
def FnLooksOfUptoSaid : Prop := fnLooksOfUptoRow.holds Try.pinned (OpenSpec.upto fnLooksOfSpec)

/-- 'laws.FnIsFound', WHERE WHAT IT READS IS OF BULK AT MOST 1048576: true; the input reads as it did. -/
def fnIsFoundUptoRow : OpenClaim := { program := "ytninnjkjodhpaaa", sum := "d38aa3e6bf55d10d8a0a20a69d9e91451617bb6e98d21f2eb7ec024d09d3f9ed", func := "loop.example/tablesthatspread/laws.FnIsFound", spec := "fnIsFound", unfollowed := true, recurses := true, apart := false, narrowed := true }
def FnIsFoundUptoSaid : Prop := fnIsFoundUptoRow.holds Try.pinned (OpenSpec.upto fnIsFoundSpec)

/-- 'laws.FnTakeOut', WHERE WHAT IT READS IS OF BULK AT MOST 1048576: true; the input reads as it did. -/
def fnTakeOutUptoRow : OpenClaim := { program := "ytninnjkjodhpaaa", sum := "d38aa3e6bf55d10d8a0a20a69d9e91451617bb6e98d21f2eb7ec024d09d3f9ed", func := "loop.example/tablesthatspread/laws.FnTakeOut", spec := "fnTakeOut", unfollowed := true, recurses := true, apart := false, narrowed := true }
def FnTakeOutUptoSaid : Prop := fnTakeOutUptoRow.holds Try.pinned (OpenSpec.upto fnTakeOutSpec)

/-- 'laws.FnAllLooks', WHERE WHAT IT READS IS OF BULK AT MOST 1048576: true; the input reads as it did. -/
def fnAllLooksUptoRow : OpenClaim := { program := "ytninnjkjodhpaaa", sum := "d38aa3e6bf55d10d8a0a20a69d9e91451617bb6e98d21f2eb7ec024d09d3f9ed", func := "loop.example/tablesthatspread/laws.FnAllLooks", spec := "fnAllLooks", unfollowed := true, recurses := true, apart := false, narrowed := true }
def FnAllLooksUptoSaid : Prop := fnAllLooksUptoRow.holds Try.pinned (OpenSpec.upto fnAllLooksSpec)

/-- 'laws.FnExactValidHomes', WHERE WHAT IT READS IS OF BULK AT MOST 1048576: true; the input reads as it did. -/
def fnExactValidHomesUptoRow : OpenClaim := { program := "ytninnjkjodhpaaa", sum := "d38aa3e6bf55d10d8a0a20a69d9e91451617bb6e98d21f2eb7ec024d09d3f9ed", func := "loop.example/tablesthatspread/laws.FnExactValidHomes", spec := "fnExactValidHomes", apart := false, narrowed := true }
def FnExactValidHomesUptoSaid : Prop := fnExactValidHomesUptoRow.holds Try.pinned (OpenSpec.upto fnExactValidHomesSpec)

/-- 'laws.FnExactLinearTable', WHERE WHAT IT READS IS OF BULK AT MOST 1048576: true; the input reads as it did. -/
def fnExactLinearTableUptoRow : OpenClaim := { program := "ytninnjkjodhpaaa", sum := "d38aa3e6bf55d10d8a0a20a69d9e91451617bb6e98d21f2eb7ec024d09d3f9ed", func := "loop.example/tablesthatspread/laws.FnExactLinearTable", spec := "fnExactLinearTable", unfollowed := true, recurses := true, apart := false, narrowed := true }
def FnExactLinearTableUptoSaid : Prop := fnExactLinearTableUptoRow.holds Try.pinned (OpenSpec.upto fnExactLinearTableSpec)

/-- 'laws.FnExactFairTable', WHERE WHAT IT READS IS OF BULK AT MOST 1048576: true; the input reads as it did. -/
def fnExactFairTableUptoRow : OpenClaim := { program := "ytninnjkjodhpaaa", sum := "d38aa3e6bf55d10d8a0a20a69d9e91451617bb6e98d21f2eb7ec024d09d3f9ed", func := "loop.example/tablesthatspread/laws.FnExactFairTable", spec := "fnExactFairTable", unfollowed := true, recurses := true, apart := false, narrowed := true }
def FnExactFairTableUptoSaid : Prop := fnExactFairTableUptoRow.holds Try.pinned (OpenSpec.upto fnExactFairTableSpec)

/-- 'laws.FnExactLooksOf', WHERE WHAT IT READS IS OF BULK AT MOST 1048576: true; the input reads as it did. -/
def fnExactLooksOfUptoRow : OpenClaim := { program := "ytninnjkjodhpaaa", sum := "d38aa3e6bf55d10d8a0a20a69d9e91451617bb6e98d21f2eb7ec024d09d3f9ed", func := "loop.example/tablesthatspread/laws.FnExactLooksOf", spec := "fnExactLooksOf", apart := false, narrowed := true }
def FnExactLooksOfUptoSaid : Prop := fnExactLooksOfUptoRow.holds Try.pinned (OpenSpec.upto fnExactLooksOfSpec)

/-- 'laws.FnExactIsFound', WHERE WHAT IT READS IS OF BULK AT MOST 1048576: true; the input reads as it did. -/
def fnExactIsFoundUptoRow : OpenClaim := { program := "ytninnjkjodhpaaa", sum := "d38aa3e6bf55d10d8a0a20a69d9e91451617bb6e98d21f2eb7ec024d09d3f9ed", func := "loop.example/tablesthatspread/laws.FnExactIsFound", spec := "fnExactIsFound", unfollowed := true, recurses := true, apart := false, narrowed := true }
def FnExactIsFoundUptoSaid : Prop := fnExactIsFoundUptoRow.holds Try.pinned (OpenSpec.upto fnExactIsFoundSpec)

/-- 'laws.FnExactTakeOut', WHERE WHAT IT READS IS OF BULK AT MOST 1048576: true; the input reads as it did. -/
def fnExactTakeOutUptoRow : OpenClaim := { program := "ytninnjkjodhpaaa", sum := "d38aa3e6bf55d10d8a0a20a69d9e91451617bb6e98d21f2eb7ec024d09d3f9ed", func := "loop.example/tablesthatspread/laws.FnExactTakeOut", spec := "fnExactTakeOut", unfollowed := true, recurses := true, apart := false, narrowed := true }
def FnExactTakeOutUptoSaid : Prop := fnExactTakeOutUptoRow.holds Try.pinned (OpenSpec.upto fnExactTakeOutSpec)

/-- 'laws.FnExactAllLooks', WHERE WHAT IT READS IS OF BULK AT MOST 1048576: true; the input reads as it did. -/
def fnExactAllLooksUptoRow : OpenClaim := { program := "ytninnjkjodhpaaa", sum := "d38aa3e6bf55d10d8a0a20a69d9e91451617bb6e98d21f2eb7ec024d09d3f9ed", func := "loop.example/tablesthatspread/laws.FnExactAllLooks", spec := "fnExactAllLooks", unfollowed := true, recurses := true, apart := false, narrowed := true }
def FnExactAllLooksUptoSaid : Prop := fnExactAllLooksUptoRow.holds Try.pinned (OpenSpec.upto fnExactAllLooksSpec)

end Rows
end Go.Proofs.Ytninnjkjodhpaaa
