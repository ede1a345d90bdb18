/-
  No cell of these rows narrows 'for every input' (looked for: loops, veiled, ifaces, maps, wideKeys, modest, calm, conditions, laid).
  DERIVED. THE GIVEN ROWS OF THIS SEAT. 8 by the template 'for every input the law returns true; each argument reads behind the call as it read before'; 0 by the template 'total and deterministic' (their statements: YtoaiaindcmihjaaTotals.lean).
  GIVEN WITH THE SEED: the statements are not yours to turn. If you find one false, say at which input.
  Laid BY PROGRAM, IN A SANDBOX (cutbox-rows.mjs): the forced cells as the released guide's own fill.sh prints them over the translation 4dc91539eff58756… (all of the seat's roots in one cut). By AI agents, Wed Nov 11 2026. No macro, syntax, notation, axiom, sorry.
-/
import Derived.Test.YtoaiaindcmihjaaChecked
import GoSem.Claim
import GoSem.ClaimJoined
import GoSem.ClaimMapViews
import Derived.JoinedTies
import Derived.KernelRfl
namespace Go.Proofs.Ytoaiaindcmihjaa
/- THE CELL 'sum', in the pinned program and in every row, IS THE sha256 OF THE DUMP (.gsa) THAT YtoaiaindcmihjaaProg.lean LOADS. Nothing in Lean hashes anything: it is a label: what it is worth is what the hold of that sum in a sandbox is worth. -/
noncomputable def Try.pinned : Pinned := { name := "ytoaiaindcmihjaa", sum := "4dc91539eff5875684d9574c637d58e76c91b3e0914c3719b4a04167f54163e9", checked := Try.checked }
namespace Rows
def none {H : Type} : Left H := { results := [], args := [] }

/-- 'laws.FnBucketsOf': WHATEVER THE INPUT: true; the input reads as it did. -/
def fnBucketsOfSpec : ChangeSpec := { name := "fnBucketsOf", fn := fun _ => fun
  | [d] => { results := [.lit (.bool true)], args := [d] }
  | _ => none }
def fnBucketsOfRow : OpenClaim := { program := "ytoaiaindcmihjaa", sum := "4dc91539eff5875684d9574c637d58e76c91b3e0914c3719b4a04167f54163e9", func := "loop.example/tablesthatspread/laws.FnBucketsOf", spec := "fnBucketsOf", recurses := true, apart := false }
def FnBucketsOfSaid : Prop := fnBucketsOfRow.holds Try.pinned (OpenSpec.ofChange fnBucketsOfSpec)

/-- ITS FALSE NEIGHBOUR: 'it returns false'. Refute it at one input. -/
def fnBucketsOfWrong : ChangeSpec := { name := "fnBucketsOf", fn := fun _ => fun
  | [d] => { results := [.lit (.bool false)], args := [d] }
  | _ => none }
def FnBucketsOfWrongFalsely : Prop := fnBucketsOfRow.holds Try.pinned (OpenSpec.ofChange fnBucketsOfWrong)

/-- 'laws.FnDirectoryOf': WHATEVER THE INPUT: true; the input reads as it did. -/
def fnDirectoryOfSpec : ChangeSpec := { name := "fnDirectoryOf", fn := fun _ => fun
  | [d] => { results := [.lit (.bool true)], args := [d] }
  | _ => none }
def fnDirectoryOfRow : OpenClaim := { program := "ytoaiaindcmihjaa", sum := "4dc91539eff5875684d9574c637d58e76c91b3e0914c3719b4a04167f54163e9", func := "loop.example/tablesthatspread/laws.FnDirectoryOf", spec := "fnDirectoryOf", unfollowed := true, recurses := true, apart := false }
def FnDirectoryOfSaid : Prop := fnDirectoryOfRow.holds Try.pinned (OpenSpec.ofChange fnDirectoryOfSpec)

/-- ITS FALSE NEIGHBOUR: 'it returns false'. Refute it at one input. -/
def fnDirectoryOfWrong : ChangeSpec := { name := "fnDirectoryOf", fn := fun _ => fun
  | [d] => { results := [.lit (.bool false)], args := [d] }
  | _ => none }
def FnDirectoryOfWrongFalsely : Prop := fnDirectoryOfRow.holds Try.pinned (OpenSpec.ofChange fnDirectoryOfWrong)

/-- 'laws.FnLineOf': WHATEVER THE INPUT: true; the input reads as it did. -/
def fnLineOfSpec : ChangeSpec := { name := "fnLineOf", fn := fun _ => fun
  | [d] => { results := [.lit (.bool true)], args := [d] }
  | _ => none }
def fnLineOfRow : OpenClaim := { program := "ytoaiaindcmihjaa", sum := "4dc91539eff5875684d9574c637d58e76c91b3e0914c3719b4a04167f54163e9", func := "loop.example/tablesthatspread/laws.FnLineOf", spec := "fnLineOf", apart := false }
def FnLineOfSaid : Prop := fnLineOfRow.holds Try.pinned (OpenSpec.ofChange fnLineOfSpec)

/-- ITS FALSE NEIGHBOUR: 'it returns false'. Refute it at one input. -/
def fnLineOfWrong : ChangeSpec := { name := "fnLineOf", fn := fun _ => fun
  | [d] => { results := [.lit (.bool false)], args := [d] }
  | _ => none }
def FnLineOfWrongFalsely : Prop := fnLineOfRow.holds Try.pinned (OpenSpec.ofChange fnLineOfWrong)

/-- 'laws.FnLineMoves': WHATEVER THE INPUT: true; the input reads as it did. -/
def fnLineMovesSpec : ChangeSpec := { name := "fnLineMoves", fn := fun _ => fun
  | [d] => { results := [.lit (.bool true)], args := [d] }
  | _ => none }
def fnLineMovesRow : OpenClaim := { program := "ytoaiaindcmihjaa", sum := "4dc91539eff5875684d9574c637d58e76c91b3e0914c3719b4a04167f54163e9", func := "loop.example/tablesthatspread/laws.FnLineMoves", spec := "fnLineMoves", apart := false }
def FnLineMovesSaid : Prop := fnLineMovesRow.holds Try.pinned (OpenSpec.ofChange fnLineMovesSpec)

/-- ITS FALSE NEIGHBOUR: 'it returns false'. Refute it at one input. -/
def fnLineMovesWrong : ChangeSpec := { name := "fnLineMoves", fn := fun _ => fun
  | [d] => { results := [.lit (.bool false)], args := [d] }
  | _ => none }
def FnLineMovesWrongFalsely : Prop := fnLineMovesRow.holds Try.pinned (OpenSpec.ofChange fnLineMovesWrong)

/-- 'laws.FnExactBucketsOf': WHATEVER THE INPUT: true; the input reads as it did. -/
def fnExactBucketsOfSpec : ChangeSpec := { name := "fnExactBucketsOf", fn := fun _ => fun
  | [d1, d2] => { results := [.lit (.bool true)], args := [d1, d2] }
  | _ => none }
def fnExactBucketsOfRow : OpenClaim := { program := "ytoaiaindcmihjaa", sum := "4dc91539eff5875684d9574c637d58e76c91b3e0914c3719b4a04167f54163e9", func := "loop.example/tablesthatspread/laws.FnExactBucketsOf", spec := "fnExactBucketsOf", recurses := true, apart := false }
def FnExactBucketsOfSaid : Prop := fnExactBucketsOfRow.holds Try.pinned (OpenSpec.ofChange fnExactBucketsOfSpec)

/-- ITS FALSE NEIGHBOUR: 'it returns false'. Refute it at one input. -/
def fnExactBucketsOfWrong : ChangeSpec := { name := "fnExactBucketsOf", fn := fun _ => fun
  | [d1, d2] => { results := [.lit (.bool false)], args := [d1, d2] }
  | _ => none }
def FnExactBucketsOfWrongFalsely : Prop := fnExactBucketsOfRow.holds Try.pinned (OpenSpec.ofChange fnExactBucketsOfWrong)

/-- 'laws.FnExactDirectoryOf': WHATEVER THE INPUT: true; the input reads as it did. -/
def fnExactDirectoryOfSpec : ChangeSpec := { name := "fnExactDirectoryOf", fn := fun _ => fun
  | [d1, d2] => { results := [.lit (.bool true)], args := [d1, d2] }
  | _ => none }
def fnExactDirectoryOfRow : OpenClaim := { program := "ytoaiaindcmihjaa", sum := "4dc91539eff5875684d9574c637d58e76c91b3e0914c3719b4a04167f54163e9", func := "loop.example/tablesthatspread/laws.FnExactDirectoryOf", spec := "fnExactDirectoryOf", unfollowed := true, recurses := true, apart := false }
def FnExactDirectoryOfSaid : Prop := fnExactDirectoryOfRow.holds Try.pinned (OpenSpec.ofChange fnExactDirectoryOfSpec)

/-- ITS FALSE NEIGHBOUR: 'it returns false'. Refute it at one input. -/
def fnExactDirectoryOfWrong : ChangeSpec := { name := "fnExactDirectoryOf", fn := fun _ => fun
  | [d1, d2] => { results := [.lit (.bool false)], args := [d1, d2] }
  | _ => none }
def FnExactDirectoryOfWrongFalsely : Prop := fnExactDirectoryOfRow.holds Try.pinned (OpenSpec.ofChange fnExactDirectoryOfWrong)

/-- 'laws.FnExactLineOf': WHATEVER THE INPUT: true; the input reads as it did. -/
def fnExactLineOfSpec : ChangeSpec := { name := "fnExactLineOf", fn := fun _ => fun
  | [d1, d2] => { results := [.lit (.bool true)], args := [d1, d2] }
  | _ => none }
def fnExactLineOfRow : OpenClaim := { program := "ytoaiaindcmihjaa", sum := "4dc91539eff5875684d9574c637d58e76c91b3e0914c3719b4a04167f54163e9", func := "loop.example/tablesthatspread/laws.FnExactLineOf", spec := "fnExactLineOf", apart := false }
def FnExactLineOfSaid : Prop := fnExactLineOfRow.holds Try.pinned (OpenSpec.ofChange fnExactLineOfSpec)

/-- ITS FALSE NEIGHBOUR: 'it returns false'. Refute it at one input. -/
def fnExactLineOfWrong : ChangeSpec := { name := "fnExactLineOf", fn := fun _ => fun
  | [d1, d2] => { results := [.lit (.bool false)], args := [d1, d2] }
  | _ => none }
def FnExactLineOfWrongFalsely : Prop := fnExactLineOfRow.holds Try.pinned (OpenSpec.ofChange fnExactLineOfWrong)

/-- 'laws.FnExactLineMoves': WHATEVER THE INPUT: true; the input reads as it did. -/
def fnExactLineMovesSpec : ChangeSpec := { name := "fnExactLineMoves", fn := fun _ => fun
  | [d1, d2] => { results := [.lit (.bool true)], args := [d1, d2] }
  | _ => none }
def fnExactLineMovesRow : OpenClaim := { program := "ytoaiaindcmihjaa", sum := "4dc91539eff5875684d9574c637d58e76c91b3e0914c3719b4a04167f54163e9", func := "loop.example/tablesthatspread/laws.FnExactLineMoves", spec := "fnExactLineMoves", apart := false }
def FnExactLineMovesSaid : Prop := fnExactLineMovesRow.holds Try.pinned (OpenSpec.ofChange fnExactLineMovesSpec)

/-- ITS FALSE NEIGHBOUR: 'it returns false'. Refute it at one input. -/
def fnExactLineMovesWrong : ChangeSpec := { name := "fnExactLineMoves", fn := fun _ => fun
  | [d1, d2] => { results := [.lit (.bool false)], args := [d1, d2] }
  | _ => none }
def FnExactLineMovesWrongFalsely : Prop := fnExactLineMovesRow.holds Try.pinned (OpenSpec.ofChange fnExactLineMovesWrong)

/- THE SECOND FORM. 'bulk': how many values and letters a reading holds, each counted each time it is reached (what is shared counts as often as it is met; a slice's spare places count too). A statement '..UptoSaid' is the law's where the arguments, and the package variables that the reading takes, are together of bulk at most 1048576: NARROWER than '..Said'. Prove '..Said' where nothing that the law and all that it calls make is longer than what came in: it says more and counts as full. Else prove '..UptoSaid'. A law counts once. -/
mutual
def uptoBulk {H : Type} : DataW H → Nat
  | .lit (.string bytes) => bytes.length + 1
  | .lit _ => 1
  | .nil => 1
  | .ptr d => uptoBulk d + 1
  | .slice elems spare => uptoBulkAll elems + uptoBulkAll spare + 1
  | .agg parts => uptoBulkAll parts + 1
  | .iface _ d => uptoBulk d + 1
  | .map entries => uptoBulkEntries entries + 1
  | .held _ => 1
def uptoBulkAll {H : Type} : List (DataW H) → Nat
  | [] => 0
  | d :: r => uptoBulk d + uptoBulkAll r
def uptoBulkEntries {H : Type} : List (Lit × DataW H) → Nat
  | [] => 0
  | x :: r => uptoBulkEntry x + uptoBulkEntries r
def uptoBulkEntry {H : Type} : Lit × DataW H → Nat
  | (.string bytes, d) => bytes.length + uptoBulk d + 1
  | (_, d) => uptoBulk d + 1
 end
def uptoSmall : (H : Type) → List (DataW H) → Bool := fun _ ds => decide (uptoBulkAll ds ≤ 1048576)
def OpenSpec.upto (s : _root_.Go.ChangeSpec) : _root_.Go.OpenSpec := { _root_.Go.OpenSpec.ofChange s with cond := some uptoSmall }

/-- 'laws.FnBucketsOf', WHERE WHAT IT READS IS OF BULK AT MOST 1048576: true; the input reads as it did. -/
def fnBucketsOfUptoRow : OpenClaim := { program := "ytoaiaindcmihjaa", sum := "4dc91539eff5875684d9574c637d58e76c91b3e0914c3719b4a04167f54163e9", func := "loop.example/tablesthatspread/laws.FnBucketsOf", spec := "fnBucketsOf", recurses := true, apart := false, narrowed := true }
def FnBucketsOfUptoSaid : Prop := fnBucketsOfUptoRow.holds Try.pinned (OpenSpec.upto fnBucketsOfSpec)

/-- 'laws.FnDirectoryOf', WHERE WHAT IT READS IS OF BULK AT MOST 1048576: true; the input reads as it did. -/
def fnDirectoryOfUptoRow : OpenClaim := { program := "ytoaiaindcmihjaa", sum := "4dc91539eff5875684d9574c637d58e76c91b3e0914c3719b4a04167f54163e9", func := "loop.example/tablesthatspread/laws.FnDirectoryOf", spec := "fnDirectoryOf", unfollowed := true, recurses := true, apart := false, narrowed := true }
def FnDirectoryOfUptoSaid : Prop := fnDirectoryOfUptoRow.holds Try.pinned (OpenSpec.upto fnDirectoryOfSpec)

/-- 'laws.FnLineOf', WHERE WHAT IT READS IS OF BULK AT MOST 1048576: true; the input reads as it did. -/
def fnLineOfUptoRow : OpenClaim := { program := "ytoaiaindcmihjaa", sum := "4dc91539eff5875684d9574c637d58e76c91b3e0914c3719b4a04167f54163e9", func := "loop.example/tablesthatspread/laws.FnLineOf", spec := "fnLineOf", apart := false, narrowed := true }
def FnLineOfUptoSaid : Prop := fnLineOfUptoRow.holds Try.pinned (OpenSpec.upto fnLineOfSpec)

/-- 'laws.FnLineMoves', WHERE WHAT IT READS IS OF BULK AT MOST 1048576: true; the input reads as it did. -/
def fnLineMovesUptoRow : OpenClaim := { program := "ytoaiaindcmihjaa", sum := "4dc91539eff5875684d9574c637d58e76c91b3e0914c3719b4a04167f54163e9", func := "loop.example/tablesthatspread/laws.FnLineMoves", spec := "fnLineMoves", apart := false, narrowed := true }
def FnLineMovesUptoSaid : Prop := fnLineMovesUptoRow.holds Try.pinned (OpenSpec.upto fnLineMovesSpec)

/-- 'laws.FnExactBucketsOf', WHERE WHAT IT READS IS OF BULK AT MOST 1048576: true; the input reads as it did. -/
def fnExactBucketsOfUptoRow : OpenClaim := { program := "ytoaiaindcmihjaa", sum := "4dc91539eff5875684d9574c637d58e76c91b3e0914c3719b4a04167f54163e9", func := "loop.example/tablesthatspread/laws.FnExactBucketsOf", spec := "fnExactBucketsOf", recurses := true, apart := false, narrowed := true }
def FnExactBucketsOfUptoSaid : Prop := fnExactBucketsOfUptoRow.holds Try.pinned (OpenSpec.upto fnExactBucketsOfSpec)

/-- 'laws.FnExactDirectoryOf', WHERE WHAT IT READS IS OF BULK AT MOST 1048576: true; the input reads as it did. -/
def fnExactDirectoryOfUptoRow : OpenClaim := { program := "ytoaiaindcmihjaa", sum := "4dc91539eff5875684d9574c637d58e76c91b3e0914c3719b4a04167f54163e9", func := "loop.example/tablesthatspread/laws.FnExactDirectoryOf", spec := "fnExactDirectoryOf", unfollowed := true, recurses := true, apart := false, narrowed := true }
def FnExactDirectoryOfUptoSaid : Prop := fnExactDirectoryOfUptoRow.holds Try.pinned (OpenSpec.upto fnExactDirectoryOfSpec)

/-- 'laws.FnExactLineOf', WHERE WHAT IT READS IS OF BULK AT MOST 1048576: true; the input reads as it did. -/
def fnExactLineOfUptoRow : OpenClaim := { program := "ytoaiaindcmihjaa", sum := "4dc91539eff5875684d9574c637d58e76c91b3e0914c3719b4a04167f54163e9", func := "loop.example/tablesthatspread/laws.FnExactLineOf", spec := "fnExactLineOf", apart := false, narrowed := true }
def FnExactLineOfUptoSaid : Prop := fnExactLineOfUptoRow.holds Try.pinned (OpenSpec.upto fnExactLineOfSpec)

/-- 'laws.FnExactLineMoves', WHERE WHAT IT READS IS OF BULK AT MOST 1048576: true; the input reads as it did. -/
def fnExactLineMovesUptoRow : OpenClaim := { program := "ytoaiaindcmihjaa", sum := "4dc91539eff5875684d9574c637d58e76c91b3e0914c3719b4a04167f54163e9", func := "loop.example/tablesthatspread/laws.FnExactLineMoves", spec := "fnExactLineMoves", apart := false, narrowed := true }
def FnExactLineMovesUptoSaid : Prop := fnExactLineMovesUptoRow.holds Try.pinned (OpenSpec.upto fnExactLineMovesSpec)

end Rows
end Go.Proofs.Ytoaiaindcmihjaa
