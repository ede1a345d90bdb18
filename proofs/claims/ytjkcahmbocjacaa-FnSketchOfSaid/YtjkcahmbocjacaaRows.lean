/-
  No cell of these rows narrows 'for every input' (looked for: loops, veiled, ifaces, maps, wideKeys, modest, calm, conditions, laid).
  DERIVED. THE GIVEN ROWS OF THIS SEAT. 18 by the template 'for every input the law returns true; each argument reads behind the call as it read before'; 0 by the template 'total and deterministic' (their statements: YtjkcahmbocjacaaTotals.lean).
  GIVEN WITH THE SEED: the statements are not yours to turn. If you find one false, say at which input.
  Laid BY PROGRAM, IN A SANDBOX (cutbox-rows.mjs): the forced cells as the released guide's own fill.sh prints them over the translation 6318fdca624922ad… (all of the seat's roots in one cut). By AI agents, Wed Nov 11 2026. No macro, syntax, notation, axiom, sorry.
-/
import Derived.Test.YtjkcahmbocjacaaChecked
import GoSem.Claim
import GoSem.ClaimJoined
import GoSem.ClaimMapViews
import Derived.JoinedTies
import Derived.KernelRfl
namespace Go.Proofs.Ytjkcahmbocjacaa
/- THE CELL 'sum', in the pinned program and in every row, IS THE sha256 OF THE DUMP (.gsa) THAT YtjkcahmbocjacaaProg.lean LOADS. Nothing in Lean hashes anything: it is a label: what it is worth is what the hold of that sum in a sandbox is worth. -/
noncomputable def Try.pinned : Pinned := { name := "ytjkcahmbocjacaa", sum := "6318fdca624922ad388ce31cd1ed9e1e8a97596ed6db7383eeb6915f9d00fe5e", checked := Try.checked }
namespace Rows
def none {H : Type} : Left H := { results := [], args := [] }

/-- 'laws.FnValidSieve': WHATEVER THE INPUT: true; the input reads as it did. -/
def fnValidSieveSpec : ChangeSpec := { name := "fnValidSieve", fn := fun _ => fun
  | [d] => { results := [.lit (.bool true)], args := [d] }
  | _ => none }
def fnValidSieveRow : OpenClaim := { program := "ytjkcahmbocjacaa", sum := "6318fdca624922ad388ce31cd1ed9e1e8a97596ed6db7383eeb6915f9d00fe5e", func := "loop.example/tablesthatspread/laws.FnValidSieve", spec := "fnValidSieve", unfollowed := true, recurses := true, apart := false }
def FnValidSieveSaid : Prop := fnValidSieveRow.holds Try.pinned (OpenSpec.ofChange fnValidSieveSpec)

/-- ITS FALSE NEIGHBOUR: 'it returns false'. Refute it at one input. -/
def fnValidSieveWrong : ChangeSpec := { name := "fnValidSieve", fn := fun _ => fun
  | [d] => { results := [.lit (.bool false)], args := [d] }
  | _ => none }
def FnValidSieveWrongFalsely : Prop := fnValidSieveRow.holds Try.pinned (OpenSpec.ofChange fnValidSieveWrong)

/-- 'laws.FnMarksOf': WHATEVER THE INPUT: true; the input reads as it did. -/
def fnMarksOfSpec : ChangeSpec := { name := "fnMarksOf", fn := fun _ => fun
  | [d] => { results := [.lit (.bool true)], args := [d] }
  | _ => none }
def fnMarksOfRow : OpenClaim := { program := "ytjkcahmbocjacaa", sum := "6318fdca624922ad388ce31cd1ed9e1e8a97596ed6db7383eeb6915f9d00fe5e", func := "loop.example/tablesthatspread/laws.FnMarksOf", spec := "fnMarksOf", unfollowed := true, recurses := true, apart := false }
def FnMarksOfSaid : Prop := fnMarksOfRow.holds Try.pinned (OpenSpec.ofChange fnMarksOfSpec)

/-- ITS FALSE NEIGHBOUR: 'it returns false'. Refute it at one input. -/
def fnMarksOfWrong : ChangeSpec := { name := "fnMarksOf", fn := fun _ => fun
  | [d] => { results := [.lit (.bool false)], args := [d] }
  | _ => none }
def FnMarksOfWrongFalsely : Prop := fnMarksOfRow.holds Try.pinned (OpenSpec.ofChange fnMarksOfWrong)

/-- 'laws.FnAddKey': WHATEVER THE INPUT: true; the input reads as it did. -/
def fnAddKeySpec : ChangeSpec := { name := "fnAddKey", fn := fun _ => fun
  | [d] => { results := [.lit (.bool true)], args := [d] }
  | _ => none }
def fnAddKeyRow : OpenClaim := { program := "ytjkcahmbocjacaa", sum := "6318fdca624922ad388ce31cd1ed9e1e8a97596ed6db7383eeb6915f9d00fe5e", func := "loop.example/tablesthatspread/laws.FnAddKey", spec := "fnAddKey", unfollowed := true, recurses := true, apart := false }
def FnAddKeySaid : Prop := fnAddKeyRow.holds Try.pinned (OpenSpec.ofChange fnAddKeySpec)

/-- ITS FALSE NEIGHBOUR: 'it returns false'. Refute it at one input. -/
def fnAddKeyWrong : ChangeSpec := { name := "fnAddKey", fn := fun _ => fun
  | [d] => { results := [.lit (.bool false)], args := [d] }
  | _ => none }
def FnAddKeyWrongFalsely : Prop := fnAddKeyRow.holds Try.pinned (OpenSpec.ofChange fnAddKeyWrong)

/-- 'laws.FnMayHave': WHATEVER THE INPUT: true; the input reads as it did. -/
def fnMayHaveSpec : ChangeSpec := { name := "fnMayHave", fn := fun _ => fun
  | [d] => { results := [.lit (.bool true)], args := [d] }
  | _ => none }
def fnMayHaveRow : OpenClaim := { program := "ytjkcahmbocjacaa", sum := "6318fdca624922ad388ce31cd1ed9e1e8a97596ed6db7383eeb6915f9d00fe5e", func := "loop.example/tablesthatspread/laws.FnMayHave", spec := "fnMayHave", unfollowed := true, recurses := true, apart := false }
def FnMayHaveSaid : Prop := fnMayHaveRow.holds Try.pinned (OpenSpec.ofChange fnMayHaveSpec)

/-- ITS FALSE NEIGHBOUR: 'it returns false'. Refute it at one input. -/
def fnMayHaveWrong : ChangeSpec := { name := "fnMayHave", fn := fun _ => fun
  | [d] => { results := [.lit (.bool false)], args := [d] }
  | _ => none }
def FnMayHaveWrongFalsely : Prop := fnMayHaveRow.holds Try.pinned (OpenSpec.ofChange fnMayHaveWrong)

/-- 'laws.FnHowMany': WHATEVER THE INPUT: true; the input reads as it did. -/
def fnHowManySpec : ChangeSpec := { name := "fnHowMany", fn := fun _ => fun
  | [d] => { results := [.lit (.bool true)], args := [d] }
  | _ => none }
def fnHowManyRow : OpenClaim := { program := "ytjkcahmbocjacaa", sum := "6318fdca624922ad388ce31cd1ed9e1e8a97596ed6db7383eeb6915f9d00fe5e", func := "loop.example/tablesthatspread/laws.FnHowMany", spec := "fnHowMany", unfollowed := true, recurses := true, apart := false }
def FnHowManySaid : Prop := fnHowManyRow.holds Try.pinned (OpenSpec.ofChange fnHowManySpec)

/-- ITS FALSE NEIGHBOUR: 'it returns false'. Refute it at one input. -/
def fnHowManyWrong : ChangeSpec := { name := "fnHowMany", fn := fun _ => fun
  | [d] => { results := [.lit (.bool false)], args := [d] }
  | _ => none }
def FnHowManyWrongFalsely : Prop := fnHowManyRow.holds Try.pinned (OpenSpec.ofChange fnHowManyWrong)

/-- 'laws.FnCountKeys': WHATEVER THE INPUT: true; the input reads as it did. -/
def fnCountKeysSpec : ChangeSpec := { name := "fnCountKeys", fn := fun _ => fun
  | [d] => { results := [.lit (.bool true)], args := [d] }
  | _ => none }
def fnCountKeysRow : OpenClaim := { program := "ytjkcahmbocjacaa", sum := "6318fdca624922ad388ce31cd1ed9e1e8a97596ed6db7383eeb6915f9d00fe5e", func := "loop.example/tablesthatspread/laws.FnCountKeys", spec := "fnCountKeys", unfollowed := true, recurses := true, apart := false }
def FnCountKeysSaid : Prop := fnCountKeysRow.holds Try.pinned (OpenSpec.ofChange fnCountKeysSpec)

/-- ITS FALSE NEIGHBOUR: 'it returns false'. Refute it at one input. -/
def fnCountKeysWrong : ChangeSpec := { name := "fnCountKeys", fn := fun _ => fun
  | [d] => { results := [.lit (.bool false)], args := [d] }
  | _ => none }
def FnCountKeysWrongFalsely : Prop := fnCountKeysRow.holds Try.pinned (OpenSpec.ofChange fnCountKeysWrong)

/-- 'laws.FnGuessOf': WHATEVER THE INPUT: true; the input reads as it did. -/
def fnGuessOfSpec : ChangeSpec := { name := "fnGuessOf", fn := fun _ => fun
  | [d] => { results := [.lit (.bool true)], args := [d] }
  | _ => none }
def fnGuessOfRow : OpenClaim := { program := "ytjkcahmbocjacaa", sum := "6318fdca624922ad388ce31cd1ed9e1e8a97596ed6db7383eeb6915f9d00fe5e", func := "loop.example/tablesthatspread/laws.FnGuessOf", spec := "fnGuessOf", unfollowed := true, recurses := true, apart := false }
def FnGuessOfSaid : Prop := fnGuessOfRow.holds Try.pinned (OpenSpec.ofChange fnGuessOfSpec)

/-- ITS FALSE NEIGHBOUR: 'it returns false'. Refute it at one input. -/
def fnGuessOfWrong : ChangeSpec := { name := "fnGuessOf", fn := fun _ => fun
  | [d] => { results := [.lit (.bool false)], args := [d] }
  | _ => none }
def FnGuessOfWrongFalsely : Prop := fnGuessOfRow.holds Try.pinned (OpenSpec.ofChange fnGuessOfWrong)

/-- 'laws.FnSketchOf': WHATEVER THE INPUT: true; the input reads as it did. -/
def fnSketchOfSpec : ChangeSpec := { name := "fnSketchOf", fn := fun _ => fun
  | [d] => { results := [.lit (.bool true)], args := [d] }
  | _ => none }
def fnSketchOfRow : OpenClaim := { program := "ytjkcahmbocjacaa", sum := "6318fdca624922ad388ce31cd1ed9e1e8a97596ed6db7383eeb6915f9d00fe5e", func := "loop.example/tablesthatspread/laws.FnSketchOf", spec := "fnSketchOf", unfollowed := true, recurses := true, apart := false }
def FnSketchOfSaid : Prop := fnSketchOfRow.holds Try.pinned (OpenSpec.ofChange fnSketchOfSpec)

/-- ITS FALSE NEIGHBOUR: 'it returns false'. Refute it at one input. -/
def fnSketchOfWrong : ChangeSpec := { name := "fnSketchOf", fn := fun _ => fun
  | [d] => { results := [.lit (.bool false)], args := [d] }
  | _ => none }
def FnSketchOfWrongFalsely : Prop := fnSketchOfRow.holds Try.pinned (OpenSpec.ofChange fnSketchOfWrong)

/-- 'laws.FnMeetCount': WHATEVER THE INPUT: true; the input reads as it did. -/
def fnMeetCountSpec : ChangeSpec := { name := "fnMeetCount", fn := fun _ => fun
  | [d] => { results := [.lit (.bool true)], args := [d] }
  | _ => none }
def fnMeetCountRow : OpenClaim := { program := "ytjkcahmbocjacaa", sum := "6318fdca624922ad388ce31cd1ed9e1e8a97596ed6db7383eeb6915f9d00fe5e", func := "loop.example/tablesthatspread/laws.FnMeetCount", spec := "fnMeetCount", unfollowed := true, recurses := true, apart := false }
def FnMeetCountSaid : Prop := fnMeetCountRow.holds Try.pinned (OpenSpec.ofChange fnMeetCountSpec)

/-- ITS FALSE NEIGHBOUR: 'it returns false'. Refute it at one input. -/
def fnMeetCountWrong : ChangeSpec := { name := "fnMeetCount", fn := fun _ => fun
  | [d] => { results := [.lit (.bool false)], args := [d] }
  | _ => none }
def FnMeetCountWrongFalsely : Prop := fnMeetCountRow.holds Try.pinned (OpenSpec.ofChange fnMeetCountWrong)

/-- 'laws.FnExactValidSieve': WHATEVER THE INPUT: true; the input reads as it did. -/
def fnExactValidSieveSpec : ChangeSpec := { name := "fnExactValidSieve", fn := fun _ => fun
  | [d] => { results := [.lit (.bool true)], args := [d] }
  | _ => none }
def fnExactValidSieveRow : OpenClaim := { program := "ytjkcahmbocjacaa", sum := "6318fdca624922ad388ce31cd1ed9e1e8a97596ed6db7383eeb6915f9d00fe5e", func := "loop.example/tablesthatspread/laws.FnExactValidSieve", spec := "fnExactValidSieve", apart := false }
def FnExactValidSieveSaid : Prop := fnExactValidSieveRow.holds Try.pinned (OpenSpec.ofChange fnExactValidSieveSpec)

/-- ITS FALSE NEIGHBOUR: 'it returns false'. Refute it at one input. -/
def fnExactValidSieveWrong : ChangeSpec := { name := "fnExactValidSieve", fn := fun _ => fun
  | [d] => { results := [.lit (.bool false)], args := [d] }
  | _ => none }
def FnExactValidSieveWrongFalsely : Prop := fnExactValidSieveRow.holds Try.pinned (OpenSpec.ofChange fnExactValidSieveWrong)

/-- 'laws.FnExactMarksOf': WHATEVER THE INPUT: true; the input reads as it did. -/
def fnExactMarksOfSpec : ChangeSpec := { name := "fnExactMarksOf", fn := fun _ => fun
  | [d1, d2] => { results := [.lit (.bool true)], args := [d1, d2] }
  | _ => none }
def fnExactMarksOfRow : OpenClaim := { program := "ytjkcahmbocjacaa", sum := "6318fdca624922ad388ce31cd1ed9e1e8a97596ed6db7383eeb6915f9d00fe5e", func := "loop.example/tablesthatspread/laws.FnExactMarksOf", spec := "fnExactMarksOf", unfollowed := true, recurses := true, apart := false }
def FnExactMarksOfSaid : Prop := fnExactMarksOfRow.holds Try.pinned (OpenSpec.ofChange fnExactMarksOfSpec)

/-- ITS FALSE NEIGHBOUR: 'it returns false'. Refute it at one input. -/
def fnExactMarksOfWrong : ChangeSpec := { name := "fnExactMarksOf", fn := fun _ => fun
  | [d1, d2] => { results := [.lit (.bool false)], args := [d1, d2] }
  | _ => none }
def FnExactMarksOfWrongFalsely : Prop := fnExactMarksOfRow.holds Try.pinned (OpenSpec.ofChange fnExactMarksOfWrong)

/-- 'laws.FnExactAddKey': WHATEVER THE INPUT: true; the input reads as it did. -/
def fnExactAddKeySpec : ChangeSpec := { name := "fnExactAddKey", fn := fun _ => fun
  | [d1, d2] => { results := [.lit (.bool true)], args := [d1, d2] }
  | _ => none }
def fnExactAddKeyRow : OpenClaim := { program := "ytjkcahmbocjacaa", sum := "6318fdca624922ad388ce31cd1ed9e1e8a97596ed6db7383eeb6915f9d00fe5e", func := "loop.example/tablesthatspread/laws.FnExactAddKey", spec := "fnExactAddKey", unfollowed := true, recurses := true, apart := false }
def FnExactAddKeySaid : Prop := fnExactAddKeyRow.holds Try.pinned (OpenSpec.ofChange fnExactAddKeySpec)

/-- ITS FALSE NEIGHBOUR: 'it returns false'. Refute it at one input. -/
def fnExactAddKeyWrong : ChangeSpec := { name := "fnExactAddKey", fn := fun _ => fun
  | [d1, d2] => { results := [.lit (.bool false)], args := [d1, d2] }
  | _ => none }
def FnExactAddKeyWrongFalsely : Prop := fnExactAddKeyRow.holds Try.pinned (OpenSpec.ofChange fnExactAddKeyWrong)

/-- 'laws.FnExactMayHave': WHATEVER THE INPUT: true; the input reads as it did. -/
def fnExactMayHaveSpec : ChangeSpec := { name := "fnExactMayHave", fn := fun _ => fun
  | [d1, d2] => { results := [.lit (.bool true)], args := [d1, d2] }
  | _ => none }
def fnExactMayHaveRow : OpenClaim := { program := "ytjkcahmbocjacaa", sum := "6318fdca624922ad388ce31cd1ed9e1e8a97596ed6db7383eeb6915f9d00fe5e", func := "loop.example/tablesthatspread/laws.FnExactMayHave", spec := "fnExactMayHave", unfollowed := true, recurses := true, apart := false }
def FnExactMayHaveSaid : Prop := fnExactMayHaveRow.holds Try.pinned (OpenSpec.ofChange fnExactMayHaveSpec)

/-- ITS FALSE NEIGHBOUR: 'it returns false'. Refute it at one input. -/
def fnExactMayHaveWrong : ChangeSpec := { name := "fnExactMayHave", fn := fun _ => fun
  | [d1, d2] => { results := [.lit (.bool false)], args := [d1, d2] }
  | _ => none }
def FnExactMayHaveWrongFalsely : Prop := fnExactMayHaveRow.holds Try.pinned (OpenSpec.ofChange fnExactMayHaveWrong)

/-- 'laws.FnExactHowMany': WHATEVER THE INPUT: true; the input reads as it did. -/
def fnExactHowManySpec : ChangeSpec := { name := "fnExactHowMany", fn := fun _ => fun
  | [d] => { results := [.lit (.bool true)], args := [d] }
  | _ => none }
def fnExactHowManyRow : OpenClaim := { program := "ytjkcahmbocjacaa", sum := "6318fdca624922ad388ce31cd1ed9e1e8a97596ed6db7383eeb6915f9d00fe5e", func := "loop.example/tablesthatspread/laws.FnExactHowMany", spec := "fnExactHowMany", unfollowed := true, recurses := true, apart := false }
def FnExactHowManySaid : Prop := fnExactHowManyRow.holds Try.pinned (OpenSpec.ofChange fnExactHowManySpec)

/-- ITS FALSE NEIGHBOUR: 'it returns false'. Refute it at one input. -/
def fnExactHowManyWrong : ChangeSpec := { name := "fnExactHowMany", fn := fun _ => fun
  | [d] => { results := [.lit (.bool false)], args := [d] }
  | _ => none }
def FnExactHowManyWrongFalsely : Prop := fnExactHowManyRow.holds Try.pinned (OpenSpec.ofChange fnExactHowManyWrong)

/-- 'laws.FnExactCountKeys': WHATEVER THE INPUT: true; the input reads as it did. -/
def fnExactCountKeysSpec : ChangeSpec := { name := "fnExactCountKeys", fn := fun _ => fun
  | [d1, d2, d3] => { results := [.lit (.bool true)], args := [d1, d2, d3] }
  | _ => none }
def fnExactCountKeysRow : OpenClaim := { program := "ytjkcahmbocjacaa", sum := "6318fdca624922ad388ce31cd1ed9e1e8a97596ed6db7383eeb6915f9d00fe5e", func := "loop.example/tablesthatspread/laws.FnExactCountKeys", spec := "fnExactCountKeys", unfollowed := true, recurses := true, apart := false }
def FnExactCountKeysSaid : Prop := fnExactCountKeysRow.holds Try.pinned (OpenSpec.ofChange fnExactCountKeysSpec)

/-- ITS FALSE NEIGHBOUR: 'it returns false'. Refute it at one input. -/
def fnExactCountKeysWrong : ChangeSpec := { name := "fnExactCountKeys", fn := fun _ => fun
  | [d1, d2, d3] => { results := [.lit (.bool false)], args := [d1, d2, d3] }
  | _ => none }
def FnExactCountKeysWrongFalsely : Prop := fnExactCountKeysRow.holds Try.pinned (OpenSpec.ofChange fnExactCountKeysWrong)

/-- 'laws.FnExactGuessOf': WHATEVER THE INPUT: true; the input reads as it did. -/
def fnExactGuessOfSpec : ChangeSpec := { name := "fnExactGuessOf", fn := fun _ => fun
  | [d1, d2] => { results := [.lit (.bool true)], args := [d1, d2] }
  | _ => none }
def fnExactGuessOfRow : OpenClaim := { program := "ytjkcahmbocjacaa", sum := "6318fdca624922ad388ce31cd1ed9e1e8a97596ed6db7383eeb6915f9d00fe5e", func := "loop.example/tablesthatspread/laws.FnExactGuessOf", spec := "fnExactGuessOf", unfollowed := true, recurses := true, apart := false }
def FnExactGuessOfSaid : Prop := fnExactGuessOfRow.holds Try.pinned (OpenSpec.ofChange fnExactGuessOfSpec)

/-- ITS FALSE NEIGHBOUR: 'it returns false'. Refute it at one input. -/
def fnExactGuessOfWrong : ChangeSpec := { name := "fnExactGuessOf", fn := fun _ => fun
  | [d1, d2] => { results := [.lit (.bool false)], args := [d1, d2] }
  | _ => none }
def FnExactGuessOfWrongFalsely : Prop := fnExactGuessOfRow.holds Try.pinned (OpenSpec.ofChange fnExactGuessOfWrong)

/-- 'laws.FnExactSketchOf': WHATEVER THE INPUT: true; the input reads as it did. -/
def fnExactSketchOfSpec : ChangeSpec := { name := "fnExactSketchOf", fn := fun _ => fun
  | [d1, d2] => { results := [.lit (.bool true)], args := [d1, d2] }
  | _ => none }
def fnExactSketchOfRow : OpenClaim := { program := "ytjkcahmbocjacaa", sum := "6318fdca624922ad388ce31cd1ed9e1e8a97596ed6db7383eeb6915f9d00fe5e", func := "loop.example/tablesthatspread/laws.FnExactSketchOf", spec := "fnExactSketchOf", unfollowed := true, recurses := true, apart := false }
def FnExactSketchOfSaid : Prop := fnExactSketchOfRow.holds Try.pinned (OpenSpec.ofChange fnExactSketchOfSpec)

/-- ITS FALSE NEIGHBOUR: 'it returns false'. Refute it at one input. -/
def fnExactSketchOfWrong : ChangeSpec := { name := "fnExactSketchOf", fn := fun _ => fun
  | [d1, d2] => { results := [.lit (.bool false)], args := [d1, d2] }
  | _ => none }
def FnExactSketchOfWrongFalsely : Prop := fnExactSketchOfRow.holds Try.pinned (OpenSpec.ofChange fnExactSketchOfWrong)

/-- 'laws.FnExactMeetCount': WHATEVER THE INPUT: true; the input reads as it did. -/
def fnExactMeetCountSpec : ChangeSpec := { name := "fnExactMeetCount", fn := fun _ => fun
  | [d1, d2, d3] => { results := [.lit (.bool true)], args := [d1, d2, d3] }
  | _ => none }
def fnExactMeetCountRow : OpenClaim := { program := "ytjkcahmbocjacaa", sum := "6318fdca624922ad388ce31cd1ed9e1e8a97596ed6db7383eeb6915f9d00fe5e", func := "loop.example/tablesthatspread/laws.FnExactMeetCount", spec := "fnExactMeetCount", unfollowed := true, recurses := true, apart := false }
def FnExactMeetCountSaid : Prop := fnExactMeetCountRow.holds Try.pinned (OpenSpec.ofChange fnExactMeetCountSpec)

/-- ITS FALSE NEIGHBOUR: 'it returns false'. Refute it at one input. -/
def fnExactMeetCountWrong : ChangeSpec := { name := "fnExactMeetCount", fn := fun _ => fun
  | [d1, d2, d3] => { results := [.lit (.bool false)], args := [d1, d2, d3] }
  | _ => none }
def FnExactMeetCountWrongFalsely : Prop := fnExactMeetCountRow.holds Try.pinned (OpenSpec.ofChange fnExactMeetCountWrong)

/- THE SECOND FORM. 'bulk': how many values and letters a reading holds, each counted each time it is reached (what is shared counts as often as it is met; a slice's spare places count too). A statement '..UptoSaid' is the law's where the arguments, and the package variables that the reading takes, are together of bulk at most 1048576: NARROWER than '..Said'. Prove '..Said' where nothing that the law and all that it calls make is longer than what came in: it says more and counts as full. Else prove '..UptoSaid'. A law counts once. -/
mutual
def uptoBulk {H : Type} : DataW H → Nat
  | .lit (.string bytes) => bytes.length + 1
  | .lit _ => 1
  | .nil => 1
  | .ptr d => uptoBulk d + 1
  | .slice elems spare => uptoBulkAll elems + uptoBulkAll spare + 1
  | .agg parts => uptoBulkAll parts + 1
  | .iface _ d => uptoBulk d + 1
  | .map entries => uptoBulkEntries entries + 1
  | .held _ => 1
def uptoBulkAll {H : Type} : List (DataW H) → Nat
  | [] => 0
  | d :: r => uptoBulk d + uptoBulkAll r
def uptoBulkEntries {H : Type} : List (Lit × DataW H) → Nat
  | [] => 0
  | x :: r => uptoBulkEntry x + uptoBulkEntries r
def uptoBulkEntry {H : Type} : Lit × DataW H → Nat
  | (.string bytes, d) => bytes.length + uptoBulk d + 1
  | (_, d) => uptoBulk d + 1
 end
def uptoSmall : (H : Type) → List (DataW H) → Bool := fun _ ds => decide (uptoBulkAll ds ≤ 1048576)
def OpenSpec.upto (s : _root_.Go.ChangeSpec) : _root_.Go.OpenSpec := { _root_.Go.OpenSpec.ofChange s with cond := some uptoSmall }

/-- 'laws.FnValidSieve', WHERE WHAT IT READS IS OF BULK AT MOST 1048576: true; the input reads as it did. -/
def fnValidSieveUptoRow : OpenClaim := { program := "ytjkcahmbocjacaa", sum := "6318fdca624922ad388ce31cd1ed9e1e8a97596ed6db7383eeb6915f9d00fe5e", func := "loop.example/tablesthatspread/laws.FnValidSieve", spec := "fnValidSieve", unfollowed := true, recurses := true, apart := false, narrowed := true }
def FnValidSieveUptoSaid : Prop := fnValidSieveUptoRow.holds Try.pinned (OpenSpec.upto fnValidSieveSpec)

/-- 'laws.FnMarksOf', WHERE WHAT IT READS IS OF BULK AT MOST 1048576: true; the input reads as it did. -/
def fnMarksOfUptoRow : OpenClaim := { program := "ytjkcahmbocjacaa", sum := "6318fdca624922ad388ce31cd1ed9e1e8a97596ed6db7383eeb6915f9d00fe5e", func := "loop.example/tablesthatspread/laws.FnMarksOf", spec := "fnMarksOf", unfollowed := true, recurses := true, apart := false, narrowed := true }
def FnMarksOfUptoSaid : Prop := fnMarksOfUptoRow.holds Try.pinned (OpenSpec.upto fnMarksOfSpec)

/-- 'laws.FnAddKey', WHERE WHAT IT READS IS OF BULK AT MOST 1048576: true; the input reads as it did. -/
def fnAddKeyUptoRow : OpenClaim := { program := "ytjkcahmbocjacaa", sum := "6318fdca624922ad388ce31cd1ed9e1e8a97596ed6db7383eeb6915f9d00fe5e", func := "loop.example/tablesthatspread/laws.FnAddKey", spec := "fnAddKey", unfollowed := true, recurses := true, apart := false, narrowed := true }
def FnAddKeyUptoSaid : Prop := fnAddKeyUptoRow.holds Try.pinned (OpenSpec.upto fnAddKeySpec)

/-- 'laws.FnMayHave', WHERE WHAT IT READS IS OF BULK AT MOST 1048576: true; the input reads as it did. -/
def fnMayHaveUptoRow : OpenClaim := { program := "ytjkcahmbocjacaa", sum := "6318fdca624922ad388ce31cd1ed9e1e8a97596ed6db7383eeb6915f9d00fe5e", func := "loop.example/tablesthatspread/laws.FnMayHave", spec := "fnMayHave", unfollowed := true, recurses := true, apart := false, narrowed := true }
def FnMayHaveUptoSaid : Prop := fnMayHaveUptoRow.holds Try.pinned (OpenSpec.upto fnMayHaveSpec)

/-- 'laws.FnHowMany', WHERE WHAT IT READS IS OF BULK AT MOST 1048576: true; the input reads as it did. -/
def fnHowManyUptoRow : OpenClaim := { program := "ytjkcahmbocjacaa", sum := "6318fdca624922ad388ce31cd1ed9e1e8a97596ed6db7383eeb6915f9d00fe5e", func := "loop.example/tablesthatspread/laws.FnHowMany", spec := "fnHowMany", unfollowed := true, recurses := true, apart := false, narrowed := true }
def FnHowManyUptoSaid : Prop := fnHowManyUptoRow.holds Try.pinned (OpenSpec.upto fnHowManySpec)

/-- 'laws.FnCountKeys', WHERE WHAT IT READS IS OF BULK AT MOST 1048576: true; the input reads as it did. -/
def fnCountKeysUptoRow : OpenClaim := { program := "ytjkcahmbocjacaa", sum := "6318fdca624922ad388ce31cd1ed9e1e8a97596ed6db7383eeb6915f9d00fe5e", func := "loop.example/tablesthatspread/laws.FnCountKeys", spec := "fnCountKeys", unfollowed := true, recurses := true, apart := false, narrowed := true }
def FnCountKeysUptoSaid : Prop := fnCountKeysUptoRow.holds Try.pinned (OpenSpec.upto fnCountKeysSpec)

/-- 'laws.FnGuessOf', WHERE WHAT IT READS IS OF BULK AT MOST 1048576: true; the input reads as it did. -/
def fnGuessOfUptoRow : OpenClaim := { program := "ytjkcahmbocjacaa", sum := "6318fdca624922ad388ce31cd1ed9e1e8a97596ed6db7383eeb6915f9d00fe5e", func := "loop.example/tablesthatspread/laws.FnGuessOf", spec := "fnGuessOf", unfollowed := true, recurses := true, apart := false, narrowed := true }
def FnGuessOfUptoSaid : Prop := fnGuessOfUptoRow.holds Try.pinned (OpenSpec.upto fnGuessOfSpec)

/-- 'laws.FnSketchOf', WHERE WHAT IT READS IS OF BULK AT MOST 1048576: true; the input reads as it did. -/
def fnSketchOfUptoRow : OpenClaim := { program := "ytjkcahmbocjacaa", sum := "6318fdca624922ad388ce31cd1ed9e1e8a97596ed6db7383eeb6915f9d00fe5e", func := "loop.example/tablesthatspread/laws.FnSketchOf", spec := "fnSketchOf", unfollowed := true, recurses := true, apart := false, narrowed := true }
def FnSketchOfUptoSaid : Prop := fnSketchOfUptoRow.holds Try.pinned (OpenSpec.upto fnSketchOfSpec)

/-- 'laws.FnMeetCount', WHERE WHAT IT READS IS OF BULK AT MOST 1048576: true; the input reads as it did. -/
def fnMeetCountUptoRow : OpenClaim := { program := "ytjkcahmbocjacaa", sum := "6318fdca624922ad388ce31cd1ed9e1e8a97596ed6db7383eeb6915f9d00fe5e", func := "loop.example/tablesthatspread/laws.FnMeetCount", spec := "fnMeetCount", unfollowed := true, recurses := true, apart := false, narrowed := true }
def FnMeetCountUptoSaid : Prop := fnMeetCountUptoRow.holds Try.pinned (OpenSpec.upto fnMeetCountSpec)

/-- 'laws.FnExactValidSieve', WHERE WHAT IT READS IS OF BULK AT MOST 1048576: true; the input reads as it did. -/
def fnExactValidSieveUptoRow : OpenClaim := { program := "ytjkcahmbocjacaa", sum := "6318fdca624922ad388ce31cd1ed9e1e8a97596ed6db7383eeb6915f9d00fe5e", func := "loop.example/tablesthatspread/laws.FnExactValidSieve", spec := "fnExactValidSieve", apart := false, narrowed := true }
def FnExactValidSieveUptoSaid : Prop := fnExactValidSieveUptoRow.holds Try.pinned (OpenSpec.upto fnExactValidSieveSpec)

/-- 'laws.FnExactMarksOf', WHERE WHAT IT READS IS OF BULK AT MOST 1048576: true; the input reads as it did. -/
def fnExactMarksOfUptoRow : OpenClaim := { program := "ytjkcahmbocjacaa", sum := "6318fdca624922ad388ce31cd1ed9e1e8a97596ed6db7383eeb6915f9d00fe5e", func := "loop.example/tablesthatspread/laws.FnExactMarksOf", spec := "fnExactMarksOf", unfollowed := true, recurses := true, apart := false, narrowed := true }
def FnExactMarksOfUptoSaid : Prop := fnExactMarksOfUptoRow.holds Try.pinned (OpenSpec.upto fnExactMarksOfSpec)

/-- 'laws.FnExactAddKey', WHERE WHAT IT READS IS OF BULK AT MOST 1048576: true; the input reads as it did. -/
def fnExactAddKeyUptoRow : OpenClaim := { program := "ytjkcahmbocjacaa", sum := "6318fdca624922ad388ce31cd1ed9e1e8a97596ed6db7383eeb6915f9d00fe5e", func := "loop.example/tablesthatspread/laws.FnExactAddKey", spec := "fnExactAddKey", unfollowed := true, recurses := true, apart := false, narrowed := true }
def FnExactAddKeyUptoSaid : Prop := fnExactAddKeyUptoRow.holds Try.pinned (OpenSpec.upto fnExactAddKeySpec)

/-- 'laws.FnExactMayHave', WHERE WHAT IT READS IS OF BULK AT MOST 1048576: true; the input reads as it did. -/
def fnExactMayHaveUptoRow : OpenClaim := { program := "ytjkcahmbocjacaa", sum := "6318fdca624922ad388ce31cd1ed9e1e8a97596ed6db7383eeb6915f9d00fe5e", func := "loop.example/tablesthatspread/laws.FnExactMayHave", spec := "fnExactMayHave", unfollowed := true, recurses := true, apart := false, narrowed := true }
def FnExactMayHaveUptoSaid : Prop := fnExactMayHaveUptoRow.holds Try.pinned (OpenSpec.upto fnExactMayHaveSpec)

/-- 'laws.FnExactHowMany', WHERE WHAT IT READS IS OF BULK AT MOST 1048576: true; the input reads as it did. -/
def fnExactHowManyUptoRow : OpenClaim := { program := "ytjkcahmbocjacaa", sum := "6318fdca624922ad388ce31cd1ed9e1e8a97596ed6db7383eeb6915f9d00fe5e", func := "loop.example/tablesthatspread/laws.FnExactHowMany", spec := "fnExactHowMany", unfollowed := true, recurses := true, apart := false, narrowed := true }
def FnExactHowManyUptoSaid : Prop := fnExactHowManyUptoRow.holds Try.pinned (OpenSpec.upto fnExactHowManySpec)

/-- 'laws.FnExactCountKeys', WHERE WHAT IT READS IS OF BULK AT MOST 1048576: true; the input reads as it did. -/
def fnExactCountKeysUptoRow : OpenClaim := { program := "ytjkcahmbocjacaa", sum := "6318fdca624922ad388ce31cd1ed9e1e8a97596ed6db7383eeb6915f9d00fe5e", func := "loop.example/tablesthatspread/laws.FnExactCountKeys", spec := "fnExactCountKeys", unfollowed := true, recurses := true, apart := false, narrowed := true }
def FnExactCountKeysUptoSaid : Prop := fnExactCountKeysUptoRow.holds Try.pinned (OpenSpec.upto fnExactCountKeysSpec)

/-- 'laws.FnExactGuessOf', WHERE WHAT IT READS IS OF BULK AT MOST 1048576: true; the input reads as it did. -/
def fnExactGuessOfUptoRow : OpenClaim := { program := "ytjkcahmbocjacaa", sum := "6318fdca624922ad388ce31cd1ed9e1e8a97596ed6db7383eeb6915f9d00fe5e", func := "loop.example/tablesthatspread/laws.FnExactGuessOf", spec := "fnExactGuessOf", unfollowed := true, recurses := true, apart := false, narrowed := true }
def FnExactGuessOfUptoSaid : Prop := fnExactGuessOfUptoRow.holds Try.pinned (OpenSpec.upto fnExactGuessOfSpec)

/-- 'laws.FnExactSketchOf', WHERE WHAT IT READS IS OF BULK AT MOST 1048576: true; the input reads as it did. -/
def fnExactSketchOfUptoRow : OpenClaim := { program := "ytjkcahmbocjacaa", sum := "6318fdca624922ad388ce31cd1ed9e1e8a97596ed6db7383eeb6915f9d00fe5e", func := "loop.example/tablesthatspread/laws.FnExactSketchOf", spec := "fnExactSketchOf", unfollowed := true, recurses := true, apart := false, narrowed := true }
def FnExactSketchOfUptoSaid : Prop := fnExactSketchOfUptoRow.holds Try.pinned (OpenSpec.upto fnExactSketchOfSpec)

/-- 'laws.FnExactMeetCount', WHERE WHAT IT READS IS OF BULK AT MOST 1048576: true; the input reads as it did. -/
def fnExactMeetCountUptoRow : OpenClaim := { program := "ytjkcahmbocjacaa", sum := "6318fdca624922ad388ce31cd1ed9e1e8a97596ed6db7383eeb6915f9d00fe5e", func := "loop.example/tablesthatspread/laws.FnExactMeetCount", spec := "fnExactMeetCount", unfollowed := true, recurses := true, apart := false, narrowed := true }
def FnExactMeetCountUptoSaid : Prop := fnExactMeetCountUptoRow.holds Try.pinned (OpenSpec.upto fnExactMeetCountSpec)

end Rows
end Go.Proofs.Ytjkcahmbocjacaa
