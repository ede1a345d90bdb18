/-
  No cell of these rows narrows 'for every input' (looked for: loops, veiled, ifaces, maps, wideKeys, modest, calm, conditions, laid).
  DERIVED. THE GIVEN ROWS OF THIS SEAT. 16 by the template 'for every input the law returns true; each argument reads behind the call as it read before'; 0 by the template 'total and deterministic' (their statements: YtapkalpmnldhpaaTotals.lean).
  GIVEN WITH THE SEED: the statements are not yours to turn. If you find one false, say at which input.
  Laid BY PROGRAM, IN A SANDBOX (cutbox-rows.mjs): the forced cells as the released guide's own fill.sh prints them over the translation d22ee76ea5d1f3f9… (all of the seat's roots in one cut). By AI agents, Wed Nov 11 2026. No macro, syntax, notation, axiom, sorry.
-/
import Derived.Test.YtapkalpmnldhpaaChecked
import GoSem.Claim
import GoSem.ClaimJoined
import GoSem.ClaimMapViews
import Derived.JoinedTies
import Derived.KernelRfl
namespace Go.Proofs.Ytapkalpmnldhpaa
/- THE CELL 'sum', in the pinned program and in every row, IS THE sha256 OF THE DUMP (.gsa) THAT YtapkalpmnldhpaaProg.lean LOADS. Nothing in Lean hashes anything: it is a label: what it is worth is what the hold of that sum in a sandbox is worth. -/
noncomputable def Try.pinned : Pinned := { name := "ytapkalpmnldhpaa", sum := "d22ee76ea5d1f3f995215f1b971d564aa6fcfc9e18bb607888e554cb841231c1", checked := Try.checked }
namespace Rows
def none {H : Type} : Left H := { results := [], args := [] }

/-- 'laws.FnExactHashOf': WHATEVER THE INPUT: true; the input reads as it did. -/
def fnExactHashOfSpec : ChangeSpec := { name := "fnExactHashOf", fn := fun _ => fun
  | [d1, d2, d3, d4] => { results := [.lit (.bool true)], args := [d1, d2, d3, d4] }
  | _ => none }
def fnExactHashOfRow : OpenClaim := { program := "ytapkalpmnldhpaa", sum := "d22ee76ea5d1f3f995215f1b971d564aa6fcfc9e18bb607888e554cb841231c1", func := "loop.example/tablesthatspread/laws.FnExactHashOf", spec := "fnExactHashOf", unfollowed := true, recurses := true, apart := false }
def FnExactHashOfSaid : Prop := fnExactHashOfRow.holds Try.pinned (OpenSpec.ofChange fnExactHashOfSpec)

/-- ITS FALSE NEIGHBOUR: 'it returns false'. Refute it at one input. -/
def fnExactHashOfWrong : ChangeSpec := { name := "fnExactHashOf", fn := fun _ => fun
  | [d1, d2, d3, d4] => { results := [.lit (.bool false)], args := [d1, d2, d3, d4] }
  | _ => none }
def FnExactHashOfWrongFalsely : Prop := fnExactHashOfRow.holds Try.pinned (OpenSpec.ofChange fnExactHashOfWrong)

/-- 'laws.FnExactMeetingsOf': WHATEVER THE INPUT: true; the input reads as it did. -/
def fnExactMeetingsOfSpec : ChangeSpec := { name := "fnExactMeetingsOf", fn := fun _ => fun
  | [d1, d2, d3, d4] => { results := [.lit (.bool true)], args := [d1, d2, d3, d4] }
  | _ => none }
def fnExactMeetingsOfRow : OpenClaim := { program := "ytapkalpmnldhpaa", sum := "d22ee76ea5d1f3f995215f1b971d564aa6fcfc9e18bb607888e554cb841231c1", func := "loop.example/tablesthatspread/laws.FnExactMeetingsOf", spec := "fnExactMeetingsOf", unfollowed := true, recurses := true, apart := false }
def FnExactMeetingsOfSaid : Prop := fnExactMeetingsOfRow.holds Try.pinned (OpenSpec.ofChange fnExactMeetingsOfSpec)

/-- ITS FALSE NEIGHBOUR: 'it returns false'. Refute it at one input. -/
def fnExactMeetingsOfWrong : ChangeSpec := { name := "fnExactMeetingsOf", fn := fun _ => fun
  | [d1, d2, d3, d4] => { results := [.lit (.bool false)], args := [d1, d2, d3, d4] }
  | _ => none }
def FnExactMeetingsOfWrongFalsely : Prop := fnExactMeetingsOfRow.holds Try.pinned (OpenSpec.ofChange fnExactMeetingsOfWrong)

/-- 'laws.FnExactPairCount': WHATEVER THE INPUT: true; the input reads as it did. -/
def fnExactPairCountSpec : ChangeSpec := { name := "fnExactPairCount", fn := fun _ => fun
  | [d1, d2, d3] => { results := [.lit (.bool true)], args := [d1, d2, d3] }
  | _ => none }
def fnExactPairCountRow : OpenClaim := { program := "ytapkalpmnldhpaa", sum := "d22ee76ea5d1f3f995215f1b971d564aa6fcfc9e18bb607888e554cb841231c1", func := "loop.example/tablesthatspread/laws.FnExactPairCount", spec := "fnExactPairCount", unfollowed := true, recurses := true, apart := false }
def FnExactPairCountSaid : Prop := fnExactPairCountRow.holds Try.pinned (OpenSpec.ofChange fnExactPairCountSpec)

/-- ITS FALSE NEIGHBOUR: 'it returns false'. Refute it at one input. -/
def fnExactPairCountWrong : ChangeSpec := { name := "fnExactPairCount", fn := fun _ => fun
  | [d1, d2, d3] => { results := [.lit (.bool false)], args := [d1, d2, d3] }
  | _ => none }
def FnExactPairCountWrongFalsely : Prop := fnExactPairCountRow.holds Try.pinned (OpenSpec.ofChange fnExactPairCountWrong)

/-- 'laws.FnExactApartBy': WHATEVER THE INPUT: true; the input reads as it did. -/
def fnExactApartBySpec : ChangeSpec := { name := "fnExactApartBy", fn := fun _ => fun
  | [d1, d2] => { results := [.lit (.bool true)], args := [d1, d2] }
  | _ => none }
def fnExactApartByRow : OpenClaim := { program := "ytapkalpmnldhpaa", sum := "d22ee76ea5d1f3f995215f1b971d564aa6fcfc9e18bb607888e554cb841231c1", func := "loop.example/tablesthatspread/laws.FnExactApartBy", spec := "fnExactApartBy", unfollowed := true, recurses := true, apart := false }
def FnExactApartBySaid : Prop := fnExactApartByRow.holds Try.pinned (OpenSpec.ofChange fnExactApartBySpec)

/-- ITS FALSE NEIGHBOUR: 'it returns false'. Refute it at one input. -/
def fnExactApartByWrong : ChangeSpec := { name := "fnExactApartBy", fn := fun _ => fun
  | [d1, d2] => { results := [.lit (.bool false)], args := [d1, d2] }
  | _ => none }
def FnExactApartByWrongFalsely : Prop := fnExactApartByRow.holds Try.pinned (OpenSpec.ofChange fnExactApartByWrong)

/-- 'laws.FnExactLeastApart': WHATEVER THE INPUT: true; the input reads as it did. -/
def fnExactLeastApartSpec : ChangeSpec := { name := "fnExactLeastApart", fn := fun _ => fun
  | [d] => { results := [.lit (.bool true)], args := [d] }
  | _ => none }
def fnExactLeastApartRow : OpenClaim := { program := "ytapkalpmnldhpaa", sum := "d22ee76ea5d1f3f995215f1b971d564aa6fcfc9e18bb607888e554cb841231c1", func := "loop.example/tablesthatspread/laws.FnExactLeastApart", spec := "fnExactLeastApart", unfollowed := true, recurses := true, apart := false }
def FnExactLeastApartSaid : Prop := fnExactLeastApartRow.holds Try.pinned (OpenSpec.ofChange fnExactLeastApartSpec)

/-- ITS FALSE NEIGHBOUR: 'it returns false'. Refute it at one input. -/
def fnExactLeastApartWrong : ChangeSpec := { name := "fnExactLeastApart", fn := fun _ => fun
  | [d] => { results := [.lit (.bool false)], args := [d] }
  | _ => none }
def FnExactLeastApartWrongFalsely : Prop := fnExactLeastApartRow.holds Try.pinned (OpenSpec.ofChange fnExactLeastApartWrong)

/-- 'laws.FnExactTwoLevels': WHATEVER THE INPUT: true; the input reads as it did. -/
def fnExactTwoLevelsSpec : ChangeSpec := { name := "fnExactTwoLevels", fn := fun _ => fun
  | [d1, d2, d3] => { results := [.lit (.bool true)], args := [d1, d2, d3] }
  | _ => none }
def fnExactTwoLevelsRow : OpenClaim := { program := "ytapkalpmnldhpaa", sum := "d22ee76ea5d1f3f995215f1b971d564aa6fcfc9e18bb607888e554cb841231c1", func := "loop.example/tablesthatspread/laws.FnExactTwoLevels", spec := "fnExactTwoLevels", unfollowed := true, recurses := true, apart := false }
def FnExactTwoLevelsSaid : Prop := fnExactTwoLevelsRow.holds Try.pinned (OpenSpec.ofChange fnExactTwoLevelsSpec)

/-- ITS FALSE NEIGHBOUR: 'it returns false'. Refute it at one input. -/
def fnExactTwoLevelsWrong : ChangeSpec := { name := "fnExactTwoLevels", fn := fun _ => fun
  | [d1, d2, d3] => { results := [.lit (.bool false)], args := [d1, d2, d3] }
  | _ => none }
def FnExactTwoLevelsWrongFalsely : Prop := fnExactTwoLevelsRow.holds Try.pinned (OpenSpec.ofChange fnExactTwoLevelsWrong)

/-- 'laws.FnExactBestLevels': WHATEVER THE INPUT: true; the input reads as it did. -/
def fnExactBestLevelsSpec : ChangeSpec := { name := "fnExactBestLevels", fn := fun _ => fun
  | [d] => { results := [.lit (.bool true)], args := [d] }
  | _ => none }
def fnExactBestLevelsRow : OpenClaim := { program := "ytapkalpmnldhpaa", sum := "d22ee76ea5d1f3f995215f1b971d564aa6fcfc9e18bb607888e554cb841231c1", func := "loop.example/tablesthatspread/laws.FnExactBestLevels", spec := "fnExactBestLevels", unfollowed := true, recurses := true, apart := false }
def FnExactBestLevelsSaid : Prop := fnExactBestLevelsRow.holds Try.pinned (OpenSpec.ofChange fnExactBestLevelsSpec)

/-- ITS FALSE NEIGHBOUR: 'it returns false'. Refute it at one input. -/
def fnExactBestLevelsWrong : ChangeSpec := { name := "fnExactBestLevels", fn := fun _ => fun
  | [d] => { results := [.lit (.bool false)], args := [d] }
  | _ => none }
def FnExactBestLevelsWrongFalsely : Prop := fnExactBestLevelsRow.holds Try.pinned (OpenSpec.ofChange fnExactBestLevelsWrong)

/-- 'laws.FnExactShiftsFor': WHATEVER THE INPUT: true; the input reads as it did. -/
def fnExactShiftsForSpec : ChangeSpec := { name := "fnExactShiftsFor", fn := fun _ => fun
  | [d1, d2] => { results := [.lit (.bool true)], args := [d1, d2] }
  | _ => none }
def fnExactShiftsForRow : OpenClaim := { program := "ytapkalpmnldhpaa", sum := "d22ee76ea5d1f3f995215f1b971d564aa6fcfc9e18bb607888e554cb841231c1", func := "loop.example/tablesthatspread/laws.FnExactShiftsFor", spec := "fnExactShiftsFor", recurses := true, apart := false }
def FnExactShiftsForSaid : Prop := fnExactShiftsForRow.holds Try.pinned (OpenSpec.ofChange fnExactShiftsForSpec)

/-- ITS FALSE NEIGHBOUR: 'it returns false'. Refute it at one input. -/
def fnExactShiftsForWrong : ChangeSpec := { name := "fnExactShiftsFor", fn := fun _ => fun
  | [d1, d2] => { results := [.lit (.bool false)], args := [d1, d2] }
  | _ => none }
def FnExactShiftsForWrongFalsely : Prop := fnExactShiftsForRow.holds Try.pinned (OpenSpec.ofChange fnExactShiftsForWrong)

/-- 'laws.FnHashOf': WHATEVER THE INPUT: true; the input reads as it did. -/
def fnHashOfSpec : ChangeSpec := { name := "fnHashOf", fn := fun _ => fun
  | [d] => { results := [.lit (.bool true)], args := [d] }
  | _ => none }
def fnHashOfRow : OpenClaim := { program := "ytapkalpmnldhpaa", sum := "d22ee76ea5d1f3f995215f1b971d564aa6fcfc9e18bb607888e554cb841231c1", func := "loop.example/tablesthatspread/laws.FnHashOf", spec := "fnHashOf", unfollowed := true, recurses := true, apart := false }
def FnHashOfSaid : Prop := fnHashOfRow.holds Try.pinned (OpenSpec.ofChange fnHashOfSpec)

/-- ITS FALSE NEIGHBOUR: 'it returns false'. Refute it at one input. -/
def fnHashOfWrong : ChangeSpec := { name := "fnHashOf", fn := fun _ => fun
  | [d] => { results := [.lit (.bool false)], args := [d] }
  | _ => none }
def FnHashOfWrongFalsely : Prop := fnHashOfRow.holds Try.pinned (OpenSpec.ofChange fnHashOfWrong)

/-- 'laws.FnMeetingsOf': WHATEVER THE INPUT: true; the input reads as it did. -/
def fnMeetingsOfSpec : ChangeSpec := { name := "fnMeetingsOf", fn := fun _ => fun
  | [d] => { results := [.lit (.bool true)], args := [d] }
  | _ => none }
def fnMeetingsOfRow : OpenClaim := { program := "ytapkalpmnldhpaa", sum := "d22ee76ea5d1f3f995215f1b971d564aa6fcfc9e18bb607888e554cb841231c1", func := "loop.example/tablesthatspread/laws.FnMeetingsOf", spec := "fnMeetingsOf", unfollowed := true, recurses := true, apart := false }
def FnMeetingsOfSaid : Prop := fnMeetingsOfRow.holds Try.pinned (OpenSpec.ofChange fnMeetingsOfSpec)

/-- ITS FALSE NEIGHBOUR: 'it returns false'. Refute it at one input. -/
def fnMeetingsOfWrong : ChangeSpec := { name := "fnMeetingsOf", fn := fun _ => fun
  | [d] => { results := [.lit (.bool false)], args := [d] }
  | _ => none }
def FnMeetingsOfWrongFalsely : Prop := fnMeetingsOfRow.holds Try.pinned (OpenSpec.ofChange fnMeetingsOfWrong)

/-- 'laws.FnPairCount': WHATEVER THE INPUT: true; the input reads as it did. -/
def fnPairCountSpec : ChangeSpec := { name := "fnPairCount", fn := fun _ => fun
  | [d] => { results := [.lit (.bool true)], args := [d] }
  | _ => none }
def fnPairCountRow : OpenClaim := { program := "ytapkalpmnldhpaa", sum := "d22ee76ea5d1f3f995215f1b971d564aa6fcfc9e18bb607888e554cb841231c1", func := "loop.example/tablesthatspread/laws.FnPairCount", spec := "fnPairCount", unfollowed := true, recurses := true, apart := false }
def FnPairCountSaid : Prop := fnPairCountRow.holds Try.pinned (OpenSpec.ofChange fnPairCountSpec)

/-- ITS FALSE NEIGHBOUR: 'it returns false'. Refute it at one input. -/
def fnPairCountWrong : ChangeSpec := { name := "fnPairCount", fn := fun _ => fun
  | [d] => { results := [.lit (.bool false)], args := [d] }
  | _ => none }
def FnPairCountWrongFalsely : Prop := fnPairCountRow.holds Try.pinned (OpenSpec.ofChange fnPairCountWrong)

/-- 'laws.FnApartBy': WHATEVER THE INPUT: true; the input reads as it did. -/
def fnApartBySpec : ChangeSpec := { name := "fnApartBy", fn := fun _ => fun
  | [d] => { results := [.lit (.bool true)], args := [d] }
  | _ => none }
def fnApartByRow : OpenClaim := { program := "ytapkalpmnldhpaa", sum := "d22ee76ea5d1f3f995215f1b971d564aa6fcfc9e18bb607888e554cb841231c1", func := "loop.example/tablesthatspread/laws.FnApartBy", spec := "fnApartBy", unfollowed := true, recurses := true, apart := false }
def FnApartBySaid : Prop := fnApartByRow.holds Try.pinned (OpenSpec.ofChange fnApartBySpec)

/-- ITS FALSE NEIGHBOUR: 'it returns false'. Refute it at one input. -/
def fnApartByWrong : ChangeSpec := { name := "fnApartBy", fn := fun _ => fun
  | [d] => { results := [.lit (.bool false)], args := [d] }
  | _ => none }
def FnApartByWrongFalsely : Prop := fnApartByRow.holds Try.pinned (OpenSpec.ofChange fnApartByWrong)

/-- 'laws.FnLeastApart': WHATEVER THE INPUT: true; the input reads as it did. -/
def fnLeastApartSpec : ChangeSpec := { name := "fnLeastApart", fn := fun _ => fun
  | [d] => { results := [.lit (.bool true)], args := [d] }
  | _ => none }
def fnLeastApartRow : OpenClaim := { program := "ytapkalpmnldhpaa", sum := "d22ee76ea5d1f3f995215f1b971d564aa6fcfc9e18bb607888e554cb841231c1", func := "loop.example/tablesthatspread/laws.FnLeastApart", spec := "fnLeastApart", unfollowed := true, recurses := true, apart := false }
def FnLeastApartSaid : Prop := fnLeastApartRow.holds Try.pinned (OpenSpec.ofChange fnLeastApartSpec)

/-- ITS FALSE NEIGHBOUR: 'it returns false'. Refute it at one input. -/
def fnLeastApartWrong : ChangeSpec := { name := "fnLeastApart", fn := fun _ => fun
  | [d] => { results := [.lit (.bool false)], args := [d] }
  | _ => none }
def FnLeastApartWrongFalsely : Prop := fnLeastApartRow.holds Try.pinned (OpenSpec.ofChange fnLeastApartWrong)

/-- 'laws.FnTwoLevels': WHATEVER THE INPUT: true; the input reads as it did. -/
def fnTwoLevelsSpec : ChangeSpec := { name := "fnTwoLevels", fn := fun _ => fun
  | [d] => { results := [.lit (.bool true)], args := [d] }
  | _ => none }
def fnTwoLevelsRow : OpenClaim := { program := "ytapkalpmnldhpaa", sum := "d22ee76ea5d1f3f995215f1b971d564aa6fcfc9e18bb607888e554cb841231c1", func := "loop.example/tablesthatspread/laws.FnTwoLevels", spec := "fnTwoLevels", unfollowed := true, recurses := true, apart := false }
def FnTwoLevelsSaid : Prop := fnTwoLevelsRow.holds Try.pinned (OpenSpec.ofChange fnTwoLevelsSpec)

/-- ITS FALSE NEIGHBOUR: 'it returns false'. Refute it at one input. -/
def fnTwoLevelsWrong : ChangeSpec := { name := "fnTwoLevels", fn := fun _ => fun
  | [d] => { results := [.lit (.bool false)], args := [d] }
  | _ => none }
def FnTwoLevelsWrongFalsely : Prop := fnTwoLevelsRow.holds Try.pinned (OpenSpec.ofChange fnTwoLevelsWrong)

/-- 'laws.FnBestLevels': WHATEVER THE INPUT: true; the input reads as it did. -/
def fnBestLevelsSpec : ChangeSpec := { name := "fnBestLevels", fn := fun _ => fun
  | [d] => { results := [.lit (.bool true)], args := [d] }
  | _ => none }
def fnBestLevelsRow : OpenClaim := { program := "ytapkalpmnldhpaa", sum := "d22ee76ea5d1f3f995215f1b971d564aa6fcfc9e18bb607888e554cb841231c1", func := "loop.example/tablesthatspread/laws.FnBestLevels", spec := "fnBestLevels", unfollowed := true, recurses := true, apart := false }
def FnBestLevelsSaid : Prop := fnBestLevelsRow.holds Try.pinned (OpenSpec.ofChange fnBestLevelsSpec)

/-- ITS FALSE NEIGHBOUR: 'it returns false'. Refute it at one input. -/
def fnBestLevelsWrong : ChangeSpec := { name := "fnBestLevels", fn := fun _ => fun
  | [d] => { results := [.lit (.bool false)], args := [d] }
  | _ => none }
def FnBestLevelsWrongFalsely : Prop := fnBestLevelsRow.holds Try.pinned (OpenSpec.ofChange fnBestLevelsWrong)

/-- 'laws.FnShiftsFor': WHATEVER THE INPUT: true; the input reads as it did. -/
def fnShiftsForSpec : ChangeSpec := { name := "fnShiftsFor", fn := fun _ => fun
  | [d] => { results := [.lit (.bool true)], args := [d] }
  | _ => none }
def fnShiftsForRow : OpenClaim := { program := "ytapkalpmnldhpaa", sum := "d22ee76ea5d1f3f995215f1b971d564aa6fcfc9e18bb607888e554cb841231c1", func := "loop.example/tablesthatspread/laws.FnShiftsFor", spec := "fnShiftsFor", recurses := true, apart := false }
def FnShiftsForSaid : Prop := fnShiftsForRow.holds Try.pinned (OpenSpec.ofChange fnShiftsForSpec)

/-- ITS FALSE NEIGHBOUR: 'it returns false'. Refute it at one input. -/
def fnShiftsForWrong : ChangeSpec := { name := "fnShiftsFor", fn := fun _ => fun
  | [d] => { results := [.lit (.bool false)], args := [d] }
  | _ => none }
def FnShiftsForWrongFalsely : Prop := fnShiftsForRow.holds Try.pinned (OpenSpec.ofChange fnShiftsForWrong)

/- THE SECOND FORM. 'bulk': how many values and letters a reading holds, each counted each time it is reached (what is shared counts as often as it is met; a slice's spare places count too). A statement '..UptoSaid' is the law's where the arguments, and the package variables that the reading takes, are together of bulk at most 1048576: NARROWER than '..Said'. Prove '..Said' where nothing that the law and all that it calls make is longer than what came in: it says more and counts as full. Else prove '..UptoSaid'. A law counts once. -/
mutual
def uptoBulk {H : Type} : DataW H → Nat
  | .lit (.string bytes) => bytes.length + 1
  | .lit _ => 1
  | .nil => 1
  | .ptr d => uptoBulk d + 1
  | .slice elems spare => uptoBulkAll elems + uptoBulkAll spare + 1
  | .agg parts => uptoBulkAll parts + 1
  | .iface _ d => uptoBulk d + 1
  | .map entries => uptoBulkEntries entries + 1
  | .held _ => 1
def uptoBulkAll {H : Type} : List (DataW H) → Nat
  | [] => 0
  | d :: r => uptoBulk d + uptoBulkAll r
def uptoBulkEntries {H : Type} : List (Lit × DataW H) → Nat
  | [] => 0
  | x :: r => uptoBulkEntry x + uptoBulkEntries r
def uptoBulkEntry {H : Type} : Lit × DataW H → Nat
  | (.string bytes, d) => bytes.length + uptoBulk d + 1
  | (_, d) => uptoBulk d + 1
 end
def uptoSmall : (H : Type) → List (DataW H) → Bool := fun _ ds => decide (uptoBulkAll ds ≤ 1048576)
def OpenSpec.upto (s : _root_.Go.ChangeSpec) : _root_.Go.OpenSpec := { _root_.Go.OpenSpec.ofChange s with cond := some uptoSmall }

/-- 'laws.FnExactHashOf', WHERE WHAT IT READS IS OF BULK AT MOST 1048576: true; the input reads as it did. -/
def fnExactHashOfUptoRow : OpenClaim := { program := "ytapkalpmnldhpaa", sum := "d22ee76ea5d1f3f995215f1b971d564aa6fcfc9e18bb607888e554cb841231c1", func := "loop.example/tablesthatspread/laws.FnExactHashOf", spec := "fnExactHashOf", unfollowed := true, recurses := true, apart := false, narrowed := true }
def FnExactHashOfUptoSaid : Prop := fnExactHashOfUptoRow.holds Try.pinned (OpenSpec.upto fnExactHashOfSpec)

/-- 'laws.FnExactMeetingsOf', WHERE WHAT IT READS IS OF BULK AT MOST 1048576: true; the input reads as it did. -/
def fnExactMeetingsOfUptoRow : OpenClaim := { program := "ytapkalpmnldhpaa", sum := "d22ee76ea5d1f3f995215f1b971d564aa6fcfc9e18bb607888e554cb841231c1", func := "loop.example/tablesthatspread/laws.FnExactMeetingsOf", spec := "fnExactMeetingsOf", unfollowed := true, recurses := true, apart := false, narrowed := true }
def FnExactMeetingsOfUptoSaid : Prop := fnExactMeetingsOfUptoRow.holds Try.pinned (OpenSpec.upto fnExactMeetingsOfSpec)

/-- 'laws.FnExactPairCount', WHERE WHAT IT READS IS OF BULK AT MOST 1048576: true; the input reads as it did. -/
def fnExactPairCountUptoRow : OpenClaim := { program := "ytapkalpmnldhpaa", sum := "d22ee76ea5d1f3f995215f1b971d564aa6fcfc9e18bb607888e554cb841231c1", func := "loop.example/tablesthatspread/laws.FnExactPairCount", spec := "fnExactPairCount", unfollowed := true, recurses := true, apart := false, narrowed := true }
def FnExactPairCountUptoSaid : Prop := fnExactPairCountUptoRow.holds Try.pinned (OpenSpec.upto fnExactPairCountSpec)

/-- 'laws.FnExactApartBy', WHERE WHAT IT READS IS OF BULK AT MOST 1048576: true; the input reads as it did. -/
def fnExactApartByUptoRow : OpenClaim := { program := "ytapkalpmnldhpaa", sum := "d22ee76ea5d1f3f995215f1b971d564aa6fcfc9e18bb607888e554cb841231c1", func := "loop.example/tablesthatspread/laws.FnExactApartBy", spec := "fnExactApartBy", unfollowed := true, recurses := true, apart := false, narrowed := true }
def FnExactApartByUptoSaid : Prop := fnExactApartByUptoRow.holds Try.pinned (OpenSpec.upto fnExactApartBySpec)

/-- 'laws.FnExactLeastApart', WHERE WHAT IT READS IS OF BULK AT MOST 1048576: true; the input reads as it did. -/
def fnExactLeastApartUptoRow : OpenClaim := { program := "ytapkalpmnldhpaa", sum := "d22ee76ea5d1f3f995215f1b971d564aa6fcfc9e18bb607888e554cb841231c1", func := "loop.example/tablesthatspread/laws.FnExactLeastApart", spec := "fnExactLeastApart", unfollowed := true, recurses := true, apart := false, narrowed := true }
def FnExactLeastApartUptoSaid : Prop := fnExactLeastApartUptoRow.holds Try.pinned (OpenSpec.upto fnExactLeastApartSpec)

/-- 'laws.FnExactTwoLevels', WHERE WHAT IT READS IS OF BULK AT MOST 1048576: true; the input reads as it did. -/
def fnExactTwoLevelsUptoRow : OpenClaim := { program := "ytapkalpmnldhpaa", sum := "d22ee76ea5d1f3f995215f1b971d564aa6fcfc9e18bb607888e554cb841231c1", func := "loop.example/tablesthatspread/laws.FnExactTwoLevels", spec := "fnExactTwoLevels", unfollowed := true, recurses := true, apart := false, narrowed := true }
def FnExactTwoLevelsUptoSaid : Prop := fnExactTwoLevelsUptoRow.holds Try.pinned (OpenSpec.upto fnExactTwoLevelsSpec)

/-- 'laws.FnExactBestLevels', WHERE WHAT IT READS IS OF BULK AT MOST 1048576: true; the input reads as it did. -/
def fnExactBestLevelsUptoRow : OpenClaim := { program := "ytapkalpmnldhpaa", sum := "d22ee76ea5d1f3f995215f1b971d564aa6fcfc9e18bb607888e554cb841231c1", func := "loop.example/tablesthatspread/laws.FnExactBestLevels", spec := "fnExactBestLevels", unfollowed := true, recurses := true, apart := false, narrowed := true }
def FnExactBestLevelsUptoSaid : Prop := fnExactBestLevelsUptoRow.holds Try.pinned (OpenSpec.upto fnExactBestLevelsSpec)

/-- 'laws.FnExactShiftsFor', WHERE WHAT IT READS IS OF BULK AT MOST 1048576: true; the input reads as it did. -/
def fnExactShiftsForUptoRow : OpenClaim := { program := "ytapkalpmnldhpaa", sum := "d22ee76ea5d1f3f995215f1b971d564aa6fcfc9e18bb607888e554cb841231c1", func := "loop.example/tablesthatspread/laws.FnExactShiftsFor", spec := "fnExactShiftsFor", recurses := true, apart := false, narrowed := true }
def FnExactShiftsForUptoSaid : Prop := fnExactShiftsForUptoRow.holds Try.pinned (OpenSpec.upto fnExactShiftsForSpec)

/-- 'laws.FnHashOf', WHERE WHAT IT READS IS OF BULK AT MOST 1048576: true; the input reads as it did. -/
def fnHashOfUptoRow : OpenClaim := { program := "ytapkalpmnldhpaa", sum := "d22ee76ea5d1f3f995215f1b971d564aa6fcfc9e18bb607888e554cb841231c1", func := "loop.example/tablesthatspread/laws.FnHashOf", spec := "fnHashOf", unfollowed := true, recurses := true, apart := false, narrowed := true }
def FnHashOfUptoSaid : Prop := fnHashOfUptoRow.holds Try.pinned (OpenSpec.upto fnHashOfSpec)

/-- 'laws.FnMeetingsOf', WHERE WHAT IT READS IS OF BULK AT MOST 1048576: true; the input reads as it did. -/
def fnMeetingsOfUptoRow : OpenClaim := { program := "ytapkalpmnldhpaa", sum := "d22ee76ea5d1f3f995215f1b971d564aa6fcfc9e18bb607888e554cb841231c1", func := "loop.example/tablesthatspread/laws.FnMeetingsOf", spec := "fnMeetingsOf", unfollowed := true, recurses := true, apart := false, narrowed := true }
def FnMeetingsOfUptoSaid : Prop := fnMeetingsOfUptoRow.holds Try.pinned (OpenSpec.upto fnMeetingsOfSpec)

/-- 'laws.FnPairCount', WHERE WHAT IT READS IS OF BULK AT MOST 1048576: true; the input reads as it did. -/
def fnPairCountUptoRow : OpenClaim := { program := "ytapkalpmnldhpaa", sum := "d22ee76ea5d1f3f995215f1b971d564aa6fcfc9e18bb607888e554cb841231c1", func := "loop.example/tablesthatspread/laws.FnPairCount", spec := "fnPairCount", unfollowed := true, recurses := true, apart := false, narrowed := true }
def FnPairCountUptoSaid : Prop := fnPairCountUptoRow.holds Try.pinned (OpenSpec.upto fnPairCountSpec)

/-- 'laws.FnApartBy', WHERE WHAT IT READS IS OF BULK AT MOST 1048576: true; the input reads as it did. -/
def fnApartByUptoRow : OpenClaim := { program := "ytapkalpmnldhpaa", sum := "d22ee76ea5d1f3f995215f1b971d564aa6fcfc9e18bb607888e554cb841231c1", func := "loop.example/tablesthatspread/laws.FnApartBy", spec := "fnApartBy", unfollowed := true, recurses := true, apart := false, narrowed := true }
def FnApartByUptoSaid : Prop := fnApartByUptoRow.holds Try.pinned (OpenSpec.upto fnApartBySpec)

/-- 'laws.FnLeastApart', WHERE WHAT IT READS IS OF BULK AT MOST 1048576: true; the input reads as it did. -/
def fnLeastApartUptoRow : OpenClaim := { program := "ytapkalpmnldhpaa", sum := "d22ee76ea5d1f3f995215f1b971d564aa6fcfc9e18bb607888e554cb841231c1", func := "loop.example/tablesthatspread/laws.FnLeastApart", spec := "fnLeastApart", unfollowed := true, recurses := true, apart := false, narrowed := true }
def FnLeastApartUptoSaid : Prop := fnLeastApartUptoRow.holds Try.pinned (OpenSpec.upto fnLeastApartSpec)

/-- 'laws.FnTwoLevels', WHERE WHAT IT READS IS OF BULK AT MOST 1048576: true; the input reads as it did. -/
def fnTwoLevelsUptoRow : OpenClaim := { program := "ytapkalpmnldhpaa", sum := "d22ee76ea5d1f3f995215f1b971d564aa6fcfc9e18bb607888e554cb841231c1", func := "loop.example/tablesthatspread/laws.FnTwoLevels", spec := "fnTwoLevels", unfollowed := true, recurses := true, apart := false, narrowed := true }
def FnTwoLevelsUptoSaid : Prop := fnTwoLevelsUptoRow.holds Try.pinned (OpenSpec.upto fnTwoLevelsSpec)

/-- 'laws.FnBestLevels', WHERE WHAT IT READS IS OF BULK AT MOST 1048576: true; the input reads as it did. -/
def fnBestLevelsUptoRow : OpenClaim := { program := "ytapkalpmnldhpaa", sum := "d22ee76ea5d1f3f995215f1b971d564aa6fcfc9e18bb607888e554cb841231c1", func := "loop.example/tablesthatspread/laws.FnBestLevels", spec := "fnBestLevels", unfollowed := true, recurses := true, apart := false, narrowed := true }
def FnBestLevelsUptoSaid : Prop := fnBestLevelsUptoRow.holds Try.pinned (OpenSpec.upto fnBestLevelsSpec)

/-- 'laws.FnShiftsFor', WHERE WHAT IT READS IS OF BULK AT MOST 1048576: true; the input reads as it did. -/
def fnShiftsForUptoRow : OpenClaim := { program := "ytapkalpmnldhpaa", sum := "d22ee76ea5d1f3f995215f1b971d564aa6fcfc9e18bb607888e554cb841231c1", func := "loop.example/tablesthatspread/laws.FnShiftsFor", spec := "fnShiftsFor", recurses := true, apart := false, narrowed := true }
def FnShiftsForUptoSaid : Prop := fnShiftsForUptoRow.holds Try.pinned (OpenSpec.upto fnShiftsForSpec)

end Rows
end Go.Proofs.Ytapkalpmnldhpaa
