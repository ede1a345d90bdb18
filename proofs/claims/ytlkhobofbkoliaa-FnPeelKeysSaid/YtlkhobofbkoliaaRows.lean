/-
  No cell of these rows narrows 'for every input' (looked for: loops, veiled, ifaces, maps, wideKeys, modest, calm, conditions, laid).
  DERIVED. THE GIVEN ROWS OF THIS SEAT. 16 by the template 'for every input the law returns true; each argument reads behind the call as it read before'; 0 by the template 'total and deterministic' (their statements: YtlkhobofbkoliaaTotals.lean).
  GIVEN WITH THE SEED: the statements are not yours to turn. If you find one false, say at which input.
  Laid BY PROGRAM, IN A SANDBOX (cutbox-rows.mjs): the forced cells as the released guide's own fill.sh prints them over the translation d7bb2dc978839cd7… (all of the seat's roots in one cut). By AI agents, Wed Nov 11 2026. No macro, syntax, notation, axiom, sorry.
-/
import Derived.Test.YtlkhobofbkoliaaChecked
import GoSem.Claim
import GoSem.ClaimJoined
import GoSem.ClaimMapViews
import Derived.JoinedTies
import Derived.KernelRfl
namespace Go.Proofs.Ytlkhobofbkoliaa
/- THE CELL 'sum', in the pinned program and in every row, IS THE sha256 OF THE DUMP (.gsa) THAT YtlkhobofbkoliaaProg.lean LOADS. Nothing in Lean hashes anything: it is a label: what it is worth is what the hold of that sum in a sandbox is worth. -/
noncomputable def Try.pinned : Pinned := { name := "ytlkhobofbkoliaa", sum := "d7bb2dc978839cd7558ee9af6cae5f5550f668d4761c433d9cd38602e25bd628", checked := Try.checked }
namespace Rows
def none {H : Type} : Left H := { results := [], args := [] }

/-- 'laws.FnFairTable': WHATEVER THE INPUT: true; the input reads as it did. -/
def fnFairTableSpec : ChangeSpec := { name := "fnFairTable", fn := fun _ => fun
  | [d] => { results := [.lit (.bool true)], args := [d] }
  | _ => none }
def fnFairTableRow : OpenClaim := { program := "ytlkhobofbkoliaa", sum := "d7bb2dc978839cd7558ee9af6cae5f5550f668d4761c433d9cd38602e25bd628", func := "loop.example/tablesthatspread/laws.FnFairTable", spec := "fnFairTable", unfollowed := true, recurses := true, apart := false }
def FnFairTableSaid : Prop := fnFairTableRow.holds Try.pinned (OpenSpec.ofChange fnFairTableSpec)

/-- ITS FALSE NEIGHBOUR: 'it returns false'. Refute it at one input. -/
def fnFairTableWrong : ChangeSpec := { name := "fnFairTable", fn := fun _ => fun
  | [d] => { results := [.lit (.bool false)], args := [d] }
  | _ => none }
def FnFairTableWrongFalsely : Prop := fnFairTableRow.holds Try.pinned (OpenSpec.ofChange fnFairTableWrong)

/-- 'laws.FnTakeOut': WHATEVER THE INPUT: true; the input reads as it did. -/
def fnTakeOutSpec : ChangeSpec := { name := "fnTakeOut", fn := fun _ => fun
  | [d] => { results := [.lit (.bool true)], args := [d] }
  | _ => none }
def fnTakeOutRow : OpenClaim := { program := "ytlkhobofbkoliaa", sum := "d7bb2dc978839cd7558ee9af6cae5f5550f668d4761c433d9cd38602e25bd628", func := "loop.example/tablesthatspread/laws.FnTakeOut", spec := "fnTakeOut", unfollowed := true, recurses := true, apart := false }
def FnTakeOutSaid : Prop := fnTakeOutRow.holds Try.pinned (OpenSpec.ofChange fnTakeOutSpec)

/-- ITS FALSE NEIGHBOUR: 'it returns false'. Refute it at one input. -/
def fnTakeOutWrong : ChangeSpec := { name := "fnTakeOut", fn := fun _ => fun
  | [d] => { results := [.lit (.bool false)], args := [d] }
  | _ => none }
def FnTakeOutWrongFalsely : Prop := fnTakeOutRow.holds Try.pinned (OpenSpec.ofChange fnTakeOutWrong)

/-- 'laws.FnValidPairs': WHATEVER THE INPUT: true; the input reads as it did. -/
def fnValidPairsSpec : ChangeSpec := { name := "fnValidPairs", fn := fun _ => fun
  | [d] => { results := [.lit (.bool true)], args := [d] }
  | _ => none }
def fnValidPairsRow : OpenClaim := { program := "ytlkhobofbkoliaa", sum := "d7bb2dc978839cd7558ee9af6cae5f5550f668d4761c433d9cd38602e25bd628", func := "loop.example/tablesthatspread/laws.FnValidPairs", spec := "fnValidPairs", apart := false }
def FnValidPairsSaid : Prop := fnValidPairsRow.holds Try.pinned (OpenSpec.ofChange fnValidPairsSpec)

/-- ITS FALSE NEIGHBOUR: 'it returns false'. Refute it at one input. -/
def fnValidPairsWrong : ChangeSpec := { name := "fnValidPairs", fn := fun _ => fun
  | [d] => { results := [.lit (.bool false)], args := [d] }
  | _ => none }
def FnValidPairsWrongFalsely : Prop := fnValidPairsRow.holds Try.pinned (OpenSpec.ofChange fnValidPairsWrong)

/-- 'laws.FnGroupsOf': WHATEVER THE INPUT: true; the input reads as it did. -/
def fnGroupsOfSpec : ChangeSpec := { name := "fnGroupsOf", fn := fun _ => fun
  | [d] => { results := [.lit (.bool true)], args := [d] }
  | _ => none }
def fnGroupsOfRow : OpenClaim := { program := "ytlkhobofbkoliaa", sum := "d7bb2dc978839cd7558ee9af6cae5f5550f668d4761c433d9cd38602e25bd628", func := "loop.example/tablesthatspread/laws.FnGroupsOf", spec := "fnGroupsOf", apart := false }
def FnGroupsOfSaid : Prop := fnGroupsOfRow.holds Try.pinned (OpenSpec.ofChange fnGroupsOfSpec)

/-- ITS FALSE NEIGHBOUR: 'it returns false'. Refute it at one input. -/
def fnGroupsOfWrong : ChangeSpec := { name := "fnGroupsOf", fn := fun _ => fun
  | [d] => { results := [.lit (.bool false)], args := [d] }
  | _ => none }
def FnGroupsOfWrongFalsely : Prop := fnGroupsOfRow.holds Try.pinned (OpenSpec.ofChange fnGroupsOfWrong)

/-- 'laws.FnIsRoomy': WHATEVER THE INPUT: true; the input reads as it did. -/
def fnIsRoomySpec : ChangeSpec := { name := "fnIsRoomy", fn := fun _ => fun
  | [d] => { results := [.lit (.bool true)], args := [d] }
  | _ => none }
def fnIsRoomyRow : OpenClaim := { program := "ytlkhobofbkoliaa", sum := "d7bb2dc978839cd7558ee9af6cae5f5550f668d4761c433d9cd38602e25bd628", func := "loop.example/tablesthatspread/laws.FnIsRoomy", spec := "fnIsRoomy", recurses := true, apart := false }
def FnIsRoomySaid : Prop := fnIsRoomyRow.holds Try.pinned (OpenSpec.ofChange fnIsRoomySpec)

/-- ITS FALSE NEIGHBOUR: 'it returns false'. Refute it at one input. -/
def fnIsRoomyWrong : ChangeSpec := { name := "fnIsRoomy", fn := fun _ => fun
  | [d] => { results := [.lit (.bool false)], args := [d] }
  | _ => none }
def FnIsRoomyWrongFalsely : Prop := fnIsRoomyRow.holds Try.pinned (OpenSpec.ofChange fnIsRoomyWrong)

/-- 'laws.FnPlaceAll': WHATEVER THE INPUT: true; the input reads as it did. -/
def fnPlaceAllSpec : ChangeSpec := { name := "fnPlaceAll", fn := fun _ => fun
  | [d] => { results := [.lit (.bool true)], args := [d] }
  | _ => none }
def fnPlaceAllRow : OpenClaim := { program := "ytlkhobofbkoliaa", sum := "d7bb2dc978839cd7558ee9af6cae5f5550f668d4761c433d9cd38602e25bd628", func := "loop.example/tablesthatspread/laws.FnPlaceAll", spec := "fnPlaceAll", recurses := true, apart := false }
def FnPlaceAllSaid : Prop := fnPlaceAllRow.holds Try.pinned (OpenSpec.ofChange fnPlaceAllSpec)

/-- ITS FALSE NEIGHBOUR: 'it returns false'. Refute it at one input. -/
def fnPlaceAllWrong : ChangeSpec := { name := "fnPlaceAll", fn := fun _ => fun
  | [d] => { results := [.lit (.bool false)], args := [d] }
  | _ => none }
def FnPlaceAllWrongFalsely : Prop := fnPlaceAllRow.holds Try.pinned (OpenSpec.ofChange fnPlaceAllWrong)

/-- 'laws.FnKickAll': WHATEVER THE INPUT: true; the input reads as it did. -/
def fnKickAllSpec : ChangeSpec := { name := "fnKickAll", fn := fun _ => fun
  | [d] => { results := [.lit (.bool true)], args := [d] }
  | _ => none }
def fnKickAllRow : OpenClaim := { program := "ytlkhobofbkoliaa", sum := "d7bb2dc978839cd7558ee9af6cae5f5550f668d4761c433d9cd38602e25bd628", func := "loop.example/tablesthatspread/laws.FnKickAll", spec := "fnKickAll", apart := false }
def FnKickAllSaid : Prop := fnKickAllRow.holds Try.pinned (OpenSpec.ofChange fnKickAllSpec)

/-- ITS FALSE NEIGHBOUR: 'it returns false'. Refute it at one input. -/
def fnKickAllWrong : ChangeSpec := { name := "fnKickAll", fn := fun _ => fun
  | [d] => { results := [.lit (.bool false)], args := [d] }
  | _ => none }
def FnKickAllWrongFalsely : Prop := fnKickAllRow.holds Try.pinned (OpenSpec.ofChange fnKickAllWrong)

/-- 'laws.FnPeelKeys': WHATEVER THE INPUT: true; the input reads as it did. -/
def fnPeelKeysSpec : ChangeSpec := { name := "fnPeelKeys", fn := fun _ => fun
  | [d] => { results := [.lit (.bool true)], args := [d] }
  | _ => none }
def fnPeelKeysRow : OpenClaim := { program := "ytlkhobofbkoliaa", sum := "d7bb2dc978839cd7558ee9af6cae5f5550f668d4761c433d9cd38602e25bd628", func := "loop.example/tablesthatspread/laws.FnPeelKeys", spec := "fnPeelKeys", apart := false }
def FnPeelKeysSaid : Prop := fnPeelKeysRow.holds Try.pinned (OpenSpec.ofChange fnPeelKeysSpec)

/-- ITS FALSE NEIGHBOUR: 'it returns false'. Refute it at one input. -/
def fnPeelKeysWrong : ChangeSpec := { name := "fnPeelKeys", fn := fun _ => fun
  | [d] => { results := [.lit (.bool false)], args := [d] }
  | _ => none }
def FnPeelKeysWrongFalsely : Prop := fnPeelKeysRow.holds Try.pinned (OpenSpec.ofChange fnPeelKeysWrong)

/-- 'laws.FnFilterOf': WHATEVER THE INPUT: true; the input reads as it did. -/
def fnFilterOfSpec : ChangeSpec := { name := "fnFilterOf", fn := fun _ => fun
  | [d] => { results := [.lit (.bool true)], args := [d] }
  | _ => none }
def fnFilterOfRow : OpenClaim := { program := "ytlkhobofbkoliaa", sum := "d7bb2dc978839cd7558ee9af6cae5f5550f668d4761c433d9cd38602e25bd628", func := "loop.example/tablesthatspread/laws.FnFilterOf", spec := "fnFilterOf", unfollowed := true, recurses := true, apart := false }
def FnFilterOfSaid : Prop := fnFilterOfRow.holds Try.pinned (OpenSpec.ofChange fnFilterOfSpec)

/-- ITS FALSE NEIGHBOUR: 'it returns false'. Refute it at one input. -/
def fnFilterOfWrong : ChangeSpec := { name := "fnFilterOf", fn := fun _ => fun
  | [d] => { results := [.lit (.bool false)], args := [d] }
  | _ => none }
def FnFilterOfWrongFalsely : Prop := fnFilterOfRow.holds Try.pinned (OpenSpec.ofChange fnFilterOfWrong)

/-- 'laws.FnExactValidPairs': WHATEVER THE INPUT: true; the input reads as it did. -/
def fnExactValidPairsSpec : ChangeSpec := { name := "fnExactValidPairs", fn := fun _ => fun
  | [d1, d2] => { results := [.lit (.bool true)], args := [d1, d2] }
  | _ => none }
def fnExactValidPairsRow : OpenClaim := { program := "ytlkhobofbkoliaa", sum := "d7bb2dc978839cd7558ee9af6cae5f5550f668d4761c433d9cd38602e25bd628", func := "loop.example/tablesthatspread/laws.FnExactValidPairs", spec := "fnExactValidPairs", apart := false }
def FnExactValidPairsSaid : Prop := fnExactValidPairsRow.holds Try.pinned (OpenSpec.ofChange fnExactValidPairsSpec)

/-- ITS FALSE NEIGHBOUR: 'it returns false'. Refute it at one input. -/
def fnExactValidPairsWrong : ChangeSpec := { name := "fnExactValidPairs", fn := fun _ => fun
  | [d1, d2] => { results := [.lit (.bool false)], args := [d1, d2] }
  | _ => none }
def FnExactValidPairsWrongFalsely : Prop := fnExactValidPairsRow.holds Try.pinned (OpenSpec.ofChange fnExactValidPairsWrong)

/-- 'laws.FnExactGroupsOf': WHATEVER THE INPUT: true; the input reads as it did. -/
def fnExactGroupsOfSpec : ChangeSpec := { name := "fnExactGroupsOf", fn := fun _ => fun
  | [d1, d2] => { results := [.lit (.bool true)], args := [d1, d2] }
  | _ => none }
def fnExactGroupsOfRow : OpenClaim := { program := "ytlkhobofbkoliaa", sum := "d7bb2dc978839cd7558ee9af6cae5f5550f668d4761c433d9cd38602e25bd628", func := "loop.example/tablesthatspread/laws.FnExactGroupsOf", spec := "fnExactGroupsOf", apart := false }
def FnExactGroupsOfSaid : Prop := fnExactGroupsOfRow.holds Try.pinned (OpenSpec.ofChange fnExactGroupsOfSpec)

/-- ITS FALSE NEIGHBOUR: 'it returns false'. Refute it at one input. -/
def fnExactGroupsOfWrong : ChangeSpec := { name := "fnExactGroupsOf", fn := fun _ => fun
  | [d1, d2] => { results := [.lit (.bool false)], args := [d1, d2] }
  | _ => none }
def FnExactGroupsOfWrongFalsely : Prop := fnExactGroupsOfRow.holds Try.pinned (OpenSpec.ofChange fnExactGroupsOfWrong)

/-- 'laws.FnExactIsRoomy': WHATEVER THE INPUT: true; the input reads as it did. -/
def fnExactIsRoomySpec : ChangeSpec := { name := "fnExactIsRoomy", fn := fun _ => fun
  | [d1, d2] => { results := [.lit (.bool true)], args := [d1, d2] }
  | _ => none }
def fnExactIsRoomyRow : OpenClaim := { program := "ytlkhobofbkoliaa", sum := "d7bb2dc978839cd7558ee9af6cae5f5550f668d4761c433d9cd38602e25bd628", func := "loop.example/tablesthatspread/laws.FnExactIsRoomy", spec := "fnExactIsRoomy", apart := false }
def FnExactIsRoomySaid : Prop := fnExactIsRoomyRow.holds Try.pinned (OpenSpec.ofChange fnExactIsRoomySpec)

/-- ITS FALSE NEIGHBOUR: 'it returns false'. Refute it at one input. -/
def fnExactIsRoomyWrong : ChangeSpec := { name := "fnExactIsRoomy", fn := fun _ => fun
  | [d1, d2] => { results := [.lit (.bool false)], args := [d1, d2] }
  | _ => none }
def FnExactIsRoomyWrongFalsely : Prop := fnExactIsRoomyRow.holds Try.pinned (OpenSpec.ofChange fnExactIsRoomyWrong)

/-- 'laws.FnExactPlaceAll': WHATEVER THE INPUT: true; the input reads as it did. -/
def fnExactPlaceAllSpec : ChangeSpec := { name := "fnExactPlaceAll", fn := fun _ => fun
  | [d1, d2] => { results := [.lit (.bool true)], args := [d1, d2] }
  | _ => none }
def fnExactPlaceAllRow : OpenClaim := { program := "ytlkhobofbkoliaa", sum := "d7bb2dc978839cd7558ee9af6cae5f5550f668d4761c433d9cd38602e25bd628", func := "loop.example/tablesthatspread/laws.FnExactPlaceAll", spec := "fnExactPlaceAll", recurses := true, apart := false }
def FnExactPlaceAllSaid : Prop := fnExactPlaceAllRow.holds Try.pinned (OpenSpec.ofChange fnExactPlaceAllSpec)

/-- ITS FALSE NEIGHBOUR: 'it returns false'. Refute it at one input. -/
def fnExactPlaceAllWrong : ChangeSpec := { name := "fnExactPlaceAll", fn := fun _ => fun
  | [d1, d2] => { results := [.lit (.bool false)], args := [d1, d2] }
  | _ => none }
def FnExactPlaceAllWrongFalsely : Prop := fnExactPlaceAllRow.holds Try.pinned (OpenSpec.ofChange fnExactPlaceAllWrong)

/-- 'laws.FnExactKickAll': WHATEVER THE INPUT: true; the input reads as it did. -/
def fnExactKickAllSpec : ChangeSpec := { name := "fnExactKickAll", fn := fun _ => fun
  | [d1, d2] => { results := [.lit (.bool true)], args := [d1, d2] }
  | _ => none }
def fnExactKickAllRow : OpenClaim := { program := "ytlkhobofbkoliaa", sum := "d7bb2dc978839cd7558ee9af6cae5f5550f668d4761c433d9cd38602e25bd628", func := "loop.example/tablesthatspread/laws.FnExactKickAll", spec := "fnExactKickAll", apart := false }
def FnExactKickAllSaid : Prop := fnExactKickAllRow.holds Try.pinned (OpenSpec.ofChange fnExactKickAllSpec)

/-- ITS FALSE NEIGHBOUR: 'it returns false'. Refute it at one input. -/
def fnExactKickAllWrong : ChangeSpec := { name := "fnExactKickAll", fn := fun _ => fun
  | [d1, d2] => { results := [.lit (.bool false)], args := [d1, d2] }
  | _ => none }
def FnExactKickAllWrongFalsely : Prop := fnExactKickAllRow.holds Try.pinned (OpenSpec.ofChange fnExactKickAllWrong)

/-- 'laws.FnExactPeelKeys': WHATEVER THE INPUT: true; the input reads as it did. -/
def fnExactPeelKeysSpec : ChangeSpec := { name := "fnExactPeelKeys", fn := fun _ => fun
  | [d1, d2] => { results := [.lit (.bool true)], args := [d1, d2] }
  | _ => none }
def fnExactPeelKeysRow : OpenClaim := { program := "ytlkhobofbkoliaa", sum := "d7bb2dc978839cd7558ee9af6cae5f5550f668d4761c433d9cd38602e25bd628", func := "loop.example/tablesthatspread/laws.FnExactPeelKeys", spec := "fnExactPeelKeys", apart := false }
def FnExactPeelKeysSaid : Prop := fnExactPeelKeysRow.holds Try.pinned (OpenSpec.ofChange fnExactPeelKeysSpec)

/-- ITS FALSE NEIGHBOUR: 'it returns false'. Refute it at one input. -/
def fnExactPeelKeysWrong : ChangeSpec := { name := "fnExactPeelKeys", fn := fun _ => fun
  | [d1, d2] => { results := [.lit (.bool false)], args := [d1, d2] }
  | _ => none }
def FnExactPeelKeysWrongFalsely : Prop := fnExactPeelKeysRow.holds Try.pinned (OpenSpec.ofChange fnExactPeelKeysWrong)

/-- 'laws.FnExactFilterOf': WHATEVER THE INPUT: true; the input reads as it did. -/
def fnExactFilterOfSpec : ChangeSpec := { name := "fnExactFilterOf", fn := fun _ => fun
  | [d1, d2, d3] => { results := [.lit (.bool true)], args := [d1, d2, d3] }
  | _ => none }
def fnExactFilterOfRow : OpenClaim := { program := "ytlkhobofbkoliaa", sum := "d7bb2dc978839cd7558ee9af6cae5f5550f668d4761c433d9cd38602e25bd628", func := "loop.example/tablesthatspread/laws.FnExactFilterOf", spec := "fnExactFilterOf", unfollowed := true, recurses := true, apart := false }
def FnExactFilterOfSaid : Prop := fnExactFilterOfRow.holds Try.pinned (OpenSpec.ofChange fnExactFilterOfSpec)

/-- ITS FALSE NEIGHBOUR: 'it returns false'. Refute it at one input. -/
def fnExactFilterOfWrong : ChangeSpec := { name := "fnExactFilterOf", fn := fun _ => fun
  | [d1, d2, d3] => { results := [.lit (.bool false)], args := [d1, d2, d3] }
  | _ => none }
def FnExactFilterOfWrongFalsely : Prop := fnExactFilterOfRow.holds Try.pinned (OpenSpec.ofChange fnExactFilterOfWrong)

/- THE SECOND FORM. 'bulk': how many values and letters a reading holds, each counted each time it is reached (what is shared counts as often as it is met; a slice's spare places count too). A statement '..UptoSaid' is the law's where the arguments, and the package variables that the reading takes, are together of bulk at most 1048576: NARROWER than '..Said'. Prove '..Said' where nothing that the law and all that it calls make is longer than what came in: it says more and counts as full. Else prove '..UptoSaid'. A law counts once. -/
mutual
def uptoBulk {H : Type} : DataW H → Nat
  | .lit (.string bytes) => bytes.length + 1
  | .lit _ => 1
  | .nil => 1
  | .ptr d => uptoBulk d + 1
  | .slice elems spare => uptoBulkAll elems + uptoBulkAll spare + 1
  | .agg parts => uptoBulkAll parts + 1
  | .iface _ d => uptoBulk d + 1
  | .map entries => uptoBulkEntries entries + 1
  | .held _ => 1
def uptoBulkAll {H : Type} : List (DataW H) → Nat
  | [] => 0
  | d :: r => uptoBulk d + uptoBulkAll r
def uptoBulkEntries {H : Type} : List (Lit × DataW H) → Nat
  | [] => 0
  | x :: r => uptoBulkEntry x + uptoBulkEntries r
def uptoBulkEntry {H : Type} : Lit × DataW H → Nat
  | (.string bytes, d) => bytes.length + uptoBulk d + 1
  | (_, d) => uptoBulk d + 1
 end
def uptoSmall : (H : Type) → List (DataW H) → Bool := fun _ ds => decide (uptoBulkAll ds ≤ 1048576)
def OpenSpec.upto (s : _root_.Go.ChangeSpec) : _root_.Go.OpenSpec := { _root_.Go.OpenSpec.ofChange s with cond := some uptoSmall }

/-- 'laws.FnFairTable', WHERE WHAT IT READS IS OF BULK AT MOST 1048576: true; the input reads as it did. -/
def fnFairTableUptoRow : OpenClaim := { program := "ytlkhobofbkoliaa", sum := "d7bb2dc978839cd7558ee9af6cae5f5550f668d4761c433d9cd38602e25bd628", func := "loop.example/tablesthatspread/laws.FnFairTable", spec := "fnFairTable", unfollowed := true, recurses := true, apart := false, narrowed := true }
def FnFairTableUptoSaid : Prop := fnFairTableUptoRow.holds Try.pinned (OpenSpec.upto fnFairTableSpec)

/-- 'laws.FnTakeOut', WHERE WHAT IT READS IS OF BULK AT MOST 1048576: true; the input reads as it did. -/
def fnTakeOutUptoRow : OpenClaim := { program := "ytlkhobofbkoliaa", sum := "d7bb2dc978839cd7558ee9af6cae5f5550f668d4761c433d9cd38602e25bd628", func := "loop.example/tablesthatspread/laws.FnTakeOut", spec := "fnTakeOut", unfollowed := true, recurses := true, apart := false, narrowed := true }
def FnTakeOutUptoSaid : Prop := fnTakeOutUptoRow.holds Try.pinned (OpenSpec.upto fnTakeOutSpec)

/-- 'laws.FnValidPairs', WHERE WHAT IT READS IS OF BULK AT MOST 1048576: true; the input reads as it did. -/
def fnValidPairsUptoRow : OpenClaim := { program := "ytlkhobofbkoliaa", sum := "d7bb2dc978839cd7558ee9af6cae5f5550f668d4761c433d9cd38602e25bd628", func := "loop.example/tablesthatspread/laws.FnValidPairs", spec := "fnValidPairs", apart := false, narrowed := true }
def FnValidPairsUptoSaid : Prop := fnValidPairsUptoRow.holds Try.pinned (OpenSpec.upto fnValidPairsSpec)

/-- 'laws.FnGroupsOf', WHERE WHAT IT READS IS OF BULK AT MOST 1048576: true; the input reads as it did. -/
def fnGroupsOfUptoRow : OpenClaim := { program := "ytlkhobofbkoliaa", sum := "d7bb2dc978839cd7558ee9af6cae5f5550f668d4761c433d9cd38602e25bd628", func := "loop.example/tablesthatspread/laws.FnGroupsOf", spec := "fnGroupsOf", apart := false, narrowed := true }
def FnGroupsOfUptoSaid : Prop := fnGroupsOfUptoRow.holds Try.pinned (OpenSpec.upto fnGroupsOfSpec)

/-- 'laws.FnIsRoomy', WHERE WHAT IT READS IS OF BULK AT MOST 1048576: true; the input reads as it did. -/
def fnIsRoomyUptoRow : OpenClaim := { program := "ytlkhobofbkoliaa", sum := "d7bb2dc978839cd7558ee9af6cae5f5550f668d4761c433d9cd38602e25bd628", func := "loop.example/tablesthatspread/laws.FnIsRoomy", spec := "fnIsRoomy", recurses := true, apart := false, narrowed := true }
def FnIsRoomyUptoSaid : Prop := fnIsRoomyUptoRow.holds Try.pinned (OpenSpec.upto fnIsRoomySpec)

/-- 'laws.FnPlaceAll', WHERE WHAT IT READS IS OF BULK AT MOST 1048576: true; the input reads as it did. -/
def fnPlaceAllUptoRow : OpenClaim := { program := "ytlkhobofbkoliaa", sum := "d7bb2dc978839cd7558ee9af6cae5f5550f668d4761c433d9cd38602e25bd628", func := "loop.example/tablesthatspread/laws.FnPlaceAll", spec := "fnPlaceAll", recurses := true, apart := false, narrowed := true }
def FnPlaceAllUptoSaid : Prop := fnPlaceAllUptoRow.holds Try.pinned (OpenSpec.upto fnPlaceAllSpec)

/-- 'laws.FnKickAll', WHERE WHAT IT READS IS OF BULK AT MOST 1048576: true; the input reads as it did. -/
def fnKickAllUptoRow : OpenClaim := { program := "ytlkhobofbkoliaa", sum := "d7bb2dc978839cd7558ee9af6cae5f5550f668d4761c433d9cd38602e25bd628", func := "loop.example/tablesthatspread/laws.FnKickAll", spec := "fnKickAll", apart := false, narrowed := true }
def FnKickAllUptoSaid : Prop := fnKickAllUptoRow.holds Try.pinned (OpenSpec.upto fnKickAllSpec)

/-- 'laws.FnPeelKeys', WHERE WHAT IT READS IS OF BULK AT MOST 1048576: true; the input reads as it did. -/
def fnPeelKeysUptoRow : OpenClaim := { program := "ytlkhobofbkoliaa", sum := "d7bb2dc978839cd7558ee9af6cae5f5550f668d4761c433d9cd38602e25bd628", func := "loop.example/tablesthatspread/laws.FnPeelKeys", spec := "fnPeelKeys", apart := false, narrowed := true }
def FnPeelKeysUptoSaid : Prop := fnPeelKeysUptoRow.holds Try.pinned (OpenSpec.upto fnPeelKeysSpec)

/-- 'laws.FnFilterOf', WHERE WHAT IT READS IS OF BULK AT MOST 1048576: true; the input reads as it did. -/
def fnFilterOfUptoRow : OpenClaim := { program := "ytlkhobofbkoliaa", sum := "d7bb2dc978839cd7558ee9af6cae5f5550f668d4761c433d9cd38602e25bd628", func := "loop.example/tablesthatspread/laws.FnFilterOf", spec := "fnFilterOf", unfollowed := true, recurses := true, apart := false, narrowed := true }
def FnFilterOfUptoSaid : Prop := fnFilterOfUptoRow.holds Try.pinned (OpenSpec.upto fnFilterOfSpec)

/-- 'laws.FnExactValidPairs', WHERE WHAT IT READS IS OF BULK AT MOST 1048576: true; the input reads as it did. -/
def fnExactValidPairsUptoRow : OpenClaim := { program := "ytlkhobofbkoliaa", sum := "d7bb2dc978839cd7558ee9af6cae5f5550f668d4761c433d9cd38602e25bd628", func := "loop.example/tablesthatspread/laws.FnExactValidPairs", spec := "fnExactValidPairs", apart := false, narrowed := true }
def FnExactValidPairsUptoSaid : Prop := fnExactValidPairsUptoRow.holds Try.pinned (OpenSpec.upto fnExactValidPairsSpec)

/-- 'laws.FnExactGroupsOf', WHERE WHAT IT READS IS OF BULK AT MOST 1048576: true; the input reads as it did. -/
def fnExactGroupsOfUptoRow : OpenClaim := { program := "ytlkhobofbkoliaa", sum := "d7bb2dc978839cd7558ee9af6cae5f5550f668d4761c433d9cd38602e25bd628", func := "loop.example/tablesthatspread/laws.FnExactGroupsOf", spec := "fnExactGroupsOf", apart := false, narrowed := true }
def FnExactGroupsOfUptoSaid : Prop := fnExactGroupsOfUptoRow.holds Try.pinned (OpenSpec.upto fnExactGroupsOfSpec)

/-- 'laws.FnExactIsRoomy', WHERE WHAT IT READS IS OF BULK AT MOST 1048576: true; the input reads as it did. -/
def fnExactIsRoomyUptoRow : OpenClaim := { program := "ytlkhobofbkoliaa", sum := "d7bb2dc978839cd7558ee9af6cae5f5550f668d4761c433d9cd38602e25bd628", func := "loop.example/tablesthatspread/laws.FnExactIsRoomy", spec := "fnExactIsRoomy", apart := false, narrowed := true }
def FnExactIsRoomyUptoSaid : Prop := fnExactIsRoomyUptoRow.holds Try.pinned (OpenSpec.upto fnExactIsRoomySpec)

/-- 'laws.FnExactPlaceAll', WHERE WHAT IT READS IS OF BULK AT MOST 1048576: true; the input reads as it did. -/
def fnExactPlaceAllUptoRow : OpenClaim := { program := "ytlkhobofbkoliaa", sum := "d7bb2dc978839cd7558ee9af6cae5f5550f668d4761c433d9cd38602e25bd628", func := "loop.example/tablesthatspread/laws.FnExactPlaceAll", spec := "fnExactPlaceAll", recurses := true, apart := false, narrowed := true }
def FnExactPlaceAllUptoSaid : Prop := fnExactPlaceAllUptoRow.holds Try.pinned (OpenSpec.upto fnExactPlaceAllSpec)

/-- 'laws.FnExactKickAll', WHERE WHAT IT READS IS OF BULK AT MOST 1048576: true; the input reads as it did. -/
def fnExactKickAllUptoRow : OpenClaim := { program := "ytlkhobofbkoliaa", sum := "d7bb2dc978839cd7558ee9af6cae5f5550f668d4761c433d9cd38602e25bd628", func := "loop.example/tablesthatspread/laws.FnExactKickAll", spec := "fnExactKickAll", apart := false, narrowed := true }
def FnExactKickAllUptoSaid : Prop := fnExactKickAllUptoRow.holds Try.pinned (OpenSpec.upto fnExactKickAllSpec)

/-- 'laws.FnExactPeelKeys', WHERE WHAT IT READS IS OF BULK AT MOST 1048576: true; the input reads as it did. -/
def fnExactPeelKeysUptoRow : OpenClaim := { program := "ytlkhobofbkoliaa", sum := "d7bb2dc978839cd7558ee9af6cae5f5550f668d4761c433d9cd38602e25bd628", func := "loop.example/tablesthatspread/laws.FnExactPeelKeys", spec := "fnExactPeelKeys", apart := false, narrowed := true }
def FnExactPeelKeysUptoSaid : Prop := fnExactPeelKeysUptoRow.holds Try.pinned (OpenSpec.upto fnExactPeelKeysSpec)

/-- 'laws.FnExactFilterOf', WHERE WHAT IT READS IS OF BULK AT MOST 1048576: true; the input reads as it did. -/
def fnExactFilterOfUptoRow : OpenClaim := { program := "ytlkhobofbkoliaa", sum := "d7bb2dc978839cd7558ee9af6cae5f5550f668d4761c433d9cd38602e25bd628", func := "loop.example/tablesthatspread/laws.FnExactFilterOf", spec := "fnExactFilterOf", unfollowed := true, recurses := true, apart := false, narrowed := true }
def FnExactFilterOfUptoSaid : Prop := fnExactFilterOfUptoRow.holds Try.pinned (OpenSpec.upto fnExactFilterOfSpec)

end Rows
end Go.Proofs.Ytlkhobofbkoliaa
