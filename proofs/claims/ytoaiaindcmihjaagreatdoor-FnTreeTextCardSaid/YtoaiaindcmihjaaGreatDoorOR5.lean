/-
  The laws of TreeText and ReadTree: closed.
-/
import Derived.Test.YtoaiaindcmihjaaGreatDoorMte
import Derived.Test.YtoaiaindcmihjaaGreatDoorMtf
namespace Go.Proofs.YtoaiaindcmihjaaGreatDoor
open Go.RowKit

theorem tree_gives : TreeTextGives := fun a l cap w hr hi hl hcap => implTreeText_e a l cap w hr hi hl hcap
theorem read_gives : ReadTreeGives GW := fun s w h hs => implReadTree_e s w h hs
theorem GW.below {w w' : World} (h : GW w) (hb : Below w.heap.size w w') : GW w' := ⟨GE.below h.1 hb, GN.below h.2 hb⟩
theorem lawFnTreeText (a : Option Addr) (n cap : Nat) (w : World) (hg : GW w) (hB : Bytes w w.heap.size a n) (hn : n ≤ 9223372036854775807) (hc : n ≤ cap) :
    Calls Tryz.prog 3 #[.slice a n cap] w fun e w' => e = .returned (.bool true) ∧ Below w.heap.size w w' :=
  lawFnTreeText_of tree_gives read_gives a n cap w (fun _ hb => GW.below hg hb) hB hn hc
theorem lawFnReadTree (a : Option Addr) (n cap : Nat) (w : World) (hg : GW w) (hB : Bytes w w.heap.size a n) (hn : n ≤ 9223372036854775807) (hc : n ≤ cap) :
    Calls Tryz.prog 4 #[.slice a n cap] w fun e w' => e = .returned (.bool true) ∧ Below w.heap.size w w' :=
  lawFnReadTree_of tree_gives read_gives a n cap w (fun _ hb => GW.below hg hb) hB hn hc
end Go.Proofs.YtoaiaindcmihjaaGreatDoor
