/-
  The law of RunDesk.
-/
import Derived.Test.YtoaiaindcmihjaaGreatDoorMue
import Derived.Test.YtoaiaindcmihjaaGreatDoorMui
namespace Go.Proofs.YtoaiaindcmihjaaGreatDoor
open Go.RowKit

theorem desk_gives : RunDeskGives GD := fun a ls cap w hG hr hl hc hs => implRunDesk_any a ls cap w hG hr hl hc hs
theorem lawFnRunDesk (a : Option Addr) (n cap : Nat) (w : World) (hg : GD w) (hB : Bytes w w.heap.size a n) (hn : n ≤ 9223372036854775807) (hc : n ≤ cap) :
    Calls Tryz.prog 5 #[.slice a n cap] w fun e w' => e = .returned (.bool true) ∧ Below w.heap.size w w' :=
  lawFnRunDesk_of desk_gives a n cap w (fun _ hb => GD.below hg hb) hB hn hc
end Go.Proofs.YtoaiaindcmihjaaGreatDoor
