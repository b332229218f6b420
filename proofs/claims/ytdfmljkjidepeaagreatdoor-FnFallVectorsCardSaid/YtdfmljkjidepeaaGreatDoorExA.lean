/- The contracts of IsPiles and CardsOf in the form that the exact laws use. No condition. -/
import Derived.Test.YtdfmljkjidepeaaGreatDoorPileA
import Derived.Test.YtdfmljkjidepeaaGreatDoorHelp
namespace Go.Proofs.YtdfmljkjidepeaaGreatDoor
open Go.RowKit

def mIsPiles (xs : List Int) : Bool := goodB xs
theorem impl_IsPiles (ao : Option Addr) (n cap : Nat) (xs : List Int) (w : World) (h : IntsAt w ao n cap xs) :
    Calls Tryz.prog 50 #[.slice ao n cap] w fun e w' => e = .returned (.bool (mIsPiles xs)) ∧ Below w.heap.size w w' := callsBelow (isPiles_any ao n cap xs w h)
def mCardsOf (xs : List Int) : Int × Bool := (if goodB xs then xs.sum else 0, goodB xs)
end Go.Proofs.YtdfmljkjidepeaaGreatDoor
