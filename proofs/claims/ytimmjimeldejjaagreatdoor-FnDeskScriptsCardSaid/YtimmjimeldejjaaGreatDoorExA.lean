/- The contracts of IsPiles and CardsOf in the form that the exact laws use. No condition. -/
import Derived.Test.YtimmjimeldejjaaGreatDoorPileA
import Derived.Test.YtimmjimeldejjaaGreatDoorHelp
namespace Go.Proofs.YtimmjimeldejjaaGreatDoor
open Go.RowKit

def mIsPiles (xs : List Int) : Bool := goodB xs
theorem impl_IsPiles (ao : Option Addr) (n cap : Nat) (xs : List Int) (w : World) (h : IntsAt w ao n cap xs) :
    Calls Tryz.prog 14 #[.slice ao n cap] w fun e w' => e = .returned (.bool (mIsPiles xs)) ∧ Below w.heap.size w w' := callsBelow (isPiles_any ao n cap xs w h)
def mCardsOf (xs : List Int) : Int × Bool := (if goodB xs then xs.sum else 0, goodB xs)
theorem impl_CardsOf (ao : Option Addr) (n cap : Nat) (xs : List Int) (w : World) (h : IntsAt w ao n cap xs) :
    Calls Tryz.prog 109 #[.slice ao n cap] w fun e w' => e = .returned (.tuple #[.int .i64 (mCardsOf xs).1, .bool (mCardsOf xs).2]) ∧ Below w.heap.size w w' := callsBelow (cardsOf_any ao n cap xs w h)
theorem spec_CardsOf (ao : Option Addr) (n cap : Nat) (xs : List Int) (w : World) (h : IntsAt w ao n cap xs) :
    Calls Tryz.prog 134 #[.slice ao n cap] w fun e w' => e = .returned (.tuple #[.int .i64 (mCardsOf xs).1, .bool (mCardsOf xs).2]) ∧ Below w.heap.size w w' := callsBelow (specCardsOf_any ao n cap xs w h)
end Go.Proofs.YtimmjimeldejjaaGreatDoor
