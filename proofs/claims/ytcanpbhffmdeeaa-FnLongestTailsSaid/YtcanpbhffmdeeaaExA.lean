/- The contracts of IsPiles and CardsOf in the form that the exact laws use. No condition. -/
import Derived.Test.YtcanpbhffmdeeaaPileA
import Derived.Test.YtcanpbhffmdeeaaHelp
namespace Go.Proofs.Ytcanpbhffmdeeaa
open Go.RowKit

def mIsPiles (xs : List Int) : Bool := goodB xs
theorem impl_IsPiles (ao : Option Addr) (n cap : Nat) (xs : List Int) (w : World) (h : IntsAt w ao n cap xs) :
    Calls Try.prog 49 #[.slice ao n cap] w fun e w' => e = .returned (.bool (mIsPiles xs)) ∧ Below w.heap.size w w' := callsBelow (isPiles_any ao n cap xs w h)
def mCardsOf (xs : List Int) : Int × Bool := (if goodB xs then xs.sum else 0, goodB xs)
theorem impl_CardsOf (ao : Option Addr) (n cap : Nat) (xs : List Int) (w : World) (h : IntsAt w ao n cap xs) :
    Calls Try.prog 24 #[.slice ao n cap] w fun e w' => e = .returned (.tuple #[.int .i64 (mCardsOf xs).1, .bool (mCardsOf xs).2]) ∧ Below w.heap.size w w' := callsBelow (cardsOf_any ao n cap xs w h)
end Go.Proofs.Ytcanpbhffmdeeaa
