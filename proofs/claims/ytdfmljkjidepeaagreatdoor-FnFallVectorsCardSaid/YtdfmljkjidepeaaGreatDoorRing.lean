/- Chapter 2: rings of bits: an array in a struct, by value. No condition. -/
import Derived.Test.YtdfmljkjidepeaaGreatDoorGa
import Derived.Test.YtdfmljkjidepeaaGreatDoorGb
import Derived.Test.YtdfmljkjidepeaaGreatDoorAppX
import Derived.Deep.RegionWith
namespace Go.Proofs.YtdfmljkjidepeaaGreatDoor
open Go.RowKit
set_option linter.unusedVariables false
set_option linter.unusedSimpArgs false
set_option maxRecDepth 20000

/-- the cells of a ring: eight numbers, then how many of them count -/
def ring9 (b0 b1 b2 b3 b4 b5 b6 b7 : Int) (n : Nat) : Array Value := #[.int .i64 b0, .int .i64 b1, .int .i64 b2, .int .i64 b3, .int .i64 b4, .int .i64 b5, .int .i64 b6, .int .i64 b7, .int .i64 n]
def ringV (bs : List Int) : Value := .agg (ring9 (bs.getD 0 0) (bs.getD 1 0) (bs.getD 2 0) (bs.getD 3 0) (bs.getD 4 0) (bs.getD 5 0) (bs.getD 6 0) (bs.getD 7 0) bs.length)

end Go.Proofs.YtdfmljkjidepeaaGreatDoor
