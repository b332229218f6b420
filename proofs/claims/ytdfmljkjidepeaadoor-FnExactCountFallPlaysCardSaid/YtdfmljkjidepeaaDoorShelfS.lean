/- Nothing of the shelf is called here. -/
import Derived.Shelf.Slices.Turned
import Derived.Shelf.SlSortCmp.NoneTotal
import Derived.Test.YtdfmljkjidepeaaDoorProg
namespace Go.Proofs
end Go.Proofs
