/- A Builder beside other blocks of the call's own. -/
import Derived.Test.YtngekjbdjnfhmaaDoorTextB
import Derived.Shelf.Strings.BuilderK
namespace Go.Proofs.YtngekjbdjnfhmaaDoor
open Go.ChangeShapes Go.WideShapes Go.ChangeAt Go.RowKit Go.Deep Go.Shelf
set_option maxRecDepth 100000
end Go.Proofs.YtngekjbdjnfhmaaDoor
