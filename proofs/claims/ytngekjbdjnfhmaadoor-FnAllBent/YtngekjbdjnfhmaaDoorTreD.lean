/- The model's l3Many and TreeSize. -/
import Derived.Test.YtngekjbdjnfhmaaDoorTreC
namespace Go.Proofs.YtngekjbdjnfhmaaDoor
open Go.ChangeShapes Go.WideShapes Go.ChangeAt Go.RowKit Go.Deep
set_option maxRecDepth 100000
end Go.Proofs.YtngekjbdjnfhmaaDoor
