/- Contracts of leftsClosed, nullableSet, productiveSet, GramNone and GramMade of the program. -/
import Derived.Test.YtiejfbodcjckeaaLfp
namespace Go.Proofs.Ytiejfbodcjckeaa
open Go.ChangeShapes Go.WideShapes Go.ChangeAt Go.RowKit
set_option maxRecDepth 100000
end Go.Proofs.Ytiejfbodcjckeaa
