/- The contract of the model's TreeSize. -/
import Derived.Test.YtpkejcjjbkgomaaDoorSizA
import Derived.Test.YtpkejcjjbkgomaaDoorTokV
import Derived.Test.YtpkejcjjbkgomaaDoorSzT
namespace Go.Proofs.YtpkejcjjbkgomaaDoor
open Go.ChangeShapes Go.WideShapes Go.ChangeAt Go.RowKit Go.Deep
set_option maxRecDepth 100000
theorem MadeTree.trP {T : Tr} {w w' : World} {u : Value} (h1 : TrIn w' w.heap.size u T) (h2 : PlainFrom w.heap.size w') : TrP w' w.heap.size u T := TrP.of_plain h1 h2
end Go.Proofs.YtpkejcjjbkgomaaDoor
