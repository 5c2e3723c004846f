/- The contract of the program's GramText. -/
import Derived.Test.YtngekjbdjnfhmaaDoorTextA
namespace Go.Proofs.YtngekjbdjnfhmaaDoor
open Go.ChangeShapes Go.WideShapes Go.ChangeAt Go.RowKit
set_option maxRecDepth 100000
theorem ruleText_cat (r : RuleT) : cat (cat (cat r.1.data.toList (⟨#[62]⟩ : ByteArray)) r.2) (⟨#[10]⟩ : ByteArray) = ruleTextL r := by simp [cat, ruleTextL]

end Go.Proofs.YtngekjbdjnfhmaaDoor
