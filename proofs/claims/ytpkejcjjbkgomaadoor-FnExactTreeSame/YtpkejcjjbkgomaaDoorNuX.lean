/- The walk of FnExactTreeSame, from the row's own condition on the library's tables. -/
import Derived.Test.YtpkejcjjbkgomaaDoorNuW
import Derived.Test.YtpkejcjjbkgomaaDoorRows
namespace Go.Proofs.YtpkejcjjbkgomaaDoor
set_option maxRecDepth 100000
theorem treeSame_card (vA : Value) (A : Tr) (vB : Value) (B : Tr) (w : World) (HA : TrIn w 0 vA A) (HB : TrIn w 0 vB B) (hL : laidMetH Tryd.prog Rows.fnExactTreeSameRow.laid w) :
    Calls Tryd.prog 3 #[vA, vB] w fun e w' => e = .returned (.bool true) ∧ RowKit.Below w.heap.size w w' := by
  have h : laidMet Tryd.prog Rows.fnExactTreeSameRow.laid w := hL
  exact treeSame_law vA A vB B w HA HB (pow_third h (by kernel_rfl) (by kernel_rfl) (by kernel_rfl) (by kernel_rfl))
end Go.Proofs.YtpkejcjjbkgomaaDoor
