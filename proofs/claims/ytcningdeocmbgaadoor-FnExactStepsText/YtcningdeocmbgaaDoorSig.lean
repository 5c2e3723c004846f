/- What a symbol is: contracts of SignBig and SignSmall, the program's and the model's, and of the byte tests that they call. -/
import Derived.Test.YtcningdeocmbgaaDoorRows
import Derived.WalkKit
import Derived.ProofKit
import Derived.Outline
import Derived.Lib.Hide
namespace Go.Proofs.YtcningdeocmbgaaDoor
open Go.ChangeShapes Go.WideShapes Go.ChangeAt Go.RowKit
def bigN (c : Int) : Bool := decide (65 ≤ c) && decide (c ≤ 69)
def smallN (c : Int) : Bool := decide (97 ≤ c) && decide (c ≤ 100)
def byteAt (s : ByteArray) (k : Nat) : Int := ((s.data.toList.getD k 0).toNat : Int)
def isBigS (s : ByteArray) : Bool := decide (s.size = 1) && bigN (byteAt s 0)
def isSmallS (s : ByteArray) : Bool := decide (s.size = 1) && smallN (byteAt s 0)
theorem byteAt_get (s : ByteArray) (k : Nat) (h : k < s.size) : ((s[k].toNat : Nat) : Int) = byteAt s k := by
  unfold byteAt
  have h' : k < s.data.toList.length := by simpa using h
  rw [List.getD_eq_getElem?_getD, List.getElem?_eq_getElem h']
  rfl
theorem ret_bool {a b : Bool} (h : a = b) : Ending.returned (.bool a) = .returned (.bool b) := by rw [h]

end Go.Proofs.YtcningdeocmbgaaDoor
