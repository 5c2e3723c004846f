/- What a symbol is: contracts of SignBig and SignSmall, the program's and the model's, and of the byte tests that they call. -/
import Derived.Test.YtiejfbodcjckeaaRows
import Derived.WalkKit
import Derived.ProofKit
import Derived.Outline
import Derived.Lib.Hide
namespace Go.Proofs.Ytiejfbodcjckeaa
open Go.ChangeShapes Go.WideShapes Go.ChangeAt Go.RowKit
def bigN (c : Int) : Bool := decide (65 ≤ c) && decide (c ≤ 69)
def smallN (c : Int) : Bool := decide (97 ≤ c) && decide (c ≤ 100)
def byteAt (s : ByteArray) (k : Nat) : Int := ((s.data.toList.getD k 0).toNat : Int)
def isBigS (s : ByteArray) : Bool := decide (s.size = 1) && bigN (byteAt s 0)
def isSmallS (s : ByteArray) : Bool := decide (s.size = 1) && smallN (byteAt s 0)
theorem byteAt_get (s : ByteArray) (k : Nat) (h : k < s.size) : ((s[k].toNat : Nat) : Int) = byteAt s k := by
  unfold byteAt
  have h' : k < s.data.toList.length := by simpa using h
  rw [List.getD_eq_getElem?_getD, List.getElem?_eq_getElem h']
  rfl
theorem ret_bool {a b : Bool} (h : a = b) : Ending.returned (.bool a) = .returned (.bool b) := by rw [h]

theorem isSmall_any (c : Int) (w : World) :
    Calls Try.prog 72 #[.int .u8 c] w fun e w' => e = .returned (.bool (smallN c)) ∧ w = w' := by
  go_enter Try.func72, Try.ntmps72
  go_wp2
  all_goals go_ret
  · exact ⟨ret_bool (by simp [smallN, *]), rfl⟩
  · exact ⟨ret_bool (by simp [smallN]; omega), rfl⟩
theorem l1Small_any (c : Int) (w : World) :
    Calls Try.prog 39 #[.int .u8 c] w fun e w' => e = .returned (.bool (smallN c)) ∧ w = w' := by
  go_enter Try.func39, Try.ntmps39
  go_wp2
  all_goals go_ret
  · exact ⟨ret_bool (by simp [smallN, *]), rfl⟩
  · exact ⟨ret_bool (by simp [smallN]; omega), rfl⟩
theorem signSmall_any (s : ByteArray) (w : World) :
    Calls Try.prog 71 #[.string s] w fun e w' => e = .returned (.bool (isSmallS s)) ∧ w = w' := by
  go_enter Try.func71, Try.ntmps71
  go_wp2_with (go_at_call 72; refine (isSmall_any _ _).mono ?_; rintro e w' ⟨rfl, rfl⟩)
  all_goals go_ret
  · exact ⟨ret_bool (by rw [byteAt_get]; simp [isSmallS]; omega), rfl⟩
  · exact ⟨ret_bool (by simp [isSmallS]; omega), rfl⟩
theorem sSignSmall_any (s : ByteArray) (w : World) :
    Calls Try.prog 40 #[.string s] w fun e w' => e = .returned (.bool (isSmallS s)) ∧ w = w' := by
  go_enter Try.func40, Try.ntmps40
  go_wp2_with (go_at_call 39; refine (l1Small_any _ _).mono ?_; rintro e w' ⟨rfl, rfl⟩)
  all_goals go_ret
  · exact ⟨ret_bool (by rw [byteAt_get]; simp [isSmallS]; omega), rfl⟩
  · exact ⟨ret_bool (by simp [isSmallS]; omega), rfl⟩
end Go.Proofs.Ytiejfbodcjckeaa
