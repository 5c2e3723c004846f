/- What a symbol is: contracts of SignBig and SignSmall, the program's and the model's, and of the byte tests that they call. -/
import Derived.Test.YtpkejcjjbkgomaaDoorRows
import Derived.WalkKit
import Derived.ProofKit
import Derived.Outline
import Derived.Lib.Hide
namespace Go.Proofs.YtpkejcjjbkgomaaDoor
open Go.ChangeShapes Go.WideShapes Go.ChangeAt Go.RowKit
def bigN (c : Int) : Bool := decide (65 ≤ c) && decide (c ≤ 69)
def smallN (c : Int) : Bool := decide (97 ≤ c) && decide (c ≤ 100)
def byteAt (s : ByteArray) (k : Nat) : Int := ((s.data.toList.getD k 0).toNat : Int)
def isBigS (s : ByteArray) : Bool := decide (s.size = 1) && bigN (byteAt s 0)
def isSmallS (s : ByteArray) : Bool := decide (s.size = 1) && smallN (byteAt s 0)
theorem byteAt_get (s : ByteArray) (k : Nat) (h : k < s.size) : ((s[k].toNat : Nat) : Int) = byteAt s k := by
  unfold byteAt
  have h' : k < s.data.toList.length := by simpa using h
  rw [List.getD_eq_getElem?_getD, List.getElem?_eq_getElem h']
  rfl
theorem ret_bool {a b : Bool} (h : a = b) : Ending.returned (.bool a) = .returned (.bool b) := by rw [h]

theorem isBig_any (c : Int) (w : World) :
    Calls Tryd.prog 74 #[.int .u8 c] w fun e w' => e = .returned (.bool (bigN c)) ∧ w = w' := by
  go_enter Tryd.func74, Tryd.ntmps74
  go_wp2
  all_goals go_ret
  · exact ⟨ret_bool (by simp [bigN, *]), rfl⟩
  · exact ⟨ret_bool (by simp [bigN]; omega), rfl⟩
theorem l1Big_any (c : Int) (w : World) :
    Calls Tryd.prog 114 #[.int .u8 c] w fun e w' => e = .returned (.bool (bigN c)) ∧ w = w' := by
  go_enter Tryd.func114, Tryd.ntmps114
  go_wp2
  all_goals go_ret
  · exact ⟨ret_bool (by simp [bigN, *]), rfl⟩
  · exact ⟨ret_bool (by simp [bigN]; omega), rfl⟩
theorem isSmall_any (c : Int) (w : World) :
    Calls Tryd.prog 100 #[.int .u8 c] w fun e w' => e = .returned (.bool (smallN c)) ∧ w = w' := by
  go_enter Tryd.func100, Tryd.ntmps100
  go_wp2
  all_goals go_ret
  · exact ⟨ret_bool (by simp [smallN, *]), rfl⟩
  · exact ⟨ret_bool (by simp [smallN]; omega), rfl⟩
theorem l1Small_any (c : Int) (w : World) :
    Calls Tryd.prog 119 #[.int .u8 c] w fun e w' => e = .returned (.bool (smallN c)) ∧ w = w' := by
  go_enter Tryd.func119, Tryd.ntmps119
  go_wp2
  all_goals go_ret
  · exact ⟨ret_bool (by simp [smallN, *]), rfl⟩
  · exact ⟨ret_bool (by simp [smallN]; omega), rfl⟩
theorem signBig_any (s : ByteArray) (w : World) :
    Calls Tryd.prog 35 #[.string s] w fun e w' => e = .returned (.bool (isBigS s)) ∧ w = w' := by
  go_enter Tryd.func35, Tryd.ntmps35
  go_wp2_with (go_at_call 74; refine (isBig_any _ _).mono ?_; rintro e w' ⟨rfl, rfl⟩)
  all_goals go_ret
  · exact ⟨ret_bool (by rw [byteAt_get]; simp [isBigS]; omega), rfl⟩
  · exact ⟨ret_bool (by simp [isBigS]; omega), rfl⟩
theorem sSignBig_any (s : ByteArray) (w : World) :
    Calls Tryd.prog 88 #[.string s] w fun e w' => e = .returned (.bool (isBigS s)) ∧ w = w' := by
  go_enter Tryd.func88, Tryd.ntmps88
  go_wp2_with (go_at_call 114; refine (l1Big_any _ _).mono ?_; rintro e w' ⟨rfl, rfl⟩)
  all_goals go_ret
  · exact ⟨ret_bool (by rw [byteAt_get]; simp [isBigS]; omega), rfl⟩
  · exact ⟨ret_bool (by simp [isBigS]; omega), rfl⟩
theorem signSmall_any (s : ByteArray) (w : World) :
    Calls Tryd.prog 71 #[.string s] w fun e w' => e = .returned (.bool (isSmallS s)) ∧ w = w' := by
  go_enter Tryd.func71, Tryd.ntmps71
  go_wp2_with (go_at_call 100; refine (isSmall_any _ _).mono ?_; rintro e w' ⟨rfl, rfl⟩)
  all_goals go_ret
  · exact ⟨ret_bool (by rw [byteAt_get]; simp [isSmallS]; omega), rfl⟩
  · exact ⟨ret_bool (by simp [isSmallS]; omega), rfl⟩
theorem sSignSmall_any (s : ByteArray) (w : World) :
    Calls Tryd.prog 97 #[.string s] w fun e w' => e = .returned (.bool (isSmallS s)) ∧ w = w' := by
  go_enter Tryd.func97, Tryd.ntmps97
  go_wp2_with (go_at_call 119; refine (l1Small_any _ _).mono ?_; rintro e w' ⟨rfl, rfl⟩)
  all_goals go_ret
  · exact ⟨ret_bool (by rw [byteAt_get]; simp [isSmallS]; omega), rfl⟩
  · exact ⟨ret_bool (by simp [isSmallS]; omega), rfl⟩
end Go.Proofs.YtpkejcjjbkgomaaDoor
