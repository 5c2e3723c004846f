/- What a symbol is: contracts of SignBig and SignSmall, the program's and the model's, and of the byte tests that they call. -/
import Derived.Test.YtngekjbdjnfhmaaGreatRows
import Derived.WalkKit
import Derived.ProofKit
import Derived.Outline
import Derived.Lib.Hide
namespace Go.Proofs.YtngekjbdjnfhmaaGreat
open Go.ChangeShapes Go.WideShapes Go.ChangeAt Go.RowKit
def bigN (c : Int) : Bool := decide (65 ≤ c) && decide (c ≤ 69)
def smallN (c : Int) : Bool := decide (97 ≤ c) && decide (c ≤ 100)
def byteAt (s : ByteArray) (k : Nat) : Int := ((s.data.toList.getD k 0).toNat : Int)
def isBigS (s : ByteArray) : Bool := decide (s.size = 1) && bigN (byteAt s 0)
def isSmallS (s : ByteArray) : Bool := decide (s.size = 1) && smallN (byteAt s 0)
theorem byteAt_get (s : ByteArray) (k : Nat) (h : k < s.size) : ((s[k].toNat : Nat) : Int) = byteAt s k := by
  unfold byteAt
  have h' : k < s.data.toList.length := by simpa using h
  rw [List.getD_eq_getElem?_getD, List.getElem?_eq_getElem h']
  rfl
theorem ret_bool {a b : Bool} (h : a = b) : Ending.returned (.bool a) = .returned (.bool b) := by rw [h]

theorem isBig_any (c : Int) (w : World) :
    Calls Tryz.prog 29 #[.int .u8 c] w fun e w' => e = .returned (.bool (bigN c)) ∧ w = w' := by
  go_enter Tryz.func29, Tryz.ntmps29
  go_wp2
  all_goals go_ret
  · exact ⟨ret_bool (by simp [bigN, *]), rfl⟩
  · exact ⟨ret_bool (by simp [bigN]; omega), rfl⟩
theorem l1Big_any (c : Int) (w : World) :
    Calls Tryz.prog 33 #[.int .u8 c] w fun e w' => e = .returned (.bool (bigN c)) ∧ w = w' := by
  go_enter Tryz.func33, Tryz.ntmps33
  go_wp2
  all_goals go_ret
  · exact ⟨ret_bool (by simp [bigN, *]), rfl⟩
  · exact ⟨ret_bool (by simp [bigN]; omega), rfl⟩
theorem isSmall_any (c : Int) (w : World) :
    Calls Tryz.prog 52 #[.int .u8 c] w fun e w' => e = .returned (.bool (smallN c)) ∧ w = w' := by
  go_enter Tryz.func52, Tryz.ntmps52
  go_wp2
  all_goals go_ret
  · exact ⟨ret_bool (by simp [smallN, *]), rfl⟩
  · exact ⟨ret_bool (by simp [smallN]; omega), rfl⟩
theorem l1Small_any (c : Int) (w : World) :
    Calls Tryz.prog 21 #[.int .u8 c] w fun e w' => e = .returned (.bool (smallN c)) ∧ w = w' := by
  go_enter Tryz.func21, Tryz.ntmps21
  go_wp2
  all_goals go_ret
  · exact ⟨ret_bool (by simp [smallN, *]), rfl⟩
  · exact ⟨ret_bool (by simp [smallN]; omega), rfl⟩
theorem signBig_any (s : ByteArray) (w : World) :
    Calls Tryz.prog 13 #[.string s] w fun e w' => e = .returned (.bool (isBigS s)) ∧ w = w' := by
  go_enter Tryz.func13, Tryz.ntmps13
  go_wp2_with (go_at_call 29; refine (isBig_any _ _).mono ?_; rintro e w' ⟨rfl, rfl⟩)
  all_goals go_ret
  · exact ⟨ret_bool (by rw [byteAt_get]; simp [isBigS]; omega), rfl⟩
  · exact ⟨ret_bool (by simp [isBigS]; omega), rfl⟩
theorem sSignBig_any (s : ByteArray) (w : World) :
    Calls Tryz.prog 18 #[.string s] w fun e w' => e = .returned (.bool (isBigS s)) ∧ w = w' := by
  go_enter Tryz.func18, Tryz.ntmps18
  go_wp2_with (go_at_call 33; refine (l1Big_any _ _).mono ?_; rintro e w' ⟨rfl, rfl⟩)
  all_goals go_ret
  · exact ⟨ret_bool (by rw [byteAt_get]; simp [isBigS]; omega), rfl⟩
  · exact ⟨ret_bool (by simp [isBigS]; omega), rfl⟩
theorem signSmall_any (s : ByteArray) (w : World) :
    Calls Tryz.prog 143 #[.string s] w fun e w' => e = .returned (.bool (isSmallS s)) ∧ w = w' := by
  go_enter Tryz.func143, Tryz.ntmps143
  go_wp2_with (go_at_call 52; refine (isSmall_any _ _).mono ?_; rintro e w' ⟨rfl, rfl⟩)
  all_goals go_ret
  · exact ⟨ret_bool (by rw [byteAt_get]; simp [isSmallS]; omega), rfl⟩
  · exact ⟨ret_bool (by simp [isSmallS]; omega), rfl⟩
theorem sSignSmall_any (s : ByteArray) (w : World) :
    Calls Tryz.prog 76 #[.string s] w fun e w' => e = .returned (.bool (isSmallS s)) ∧ w = w' := by
  go_enter Tryz.func76, Tryz.ntmps76
  go_wp2_with (go_at_call 21; refine (l1Small_any _ _).mono ?_; rintro e w' ⟨rfl, rfl⟩)
  all_goals go_ret
  · exact ⟨ret_bool (by rw [byteAt_get]; simp [isSmallS]; omega), rfl⟩
  · exact ⟨ret_bool (by simp [isSmallS]; omega), rfl⟩
end Go.Proofs.YtngekjbdjnfhmaaGreat
