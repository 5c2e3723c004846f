/- What a symbol is: contracts of SignBig and SignSmall, the program's and the model's, and of the byte tests that they call. -/
import Derived.Test.YtnfadakbffhonaaDoorRows
import Derived.WalkKit
import Derived.ProofKit
import Derived.Outline
import Derived.Lib.Hide
namespace Go.Proofs.YtnfadakbffhonaaDoor
open Go.ChangeShapes Go.WideShapes Go.ChangeAt Go.RowKit
def bigN (c : Int) : Bool := decide (65 ≤ c) && decide (c ≤ 69)
def smallN (c : Int) : Bool := decide (97 ≤ c) && decide (c ≤ 100)
def byteAt (s : ByteArray) (k : Nat) : Int := ((s.data.toList.getD k 0).toNat : Int)
def isBigS (s : ByteArray) : Bool := decide (s.size = 1) && bigN (byteAt s 0)
def isSmallS (s : ByteArray) : Bool := decide (s.size = 1) && smallN (byteAt s 0)
theorem byteAt_get (s : ByteArray) (k : Nat) (h : k < s.size) : ((s[k].toNat : Nat) : Int) = byteAt s k := by
  unfold byteAt
  have h' : k < s.data.toList.length := by simpa using h
  rw [List.getD_eq_getElem?_getD, List.getElem?_eq_getElem h']
  rfl
theorem ret_bool {a b : Bool} (h : a = b) : Ending.returned (.bool a) = .returned (.bool b) := by rw [h]

theorem isBig_any (c : Int) (w : World) :
    Calls Tryd.prog 50 #[.int .u8 c] w fun e w' => e = .returned (.bool (bigN c)) ∧ w = w' := by
  go_enter Tryd.func50, Tryd.ntmps50
  go_wp2
  all_goals go_ret
  · exact ⟨ret_bool (by simp [bigN, *]), rfl⟩
  · exact ⟨ret_bool (by simp [bigN]; omega), rfl⟩
theorem l1Big_any (c : Int) (w : World) :
    Calls Tryd.prog 48 #[.int .u8 c] w fun e w' => e = .returned (.bool (bigN c)) ∧ w = w' := by
  go_enter Tryd.func48, Tryd.ntmps48
  go_wp2
  all_goals go_ret
  · exact ⟨ret_bool (by simp [bigN, *]), rfl⟩
  · exact ⟨ret_bool (by simp [bigN]; omega), rfl⟩
theorem isSmall_any (c : Int) (w : World) :
    Calls Tryd.prog 53 #[.int .u8 c] w fun e w' => e = .returned (.bool (smallN c)) ∧ w = w' := by
  go_enter Tryd.func53, Tryd.ntmps53
  go_wp2
  all_goals go_ret
  · exact ⟨ret_bool (by simp [smallN, *]), rfl⟩
  · exact ⟨ret_bool (by simp [smallN]; omega), rfl⟩
theorem l1Small_any (c : Int) (w : World) :
    Calls Tryd.prog 49 #[.int .u8 c] w fun e w' => e = .returned (.bool (smallN c)) ∧ w = w' := by
  go_enter Tryd.func49, Tryd.ntmps49
  go_wp2
  all_goals go_ret
  · exact ⟨ret_bool (by simp [smallN, *]), rfl⟩
  · exact ⟨ret_bool (by simp [smallN]; omega), rfl⟩
theorem signBig_any (s : ByteArray) (w : World) :
    Calls Tryd.prog 41 #[.string s] w fun e w' => e = .returned (.bool (isBigS s)) ∧ w = w' := by
  go_enter Tryd.func41, Tryd.ntmps41
  go_wp2_with (go_at_call 50; refine (isBig_any _ _).mono ?_; rintro e w' ⟨rfl, rfl⟩)
  all_goals go_ret
  · exact ⟨ret_bool (by rw [byteAt_get]; simp [isBigS]; omega), rfl⟩
  · exact ⟨ret_bool (by simp [isBigS]; omega), rfl⟩
theorem sSignBig_any (s : ByteArray) (w : World) :
    Calls Tryd.prog 37 #[.string s] w fun e w' => e = .returned (.bool (isBigS s)) ∧ w = w' := by
  go_enter Tryd.func37, Tryd.ntmps37
  go_wp2_with (go_at_call 48; refine (l1Big_any _ _).mono ?_; rintro e w' ⟨rfl, rfl⟩)
  all_goals go_ret
  · exact ⟨ret_bool (by rw [byteAt_get]; simp [isBigS]; omega), rfl⟩
  · exact ⟨ret_bool (by simp [isBigS]; omega), rfl⟩
theorem signSmall_any (s : ByteArray) (w : World) :
    Calls Tryd.prog 44 #[.string s] w fun e w' => e = .returned (.bool (isSmallS s)) ∧ w = w' := by
  go_enter Tryd.func44, Tryd.ntmps44
  go_wp2_with (go_at_call 53; refine (isSmall_any _ _).mono ?_; rintro e w' ⟨rfl, rfl⟩)
  all_goals go_ret
  · exact ⟨ret_bool (by rw [byteAt_get]; simp [isSmallS]; omega), rfl⟩
  · exact ⟨ret_bool (by simp [isSmallS]; omega), rfl⟩
theorem sSignSmall_any (s : ByteArray) (w : World) :
    Calls Tryd.prog 40 #[.string s] w fun e w' => e = .returned (.bool (isSmallS s)) ∧ w = w' := by
  go_enter Tryd.func40, Tryd.ntmps40
  go_wp2_with (go_at_call 49; refine (l1Small_any _ _).mono ?_; rintro e w' ⟨rfl, rfl⟩)
  all_goals go_ret
  · exact ⟨ret_bool (by rw [byteAt_get]; simp [isSmallS]; omega), rfl⟩
  · exact ⟨ret_bool (by simp [isSmallS]; omega), rfl⟩
end Go.Proofs.YtnfadakbffhonaaDoor
