/- Contracts of allSymbols, l1Right, ruleOk: what the right side of a rule is. -/
import Derived.Test.YtiejfbodcjckeaaSig
import Derived.Deep.QuietTactic
import Derived.BigQuiet
import Derived.WalkSpells
import Derived.WalkLawsBesides
namespace Go.Proofs.Ytiejfbodcjckeaa
open Go.ChangeShapes Go.WideShapes Go.ChangeAt Go.RowKit
def symN (c : Int) : Bool := bigN c || smallN c
/-- the first k bytes are symbols -/
def symsTo (s : ByteArray) (k : Nat) : Bool := (s.data.toList.take k).all fun c => symN (c.toNat : Int)
def allSym (s : ByteArray) : Bool := symsTo s s.size
theorem take_snoc (s : ByteArray) (k : Nat) (h : k < s.size) : s.data.toList.take (k + 1) = s.data.toList.take k ++ [s[k]] := by
  rw [List.take_succ_eq_append_getElem (by simpa using h)]; rfl
theorem symsTo_succ (s : ByteArray) (k : Nat) (h : k < s.size) : symsTo s (k + 1) = (symsTo s k && symN (byteAt s k)) := by
  unfold symsTo
  rw [take_snoc s k h, List.all_append, ← byteAt_get s k h]
  simp
theorem symsTo_false (s : ByteArray) (k : Nat) (h : k < s.size) (hb : symN (byteAt s k) = false) : allSym s = false := by
  have h1 : symsTo s (k + 1) = false := by rw [symsTo_succ s k h, hb]; simp
  unfold allSym
  cases hh : symsTo s s.size with
  | false => rfl
  | true =>
    have : symsTo s (k + 1) = true := by
      unfold symsTo at *
      rw [List.all_eq_true] at *
      intro x hx
      refine hh x ?_
      rw [List.take_of_length_le (by simp)]
      exact List.mem_of_mem_take hx
    rw [h1] at this; cases this

def rightB (s : ByteArray) (m : Int) : Bool := allSym s && decide ((s.size : Int) ≤ m)
def ruleOkB (r : ByteArray × ByteArray) : Bool := isBigS r.1 && (decide (r.2.size ≤ 4) && allSym r.2)
theorem ruleOkB_right (r : ByteArray × ByteArray) : ruleOkB r = (isBigS r.1 && rightB r.2 4) := by
  unfold ruleOkB rightB
  cases isBigS r.1 <;> cases allSym r.2 <;> simp
  omega
end Go.Proofs.Ytiejfbodcjckeaa
