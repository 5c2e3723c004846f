/- Contracts of the model's l1In, l2All, l2Grow, GramNone and GramMade. -/
import Derived.Test.YtiejfbodcjckeaaSetF
namespace Go.Proofs.Ytiejfbodcjckeaa
open Go.ChangeShapes Go.WideShapes Go.ChangeAt Go.RowKit
set_option maxRecDepth 100000
def inL (l : List UInt8) (c : UInt8) : Bool := l.contains c
theorem contains_at {s : ByteArray} {c : UInt8} {k : Nat} (h : k < s.size) (e : s[k] = c) : inL s.data.toList c = true := by
  rw [inL, List.contains_iff_mem, ← e]; show s.data[k] ∈ _; simp
theorem contains_not {s : ByteArray} {c : UInt8} (h : ∀ k (hk : k < s.size), ¬ s[k] = c) : inL s.data.toList c = false := by
  cases hh : inL s.data.toList c with
  | false => rfl
  | true =>
    rw [inL, List.contains_iff_mem] at hh
    obtain ⟨k, hk, e⟩ := List.getElem_of_mem hh
    exact absurd e (h k (by simpa using hk))
theorem u8_eq (a b : UInt8) : (((a.toNat : Nat) : Int) == ((b.toNat : Nat) : Int)) = decide (a = b) := by
  by_cases h : a = b
  · subst h; simp
  · have : ¬ a.toNat = b.toNat := fun e => h (UInt8.toNat_inj.1 e)
    rw [decide_eq_false h, beq_eq_false_iff_ne]; omega
theorem small_all : ∀ n : Fin 256, hasN 960 (UInt8.ofNat n.val) = smallN ((UInt8.ofNat n.val).toNat : Int) := by decide +kernel
theorem has_small (c : UInt8) : hasN 960 c = smallN (c.toNat : Int) := by
  have h := small_all ⟨c.toNat, c.toNat_lt⟩
  simpa only [UInt8.ofNat_toNat] using h
theorem hasN_zero (c : UInt8) : hasN 0 c = false := by simp [hasN]
def smallSet (b : Bool) : Nat := if b then 960 else 0
theorem smallSet_lt (b : Bool) : smallSet b < 1024 := by cases b <;> simp [smallSet]
theorem has_smallSet (m : Nat) (b : Bool) (c : UInt8) : hasN (m ||| smallSet b) c = (hasN m c || (b && smallN (c.toNat : Int))) := by
  rw [hasN_or]
  cases b
  · simp [smallSet, hasN_zero]
  · simp [smallSet, has_small]
theorem hasAll_bad {m : Nat} {s : ByteArray} {k : Nat} (h : k < s.size) (hb : hasN m s[k] = false) : hasAllN m s.data.toList = false := by
  cases hh : hasAllN m s.data.toList with
  | false => rfl
  | true =>
    unfold hasAllN at hh
    rw [List.all_eq_true] at hh
    have := hh s[k] (by show s.data[k] ∈ _; simp)
    rw [hb] at this; cases this
theorem ok_left {st : ByteArray} {rs : List RuleT} (h : gramOkB st rs = true) {k : Nat} (hk : k < rs.length) : ∃ c : UInt8, rs[k].1 = ⟨#[c]⟩ ∧ bigN (c.toNat : Int) = true := by
  unfold gramOkB at h
  simp only [Bool.and_eq_true, decide_eq_true_eq, List.all_eq_true, List.mem_range] at h
  have h4 := h.2.2 k hk
  rw [goodB_at hk] at h4
  simp only [ruleOkB, Bool.and_eq_true] at h4
  have h5 := h4.1.1
  simp only [isBigS, Bool.and_eq_true, decide_eq_true_eq, byteAt] at h5
  obtain ⟨h6, h7⟩ := h5
  have hl : rs[k].1.data.toList.length = 1 := by simpa using h6
  match hs : rs[k].1.data.toList, hl with
  | [x], _ =>
    rw [hs] at h7
    exact ⟨x, bytesOf_ext (by rw [hs]), by simpa using h7⟩
theorem big_ord {c : UInt8} (h : bigN (c.toNat : Int) = true) : c ∈ ordL := by
  rcases bigN_cases h with rfl | rfl | rfl | rfl | rfl <;> decide
end Go.Proofs.Ytiejfbodcjckeaa
