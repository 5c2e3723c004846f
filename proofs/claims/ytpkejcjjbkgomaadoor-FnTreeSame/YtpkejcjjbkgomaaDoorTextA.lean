/- Contracts of GramText, the program's and the model's. -/
import Derived.Test.YtpkejcjjbkgomaaDoorLawB
import Derived.Test.YtpkejcjjbkgomaaDoorShelf
namespace Go.Proofs.YtpkejcjjbkgomaaDoor
open Go.ChangeShapes Go.WideShapes Go.ChangeAt Go.RowKit
def bytesOf (l : List UInt8) : ByteArray := ⟨l.toArray⟩
def ruleTextL (r : RuleT) : List UInt8 := r.1.data.toList ++ (62 :: (r.2.data.toList ++ [10]))
def textTo (st : ByteArray) (rs : List RuleT) (k : Nat) : List UInt8 := st.data.toList ++ (10 :: (rs.take k).flatMap ruleTextL)
def gramTextL (st : ByteArray) (rs : List RuleT) : List UInt8 := if gramOkB st rs = true then textTo st rs rs.length else []
theorem bytesOf_ext {a b : ByteArray} (h : a.data.toList = b.data.toList) : a = b := by
  obtain ⟨⟨x⟩⟩ := a; obtain ⟨⟨y⟩⟩ := b; simp at h; rw [h]
theorem textTo_zero (st : ByteArray) (rs : List RuleT) : st ++ (⟨#[10]⟩ : ByteArray) = bytesOf (textTo st rs 0) := by
  apply bytesOf_ext; simp [bytesOf, textTo]
theorem textTo_succ (st : ByteArray) (rs : List RuleT) (k : Nat) (h : k < rs.length) : textTo st rs (k + 1) = textTo st rs k ++ ruleTextL rs[k] := by
  unfold textTo
  rw [List.take_succ_eq_append_getElem h, List.flatMap_append]
  simp
theorem textTo_step (st : ByteArray) (rs : List RuleT) (k : Nat) (h : k < rs.length) : bytesOf (textTo st rs k) ++ rs[k].1 ++ (⟨#[62]⟩ : ByteArray) ++ rs[k].2 ++ (⟨#[10]⟩ : ByteArray) = bytesOf (textTo st rs (k + 1)) := by
  apply bytesOf_ext; rw [textTo_succ st rs k h]; simp [bytesOf, ruleTextL]
theorem gramOk_facts {st : ByteArray} {rs : List RuleT} (h : gramOkB st rs = true) : st.size = 1 ∧ rs.length ≤ 8 ∧ ∀ i (hi : i < rs.length), rs[i].1.size = 1 ∧ rs[i].2.size ≤ 4 := by
  unfold gramOkB at h
  simp only [Bool.and_eq_true, decide_eq_true_eq, List.all_eq_true, List.mem_range] at h
  obtain ⟨h1, h2, h3⟩ := h
  refine ⟨by simp only [isBigS, Bool.and_eq_true, decide_eq_true_eq] at h1; exact h1.1, h2, fun i hi => ?_⟩
  have h4 := h3 i hi
  rw [goodB_at hi] at h4
  simp [ruleOkB, isBigS] at h4
  exact ⟨h4.1.1.1, h4.1.2.1⟩
theorem textTo_size {st : ByteArray} {rs : List RuleT} (h : gramOkB st rs = true) : ∀ k, k ≤ rs.length → (textTo st rs k).length ≤ 2 + 7 * k := by
  obtain ⟨h1, h2, h3⟩ := gramOk_facts h
  intro k
  induction k with
  | zero => intro _; simp [textTo]; omega
  | succ k ih =>
    intro hk
    have := ih (by omega)
    rw [textTo_succ st rs k (by omega)]
    have := h3 k (by omega)
    simp [ruleTextL]
    omega
theorem bytesOf_size (l : List UInt8) : (bytesOf l).size = l.length := by simp [bytesOf, ByteArray.size]
theorem one_size (c : UInt8) : (⟨#[c]⟩ : ByteArray).size = 1 := rfl
def cat (l : List UInt8) (s : ByteArray) : List UInt8 := l ++ s.data.toList
theorem cat_len (l : List UInt8) (s : ByteArray) : (cat l s).length = l.length + s.size := by simp [cat]
theorem run_add_bytes {P : Program} (l : List UInt8) (s : ByteArray) (h : l.length + s.size ≤ 9223372036854775807) (w : World) : (Op.stringOp .add (bytesOf l) s).run P w = .ok (.string (bytesOf (cat l s))) w := by
  rw [run_string_add_sum w _ _ (by rw [bytesOf_size]; exact h), show bytesOf l ++ s = bytesOf (cat l s) from bytesOf_ext (by simp [bytesOf, cat])]
theorem textTo_cat (st : ByteArray) (rs : List RuleT) (k : Nat) (h : k < rs.length) : cat (cat (cat (cat (textTo st rs k) rs[k].1) (⟨#[62]⟩ : ByteArray)) rs[k].2) (⟨#[10]⟩ : ByteArray) = textTo st rs (k + 1) := by
  rw [textTo_succ st rs k h]; simp [cat, ruleTextL]
theorem bytesOf_self (s : ByteArray) : bytesOf s.data.toList = s := bytesOf_ext (by simp [bytesOf])
theorem ret_string {a b : ByteArray} (h : a = b) : Ending.returned (.string a) = .returned (.string b) := by rw [h]

end Go.Proofs.YtpkejcjjbkgomaaDoor
