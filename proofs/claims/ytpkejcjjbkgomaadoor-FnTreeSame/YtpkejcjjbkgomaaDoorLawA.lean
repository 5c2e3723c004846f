/- Contracts of the exact laws' helpers: szRule, szRuleS, szGram, eqRule, eqRuleS, eqGram. -/
import Derived.Test.YtpkejcjjbkgomaaDoorOkC
namespace Go.Proofs.YtpkejcjjbkgomaaDoor
open Go.ChangeShapes Go.WideShapes Go.ChangeAt Go.RowKit
def szRuleM (r : RuleT) (left : Int) : Int := if left - r.1.size < 0 then -1 else if left - r.1.size - r.2.size < 0 then -1 else left - r.1.size - r.2.size
def szFold : List RuleT → Int → Int
  | [], left => left
  | r :: rs, left => if szRuleM r left < 0 then -1 else szFold rs (szRuleM r left)
def szRulesM (rs : List RuleT) (left : Int) : Int := if left - rs.length < 0 then -1 else szFold rs (left - rs.length)
def szGramM (st : ByteArray) (rs : List RuleT) (left : Int) : Int := if left - st.size < 0 then -1 else szRulesM rs (left - st.size)
theorem ret_int {k : IntKind} {a b : Int} (h : a = b) : Ending.returned (.int k a) = .returned (.int k b) := by rw [h]
theorem szRuleM_le (r : RuleT) (left : Int) (h0 : 0 ≤ left) : szRuleM r left ≤ left ∧ -1 ≤ szRuleM r left := by
  unfold szRuleM; split
  · omega
  · split <;> omega
theorem szFold_le (rs : List RuleT) : ∀ left : Int, 0 ≤ left → szFold rs left ≤ left ∧ -1 ≤ szFold rs left := by
  induction rs with
  | nil => intro left h; simp [szFold]; omega
  | cons r rs ih =>
    intro left h
    have h1 := szRuleM_le r left h
    unfold szFold
    split
    · omega
    · have := ih (szRuleM r left) (by omega); omega
theorem szRulesM_le (rs : List RuleT) (left : Int) (h : 0 ≤ left) : szRulesM rs left ≤ left ∧ -1 ≤ szRulesM rs left := by
  unfold szRulesM; split
  · omega
  · have := szFold_le rs (left - rs.length) (by omega); omega
theorem szFold_mem (rs : List RuleT) : ∀ left : Int, 0 ≤ left → 0 ≤ szFold rs left → ∀ r ∈ rs, (r.1.size : Int) ≤ left ∧ (r.2.size : Int) ≤ left := by
  induction rs with
  | nil => intro left _ _ r hr; cases hr
  | cons x rs ih =>
    intro left h h0 r hr
    unfold szFold at h0
    split at h0
    · omega
    · rename_i hx
      have hx' : (x.1.size : Int) ≤ left ∧ (x.2.size : Int) ≤ left := by
        unfold szRuleM at hx; split at hx
        · omega
        · split at hx <;> omega
      rcases List.mem_cons.1 hr with rfl | hr
      · exact hx'
      · have h1 := szRuleM_le x left h
        have := ih _ (by omega) h0 r hr
        omega

def eqRs (xs ys : List RuleT) : Bool := decide (xs.length = ys.length) && (List.range xs.length).all fun i => match xs[i]?, ys[i]? with
  | some x, some y => eqR x y
  | _, _ => true
theorem eqRs_len {xs ys : List RuleT} (h : xs.length ≠ ys.length) : eqRs xs ys = false := by simp [eqRs, h]
theorem eqRs_bad {xs ys : List RuleT} {k : Nat} (h1 : k < xs.length) (h2 : k < ys.length) (h : eqR xs[k] ys[k] = false) : eqRs xs ys = false := by
  unfold eqRs
  rw [Bool.and_eq_false_iff]
  right
  rw [List.all_eq_false]
  exact ⟨k, by simpa using h1, by simp [h1, h2, h]⟩
theorem eqRs_all {xs ys : List RuleT} (hl : xs.length = ys.length) (h : ∀ k (h1 : k < xs.length) (h2 : k < ys.length), eqR xs[k] ys[k] = true) : eqRs xs ys = true := by
  unfold eqRs
  rw [Bool.and_eq_true]
  refine ⟨by simpa using hl, ?_⟩
  rw [List.all_eq_true]
  intro i hi
  have h1 : i < xs.length := by simpa using hi
  have h2 : i < ys.length := by omega
  simp [h1, h2, h i h1 h2]
theorem eqR_refl (x : RuleT) : eqR x x = true := by simp [eqR]
theorem eqRs_refl (xs : List RuleT) : eqRs xs xs = true := eqRs_all rfl fun _ _ _ => eqR_refl _

def eqG (sa : ByteArray) (xs : List RuleT) (sb : ByteArray) (ys : List RuleT) : Bool := sa.toList == sb.toList && eqRs xs ys
theorem eqG_refl (sa : ByteArray) (xs : List RuleT) : eqG sa xs sa xs = true := by simp [eqG, eqRs_refl]
end Go.Proofs.YtpkejcjjbkgomaaDoor
