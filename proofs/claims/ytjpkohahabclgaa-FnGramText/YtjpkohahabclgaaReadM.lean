/- What a text is cut into; the text of a grammar is read back. -/
import Derived.Test.YtjpkohahabclgaaOwnN
import Derived.Test.YtjpkohahabclgaaSymA
namespace Go.Proofs.Ytjpkohahabclgaa
open Go.ChangeShapes Go.WideShapes Go.ChangeAt Go.RowKit
set_option maxRecDepth 100000
/-- what stands ahead of the first c and behind it -/
def cutAt : List UInt8 → UInt8 → Option (List UInt8 × List UInt8)
  | [], _ => none
  | b :: l, c => if b = c then some ([], l) else (cutAt l c).map fun p => (b :: p.1, p.2)
theorem cutAt_app {x : List UInt8} {c : UInt8} (h : c ∉ x) (y : List UInt8) : cutAt (x ++ c :: y) c = some (x, y) := by
  induction x with
  | nil => simp [cutAt]
  | cons b x ih =>
    rw [List.cons_append, cutAt, if_neg (fun e => h (by simp [e])), ih (fun hm => h (List.mem_cons_of_mem _ hm))]
    rfl
theorem cutAt_not {x : List UInt8} {c : UInt8} (h : c ∉ x) : cutAt x c = none := by
  induction x with
  | nil => rfl
  | cons b x ih => rw [cutAt, if_neg (fun e => h (by simp [e])), ih (fun hm => h (List.mem_cons_of_mem _ hm))]; rfl
theorem cutAt_index (l : List UInt8) (c : UInt8) : (cutAt l c = none ∧ Lib.indexByte l c = -1) ∨ ∃ x y, cutAt l c = some (x, y) ∧ l = x ++ c :: y ∧ Lib.indexByte l c = (x.length : Int) := by
  induction l with
  | nil => exact .inl ⟨rfl, rfl⟩
  | cons b l ih =>
    unfold cutAt Lib.indexByte
    by_cases h : b = c
    · subst h
      exact .inr ⟨[], l, by simp, rfl, by simp⟩
    · rw [if_neg h, show (b == c) = false from by simpa using h]
      rcases ih with ⟨h1, h2⟩ | ⟨x, y, h1, h2, h3⟩
      · left; rw [h1, h2]; exact ⟨rfl, by simp⟩
      · right
        refine ⟨b :: x, y, by rw [h1]; rfl, by rw [h2]; rfl, ?_⟩
        rw [h3, if_neg (by simp), if_neg (by rw [beq_iff_eq]; omega)]
        simp
def ruleOfL (x : List UInt8) : RuleT := match cutAt x 62 with
  | some p => (bytesOf p.1, bytesOf p.2)
  | none => (bytesOf x, bytesOf [])
def linesR : Nat → List UInt8 → List RuleT
  | 0, _ => []
  | k + 1, r => match cutAt r 10 with
    | none => []
    | some p => ruleOfL p.1 :: linesR k p.2
theorem linesR_len : ∀ k r, (linesR k r).length ≤ k
  | 0, _ => Nat.le_refl _
  | k + 1, r => by
    unfold linesR
    cases cutAt r 10 with
    | none => simp
    | some p => simp only [List.length_cons]; have := linesR_len k p.2; omega
def startL (t : List UInt8) : List UInt8 × List UInt8 := match cutAt t 10 with
  | some p => p
  | none => ([], t)
def parseS (t : List UInt8) : ByteArray := bytesOf (startL t).1
def parseR (t : List UInt8) : List RuleT := linesR 9 (startL t).2
theorem big_not {s : ByteArray} (h : isBigS s = true) {c : UInt8} (hc : c = 10 ∨ c = 62) : c ∉ s.data.toList := by
  simp only [isBigS, Bool.and_eq_true, decide_eq_true_eq, byteAt] at h
  obtain ⟨h6, h7⟩ := h
  have hl : s.data.toList.length = 1 := by simpa using h6
  match hs : s.data.toList, hl with
  | [x], _ =>
    rw [hs] at h7
    intro hm
    obtain rfl : c = x := by simpa using hm
    rcases hc with rfl | rfl <;> revert h7 <;> decide
theorem sym_not {s : ByteArray} (h : allSym s = true) : (10 : UInt8) ∉ s.data.toList := by
  intro hm
  unfold allSym symsTo at h
  rw [List.all_eq_true] at h
  have := h 10 (by rw [List.take_of_length_le (by simp)]; exact hm)
  revert this; decide
theorem linesR_text : ∀ (rs : List RuleT) (k : Nat), rs.length < k → (∀ r ∈ rs, ruleOkB r = true) → linesR k (rs.flatMap ruleTextL) = rs
  | [], k, hk, _ => by
    obtain ⟨j, rfl⟩ : ∃ j, k = j + 1 := ⟨k - 1, by simp at hk; omega⟩
    rfl
  | r :: rs, k, hk, hr => by
    obtain ⟨j, rfl⟩ : ∃ j, k = j + 1 := ⟨k - 1, by simp at hk; omega⟩
    have h1 := hr r (by simp)
    simp only [ruleOkB, Bool.and_eq_true] at h1
    have e : (r :: rs).flatMap ruleTextL = (r.1.data.toList ++ 62 :: r.2.data.toList) ++ 10 :: rs.flatMap ruleTextL := by simp [ruleTextL]
    have hn : (10 : UInt8) ∉ r.1.data.toList ++ 62 :: r.2.data.toList := by
      rw [List.mem_append, List.mem_cons]
      rintro (h | h | h)
      · exact big_not h1.1 (.inl rfl) h
      · revert h; decide
      · exact sym_not h1.2.2 h
    rw [e, linesR, cutAt_app hn]
    simp only
    rw [linesR_text rs j (by simp at hk; omega) (fun x hx => hr x (List.mem_cons_of_mem _ hx))]
    unfold ruleOfL
    rw [cutAt_app (big_not h1.1 (.inr rfl))]
    simp only [bytesOf_self]
theorem parse_text {st : ByteArray} {rs : List RuleT} (h : gramOkB st rs = true) : parseS (gramTextL st rs) = st ∧ parseR (gramTextL st rs) = rs := by
  obtain ⟨h1, h2, h3, _⟩ := (ok_iff st rs).1 h
  have e : gramTextL st rs = st.data.toList ++ 10 :: rs.flatMap ruleTextL := by
    unfold gramTextL textTo
    rw [if_pos h, List.take_length]
  have e2 : startL (gramTextL st rs) = (st.data.toList, rs.flatMap ruleTextL) := by
    unfold startL
    rw [e, cutAt_app (big_not h1 (.inl rfl))]
  unfold parseS parseR
  rw [e2]
  exact ⟨bytesOf_self st, linesR_text rs 9 (by omega) h3⟩
/-- the text is that of the grammar that is read out of it -/
def goodT (t : List UInt8) : Bool := gramOkB (parseS t) (parseR t) && (gramTextL (parseS t) (parseR t) == t)
def rdS (t : List UInt8) : ByteArray := if goodT t = true then parseS t else ⟨#[]⟩
def rdR (t : List UInt8) : List RuleT := if goodT t = true then parseR t else []
theorem text_ne {st : ByteArray} {rs : List RuleT} (h : gramOkB st rs = true) : gramTextL st rs ≠ [] := by
  unfold gramTextL textTo
  rw [if_pos h]
  simp
theorem good_of {st : ByteArray} {rs : List RuleT} {t : List UInt8} (ht : t ≠ []) (h : gramTextL st rs = t) : goodT t = true ∧ rdS t = st ∧ rdR t = rs := by
  have hok : gramOkB st rs = true := by
    cases hk : gramOkB st rs with
    | true => rfl
    | false => exfalso; apply ht; rw [← h]; unfold gramTextL; rw [hk]; rfl
  obtain ⟨e1, e2⟩ := parse_text hok
  rw [h] at e1 e2
  have hg : goodT t = true := by unfold goodT; rw [e1, e2, hok, h]; simp
  exact ⟨hg, by unfold rdS; rw [if_pos hg, e1], by unfold rdR; rw [if_pos hg, e2]⟩
end Go.Proofs.Ytjpkohahabclgaa
