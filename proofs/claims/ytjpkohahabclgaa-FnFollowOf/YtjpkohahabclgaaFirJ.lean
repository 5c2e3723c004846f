/- FIRST sets exist; FirstOf by them; FIRST of two strings one behind the other. -/
import Derived.Test.YtjpkohahabclgaaFirI
namespace Go.Proofs.Ytjpkohahabclgaa
open Go.ChangeShapes Go.WideShapes Go.ChangeAt Go.RowKit
set_option maxRecDepth 100000
theorem exists_first_from (rs : List RuleT) (n : Nat) : ∀ (k : Nat) (F : V5), 5120 - F.sum ≤ k → F.ok → (∀ G, firClosed rs n G → Sub5 F G) → ∃ R, IsFirst rs n R := by
  intro k
  induction k with
  | zero =>
    intro F h hF _
    have := hF.sum
    omega
  | succ k ih =>
    intro F h hF hl
    by_cases e : firTo rs n F rs.length = F
    · exact ⟨F, hF, firTo_fix e, hl⟩
    · have h1 := (firTo_sub rs n F rs.length).grows (fun e' => e e'.symm)
      have h2 := (firTo_ok rs n hF rs.length).sum
      exact ih (firTo rs n F rs.length) (by omega) (firTo_ok rs n hF _) (fun G hG => firTo_below hG (hl G hG))
theorem exists_first (rs : List RuleT) (n : Nat) : ∃ F, IsFirst rs n F := exists_first_from rs n _ zero5 (Nat.le_refl _) zero5_ok (fun G _ => zero5_sub G)
theorem firstRes_same {st : ByteArray} {rs : List RuleT} {s : ByteArray} {F G : V5} (hF : firstAsk st rs s = true → IsFirst rs (leftsLeast rs 0) F) (hG : IsFirst rs (leftsLeast rs 0) G) : firstRes st rs F s = firstRes st rs G s := by
  cases h : firstAsk st rs s with
  | true => rw [(hF h).unique hG]
  | false => simp [firstRes, h]
theorem firstOf_fix {rs : List RuleT} {F : V5} (hF : IsFirst rs (leftsLeast rs 0) F) (st : ByteArray) (a : Option Addr) (cap : Nat) (s : ByteArray) (w : World) (H : RulesAt w a rs) (hcap : rs.length ≤ cap) (hs : s.size ≤ maxLen) :
    Calls Try.prog 45 #[.agg #[.string st, .slice a rs.length cap], .string s] w fun e w' => e = .returned (.tuple #[.string (bytesOf (firstRes st rs F s).1), .bool (firstRes st rs F s).2]) ∧ Below w.heap.size w w' :=
  (firstOf_any st a cap rs s w H hcap hs).mono fun e w' ⟨G, hG, he, hb⟩ => ⟨by rw [he, firstRes_same hG hF], hb⟩
theorem firstA_acc {n : Nat} {F : V5} : ∀ (l : List UInt8) (acc : Nat), firstA n F acc l = (acc ||| (firstA n F 0 l).1, (firstA n F 0 l).2)
  | [], acc => by simp [firstA]
  | c :: r, acc => by
    unfold firstA
    split
    · simp
    split
    · rw [firstA_acc r (acc ||| F.get c), firstA_acc r (0 ||| F.get c)]; simp [Nat.or_assoc]
    · simp
theorem firstA_cons (n : Nat) (F : V5) (acc : Nat) (c : UInt8) (r : List UInt8) : firstA n F acc (c :: r) = if smallN (c.toNat : Int) = true then (acc ||| bitN c, false) else if hasN n c = true then firstA n F (acc ||| F.get c) r else (acc ||| F.get c, false) := rfl
theorem firstA_append {n : Nat} {F : V5} : ∀ (l1 l2 : List UInt8) (acc : Nat), firstA n F acc (l1 ++ l2) = if (firstA n F acc l1).2 = true then firstA n F (firstA n F acc l1).1 l2 else firstA n F acc l1
  | [], l2, acc => by simp [firstA]
  | c :: r, l2, acc => by
    rw [List.cons_append, firstA_cons, firstA_cons]
    by_cases h1 : smallN (c.toNat : Int) = true
    · simp [h1]
    by_cases h2 : hasN n c = true
    · rw [if_neg h1, if_pos h2, if_neg h1, if_pos h2]; exact firstA_append r l2 _
    · simp [h1, h2]
theorem ask_cut {st : ByteArray} {rs : List RuleT} {s : ByteArray} (h : firstAsk st rs s = true) (i j : Nat) : firstAsk st rs (s.extract i j) = true := by
  unfold firstAsk at *
  simp only [Bool.and_eq_true, decide_eq_true_eq] at *
  obtain ⟨h1, h2, h3⟩ := h
  refine ⟨h1, by simp; omega, ?_⟩
  unfold allSym symsTo at *
  rw [List.take_of_length_le (by simp), List.all_eq_true] at h3
  rw [List.all_eq_true]
  intro c hc
  refine h3 c ?_
  replace hc := List.mem_of_mem_take hc
  rw [Lib.extract_data] at hc
  exact List.mem_of_mem_drop (List.mem_of_mem_take (by simpa using hc))
theorem cut_two (s : ByteArray) (k : Nat) : (s.extract 0 k).data.toList ++ (s.extract k s.size).data.toList = s.data.toList := by
  rw [Lib.extract_data, Lib.extract_data]
  simp
  rw [List.take_of_length_le (l := List.drop k s.data.toList) (by simp), List.take_append_drop]
/-- FirstOf of a string, by its two parts -/
theorem firstRes_parts {st : ByteArray} {rs : List RuleT} {F : V5} {s : ByteArray} (hF : F.ok) (h : firstAsk st rs s = true) (k : Nat) : ∃ A B : Nat, ∃ P Q : Bool, A < 1024 ∧ B < 1024 ∧
    firstRes st rs F (s.extract 0 k) = (textN A, P) ∧ firstRes st rs F (s.extract k s.size) = (textN B, Q) ∧ firstRes st rs F s = (textN (if P = true then A ||| B else A), P && Q) := by
  have h1 := ask_cut h 0 k
  have h2 := ask_cut h k s.size
  refine ⟨(firstA (leftsLeast rs 0) F 0 (s.extract 0 k).data.toList).1, (firstA (leftsLeast rs 0) F 0 (s.extract k s.size).data.toList).1, (firstA (leftsLeast rs 0) F 0 (s.extract 0 k).data.toList).2, (firstA (leftsLeast rs 0) F 0 (s.extract k s.size).data.toList).2, firstA_lt hF _ 0 (by omega), firstA_lt hF _ 0 (by omega), ?_, ?_, ?_⟩
  · unfold firstRes; rw [if_pos h1]
  · unfold firstRes; rw [if_pos h2]
  · unfold firstRes
    rw [if_pos h, ← cut_two s k, firstA_append, firstA_acc (s.extract k s.size).data.toList]
    generalize firstA (leftsLeast rs 0) F 0 (s.extract 0 k).data.toList = X
    generalize firstA (leftsLeast rs 0) F 0 (s.extract k s.size).data.toList = Y
    obtain ⟨A, P⟩ := X
    cases P <;> simp
end Go.Proofs.Ytjpkohahabclgaa
