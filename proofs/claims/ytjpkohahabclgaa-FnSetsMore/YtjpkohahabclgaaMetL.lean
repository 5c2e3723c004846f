/- The least met set is closed, and within every closed set. -/
import Derived.Test.YtjpkohahabclgaaMetB
import Derived.Test.YtjpkohahabclgaaLeast
namespace Go.Proofs.Ytjpkohahabclgaa
open Go.ChangeShapes Go.WideShapes Go.ChangeAt Go.RowKit
set_option maxRecDepth 100000
theorem hasN_and {a b : Nat} {c : UInt8} (ha : a < 1024) (hb : b < 1024) (h : hasN a c = true) (k : hasN b c = true) : hasN (a &&& b) c = true := hasN_of_sub (hasN_mem h) ((sub_bit ha h).and (sub_bit hb k))
theorem metClosed_and {st : ByteArray} {rs : List RuleT} {S T : Nat} (ha : S < 1024) (hb : T < 1024) (hS : metClosedB st rs S = true) (hT : metClosedB st rs T = true) : metClosedB st rs (S &&& T) = true := by
  rw [metClosed_iff] at *
  refine ⟨hS.1.and hT.1, fun r hr hl c hc hcb => hasN_and ha hb (hS.2 r hr (hasN_mono (and_sub_left S T) hl) c hc hcb) (hT.2 r hr (hasN_mono (and_sub_right S T) hl) c hc hcb)⟩
theorem has_1023 {c : UInt8} (h : c ∈ ordL) : hasN 1023 c = true := by
  have : ordL.all (fun c => hasN 1023 c) = true := by decide
  exact List.all_eq_true.1 this c h
theorem metClosed_top (st : ByteArray) (rs : List RuleT) : metClosedB st rs 1023 = true := by
  rw [metClosed_iff]
  exact ⟨sub_1023 (setN_lt _), fun r _ _ c _ hb => has_1023 (bigs_ord hb)⟩
theorem metLeast_closed (st : ByteArray) (rs : List RuleT) : metClosedB st rs (metLeast st rs) = true := by
  unfold metLeast leastN
  have : ∀ (l : List Nat) (acc : Nat), (∀ S ∈ l, S < 1024) → acc < 1024 → metClosedB st rs acc = true → metClosedB st rs (l.foldl (fun acc S => if metClosedB st rs S then acc &&& S else acc) acc) = true := by
    intro l
    induction l with
    | nil => intro acc _ _ h; exact h
    | cons S l ih =>
      intro acc hl ha h
      refine ih _ (fun x hx => hl x (List.mem_cons_of_mem _ hx)) ?_ ?_
      · show (if metClosedB st rs S = true then acc &&& S else acc) < 1024
        split
        · exact Nat.lt_of_le_of_lt Nat.and_le_left ha
        · exact ha
      · show metClosedB st rs (if metClosedB st rs S = true then acc &&& S else acc) = true
        split
        · rename_i hS; exact metClosed_and ha (hl S (List.mem_cons_self ..)) h hS
        · exact h
  exact this _ _ (fun S hS => List.mem_range.1 hS) (by omega) (metClosed_top st rs)
theorem metFold_sub (st : ByteArray) (rs : List RuleT) : ∀ (l : List Nat) (acc : Nat), Sub (l.foldl (fun acc S => if metClosedB st rs S then acc &&& S else acc) acc) acc
  | [], acc => Sub.refl acc
  | S :: l, acc => by
    refine (metFold_sub st rs l _).trans ?_
    show Sub (if metClosedB st rs S = true then acc &&& S else acc) acc
    split
    · exact and_sub_left _ _
    · exact Sub.refl _
theorem metLeast_sub {st : ByteArray} {rs : List RuleT} {T : Nat} (hT : T < 1024) (hc : metClosedB st rs T = true) : Sub (metLeast st rs) T := by
  unfold metLeast leastN
  have : ∀ (l : List Nat) (acc : Nat), T ∈ l → Sub (l.foldl (fun acc S => if metClosedB st rs S then acc &&& S else acc) acc) T := by
    intro l
    induction l with
    | nil => intro acc h; cases h
    | cons S l ih =>
      intro acc h
      rcases List.mem_cons.1 h with rfl | h
      · refine (metFold_sub st rs l _).trans ?_
        show Sub (if metClosedB st rs T = true then acc &&& T else acc) T
        rw [if_pos hc]; exact and_sub_right _ _
      · exact ih _ h
  exact this _ _ (List.mem_range.2 hT)
end Go.Proofs.Ytjpkohahabclgaa
