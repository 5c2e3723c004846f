/- Least sets of left sides: what both programs compute for nullable and productive symbols. -/
import Derived.Test.YtiejfbodcjckeaaSetA
namespace Go.Proofs.Ytiejfbodcjckeaa
open Go.ChangeShapes Go.WideShapes Go.ChangeAt Go.RowKit
set_option maxRecDepth 100000
def leftsStep (g : Nat) (k : Nat) (r : RuleT) : Nat := if hasAllN (k ||| g) r.2.data.toList = true then k ||| setN r.1.data.toList else k
def leftsTo (rs : List RuleT) (g m k : Nat) : Nat := (rs.take k).foldl (leftsStep g) m
def leftsClosedB (rs : List RuleT) (g S : Nat) : Bool := rs.all fun r => !hasAllN (S ||| g) r.2.data.toList || (setN r.1.data.toList ||| S == S)
def leftsLeast (rs : List RuleT) (g : Nat) : Nat := leastN (leftsClosedB rs g)
theorem leftsClosed_iff (rs : List RuleT) (g S : Nat) : leftsClosedB rs g S = true ↔ ∀ r ∈ rs, hasAllN (S ||| g) r.2.data.toList = true → Sub (setN r.1.data.toList) S := by
  unfold leftsClosedB
  rw [List.all_eq_true]
  constructor
  · intro h r hr hh
    have := h r hr
    rw [hh] at this
    simpa [Sub] using this
  · intro h r hr
    cases hh : hasAllN (S ||| g) r.2.data.toList with
    | false => rfl
    | true => simpa [Sub] using h r hr hh
theorem leftsStep_lt (g k : Nat) (r : RuleT) (h : k < 1024) : leftsStep g k r < 1024 := by
  unfold leftsStep; split
  · exact or_lt h (setN_lt _)
  · exact h
theorem leftsTo_zero (rs : List RuleT) (g m : Nat) : leftsTo rs g m 0 = m := rfl
theorem leftsTo_succ (rs : List RuleT) (g m k : Nat) (h : k < rs.length) : leftsTo rs g m (k + 1) = leftsStep g (leftsTo rs g m k) rs[k] := by
  unfold leftsTo; rw [List.take_succ_eq_append_getElem h, List.foldl_append]; rfl
theorem leftsFold_lt (g : Nat) : ∀ (l : List RuleT) (m : Nat), m < 1024 → l.foldl (leftsStep g) m < 1024
  | [], _, h => h
  | r :: l, m, h => leftsFold_lt g l _ (leftsStep_lt g m r h)
theorem leftsTo_lt (rs : List RuleT) (g m k : Nat) (h : m < 1024) : leftsTo rs g m k < 1024 := leftsFold_lt g _ m h
theorem leftsStep_sub (g k : Nat) (r : RuleT) : Sub k (leftsStep g k r) := by
  unfold leftsStep; split
  · exact sub_or_left _ _
  · exact Sub.refl _
theorem leftsFold_sub (g : Nat) : ∀ (l : List RuleT) (m : Nat), Sub m (l.foldl (leftsStep g) m)
  | [], m => Sub.refl m
  | r :: l, m => (leftsStep_sub g m r).trans (leftsFold_sub g l _)
theorem leftsFold_fix (g : Nat) : ∀ (l : List RuleT) (m : Nat), l.foldl (leftsStep g) m = m → ∀ r ∈ l, leftsStep g m r = m
  | [], _, _ => fun r hr => by cases hr
  | r :: l, m, h => by
    have h1 : leftsStep g m r = m := ((leftsStep_sub g m r).antisymm (by have := leftsFold_sub g l (leftsStep g m r); rw [List.foldl_cons] at h; rwa [h] at this)).symm
    intro x hx
    rcases List.mem_cons.1 hx with rfl | hx
    · exact h1
    · exact leftsFold_fix g l m (by rw [List.foldl_cons, h1] at h; exact h) x hx
theorem leftsTo_fix {rs : List RuleT} {g m : Nat} (h : leftsTo rs g m rs.length = m) : leftsClosedB rs g m = true := by
  rw [leftsClosed_iff]
  unfold leftsTo at h
  rw [List.take_of_length_le (Nat.le_refl _)] at h
  intro r hr hh
  have := leftsFold_fix g rs m h r hr
  unfold leftsStep at this
  rw [if_pos hh] at this
  unfold Sub; rw [Nat.or_comm]; exact this
theorem leftsFold_below {g S : Nat} : ∀ (l : List RuleT) (m : Nat), (∀ r ∈ l, hasAllN (S ||| g) r.2.data.toList = true → Sub (setN r.1.data.toList) S) → Sub m S → Sub (l.foldl (leftsStep g) m) S
  | [], _, _, h => h
  | r :: l, m, hc, h => by
    refine leftsFold_below l _ (fun x hx => hc x (List.mem_cons_of_mem _ hx)) ?_
    unfold leftsStep
    split
    · rename_i hh
      exact h.or (hc r (List.mem_cons_self ..) (hasAllN_mono (h.or_mono (Sub.refl g)) hh))
    · exact h
theorem leftsTo_below {rs : List RuleT} {g m k S : Nat} (hc : leftsClosedB rs g S = true) (h : Sub m S) : Sub (leftsTo rs g m k) S :=
  leftsFold_below _ m (fun r hr => (leftsClosed_iff rs g S).1 hc r (List.mem_of_mem_take hr)) h
theorem leftsTo_sub (rs : List RuleT) (g m k : Nat) : Sub m (leftsTo rs g m k) := leftsFold_sub g _ m
theorem leftsLeast_eq {rs : List RuleT} {g R : Nat} (h1 : leftsClosedB rs g R = true) (h2 : R < 1024) (h3 : ∀ S, leftsClosedB rs g S = true → Sub R S) : leftsLeast rs g = R :=
  leastN_eq h1 h2 fun S _ hS => h3 S hS
end Go.Proofs.Ytiejfbodcjckeaa
