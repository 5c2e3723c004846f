/- The least set of left sides is closed, and within every closed set. -/
import Derived.Test.YtjpkohahabclgaaSetF
namespace Go.Proofs.Ytjpkohahabclgaa
open Go.ChangeShapes Go.WideShapes Go.ChangeAt Go.RowKit
set_option maxRecDepth 100000
theorem Sub.and {a b c : Nat} (h : Sub a b) (k : Sub a c) : Sub a (b &&& c) := by
  unfold Sub at *
  apply Nat.eq_of_testBit_eq
  intro i
  have h1 := congrArg (fun x => Nat.testBit x i) h
  have h2 := congrArg (fun x => Nat.testBit x i) k
  simp only [Nat.testBit_or, Nat.testBit_and] at *
  cases ha : a.testBit i
  · simp
  · rw [ha] at h1 h2; simp at h1 h2; simp [h1, h2]
theorem and_sub_left (a b : Nat) : Sub (a &&& b) a := by
  unfold Sub
  apply Nat.eq_of_testBit_eq
  intro i
  simp only [Nat.testBit_or, Nat.testBit_and]
  cases a.testBit i <;> simp
theorem and_sub_right (a b : Nat) : Sub (a &&& b) b := by rw [Nat.and_comm]; exact and_sub_left b a
theorem sub_all : ∀ m : Fin 1024, m.val ||| 1023 = 1023 := by decide +kernel
theorem sub_1023 {m : Nat} (h : m < 1024) : Sub m 1023 := sub_all ⟨m, h⟩
theorem leftsClosed_and {rs : List RuleT} {g S T : Nat} (hS : leftsClosedB rs g S = true) (hT : leftsClosedB rs g T = true) : leftsClosedB rs g (S &&& T) = true := by
  rw [leftsClosed_iff] at *
  intro r hr hh
  exact (hS r hr (hasAllN_mono ((and_sub_left S T).or_mono (Sub.refl g)) hh)).and (hT r hr (hasAllN_mono ((and_sub_right S T).or_mono (Sub.refl g)) hh))
theorem leftsClosed_top (rs : List RuleT) (g : Nat) : leftsClosedB rs g 1023 = true := by
  rw [leftsClosed_iff]
  intro r _ _
  exact sub_1023 (setN_lt _)
theorem leftsLeast_closed (rs : List RuleT) (g : Nat) : leftsClosedB rs g (leftsLeast rs g) = true := by
  unfold leftsLeast leastN
  have : ∀ (l : List Nat) (acc : Nat), leftsClosedB rs g acc = true → leftsClosedB rs g (l.foldl (fun acc S => if leftsClosedB rs g S then acc &&& S else acc) acc) = true := by
    intro l
    induction l with
    | nil => intro acc h; exact h
    | cons S l ih =>
      intro acc h
      refine ih _ ?_
      show leftsClosedB rs g (if leftsClosedB rs g S = true then acc &&& S else acc) = true
      split
      · rename_i hS; exact leftsClosed_and h hS
      · exact h
  exact this _ _ (leftsClosed_top rs g)
theorem leastFold_sub (rs : List RuleT) (g : Nat) : ∀ (l : List Nat) (acc : Nat), Sub (l.foldl (fun acc S => if leftsClosedB rs g S then acc &&& S else acc) acc) acc
  | [], acc => Sub.refl acc
  | S :: l, acc => by
    refine (leastFold_sub rs g l _).trans ?_
    show Sub (if leftsClosedB rs g S = true then acc &&& S else acc) acc
    split
    · exact and_sub_left _ _
    · exact Sub.refl _
theorem leftsLeast_sub {rs : List RuleT} {g S : Nat} (hS : leftsClosedB rs g S = true) : Sub (leftsLeast rs g) S := by
  have key : ∀ T, T < 1024 → leftsClosedB rs g T = true → Sub (leftsLeast rs g) T := by
    intro T hT hc
    unfold leftsLeast leastN
    have : ∀ (l : List Nat) (acc : Nat), T ∈ l → Sub (l.foldl (fun acc S => if leftsClosedB rs g S then acc &&& S else acc) acc) T := by
      intro l
      induction l with
      | nil => intro acc h; cases h
      | cons S l ih =>
        intro acc h
        rcases List.mem_cons.1 h with rfl | h
        · refine (leastFold_sub rs g l _).trans ?_
          show Sub (if leftsClosedB rs g T = true then acc &&& T else acc) T
          rw [if_pos hc]; exact and_sub_right _ _
        · exact ih _ h
    exact this _ _ (List.mem_range.2 hT)
  have h2 := leftsClosed_and hS (leftsClosed_top rs g)
  have hlt : S &&& 1023 < 1024 := Nat.lt_of_le_of_lt Nat.and_le_right (by omega)
  exact (key _ hlt h2).trans (and_sub_left _ _)
end Go.Proofs.Ytjpkohahabclgaa
