/- Edits of a text: which can be, what they make, what undoes them; the contracts of the program's methods of edits. -/
import Derived.Test.YtiejfbodcjckeaaSetG
import Derived.Handy
namespace Go.Proofs.Ytiejfbodcjckeaa
open Go.ChangeShapes Go.WideShapes Go.ChangeAt Go.RowKit
set_option maxRecDepth 100000
/-- a text of small signs, twenty at most -/
def longB (s : ByteArray) : Bool := hasAllN 960 s.data.toList && decide ((s.size : Int) ≤ 20)
def fitI (s : ByteArray) (a : Int) (g : ByteArray) : Bool := decide (0 ≤ a) && (decide (a ≤ (s.size : Int)) && isSmallS g)
def fitO (s : ByteArray) (a : Int) (g : ByteArray) : Bool := decide (0 ≤ a) && (decide (a < (s.size : Int)) && g.toList.isEmpty)
def fitT (s : ByteArray) (a : Int) (g : ByteArray) : Bool := decide (0 ≤ a) && (decide (a < (s.size : Int)) && (isSmallS g && (g.toList != (s.extract a.toNat (a.toNat + 1)).toList)))
theorem fitI_any (k a : Int) (g s : ByteArray) (w : World) :
    Calls Try.prog 68 #[.agg #[.int .i64 k, .int .i64 a, .string g], .string s] w fun e w' => e = .returned (.bool (fitI s a g)) ∧ Below w.heap.size w w' := by
  by_cases h0 : 0 ≤ a
  · by_cases h1 : a ≤ (s.size : Int)
    · have HD : Hid (fitI s a g = isSmallS g) := by show _ = _; unfold fitI; simp [h0, h1]
      go_enter Try.func68, Try.ntmps68
      go_wp2_with (go_at_call 71; refine (signSmall_any _ _).mono ?_; rintro e w' ⟨rfl, rfl⟩)
      go_ret
      exact ⟨ret_bool (by rw [HD.out]), (Below.refl _ _).alloc (Nat.le_refl _) _⟩
    · have HD : Hid (fitI s a g = false) := by show _ = _; unfold fitI; simp [h0, h1]
      go_enter Try.func68, Try.ntmps68
      go_wp2
      go_ret
      exact ⟨ret_bool (by rw [HD.out]), (Below.refl _ _).alloc (Nat.le_refl _) _⟩
  · have HD : Hid (fitI s a g = false) := by show _ = _; unfold fitI; simp [h0]
    go_enter Try.func68, Try.ntmps68
    go_wp2
    go_ret
    exact ⟨ret_bool (by rw [HD.out]), (Below.refl _ _).alloc (Nat.le_refl _) _⟩
theorem fitO_any (k a : Int) (g s : ByteArray) (w : World) :
    Calls Try.prog 73 #[.agg #[.int .i64 k, .int .i64 a, .string g], .string s] w fun e w' => e = .returned (.bool (fitO s a g)) ∧ Below w.heap.size w w' := by
  by_cases h0 : 0 ≤ a
  · by_cases h1 : a < (s.size : Int)
    · cases hg : g.toList.isEmpty with
      | true =>
        have HD : Hid (fitO s a g = true) := by show _ = _; unfold fitO; simp [h0, h1, hg]
        have hg2 : g.toList = [] := by simpa using hg
        go_enter Try.func73, Try.ntmps73
        go_wp2
        go_ret
        exact ⟨ret_bool (by rw [HD.out]), (Below.refl _ _).alloc (Nat.le_refl _) _⟩
      | false =>
        have HD : Hid (fitO s a g = false) := by show _ = _; unfold fitO; simp [h0, h1, hg]
        have hg2 : ¬ g.toList = [] := by simpa using hg
        go_enter Try.func73, Try.ntmps73
        go_wp2
        go_ret
        exact ⟨ret_bool (by rw [HD.out]), (Below.refl _ _).alloc (Nat.le_refl _) _⟩
    · have HD : Hid (fitO s a g = false) := by show _ = _; unfold fitO; simp [h0, h1]
      go_enter Try.func73, Try.ntmps73
      go_wp2
      go_ret
      exact ⟨ret_bool (by rw [HD.out]), (Below.refl _ _).alloc (Nat.le_refl _) _⟩
  · have HD : Hid (fitO s a g = false) := by show _ = _; unfold fitO; simp [h0]
    go_enter Try.func73, Try.ntmps73
    go_wp2
    go_ret
    exact ⟨ret_bool (by rw [HD.out]), (Below.refl _ _).alloc (Nat.le_refl _) _⟩
set_option maxHeartbeats 1000000 in
theorem fitT_any (k a : Int) (g s : ByteArray) (w : World) (hs : s.size ≤ maxLen) :
    Calls Try.prog 76 #[.agg #[.int .i64 k, .int .i64 a, .string g], .string s] w fun e w' => e = .returned (.bool (fitT s a g)) ∧ Below w.heap.size w w' := by
  unfold maxLen at hs
  by_cases h0 : 0 ≤ a
  · have d0 : decide (0 ≤ a) = true := by simpa using h0
    by_cases h1 : a < (s.size : Int)
    · have d1 : decide (a < (s.size : Int)) = true := by simpa using h1
      have k1 : IntKind.i64.wrap (a + 1) = a + 1 := IntWalk.i64_in _ (by omega)
      have k2 : (0 : Int) ≤ a + 1 := by omega
      have k3 : (a + 1).toNat = a.toNat + 1 := by omega
      cases hg : isSmallS g with
      | true =>
        have HD : Hid (fitT s a g = (g.toList != (s.extract a.toNat (a.toNat + 1)).toList)) := by show _ = _; unfold fitT; simp [h0, h1, hg]
        have hq : ∀ w1, Calls Try.prog 71 #[.string g] w1 fun e w' => e = .returned (.bool true) ∧ w' = w1 := fun w1 => (signSmall_any g w1).mono fun e w' h => ⟨by rw [h.1, hg], h.2.symm⟩
        go_enter Try.func76, Try.ntmps76
        go_wp2_with fail
        go_quiet ((go_at_call 71; exact Calls.quiet_of_same (hq _)))
        go_wp2
        go_ret
        exact ⟨ret_bool (by rw [HD.out]; rfl), below_box _ _ _⟩
      | false =>
        have HD : Hid (fitT s a g = false) := by show _ = _; unfold fitT; simp [h0, h1, hg]
        have hq : ∀ w1, Calls Try.prog 71 #[.string g] w1 fun e w' => e = .returned (.bool false) ∧ w' = w1 := fun w1 => (signSmall_any g w1).mono fun e w' h => ⟨by rw [h.1, hg], h.2.symm⟩
        go_enter Try.func76, Try.ntmps76
        go_wp2_with fail
        go_quiet ((go_at_call 71; exact Calls.quiet_of_same (hq _)))
        go_wp2
        go_ret
        exact ⟨ret_bool (by rw [HD.out]), below_box _ _ _⟩
    · have d1 : decide (a < (s.size : Int)) = false := by simpa using h1
      have HD : Hid (fitT s a g = false) := by show _ = _; unfold fitT; simp [h0, h1]
      go_enter Try.func76, Try.ntmps76
      go_wp2_with fail
      go_quiet (fail)
      go_wp2
      go_ret
      exact ⟨ret_bool (by rw [HD.out]), below_box _ _ _⟩
  · have d0 : decide (0 ≤ a) = false := by simpa using h0
    have HD : Hid (fitT s a g = false) := by show _ = _; unfold fitT; simp [h0]
    go_enter Try.func76, Try.ntmps76
    go_wp2_with fail
    go_quiet (fail)
    go_wp2
    go_ret
    exact ⟨ret_bool (by rw [HD.out]), below_box _ _ _⟩
end Go.Proofs.Ytiejfbodcjckeaa
