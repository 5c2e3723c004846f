/- Contracts of allSymbols, l1Right, ruleOk: what the right side of a rule is. -/
import Derived.Test.YtpkejcjjbkgomaaDoorSig
import Derived.Deep.QuietTactic
import Derived.BigQuiet
import Derived.WalkSpells
import Derived.WalkLawsBesides
namespace Go.Proofs.YtpkejcjjbkgomaaDoor
open Go.ChangeShapes Go.WideShapes Go.ChangeAt Go.RowKit
def symN (c : Int) : Bool := bigN c || smallN c
/-- the first k bytes are symbols -/
def symsTo (s : ByteArray) (k : Nat) : Bool := (s.data.toList.take k).all fun c => symN (c.toNat : Int)
def allSym (s : ByteArray) : Bool := symsTo s s.size
theorem take_snoc (s : ByteArray) (k : Nat) (h : k < s.size) : s.data.toList.take (k + 1) = s.data.toList.take k ++ [s[k]] := by
  rw [List.take_succ_eq_append_getElem (by simpa using h)]; rfl
theorem symsTo_succ (s : ByteArray) (k : Nat) (h : k < s.size) : symsTo s (k + 1) = (symsTo s k && symN (byteAt s k)) := by
  unfold symsTo
  rw [take_snoc s k h, List.all_append, ← byteAt_get s k h]
  simp
theorem symsTo_false (s : ByteArray) (k : Nat) (h : k < s.size) (hb : symN (byteAt s k) = false) : allSym s = false := by
  have h1 : symsTo s (k + 1) = false := by rw [symsTo_succ s k h, hb]; simp
  unfold allSym
  cases hh : symsTo s s.size with
  | false => rfl
  | true =>
    have : symsTo s (k + 1) = true := by
      unfold symsTo at *
      rw [List.all_eq_true] at *
      intro x hx
      refine hh x ?_
      rw [List.take_of_length_le (by simp)]
      exact List.mem_of_mem_take hx
    rw [h1] at this; cases this

set_option maxHeartbeats 400000 in
theorem allSymbols_any (s : ByteArray) (w : World) (hs : s.size ≤ maxLen) :
    Calls Tryd.prog 123 #[.string s] w fun e w' => e = .returned (.bool (allSym s)) ∧ w = w' := by
  unfold maxLen at hs
  go_enter Tryd.func123, Tryd.ntmps123
  go_wp2
  go_loop [7] (fun i => ∃ k : Nat, k ≤ s.size ∧ i = .int .i64 k ∧ Hid (symsTo s k = true)) (fun i => s.size - (intOf i).toNat)
  case atStart => exact ⟨0, Nat.zero_le _, rfl, by simp [symsTo, Hid]⟩
  case round =>
    obtain ⟨k, hk, rfl, H⟩ := hrel
    by_cases hlt : k < s.size
    · have HB : Hid (((s[k].toNat : Nat) : Int) = byteAt s k) := byteAt_get s k hlt
      go_wp2_with (first | (go_at_call 74; refine (isBig_any _ _).mono ?_; rintro e w' ⟨rfl, rfl⟩) | (go_at_call 100; refine (isSmall_any _ _).mono ?_; rintro e w' ⟨rfl, rfl⟩))
      · go_round
        case rel => exact ⟨k + 1, by omega, by go_num, by have h1 : bigN ((s[k].toNat : Nat) : Int) = true := by assumption
                                                          show _ = _; rw [symsTo_succ s k hlt, H.out, ← HB.out]; simp [symN, h1]⟩
        case measure => simp [intOf]; omega
      · go_ret
        exact ⟨ret_bool (by have h1 : ¬ bigN ((s[k].toNat : Nat) : Int) = true := by assumption
                            have h2 : (!smallN ((s[k].toNat : Nat) : Int)) = true := by assumption
                            rw [symsTo_false s k hlt]; rw [← HB.out]; simp_all [symN]), rfl⟩
      · go_round
        case rel => exact ⟨k + 1, by omega, by go_num, by have h2 : (!smallN ((s[k].toNat : Nat) : Int)) = false := by assumption
                                                          show _ = _; rw [symsTo_succ s k hlt, H.out, ← HB.out]; simp_all [symN]⟩
        case measure => simp [intOf]; omega
    · go_wp2
      go_ret
      exact ⟨ret_bool (by have : k = s.size := by omega
                          unfold allSym; rw [← this]; exact H.out.symm), rfl⟩

def rightB (s : ByteArray) (m : Int) : Bool := allSym s && decide ((s.size : Int) ≤ m)
set_option maxHeartbeats 400000 in
theorem l1Right_any (s : ByteArray) (m : Int) (w : World) (hs : s.size ≤ maxLen) :
    Calls Tryd.prog 104 #[.string s, .int .i64 m] w fun e w' => e = .returned (.bool (rightB s m)) ∧ w = w' := by
  unfold maxLen at hs
  go_enter Tryd.func104, Tryd.ntmps104
  go_wp2
  go_loop [5] (fun i => ∃ k : Nat, k ≤ s.size ∧ i = .int .i64 k ∧ Hid (symsTo s k = true)) (fun i => s.size - (intOf i).toNat)
  case atStart => exact ⟨0, Nat.zero_le _, rfl, by simp [symsTo, Hid]⟩
  case round =>
    obtain ⟨k, hk, rfl, H⟩ := hrel
    by_cases hlt : k < s.size
    · have HB : Hid (((s[k].toNat : Nat) : Int) = byteAt s k) := byteAt_get s k hlt
      go_wp2_with (first | (go_at_call 114; refine (l1Big_any _ _).mono ?_; rintro e w' ⟨rfl, rfl⟩) | (go_at_call 119; refine (l1Small_any _ _).mono ?_; rintro e w' ⟨rfl, rfl⟩))
      · go_round
        case rel => exact ⟨k + 1, by omega, by go_num, by have h1 : bigN ((s[k].toNat : Nat) : Int) = true := by assumption
                                                          show _ = _; rw [symsTo_succ s k hlt, H.out, ← HB.out]; simp [symN, h1]⟩
        case measure => simp [intOf]; omega
      · go_ret
        exact ⟨ret_bool (by have h1 : ¬ bigN ((s[k].toNat : Nat) : Int) = true := by assumption
                            have h2 : (!smallN ((s[k].toNat : Nat) : Int)) = true := by assumption
                            unfold rightB; rw [symsTo_false s k hlt]
                            · rfl
                            rw [← HB.out]; simp_all [symN]), rfl⟩
      · go_round
        case rel => exact ⟨k + 1, by omega, by go_num, by have h2 : (!smallN ((s[k].toNat : Nat) : Int)) = false := by assumption
                                                          show _ = _; rw [symsTo_succ s k hlt, H.out, ← HB.out]; simp_all [symN]⟩
        case measure => simp [intOf]; omega
    · go_wp2
      go_ret
      exact ⟨ret_bool (by have : k = s.size := by omega
                          unfold rightB allSym; rw [← this, H.out]; simp), rfl⟩
def ruleOkB (r : ByteArray × ByteArray) : Bool := isBigS r.1 && (decide (r.2.size ≤ 4) && allSym r.2)
theorem ruleOkB_right (r : ByteArray × ByteArray) : ruleOkB r = (isBigS r.1 && rightB r.2 4) := by
  unfold ruleOkB rightB
  cases isBigS r.1 <;> cases allSym r.2 <;> simp
  omega
theorem ruleOk_any (l r : ByteArray) (w : World) (hr : r.size ≤ maxLen) :
    Calls Tryd.prog 106 #[.agg #[.string l, .string r]] w fun e w' => e = .returned (.bool (ruleOkB (l, r))) ∧ Below w.heap.size w w' := by
  go_enter Tryd.func106, Tryd.ntmps106
  go_wp2_with (first | (go_at_call 35; refine (signBig_any _ _).mono ?_; rintro e w' ⟨rfl, rfl⟩) | (go_at_call 123; refine (allSymbols_any _ _ hr).mono ?_; rintro e w' ⟨rfl, rfl⟩))
  all_goals go_ret
  · exact ⟨ret_bool (by simp [ruleOkB, *]; omega), (Below.refl _ _).alloc (Nat.le_refl _) _⟩
  · exact ⟨ret_bool (by simp [ruleOkB]; omega), (Below.refl _ _).alloc (Nat.le_refl _) _⟩
  · exact ⟨ret_bool (by simp_all [ruleOkB]), (Below.refl _ _).alloc (Nat.le_refl _) _⟩
end Go.Proofs.YtpkejcjjbkgomaaDoor
