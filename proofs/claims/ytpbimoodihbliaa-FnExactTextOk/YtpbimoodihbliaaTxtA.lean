/- The contracts of the program's TextOk and of its model; the walk of FnExactTextOk. -/
import Derived.Test.YtpbimoodihbliaaSetG
namespace Go.Proofs.Ytpbimoodihbliaa
open Go.ChangeShapes Go.WideShapes Go.ChangeAt Go.RowKit
set_option maxRecDepth 100000
/-- a text of small signs, eight at most -/
def textB (s : ByteArray) : Bool := hasAllN 960 s.data.toList && decide ((s.size : Int) ≤ 8)
theorem smalls_set (w : World) : Calls Try.prog 46 #[.string ({ data := #[97, 98, 99, 100] } : ByteArray)] w fun e w' => e = .returned (.int .u16 ((960 : Nat) : Int)) ∧ w = w' := by
  have hset : setN (({ data := #[97, 98, 99, 100] } : ByteArray)).data.toList = 960 := by decide
  refine (setOf_any ({ data := #[97, 98, 99, 100] } : ByteArray) w (by simp [maxLen, ByteArray.size])).mono ?_
  rintro e w1 ⟨rfl, rfl⟩
  rw [hset]
  exact ⟨rfl, rfl⟩
set_option maxHeartbeats 1000000 in
theorem textOk_any (s : ByteArray) (w : World) (hs : s.size ≤ maxLen) :
    Calls Try.prog 14 #[.string s] w fun e w' => e = .returned (.bool (textB s)) ∧ w = w' := by
  by_cases h8 : (s.size : Int) ≤ 8
  · have hd : textB s = hasAllN 960 s.data.toList := by unfold textB; simp [h8]
    have HD := Lib.hid hd
    clear hd
    go_enter Try.func14, Try.ntmps14
    go_wp2_with fail
    refine (smalls_set _).mono ?_
    rintro e w' ⟨rfl, rfl⟩
    go_wp2_with fail
    refine (hasAll_any 960 s _ (by omega) hs).mono ?_
    rintro e w' ⟨rfl, rfl⟩
    generalize hasAllN 960 s.data.toList = b at *
    go_wp2_with fail
    go_ret
    exact ⟨ret_bool (by rw [HD.out]), rfl⟩
  · have hd : textB s = false := by unfold textB; simp [h8]
    go_enter Try.func14, Try.ntmps14
    go_wp2_with fail
    go_ret
    exact ⟨rfl, rfl⟩
set_option maxHeartbeats 1000000 in
theorem sTextOk_any (s : ByteArray) (w : World) (hs : s.size ≤ maxLen) :
    Calls Try.prog 13 #[.string s] w fun e w' => e = .returned (.bool (textB s)) ∧ w = w' := by
  unfold maxLen at hs
  go_enter Try.func13, Try.ntmps13
  go_wp2_with fail
  go_loop [3] (fun i => ∃ k : Nat, k ≤ s.size ∧ i = .int .i64 k ∧ Hid (hasAllN 960 (s.data.toList.take k) = true)) (fun i => s.size - (intOf i).toNat)
  case atStart => exact ⟨0, Nat.zero_le _, rfl, by simp [hasAllN, Hid]⟩
  case round =>
    obtain ⟨k, hk, rfl, H⟩ := hrel
    by_cases hlt : k < s.size
    · have HT : Hid (hasAllN 960 (s.data.toList.take (k + 1)) = (hasAllN 960 (s.data.toList.take k) && hasN 960 s[k])) := by
        show _ = _; rw [take_snoc s k hlt, hasAllN_snoc]
      have hsm := has_small s[k]
      cases hb : smallN (s[k].toNat : Int) with
      | false =>
        have HN : Hid (hasAllN 960 s.data.toList = false) := hasAll_bad hlt (by rw [hsm, hb])
        clear hsm
        go_wp2_with (go_at_call 45; refine (l1Small_any _ _).mono ?_; rintro e w' ⟨rfl, rfl⟩; rw [hb])
        go_ret
        exact ⟨ret_bool (by unfold textB; rw [HN.out]; rfl), rfl⟩
      | true =>
        rw [hb] at hsm
        have HS := Lib.hid hsm
        clear hsm
        go_wp2_with (go_at_call 45; refine (l1Small_any _ _).mono ?_; rintro e w' ⟨rfl, rfl⟩; rw [hb])
        go_round
        case rel => exact ⟨k + 1, by omega, by go_num, by show _ = _; rw [HT.out, H.out, HS.out]; rfl⟩
        case measure => simp [intOf]; omega
    · have HA : Hid (hasAllN 960 s.data.toList = true) := by
        have := H.out
        rw [List.take_of_length_le (by simp; omega)] at this
        exact this
      go_wp2_with fail
      go_ret
      exact ⟨ret_bool (by unfold textB; rw [HA.out]; simp), rfl⟩
set_option maxHeartbeats 1000000 in
theorem textOk_law (s : ByteArray) (w : World) (hs : s.size ≤ maxLen) :
    Calls Try.prog 3 #[.string s] w fun e w' => e = .returned (.bool true) ∧ Below w.heap.size w w' := by
  have hs' := hs
  unfold maxLen at hs
  by_cases hlen : (1048576 : Int) < (s.size : Int)
  · go_enter Try.func3, Try.ntmps3
    go_wp2_with fail
    go_ret
    exact ⟨rfl, Below.refl _ _⟩
  · go_enter Try.func3, Try.ntmps3
    go_wp2_with fail
    refine (sTextOk_any s _ hs').mono ?_
    rintro e w' ⟨rfl, rfl⟩
    go_wp2_with fail
    refine (textOk_any s _ hs').mono ?_
    rintro e w' ⟨rfl, rfl⟩
    generalize textB s = b at *
    cases b
    all_goals
      go_wp2_with fail
      go_ret
      exact ⟨rfl, Below.refl _ _⟩
end Go.Proofs.Ytpbimoodihbliaa
