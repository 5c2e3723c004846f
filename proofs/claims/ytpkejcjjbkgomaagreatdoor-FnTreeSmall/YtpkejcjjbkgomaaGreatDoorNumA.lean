/- Numbers below 8 as texts: strconv.Itoa, l17Dec. (split off TtA) -/
import Derived.Test.YtpkejcjjbkgomaaGreatDoorTextB
namespace Go.Proofs.YtpkejcjjbkgomaaGreatDoor
open Go.ChangeShapes Go.WideShapes Go.ChangeAt Go.RowKit Go.Deep
set_option maxRecDepth 100000
set_option linter.unusedVariables false
def decS (n : Nat) : ByteArray := ⟨#[(48 + n).toUInt8]⟩
theorem ret_bytes {a b : ByteArray} (h : a = b) : Ending.returned (.string a) = .returned (.string b) := by rw [h]
theorem small_num (n : Nat) (hn : n < 8) (w : World) :
    Calls Tryz.prog 148 #[.int .i64 (n : Int)] w fun e w' => e = .returned (.string (decS n)) ∧ w = w' := by
  have h8 : n = 0 ∨ n = 1 ∨ n = 2 ∨ n = 3 ∨ n = 4 ∨ n = 5 ∨ n = 6 ∨ n = 7 := by omega
  rcases h8 with rfl | rfl | rfl | rfl | rfl | rfl | rfl | rfl
  all_goals
    go_enter Tryz.func148, Tryz.ntmps148
    go_wp2_with fail
    go_ret
    exact ⟨ret_bytes (by decide), rfl⟩
theorem formatInt_any (n : Nat) (hn : n < 8) (w : World) :
    Calls Tryz.prog 124 #[.int .i64 (n : Int), .int .i64 10] w fun e w' => e = .returned (.string (decS n)) ∧ w = w' := by
  have h1 : (n : Int) < 100 := by omega
  go_enter Tryz.func124, Tryz.ntmps124
  go_wp2_with fail
  refine (small_num n hn _).mono ?_
  rintro e w' ⟨rfl, rfl⟩
  go_wp2_with fail
  go_ret
  exact ⟨rfl, rfl⟩
theorem itoa_any (n : Nat) (hn : n < 8) (w : World) :
    Calls Tryz.prog 67 #[.int .i64 (n : Int)] w fun e w' => e = .returned (.string (decS n)) ∧ w = w' := by
  have C : Calls Tryz.prog 95 #[.int .i64 (n : Int)] w fun e w' => e = .returned (.string (decS n)) ∧ w = w' := by
    go_enter Tryz.func95, Tryz.ntmps95
    go_wp2_with fail
    refine (formatInt_any n hn _).mono ?_
    rintro e w' ⟨rfl, rfl⟩
    go_wp2_with fail
    go_ret
    exact ⟨rfl, rfl⟩
  go_enter Tryz.func67, Tryz.ntmps67
  go_wp2_with fail
  refine C.mono ?_
  rintro e w' ⟨rfl, rfl⟩
  go_wp2_with fail
  go_ret
  exact ⟨rfl, rfl⟩
theorem conv_lit (c : UInt8) (w : World) : (convert 22 9 (.slice (some ⟨w.heap.size, 0, none⟩) 1 1)).run Tryz.prog (w.alloc (.cells #[.int .u8 (c.toNat : Int)] 5)) = .ok (.string ⟨#[c]⟩) (w.alloc (.cells #[.int .u8 (c.toNat : Int)] 5)) :=
  run_convert_bytes_back _ _ _ 5 ⟨w.heap.size, 0, none⟩ 1 [c] Tryz.underlying22 Tryz.underlying5 Tryz.underlying9 (fun j hj => by
    have : j = 0 := by simp at hj; omega
    subst this
    simp [Addr.add])
theorem l17Dec_any (n : Nat) (hn : n < 8) (w : World) :
    Calls Tryz.prog 90 #[.int .i64 (n : Int)] w fun e w' => e = .returned (.string (decS n)) ∧ Below w.heap.size w w' := by
  have h8 : n = 0 ∨ n = 1 ∨ n = 2 ∨ n = 3 ∨ n = 4 ∨ n = 5 ∨ n = 6 ∨ n = 7 := by omega
  rcases h8 with rfl | rfl | rfl | rfl | rfl | rfl | rfl | rfl
  case' inl => generalize hk : ((0 : Nat) : Int) = k
  case' inr.inl => generalize hk : ((1 : Nat) : Int) = k
  case' inr.inr.inl => generalize hk : ((2 : Nat) : Int) = k
  case' inr.inr.inr.inl => generalize hk : ((3 : Nat) : Int) = k
  case' inr.inr.inr.inr.inl => generalize hk : ((4 : Nat) : Int) = k
  case' inr.inr.inr.inr.inr.inl => generalize hk : ((5 : Nat) : Int) = k
  case' inr.inr.inr.inr.inr.inr.inl => generalize hk : ((6 : Nat) : Int) = k
  case' inr.inr.inr.inr.inr.inr.inr => generalize hk : ((7 : Nat) : Int) = k
  all_goals
    have HK := Lib.hid hk
    have hk0 : 0 ≤ k := by omega
    have hk9 : k ≤ 9 := by omega
    clear hk
    go_enter Tryz.func90, Tryz.ntmps90
    go_wp2_with fail
    go_loopw [0, 3] (fun nv ov wr => nv = .int .i64 k ∧ ov = .string ⟨#[]⟩ ∧ wr = w) (fun _ _ _ => 0)
    case atStart => exact ⟨rfl, rfl, rfl⟩
    case round =>
      obtain ⟨rfl, rfl, rfl⟩ := hrel
      obtain rfl := HK.out
      have cv0 := conv_lit 48 wr
      have cv1 := conv_lit 49 wr
      have cv2 := conv_lit 50 wr
      have cv3 := conv_lit 51 wr
      have cv4 := conv_lit 52 wr
      have cv5 := conv_lit 53 wr
      have cv6 := conv_lit 54 wr
      have cv7 := conv_lit 55 wr
      simp only [show ((48 : UInt8).toNat : Int) = 48 from rfl, show ((49 : UInt8).toNat : Int) = 49 from rfl, show ((50 : UInt8).toNat : Int) = 50 from rfl, show ((51 : UInt8).toNat : Int) = 51 from rfl, show ((52 : UInt8).toNat : Int) = 52 from rfl, show ((53 : UInt8).toNat : Int) = 53 from rfl, show ((54 : UInt8).toNat : Int) = 54 from rfl, show ((55 : UInt8).toNat : Int) = 55 from rfl] at cv0 cv1 cv2 cv3 cv4 cv5 cv6 cv7
      go_wp2_with fail
      go_ret
      exact ⟨ret_bytes (by decide), (Below.refl _ _).alloc (Nat.le_refl _) _⟩
end Go.Proofs.YtpkejcjjbkgomaaGreatDoor
