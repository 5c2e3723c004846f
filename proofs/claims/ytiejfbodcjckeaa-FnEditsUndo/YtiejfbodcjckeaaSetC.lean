/- Contracts of the program's sets of symbols: bitOf, setOf, hasAll, text. -/
import Derived.Test.YtiejfbodcjckeaaSetB
namespace Go.Proofs.Ytiejfbodcjckeaa
open Go.ChangeShapes Go.WideShapes Go.ChangeAt Go.RowKit
set_option maxRecDepth 100000
theorem bits_or (a b : Nat) (ha : a < 1024) (hb : b < 1024) : bits .or .u16 (a : Int) (b : Int) = ((a ||| b : Nat) : Int) := by
  have hx : a ||| b < 1024 := or_lt ha hb
  have h1 : (BitVec.ofInt 16 (a : Int)).toNat = a := by
    rw [BitVec.ofInt_natCast, BitVec.toNat_ofNat]; exact Nat.mod_eq_of_lt (by omega)
  have h2 : (BitVec.ofInt 16 (b : Int)).toNat = b := by
    rw [BitVec.ofInt_natCast, BitVec.toNat_ofNat]; exact Nat.mod_eq_of_lt (by omega)
  have h3 : bits .or .u16 (a : Int) (b : Int) = IntKind.u16.wrap ((BitVec.ofInt 16 (a : Int) ||| BitVec.ofInt 16 (b : Int)).toNat : Int) := rfl
  rw [h3, BitVec.toNat_or, h1, h2]
  show ((a ||| b : Nat) : Int) % 65536 = _
  omega
theorem bits_and (a b : Nat) (ha : a < 1024) (hb : b < 1024) : bits .and .u16 (a : Int) (b : Int) = ((a &&& b : Nat) : Int) := by
  have hx : a &&& b < 1024 := Nat.lt_of_le_of_lt Nat.and_le_left ha
  have h1 : (BitVec.ofInt 16 (a : Int)).toNat = a := by
    rw [BitVec.ofInt_natCast, BitVec.toNat_ofNat]; exact Nat.mod_eq_of_lt (by omega)
  have h2 : (BitVec.ofInt 16 (b : Int)).toNat = b := by
    rw [BitVec.ofInt_natCast, BitVec.toNat_ofNat]; exact Nat.mod_eq_of_lt (by omega)
  have h3 : bits .and .u16 (a : Int) (b : Int) = IntKind.u16.wrap ((BitVec.ofInt 16 (a : Int) &&& BitVec.ofInt 16 (b : Int)).toNat : Int) := rfl
  rw [h3, BitVec.toNat_and, h1, h2]
  show ((a &&& b : Nat) : Int) % 65536 = _
  omega
def ordB : ByteArray := { data := #[36, 65, 66, 67, 68, 69, 97, 98, 99, 100] }
/-- the place of a byte in the order, and its bit -/
theorem place_all : ∀ n : Fin 256, (placeB ordL ((UInt8.ofNat n.val).toNat : Int) < 0 ∧ bitN (UInt8.ofNat n.val) = 0) ∨ ∃ k : Fin 10, placeB ordL ((UInt8.ofNat n.val).toNat : Int) = (k.val : Int) ∧ bitN (UInt8.ofNat n.val) = 2 ^ k.val := by decide +kernel
theorem place_cases (c : UInt8) : (placeB ordL (c.toNat : Int) < 0 ∧ bitN c = 0) ∨ ∃ k : Nat, k < 10 ∧ placeB ordL (c.toNat : Int) = (k : Int) ∧ bitN c = 2 ^ k := by
  have h := place_all ⟨c.toNat, c.toNat_lt⟩
  simp only [UInt8.ofNat_toNat] at h
  rcases h with h | ⟨k, h⟩
  · exact .inl h
  · exact .inr ⟨k.val, k.isLt, h⟩
theorem ret_u16 {a b : Int} (h : a = b) : Ending.returned (.int .u16 a) = .returned (.int .u16 b) := by rw [h]
theorem bitOf_any (c : UInt8) (w : World) :
    Calls Try.prog 47 #[.int .u8 (c.toNat : Int)] w fun e w' => e = .returned (.int .u16 (bitN c : Nat)) ∧ w = w' := by
  have hpl : placeB ordB.data.toList (c.toNat : Int) = placeB ordL (c.toNat : Int) := rfl
  go_enter Try.func47, Try.ntmps47
  go_wp2_with fail
  refine (placeB_any ordB (c.toNat : Int) w).mono ?_
  rintro e w2 ⟨rfl, rfl⟩
  rw [hpl]
  rcases place_cases c with ⟨h1, h2⟩ | ⟨k, hk, h1, h2⟩
  · generalize placeB ordL (c.toNat : Int) = p at *
    go_wp2
    go_ret
    exact ⟨ret_u16 (by rw [h2]; rfl), rfl⟩
  · rw [h1]
    have H2 := Lib.hid h2
    clear h1 h2 hpl
    have hk' : k = 0 ∨ k = 1 ∨ k = 2 ∨ k = 3 ∨ k = 4 ∨ k = 5 ∨ k = 6 ∨ k = 7 ∨ k = 8 ∨ k = 9 := by omega
    clear hk
    rcases hk' with rfl | rfl | rfl | rfl | rfl | rfl | rfl | rfl | rfl | rfl
    all_goals
      go_wp2
      go_ret
      exact ⟨ret_u16 (by rw [H2.out]; rfl), rfl⟩

set_option maxHeartbeats 400000 in
theorem setOf_any (s : ByteArray) (w : World) (hs : s.size ≤ maxLen) :
    Calls Try.prog 42 #[.string s] w fun e w' => e = .returned (.int .u16 (setN s.data.toList : Nat)) ∧ w = w' := by
  unfold maxLen at hs
  go_enter Try.func42, Try.ntmps42
  go_wp2
  go_loop [3, 7] (fun v i => ∃ k : Nat, k ≤ s.size ∧ i = .int .i64 k ∧ v = .int .u16 (setN (s.data.toList.take k) : Nat)) (fun _ i => s.size - (intOf i).toNat)
  case atStart => exact ⟨0, Nat.zero_le _, rfl, rfl⟩
  case round =>
    obtain ⟨k, hk, rfl, rfl⟩ := hrel
    by_cases hlt : k < s.size
    · have HT : Hid (setN (s.data.toList.take (k + 1)) = setN (s.data.toList.take k) ||| bitN s[k]) := by
        show _ = _; rw [take_snoc s k hlt, setN_snoc]
      have hor := bits_or (setN (s.data.toList.take k)) (bitN s[k]) (setN_lt _) (bitN_lt _)
      generalize setN (s.data.toList.take k) = m at *
      go_wp2_with (go_at_call 47; refine (bitOf_any s[k] _).mono ?_; rintro e w' ⟨rfl, rfl⟩)
      go_round
      case rel => exact ⟨k + 1, by omega, by go_num, by rw [HT.out]⟩
      case measure => simp [intOf]; omega
    · go_wp2
      go_ret
      exact ⟨ret_u16 (by rw [List.take_of_length_le (by simp; omega)]), rfl⟩
set_option maxHeartbeats 400000 in
theorem hasAll_any (m : Nat) (s : ByteArray) (w : World) (hm : m < 1024) (hs : s.size ≤ maxLen) :
    Calls Try.prog 43 #[.int .u16 (m : Nat), .string s] w fun e w' => e = .returned (.bool (hasAllN m s.data.toList)) ∧ w = w' := by
  unfold maxLen at hs
  go_enter Try.func43, Try.ntmps43
  go_wp2
  go_loop [8] (fun i => ∃ k : Nat, k ≤ s.size ∧ i = .int .i64 k ∧ Hid (hasAllN m (s.data.toList.take k) = true)) (fun i => s.size - (intOf i).toNat)
  case atStart => exact ⟨0, Nat.zero_le _, rfl, by simp [hasAllN, Hid]⟩
  case round =>
    obtain ⟨k, hk, rfl, H⟩ := hrel
    by_cases hlt : k < s.size
    · have HT : Hid (hasAllN m (s.data.toList.take (k + 1)) = (hasAllN m (s.data.toList.take k) && hasN m s[k])) := by
        show _ = _; rw [take_snoc s k hlt, hasAllN_snoc]
      have hand := bits_and m (bitN s[k]) hm (bitN_lt _)
      by_cases hb : m &&& bitN s[k] = 0
      · have hb' : (((m &&& bitN s[k] : Nat) : Int) == 0) = true := by rw [hb]; rfl
        have HB := Lib.hid hb
        clear hb
        go_wp2_with (go_at_call 47; refine (bitOf_any s[k] _).mono ?_; rintro e w' ⟨rfl, rfl⟩)
        go_ret
        refine ⟨ret_bool ?_, rfl⟩
        cases hh : hasAllN m s.data.toList with
        | false => rfl
        | true =>
          unfold hasAllN at hh
          rw [List.all_eq_true] at hh
          have := hh s[k] (by have : s[k] = s.data.toList[k]'(by simpa using hlt) := rfl
                              rw [this]; exact List.getElem_mem _)
          unfold hasN at this
          rw [HB.out] at this
          simp at this
      · have hb' : (((m &&& bitN s[k] : Nat) : Int) == 0) = false := by rw [beq_eq_false_iff_ne]; omega
        have HB := Lib.hid hb
        clear hb
        go_wp2_with (go_at_call 47; refine (bitOf_any s[k] _).mono ?_; rintro e w' ⟨rfl, rfl⟩)
        go_round
        case rel => exact ⟨k + 1, by omega, by go_num, by show _ = _; rw [HT.out, H.out]; simpa [hasN] using HB.out⟩
        case measure => simp [intOf]; omega
    · go_wp2
      go_ret
      exact ⟨ret_bool (by have := H.out; rw [List.take_of_length_le (by simp; omega)] at this; exact this.symm), rfl⟩
end Go.Proofs.Ytiejfbodcjckeaa
