/- The contract of a set's text. -/
import Derived.Test.YtpbimoodihbliaaSetC
namespace Go.Proofs.Ytpbimoodihbliaa
open Go.ChangeShapes Go.WideShapes Go.ChangeAt Go.RowKit
set_option maxRecDepth 100000
def textK (m k : Nat) : List UInt8 := (ordL.take k).filter (hasN m)
theorem textK_yes {m k : Nat} (hk : k < 10) (h : hasN m (ordL[k]'hk) = true) : textK m (k + 1) = textK m k ++ [ordL[k]'hk] := by
  unfold textK; rw [List.take_succ_eq_append_getElem hk, List.filter_append]; simp [h]
theorem textK_no {m k : Nat} (hk : k < 10) (h : hasN m (ordL[k]'hk) = false) : textK m (k + 1) = textK m k := by
  unfold textK; rw [List.take_succ_eq_append_getElem hk, List.filter_append]; simp [h]
theorem textK_len (m k : Nat) : (textK m k).length ≤ 10 := Nat.le_trans (List.length_filter_le _ _) (by simp [ordL]; omega)
theorem cut_ord : ∀ k : Fin 10, ordB.extract k.val (k.val + 1) = bytesOf [ordL[k.val]'k.isLt] := by decide +kernel
set_option maxHeartbeats 800000 in
theorem setText_any (m : Nat) (w : World) (hm : m < 1024) :
    Calls Try.prog 77 #[.int .u16 (m : Nat)] w fun e w' => e = .returned (.string (bytesOf (textN m))) ∧ Below w.heap.size w w' := by
  have hB0 : Builds w.heap.size w.heap.size [] (w.alloc (.cells #[.pointer none, .slice none 0 0] 89)) := Lib.fresh_isBuilder _ _ _
  go_enter Try.func77, Try.ntmps77
  go_wp2
  go_loopw [6] (fun i wr => ∃ k : Nat, k ≤ 10 ∧ i = .int .i64 k ∧ Builds w.heap.size w.heap.size (textK m k) wr ∧ Below w.heap.size w wr) (fun i _ => 10 - (intOf i).toNat)
  case atStart => exact ⟨0, by omega, rfl, hB0, (Below.refl _ _).alloc (Nat.le_refl _) _⟩
  case round =>
    obtain ⟨k, hk, rfl, hB, hb⟩ := hrel
    have hlen := textK_len m k
    by_cases hlt : k < 10
    · have hkl : (k : Int) < 10 := by omega
      have hx : ordB.extract k (k + 1) = bytesOf [ordL[k]'hlt] := cut_ord ⟨k, hlt⟩
      have hx' : (({ data := #[36, 65, 66, 67, 68, 69, 97, 98, 99, 100] } : ByteArray)).extract k (k + 1) = bytesOf [ordL[k]'hlt] := hx
      have hx1 : hasAllN m (bytesOf [ordL[k]'hlt]).data.toList = hasN m (ordL[k]'hlt) := by simp [hasAllN, bytesOf]
      have HY := Lib.hid (textK_yes (m := m) hlt)
      have HN := Lib.hid (textK_no (m := m) hlt)
      have hsz : (bytesOf [ordL[k]'hlt]).size ≤ maxLen := by rw [bytesOf_size]; simp [maxLen]
      go_wp2_with fail

      generalize ordL[k]'hlt = c at *
      clear hx hx'
      refine (hasAll_any m _ wr hm hsz).mono ?_
      rintro e w2 ⟨rfl, rfl⟩
      rw [hx1]
      cases hh : hasN m c with
      | false =>
        go_wp2
        go_roundw
        case rel => exact ⟨k + 1, by omega, by go_num, by rw [HN.out hh]; exact hB, hb⟩
        case measure => simp [intOf]; omega
      | true =>
        go_wp2_with fail
        refine (write_any _ _ _ _ _ hB (by simp; omega) hb.size).mono ?_
        rintro e w' ⟨rfl, hB', hb'⟩
        have hfin : Below w.heap.size w w' := hb.trans hb'
        rw [← HY.out hh] at hB'
        go_wp2
        go_roundw
        case rel => exact ⟨k + 1, by omega, by go_num, hB', hfin⟩
        case measure => simp [intOf]; omega
    · have hkl : ¬ (k : Int) < 10 := by omega
      go_wp2_with fail
      refine (builderString_any _ _ _ _ hB hb.size).mono ?_
      rintro e w' ⟨rfl, hb'⟩
      have hfin : Below w.heap.size w w' := hb.trans hb'
      go_wp2
      go_ret
      refine ⟨ret_string ?_, hfin⟩
      obtain rfl : k = 10 := by omega
      rfl
end Go.Proofs.Ytpbimoodihbliaa
