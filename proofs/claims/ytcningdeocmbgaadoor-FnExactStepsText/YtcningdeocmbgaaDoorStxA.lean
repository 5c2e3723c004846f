/- The texts of steps: the model's StepsText. -/
import Derived.Test.YtcningdeocmbgaaDoorNumA
import Derived.Test.YtcningdeocmbgaaDoorStArg
namespace Go.Proofs.YtcningdeocmbgaaDoor
open Go.ChangeShapes Go.WideShapes Go.ChangeAt Go.RowKit
set_option maxRecDepth 100000
/-- the sign of a step -/
def stepC (z : StepT) : UInt8 := if z.1 = 1 then 114 else if z.1 = 3 then 46 else if z.1 = 2 ∧ 0 ≤ z.2 ∧ z.2 < 8 then (48 + z.2.toNat).toUInt8 else 63
def stepsTo (zs : List StepT) (k : Nat) : List UInt8 := (zs.take k).map stepC
theorem stepsTo_succ {zs : List StepT} {k : Nat} (h : k < zs.length) : stepsTo zs (k + 1) = stepsTo zs k ++ [stepC zs[k]] := by
  unfold stepsTo
  rw [List.take_succ_eq_append_getElem h, List.map_append]; rfl
theorem stepsTo_len (zs : List StepT) (k : Nat) : (stepsTo zs k).length ≤ k := by unfold stepsTo; simp; omega
def stepsTextB (zs : List StepT) : ByteArray := bytesOf (stepsTo zs zs.length)
theorem add_one (l : List UInt8) (c : UInt8) (h : l.length ≤ 2000000) (w : World) : (Op.stringOp .add (bytesOf l) (⟨#[c]⟩ : ByteArray)).run Tryd.prog w = .ok (.string (bytesOf (l ++ [c]))) w := by
  have := run_add_bytes (P := Tryd.prog) l (⟨#[c]⟩ : ByteArray) (by rw [one_size]; omega) w
  rwa [show cat l (⟨#[c]⟩ : ByteArray) = l ++ [c] from by simp [cat]] at this
/-- the six ways of a step -/
theorem stepC_cases (z : StepT) : ((z.1 == 1) = true ∧ stepC z = 114) ∨ ((z.1 == 1) = false ∧ (z.1 == 3) = true ∧ stepC z = 46) ∨
    (∃ n : Nat, n < 8 ∧ (z.1 == 1) = false ∧ (z.1 == 3) = false ∧ (z.1 == 2) = true ∧ z.2 = (n : Int) ∧ stepC z = (48 + n).toUInt8) ∨
    ((z.1 == 1) = false ∧ (z.1 == 3) = false ∧ (z.1 == 2) = false ∧ stepC z = 63) ∨
    ((z.1 == 1) = false ∧ (z.1 == 3) = false ∧ (z.1 == 2) = true ∧ z.2 < 0 ∧ stepC z = 63) ∨
    ((z.1 == 1) = false ∧ (z.1 == 3) = false ∧ (z.1 == 2) = true ∧ 8 ≤ z.2 ∧ stepC z = 63) := by
  obtain ⟨a, b⟩ := z
  simp only [beq_iff_eq, beq_eq_false_iff_ne]
  unfold stepC
  by_cases h1 : a = 1
  · exact .inl ⟨h1, by simp [h1]⟩
  by_cases h3 : a = 3
  · exact .inr (.inl ⟨h1, h3, by simp [h3]⟩)
  by_cases h2 : a = 2
  · by_cases hb : b < 0
    · exact .inr (.inr (.inr (.inr (.inl ⟨h1, h3, h2, hb, by simp [h2]; omega⟩))))
    by_cases hb8 : 8 ≤ b
    · exact .inr (.inr (.inr (.inr (.inr ⟨h1, h3, h2, hb8, by simp [h2]; omega⟩))))
    · refine .inr (.inr (.inl ⟨b.toNat, by omega, h1, h3, h2, by simp; omega, ?_⟩))
      simp only [h2]
      rw [if_neg (by decide), if_neg (by decide), if_pos ⟨trivial, by omega, by omega⟩]
  · exact .inr (.inr (.inr (.inl ⟨h1, h3, h2, by simp [h1, h2, h3]⟩)))
set_option maxHeartbeats 2000000 in
theorem sStepsText_any (a : Option Addr) (cap : Nat) (zs : List StepT) (w : World) (H : StepsAt w a zs) (hn : zs.length ≤ 1100000) :
    Calls Tryd.prog 5 #[.slice a zs.length cap] w fun e w' => e = .returned (.string (stepsTextB zs)) ∧ Below w.heap.size w w' := by
  go_enter Tryd.func5, Tryd.ntmps5
  go_wp2_with fail
  go_loopw [3, 4] (fun o i wr => ∃ k : Nat, k ≤ zs.length ∧ i = .int .i64 k ∧ o = .string (bytesOf (stepsTo zs k)) ∧ Below w.heap.size w wr) (fun _ i _ => zs.length - (intOf i).toNat)
  case atStart => exact ⟨0, Nat.zero_le _, rfl, rfl, Below.refl _ _⟩
  case round =>
    obtain ⟨k, hk, rfl, rfl, hb⟩ := hrel
    by_cases hlt : k < zs.length
    · obtain ⟨_, b, off, e, hbb, c0, c1⟩ := H.2 k hlt
      subst e
      have hkl : (k : Int) < (zs.length : Int) := by omega
      have d0 : wr.cell? ⟨b, off + k * 2, none⟩ = some (.int .i64 zs[k].1) := by rw [hb.cell (p := ⟨b, _, none⟩) hbb, c0]
      have d1 : wr.cell? ⟨b, off + k * 2 + 1, none⟩ = some (.int .i64 zs[k].2) := by rw [hb.cell (p := ⟨b, _, none⟩) hbb, c1]
      have HN := Lib.hid (stepsTo_succ hlt)
      have hl := stepsTo_len zs k
      rcases stepC_cases zs[k] with ⟨t1, hs⟩ | ⟨t1, t3, hs⟩ | ⟨n, hn8, t1, t3, t2, hr, hs⟩ | ⟨t1, t3, t2, hs⟩ | ⟨t1, t3, t2, hr, hs⟩ | ⟨t1, t3, t2, hr, hs⟩
      · have HS := Lib.hid hs
        have ad := add_one (stepsTo zs k) 114 (by omega)
        clear hs
        go_wp2
        go_roundw
        case rel => exact ⟨k + 1, by omega, by go_num, by rw [HN.out, HS.out], hb⟩
        case measure => simp [intOf]; omega
      · have HS := Lib.hid hs
        have ad := add_one (stepsTo zs k) 46 (by omega)
        clear hs
        go_wp2
        go_roundw
        case rel => exact ⟨k + 1, by omega, by go_num, by rw [HN.out, HS.out], hb⟩
        case measure => simp [intOf]; omega
      · obtain ⟨cc, hcc⟩ : ∃ cc, cc = (48 + n).toUInt8 := ⟨_, rfl⟩
        have HD : Hid (decS n = ⟨#[cc]⟩) := by show _ = _; rw [hcc]; rfl
        rw [← hcc] at hs
        have HS := Lib.hid hs
        have ad := add_one (stepsTo zs k) cc (by omega)
        rw [hr] at d1
        clear hcc
        have g1 : decide ((0 : Int) ≤ (n : Int)) = true := decide_eq_true (by omega)
        have g2 : decide ((n : Int) < 8) = true := decide_eq_true (by omega)
        clear hs hr
        go_wp2_with fail
        refine (l17Dec_any n hn8 _).mono ?_
        rintro e w2 ⟨rfl, hb2⟩
        rw [HD.out]
        go_wp2
        go_roundw
        case rel => exact ⟨k + 1, by omega, by go_num, by rw [HN.out, HS.out], hb.trans (hb2.mono hb.size)⟩
        case measure => simp [intOf]; omega
      · have HS := Lib.hid hs
        have ad := add_one (stepsTo zs k) 63 (by omega)
        clear hs
        go_wp2
        go_roundw
        case rel => exact ⟨k + 1, by omega, by go_num, by rw [HN.out, HS.out], hb⟩
        case measure => simp [intOf]; omega
      · have HS := Lib.hid hs
        have ad := add_one (stepsTo zs k) 63 (by omega)
        clear hs
        have g1 : decide ((0 : Int) ≤ zs[k].2) = false := decide_eq_false (by omega)
        go_wp2
        go_roundw
        case rel => exact ⟨k + 1, by omega, by go_num, by rw [HN.out, HS.out], hb⟩
        case measure => simp [intOf]; omega
      · have HS := Lib.hid hs
        have ad := add_one (stepsTo zs k) 63 (by omega)
        clear hs
        have g1 : decide ((0 : Int) ≤ zs[k].2) = true := decide_eq_true (by omega)
        have g2 : decide (zs[k].2 < 8) = false := decide_eq_false (by omega)
        go_wp2
        go_roundw
        case rel => exact ⟨k + 1, by omega, by go_num, by rw [HN.out, HS.out], hb⟩
        case measure => simp [intOf]; omega
    · have HK : k = zs.length := by omega
      go_wp2
      go_ret
      exact ⟨ret_string (by unfold stepsTextB; rw [HK]), hb⟩
end Go.Proofs.YtcningdeocmbgaaDoor
