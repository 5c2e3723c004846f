/- The texts of steps: the program's StepsText. -/
import Derived.Test.YtcningdeocmbgaaDoorStxA
namespace Go.Proofs.YtcningdeocmbgaaDoor
open Go.ChangeShapes Go.WideShapes Go.ChangeAt Go.RowKit
set_option maxRecDepth 100000
theorem Builds.below {B b : Nat} {l : List UInt8} {w w' : World} (h : Builds B b l w) (hb : Below w.heap.size w w') : Builds B b l w' := by
  have one : ∀ p, Lib.BuilderAt 37 5 B b p (Lib.byteCells l) w → Lib.BuilderAt 37 5 B b p (Lib.byteCells l) w' := by
    intro p h
    have hlt := h.lt
    obtain ⟨h1, v, h2, h3, h4⟩ := h
    exact ⟨h1, v, (hb.block _ hlt).trans h2, owns_below h3 hb, h4⟩
  rcases h with h | h
  · exact .inl (one _ h)
  · exact .inr (one _ h)
theorem stepText_any (z : StepT) (w : World) :
    Calls Tryd.prog 12 #[StepV z] w fun e w' => e = .returned (.string (bytesOf [stepC z])) ∧ Below w.heap.size w w' := by
  unfold StepV
  have hb1 := (Below.refl w.heap.size w).alloc (Nat.le_refl _) (.cells #[.int .i64 z.1, .int .i64 z.2] 30)
  rcases stepC_cases z with ⟨t1, hs⟩ | ⟨t1, t3, hs⟩ | ⟨n, hn8, t1, t3, t2, hr, hs⟩ | ⟨t1, t3, t2, hs⟩ | ⟨t1, t3, t2, hr, hs⟩ | ⟨t1, t3, t2, hr, hs⟩
  · rw [hs]
    clear hs
    go_enter Tryd.func12, Tryd.ntmps12
    go_wp2
    go_ret
    exact ⟨rfl, hb1⟩
  · rw [hs]
    clear hs
    go_enter Tryd.func12, Tryd.ntmps12
    go_wp2
    go_ret
    exact ⟨rfl, hb1⟩
  · have HD : Hid (decS n = bytesOf [stepC z]) := by show _ = _; rw [hs]; rfl
    rw [hr] at hb1 ⊢
    have g1 : decide ((0 : Int) ≤ (n : Int)) = true := decide_eq_true (by omega)
    have g2 : decide ((n : Int) < 8) = true := decide_eq_true (by omega)
    clear hs hr
    go_enter Tryd.func12, Tryd.ntmps12
    go_wp2_with fail
    refine (itoa_any n hn8 _).mono ?_
    rintro e w2 ⟨rfl, rfl⟩
    go_wp2_with fail
    go_ret
    refine ⟨?_, hb1⟩
    rw [HD.out]
    rfl
  · rw [hs]
    clear hs
    go_enter Tryd.func12, Tryd.ntmps12
    go_wp2
    go_ret
    exact ⟨rfl, hb1⟩
  · rw [hs]
    have g1 : decide ((0 : Int) ≤ z.2) = false := decide_eq_false (by omega)
    clear hs
    go_enter Tryd.func12, Tryd.ntmps12
    go_wp2
    go_ret
    exact ⟨rfl, hb1⟩
  · rw [hs]
    have g1 : decide ((0 : Int) ≤ z.2) = true := decide_eq_true (by omega)
    have g2 : decide (z.2 < 8) = false := decide_eq_false (by omega)
    clear hs
    go_enter Tryd.func12, Tryd.ntmps12
    go_wp2
    go_ret
    exact ⟨rfl, hb1⟩
set_option maxHeartbeats 2000000 in
theorem stepsText_any (a : Option Addr) (cap : Nat) (zs : List StepT) (w : World) (H : StepsAt w a zs) (hn : zs.length ≤ 1048576) :
    Calls Tryd.prog 7 #[.slice a zs.length cap] w fun e w' => e = .returned (.string (stepsTextB zs)) ∧ Below w.heap.size w w' := by
  have hB0 : Builds w.heap.size w.heap.size [] (w.alloc (.cells #[.pointer none, .slice none 0 0] 37)) := Lib.fresh_isBuilder _ _ _
  have hb0 := (Below.refl w.heap.size w).alloc (Nat.le_refl _) (.cells #[.pointer none, .slice none 0 0] 37)
  go_enter Tryd.func7, Tryd.ntmps7
  go_wp2_with fail
  go_loopw [8] (fun i wr => ∃ k : Nat, k ≤ zs.length ∧ i = .int .i64 k ∧ Builds w.heap.size w.heap.size (stepsTo zs k) wr ∧ Below w.heap.size w wr) (fun i _ => zs.length - (intOf i).toNat)
  case atStart => exact ⟨0, Nat.zero_le _, rfl, hB0, hb0⟩
  case round =>
    clear hB0 hb0
    obtain ⟨k, hk, rfl, hB, hb⟩ := hrel
    by_cases hlt : k < zs.length
    · obtain ⟨_, b, off, e, hbb, c0, c1⟩ := H.2 k hlt
      subst e
      have hkl : (k : Int) < (zs.length : Int) := by omega
      have d0 : wr.cell? ⟨b, off + k * 2, none⟩ = some (.int .i64 zs[k].1) := by rw [hb.cell (p := ⟨b, _, none⟩) hbb, c0]
      have d1 : wr.cell? ⟨b, off + k * 2 + 1, none⟩ = some (.int .i64 zs[k].2) := by rw [hb.cell (p := ⟨b, _, none⟩) hbb, c1]
      have HN := Lib.hid (stepsTo_succ hlt)
      have hl := stepsTo_len zs k
      go_wp2_with fail
      refine (stepText_any zs[k] _).mono ?_
      rintro e w2 ⟨rfl, hb2⟩
      have hb3 := hb.trans (((Below.refl _ _).alloc (Nat.le_refl wr.heap.size) (.cells #[.int .i64 zs[k].1, .int .i64 zs[k].2] 30) |>.trans (hb2.mono (by simp))).mono hb.size)
      have hB2 : Builds w.heap.size w.heap.size (stepsTo zs k) w2 := (hB.alloc _).below hb2
      have hs2 := hb3.size
      clear d0 d1 c0 c1 hB hb2
      go_wp2_with fail
      refine (write_any _ _ _ _ _ hB2 (by simp; omega) hs2).mono ?_
      rintro e w3 ⟨rfl, hB3, hb4⟩
      rw [← HN.out] at hB3
      go_wp2
      go_roundw
      case rel => exact ⟨k + 1, by omega, by go_num, hB3, hb3.trans hb4⟩
      case measure => simp [intOf]; omega
    · have HK : k = zs.length := by omega
      go_wp2_with fail
      refine (builderString_any _ _ _ _ hB hb.size).mono ?_
      rintro e w' ⟨rfl, hb'⟩
      go_wp2
      go_ret
      exact ⟨ret_string rfl, hb.trans hb'⟩
end Go.Proofs.YtcningdeocmbgaaDoor
