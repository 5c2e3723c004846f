/- The walk of FnExactTableEnd. -/
import Derived.Test.YtiloalbjcmpljaaTabB
namespace Go.Proofs.Ytiloalbjcmpljaa
open Go.ChangeShapes Go.WideShapes Go.ChangeAt Go.RowKit Go.Deep
set_option maxRecDepth 100000
set_option maxHeartbeats 4000000 in
theorem tableEnd_law (m : Int) (a : Option Addr) (cap : Nat) (xs : List TriT) (c : Option Addr) (cup : Nat) (ys : List TriT) (n : Int) (s : ByteArray) (w : World) (HX : TrisAt w a xs) (HY : TrisAt w c ys) (_ : (Lit.int .i64 n).wf = true) (_ : s.size ≤ maxLen) :
    Calls Try.prog 5 #[tabV m a xs.length cap c ys.length cup, .int .i64 n, .string s] w fun e w' => e = .returned (.bool true) ∧ Below w.heap.size w w' := by

  have hb1 := (Below.refl w.heap.size w).alloc (Nat.le_refl _) (.cells #[.int .i64 m, .slice a xs.length cap, .slice c ys.length cup] 28)
  have X1 := BoxT.new w (.int .i64 m) (.slice a xs.length cap) (.slice c ys.length cup) 28
  by_cases hbig : (1048576 : Int) < (s.size : Int)
  · go_enter Try.func5, Try.ntmps5
    go_wp2_with fail
    go_ret
    exact ⟨rfl, hb1⟩
  have hbg : decide ((1048576 : Int) < (s.size : Int)) = false := by simpa using hbig
  go_enter Try.func5, Try.ntmps5
  go_wp2_with fail
  refine (szTable_any m _ _ xs _ _ ys _ _ (HX.below hb1 (Nat.le_refl _)) (HY.below hb1 (Nat.le_refl _)) (by omega) (by omega)).mono ?_
  rintro e w2 ⟨rfl, hb2⟩
  have X2 := X1.below hb2
  have c2 := Below.on hb1 hb2 (Nat.le_refl _)
  clear X1 hb1 hb2 hbg hbig
  by_cases hneg : szTableM xs ys 1048576 < 0
  · go_wp2
    go_ret
    exact ⟨rfl, c2⟩
  obtain ⟨⟨l1, _⟩, ⟨l2, _⟩⟩ := szTableM_len (xs := xs) (ys := ys) (left := 1048576) (by omega) (by omega) (by omega)
  have hnn : decide (szTableM xs ys 1048576 < 0) = false := by simpa using hneg
  generalize szTableM xs ys 1048576 = left1 at *
  obtain ⟨x0, x1, x2⟩ := X2.2
  go_wp2_with fail
  refine (toTable_any m _ _ xs _ _ ys _ (HX.below c2 (Nat.le_refl _)) (HY.below c2 (Nat.le_refl _)) l1 l2).mono ?_
  rintro e w4 ⟨b4, c4, rfl, _, _, row4, sow4, hb4⟩
  have R4 := trisAt_of_row row4 HX.fits
  have S4 := trisAt_of_row sow4 HY.fits
  have X4 := X2.below hb4
  have d4 := Below.on c2 hb4 (Nat.le_refl _)
  clear X2 c2 hb4 row4 sow4 x0 x1 x2
  go_wp2_with fail
  refine (sTableEnd_any m _ _ xs _ _ ys n s _ S4).mono ?_
  rintro e w6 ⟨rfl, hb6⟩
  have X6 := X4.below hb6
  have d6 := Below.on d4 hb6 (Nat.le_refl _)
  clear X4 d4 hb6 R4 S4
  obtain ⟨x0, x1, x2⟩ := X6.2
  generalize hgv : goT ys n s = gv at *
  go_wp2_with fail
  refine (toTable_any m _ _ xs _ _ ys _ (HX.below d6 (Nat.le_refl _)) (HY.below d6 (Nat.le_refl _)) l1 l2).mono ?_
  rintro e w7 ⟨b7, c7, rfl, _, _, row7, sow7, hb7⟩
  have bx7 := (Below.refl _ _).alloc (Nat.le_refl w7.heap.size) (.cells #[.int .i64 m, .slice (some ⟨b7, 0, none⟩) xs.length xs.length, .slice (some ⟨c7, 0, none⟩) ys.length ys.length] 39)
  have Z8 := BoxT.new w7 (.int .i64 m) (.slice (some ⟨b7, 0, none⟩) xs.length xs.length) (.slice (some ⟨c7, 0, none⟩) ys.length ys.length) 39
  have R8 := (trisAt_of_row row7 HX.fits).below bx7 (Nat.le_refl _)
  have S8 := (trisAt_of_row sow7 HY.fits).below bx7 (Nat.le_refl _)
  have X8 := (X6.below hb7).below bx7
  have d8 := Below.on (Below.on d6 hb7 (Nat.le_refl _)) bx7 (Nat.le_refl _)
  clear X6 d6 hb7 x0 x1 x2 row7 sow7 bx7
  go_wp2_with fail
  refine (tableEnd_any m _ _ xs _ _ ys n s _ S8).mono ?_
  rintro e w10 ⟨rfl, hb10⟩
  have R11 := R8.below hb10 (Nat.le_refl _)
  have S11 := S8.below hb10 (Nat.le_refl _)
  have X11 := X8.below hb10
  have Z11 := Z8.below hb10
  have d11 := Below.on d8 hb10 (Nat.le_refl _)
  clear X8 Z8 R8 S8 hb10 d8
  have HX11 := HX.below d11 (Nat.le_refl _)
  have HY11 := HY.below d11 (Nat.le_refl _)
  rw [hgv]
  clear hgv
  obtain ⟨gi, ok⟩ := gv
  have hok : (ok != ok) = false := by cases ok <;> rfl
  have hgi : (gi != gi) = false := by simp
  obtain ⟨z0, z1, z2⟩ := Z11.2
  obtain ⟨x0, x1, x2⟩ := X11.2
  go_wp2_with fail
  go_region_held3 (fun w' => w'.cell? ⟨w.heap.size, 0, none⟩ = some (.int .i64 m) ∧ w'.cell? ⟨w.heap.size, 1, none⟩ = some (.slice a xs.length cap) ∧ w'.cell? ⟨w.heap.size, 2, none⟩ = some (.slice c ys.length cup) ∧ w'.cell? ⟨w7.heap.size, 0, none⟩ = some (.int .i64 m) ∧ w'.cell? ⟨w7.heap.size, 1, none⟩ = some (.slice (some ⟨b7, 0, none⟩) xs.length xs.length) ∧ w'.cell? ⟨w7.heap.size, 2, none⟩ = some (.slice (some ⟨c7, 0, none⟩) ys.length ys.length))
    (first
      | go_keep
      | with_reducible exact keepT6 ((X11.below hb12).below hb13) ((Z11.below hb12).below hb13)
      | with_reducible exact keepT6 (X11.below hb12) (Z11.below hb12)
      | fail)
    (first
      | (go_at_call 12; (with_reducible refine (toTable_any m a cap xs c cup ys _ ?_ ?_ l1 l2).mono ?_); (exact HX11.drew); (exact HY11.drew); rintro e w12 ⟨b12, c12, rfl, l12, m12, row12, sow12, hb12'⟩; have hb12 := below_of_drew hb12')
      | (go_at_call 15; (with_reducible refine (eqTable_any m _ _ xs _ _ ys _ _ _ _ _ ?_ ?_ ?_ ?_).mono ?_); (exact R11.below hb12 (Nat.le_refl _)); (exact S11.below hb12 (Nat.le_refl _)); (exact trisAt_of_row row12 HX.fits); (exact trisAt_of_row sow12 HY.fits); rintro e w13 ⟨rfl, hb13⟩)
      | fail)
  have d13 := Below.on (Below.on d11 hb12 (Nat.le_refl _)) hb13 (Nat.le_refl _)
  go_wp2_with fail
  go_ret
  exact ⟨rfl, d13⟩
end Go.Proofs.Ytiloalbjcmpljaa
