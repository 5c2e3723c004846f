/- The walk of FnExactTableSame. -/
import Derived.Test.YtiloalbjcmpljaaTabC
namespace Go.Proofs.Ytiloalbjcmpljaa
open Go.ChangeShapes Go.WideShapes Go.ChangeAt Go.RowKit Go.Deep
set_option maxRecDepth 100000
set_option maxHeartbeats 4000000 in
theorem tableSame_law (m : Int) (a : Option Addr) (cap : Nat) (xs : List TriT) (c : Option Addr) (cup : Nat) (ys : List TriT) (m' : Int) (a' : Option Addr) (cap' : Nat) (xs' : List TriT) (c' : Option Addr) (cup' : Nat) (ys' : List TriT) (w : World) (HX : TrisAt w a xs) (HY : TrisAt w c ys) (HX' : TrisAt w a' xs') (HY' : TrisAt w c' ys') :
    Calls Try.prog 7 #[tabV m a xs.length cap c ys.length cup, tabV m' a' xs'.length cap' c' ys'.length cup'] w fun e w' => e = .returned (.bool true) ∧ Below w.heap.size w w' := by
  have hb1 := ((Below.refl w.heap.size w).alloc (Nat.le_refl _) (.cells #[.int .i64 m, .slice a xs.length cap, .slice c ys.length cup] 28)).alloc (by simp) (.cells #[.int .i64 m', .slice a' xs'.length cap', .slice c' ys'.length cup'] 28)
  have X1 := (BoxT.new w (.int .i64 m) (.slice a xs.length cap) (.slice c ys.length cup) 28).old (.cells #[.int .i64 m', .slice a' xs'.length cap', .slice c' ys'.length cup'] 28)
  have Y1 := BoxT.new (w.alloc (.cells #[.int .i64 m, .slice a xs.length cap, .slice c ys.length cup] 28)) (.int .i64 m') (.slice a' xs'.length cap') (.slice c' ys'.length cup') 28
  simp only [World.size_alloc] at Y1
  go_enter Try.func7, Try.ntmps7
  go_wp2_with fail
  refine (szTable_any m _ _ xs _ _ ys _ _ (HX.below hb1 (Nat.le_refl _)) (HY.below hb1 (Nat.le_refl _)) (by omega) (by omega)).mono ?_
  rintro e w2 ⟨rfl, hb2⟩
  have X2 := X1.below hb2
  have Y2 := Y1.below hb2
  have c2 := Below.on hb1 hb2 (Nat.le_refl _)
  clear X1 Y1 hb1 hb2
  by_cases hneg : szTableM xs ys 1048576 < 0
  · go_wp2
    go_ret
    exact ⟨rfl, c2⟩
  obtain ⟨⟨l1, _⟩, ⟨l2, _⟩⟩ := szTableM_len (xs := xs) (ys := ys) (left := 1048576) (by omega) (by omega) (by omega)
  have hle := szTableM_le xs ys 1048576 (by omega)
  have hnn : decide (szTableM xs ys 1048576 < 0) = false := by simpa using hneg
  generalize szTableM xs ys 1048576 = left1 at *
  obtain ⟨y0, y1, y2⟩ := Y2.2
  go_wp2_with fail
  refine (szTable_any m' _ _ xs' _ _ ys' _ _ (HX'.below c2 (Nat.le_refl _)) (HY'.below c2 (Nat.le_refl _)) (by omega) (by omega)).mono ?_
  rintro e w3 ⟨rfl, hb3⟩
  have X3 := X2.below hb3
  have Y3 := Y2.below hb3
  have c3 := Below.on c2 hb3 (Nat.le_refl _)
  clear X2 Y2 c2 hb3 y0 y1 y2 hnn
  by_cases hneg2 : szTableM xs' ys' left1 < 0
  · go_wp2
    go_ret
    exact ⟨rfl, c3⟩
  obtain ⟨⟨l3, _⟩, ⟨l4, _⟩⟩ := szTableM_len (xs := xs') (ys := ys') (left := left1) (by omega) (by omega) (by omega)
  have hnn : decide (szTableM xs' ys' left1 < 0) = false := by simpa using hneg2
  generalize szTableM xs' ys' left1 = left2 at *
  have HX3 := HX.below c3 (Nat.le_refl _)
  have HY3 := HY.below c3 (Nat.le_refl _)
  have HX3' := HX'.below c3 (Nat.le_refl _)
  have HY3' := HY'.below c3 (Nat.le_refl _)
  obtain ⟨x0, x1, x2⟩ := X3.2
  obtain ⟨y0, y1, y2⟩ := Y3.2
  go_wp2_with fail
  go_region_held3 (fun w' => w'.cell? ⟨w.heap.size, 0, none⟩ = some (.int .i64 m) ∧ w'.cell? ⟨w.heap.size, 1, none⟩ = some (.slice a xs.length cap) ∧ w'.cell? ⟨w.heap.size, 2, none⟩ = some (.slice c ys.length cup) ∧ w'.cell? ⟨w.heap.size + 1, 0, none⟩ = some (.int .i64 m') ∧ w'.cell? ⟨w.heap.size + 1, 1, none⟩ = some (.slice a' xs'.length cap') ∧ w'.cell? ⟨w.heap.size + 1, 2, none⟩ = some (.slice c' ys'.length cup'))
    (first
      | go_keep
      | with_reducible exact keepT6 (((X3.below hb4).below hb5).below hb6) (((Y3.below hb4).below hb5).below hb6)
      | with_reducible exact keepT6 ((X3.below hb4).below hb5) ((Y3.below hb4).below hb5)
      | with_reducible exact keepT6 (X3.below hb4) (Y3.below hb4)
      | fail)
    (first
      | (go_at_call 12; (with_reducible refine (toTable_any m a cap xs c cup ys _ ?_ ?_ l1 l2).mono ?_); (exact HX3.drew); (exact HY3.drew); rintro e w4 ⟨b4, c4, rfl, q4, r4, row4, sow4, hb4'⟩; have hb4 := below_of_drew hb4')
      | (go_at_call 12; (with_reducible refine (toTable_any m' a' cap' xs' c' cup' ys' _ ?_ ?_ l3 l4).mono ?_); (exact HX3'.below hb4 (Nat.le_refl _)); (exact HY3'.below hb4 (Nat.le_refl _)); rintro e w5 ⟨b5, c5, rfl, q5, r5, row5, sow5, hb5⟩)
      | (go_at_call 26; (with_reducible refine (sTableSame_any m _ _ xs _ _ ys m' _ _ xs' _ _ ys' _ ?_ ?_ ?_ ?_).mono ?_); (exact (trisAt_of_row row4 HX.fits).below hb5 (Nat.le_refl _)); (exact (trisAt_of_row sow4 HY.fits).below hb5 (Nat.le_refl _)); (exact trisAt_of_row row5 HX'.fits); (exact trisAt_of_row sow5 HY'.fits); rintro e w6 ⟨rfl, hb6⟩)
      | fail)
  have X6 := ((X3.below hb4).below hb5).below hb6
  have Y6 := ((Y3.below hb4).below hb5).below hb6
  have d6 := Below.on (Below.on (Below.on c3 hb4 (Nat.le_refl _)) hb5 (Nat.le_refl _)) hb6 (Nat.le_refl _)
  clear X3 Y3 c3 HX3 HY3 HX3' HY3' hb4 hb4' hb5 hb6 q4 r4 q5 r5 row4 sow4 row5 sow5 x0 x1 x2 y0 y1 y2 hnn
  obtain ⟨x0, x1, x2⟩ := X6.2
  generalize hgv : sameT m xs ys m' xs' ys' = ok at *
  go_wp2_with fail
  refine (toTable_any m _ _ xs _ _ ys _ (HX.below d6 (Nat.le_refl _)) (HY.below d6 (Nat.le_refl _)) l1 l2).mono ?_
  rintro e w7 ⟨b7, c7, rfl, _, _, row7, sow7, hb7⟩
  have bx7 := (Below.refl _ _).alloc (Nat.le_refl w7.heap.size) (.cells #[.int .i64 m, .slice (some ⟨b7, 0, none⟩) xs.length xs.length, .slice (some ⟨c7, 0, none⟩) ys.length ys.length] 39)
  have Z8 := BoxT.new w7 (.int .i64 m) (.slice (some ⟨b7, 0, none⟩) xs.length xs.length) (.slice (some ⟨c7, 0, none⟩) ys.length ys.length) 39
  have R8 := (trisAt_of_row row7 HX.fits).below bx7 (Nat.le_refl _)
  have S8 := (trisAt_of_row sow7 HY.fits).below bx7 (Nat.le_refl _)
  have X8 := (X6.below hb7).below bx7
  have Y8 := (Y6.below hb7).below bx7
  have d8 := Below.on (Below.on d6 hb7 (Nat.le_refl _)) bx7 (Nat.le_refl _)
  clear X6 Y6 d6 hb7 x0 x1 x2 row7 sow7 bx7
  obtain ⟨y0, y1, y2⟩ := Y8.2
  go_wp2_with fail
  refine (toTable_any m' _ _ xs' _ _ ys' _ (HX'.below d8 (Nat.le_refl _)) (HY'.below d8 (Nat.le_refl _)) l3 l4).mono ?_
  rintro e w9 ⟨b9, c9, rfl, _, _, row9, sow9, hb9⟩
  have bx9 := (Below.refl _ _).alloc (Nat.le_refl w9.heap.size) (.cells #[.int .i64 m', .slice (some ⟨b9, 0, none⟩) xs'.length xs'.length, .slice (some ⟨c9, 0, none⟩) ys'.length ys'.length] 39)
  have V9 := BoxT.new w9 (.int .i64 m') (.slice (some ⟨b9, 0, none⟩) xs'.length xs'.length) (.slice (some ⟨c9, 0, none⟩) ys'.length ys'.length) 39
  have P9 := (trisAt_of_row row9 HX'.fits).below bx9 (Nat.le_refl _)
  have Q9 := (trisAt_of_row sow9 HY'.fits).below bx9 (Nat.le_refl _)
  have X9 := (X8.below hb9).below bx9
  have Y9 := (Y8.below hb9).below bx9
  have Z9 := (Z8.below hb9).below bx9
  have R9 := (R8.below hb9 (Nat.le_refl _)).below bx9 (Nat.le_refl _)
  have S9 := (S8.below hb9 (Nat.le_refl _)).below bx9 (Nat.le_refl _)
  have d9 := Below.on (Below.on d8 hb9 (Nat.le_refl _)) bx9 (Nat.le_refl _)
  clear X8 Y8 Z8 R8 S8 d8 hb9 y0 y1 y2 row9 sow9 bx9
  obtain ⟨z0, z1, z2⟩ := Z9.2
  go_wp2_with fail
  refine (tableSame_any m _ _ xs _ _ ys m' _ _ xs' _ _ ys' _ R9 S9 P9 Q9).mono ?_
  rintro e w10 ⟨rfl, hb10⟩
  have X11 := X9.below hb10
  have Y11 := Y9.below hb10
  have Z11 := Z9.below hb10
  have V11 := V9.below hb10
  have R11 := R9.below hb10 (Nat.le_refl _)
  have S11 := S9.below hb10 (Nat.le_refl _)
  have P11 := P9.below hb10 (Nat.le_refl _)
  have Q11 := Q9.below hb10 (Nat.le_refl _)
  have d11 := Below.on d9 hb10 (Nat.le_refl _)
  clear X9 Y9 Z9 V9 R9 S9 P9 Q9 hb10 d9 z0 z1 z2
  have HX11 := HX.below d11 (Nat.le_refl _)
  have HY11 := HY.below d11 (Nat.le_refl _)
  rw [hgv]
  clear hgv
  have hok : (ok != ok) = false := by cases ok <;> rfl
  obtain ⟨z0, z1, z2⟩ := Z11.2
  obtain ⟨x0, x1, x2⟩ := X11.2
  go_wp2_with fail
  go_region_held3 (fun w' => w'.cell? ⟨w.heap.size, 0, none⟩ = some (.int .i64 m) ∧ w'.cell? ⟨w.heap.size, 1, none⟩ = some (.slice a xs.length cap) ∧ w'.cell? ⟨w.heap.size, 2, none⟩ = some (.slice c ys.length cup) ∧ w'.cell? ⟨w7.heap.size, 0, none⟩ = some (.int .i64 m) ∧ w'.cell? ⟨w7.heap.size, 1, none⟩ = some (.slice (some ⟨b7, 0, none⟩) xs.length xs.length) ∧ w'.cell? ⟨w7.heap.size, 2, none⟩ = some (.slice (some ⟨c7, 0, none⟩) ys.length ys.length))
    (first
      | go_keep
      | with_reducible exact keepT6 ((X11.below hb12).below hb13) ((Z11.below hb12).below hb13)
      | with_reducible exact keepT6 (X11.below hb12) (Z11.below hb12)
      | fail)
    (first
      | (go_at_call 12; (with_reducible refine (toTable_any m a cap xs c cup ys _ ?_ ?_ l1 l2).mono ?_); (exact HX11.drew); (exact HY11.drew); rintro e w12 ⟨b12, c12, rfl, l12, m12, row12, sow12, hb12'⟩; have hb12 := below_of_drew hb12')
      | (go_at_call 15; (with_reducible refine (eqTable_any m _ _ xs _ _ ys _ _ _ _ _ ?_ ?_ ?_ ?_).mono ?_); (exact R11.below hb12 (Nat.le_refl _)); (exact S11.below hb12 (Nat.le_refl _)); (exact trisAt_of_row row12 HX.fits); (exact trisAt_of_row sow12 HY.fits); rintro e w13 ⟨rfl, hb13⟩)
      | fail)
  have d13 := Below.on (Below.on d11 hb12 (Nat.le_refl _)) hb13 (Nat.le_refl _)
  have Y13 := (Y11.below hb12).below hb13
  have V13 := (V11.below hb12).below hb13
  have P13 := (P11.below hb12 (Nat.le_refl _)).below hb13 (Nat.le_refl _)
  have Q13 := (Q11.below hb12 (Nat.le_refl _)).below hb13 (Nat.le_refl _)
  clear X11 Y11 Z11 V11 R11 S11 P11 Q11 d11 hb12 hb12' hb13 l12 m12 row12 sow12 HX11 HY11 x0 x1 x2 z0 z1 z2
  have HX13 := HX'.below d13 (Nat.le_refl _)
  have HY13 := HY'.below d13 (Nat.le_refl _)
  obtain ⟨z0, z1, z2⟩ := V13.2
  obtain ⟨x0, x1, x2⟩ := Y13.2
  go_wp2_with fail
  go_region_held3 (fun w' => w'.cell? ⟨w.heap.size + 1, 0, none⟩ = some (.int .i64 m') ∧ w'.cell? ⟨w.heap.size + 1, 1, none⟩ = some (.slice a' xs'.length cap') ∧ w'.cell? ⟨w.heap.size + 1, 2, none⟩ = some (.slice c' ys'.length cup') ∧ w'.cell? ⟨w9.heap.size, 0, none⟩ = some (.int .i64 m') ∧ w'.cell? ⟨w9.heap.size, 1, none⟩ = some (.slice (some ⟨b9, 0, none⟩) xs'.length xs'.length) ∧ w'.cell? ⟨w9.heap.size, 2, none⟩ = some (.slice (some ⟨c9, 0, none⟩) ys'.length ys'.length))
    (first
      | go_keep
      | with_reducible exact keepT6 ((Y13.below hb14).below hb15) ((V13.below hb14).below hb15)
      | with_reducible exact keepT6 (Y13.below hb14) (V13.below hb14)
      | fail)
    (first
      | (go_at_call 12; (with_reducible refine (toTable_any m' a' cap' xs' c' cup' ys' _ ?_ ?_ l3 l4).mono ?_); (exact HX13.drew); (exact HY13.drew); rintro e w14 ⟨b14, c14, rfl, l14, m14, row14, sow14, hb14'⟩; have hb14 := below_of_drew hb14')
      | (go_at_call 15; (with_reducible refine (eqTable_any m' _ _ xs' _ _ ys' _ _ _ _ _ ?_ ?_ ?_ ?_).mono ?_); (exact P13.below hb14 (Nat.le_refl _)); (exact Q13.below hb14 (Nat.le_refl _)); (exact trisAt_of_row row14 HX'.fits); (exact trisAt_of_row sow14 HY'.fits); rintro e w15 ⟨rfl, hb15⟩)
      | fail)
  have d15 := Below.on (Below.on d13 hb14 (Nat.le_refl _)) hb15 (Nat.le_refl _)
  go_wp2_with fail
  go_ret
  exact ⟨rfl, d15⟩
end Go.Proofs.Ytiloalbjcmpljaa
