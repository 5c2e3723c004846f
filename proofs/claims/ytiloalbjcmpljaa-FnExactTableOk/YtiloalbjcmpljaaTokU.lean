/- The walk of FnExactTableOk. -/
import Derived.Test.YtiloalbjcmpljaaTokS
namespace Go.Proofs.Ytiloalbjcmpljaa
open Go.ChangeShapes Go.WideShapes Go.ChangeAt Go.RowKit Go.Deep
set_option maxRecDepth 100000
theorem keepG4 {w : World} {b c : Nat} {v0 v1 u0 u1 : Value} (X : Box2 w b v0 v1) (Y : Box2 w c u0 u1) : w.cell? ⟨b, 0, none⟩ = some v0 ∧ w.cell? ⟨b, 1, none⟩ = some v1 ∧ w.cell? ⟨c, 0, none⟩ = some u0 ∧ w.cell? ⟨c, 1, none⟩ = some u1 := ⟨X.2.1, X.2.2, Y.2⟩
set_option maxHeartbeats 4000000 in
theorem tableOk_law (st : ByteArray) (d : Option Addr) (dup : Nat) (rs : List RuleT) (m : Int) (a : Option Addr) (cap : Nat) (xs : List TriT) (c : Option Addr) (cup : Nat) (ys : List TriT) (w : World) (H : RulesAt w d rs) (hs : st.size ≤ maxLen) (HX : TrisAt w a xs) (HY : TrisAt w c ys) :
    Calls Try.prog 3 #[.agg #[.string st, .slice d rs.length dup], tabV m a xs.length cap c ys.length cup] w fun e w' => e = .returned (.bool true) ∧ Below w.heap.size w w' := by
  have hb1 := ((Below.refl w.heap.size w).alloc (Nat.le_refl _) (.cells #[.string st, .slice d rs.length dup] 24)).alloc (by simp) (.cells #[.int .i64 m, .slice a xs.length cap, .slice c ys.length cup] 28)
  have G1 := (Box2.new w (.string st) (.slice d rs.length dup) 24).old (.cells #[.int .i64 m, .slice a xs.length cap, .slice c ys.length cup] 28)
  have X1 := BoxT.new (w.alloc (.cells #[.string st, .slice d rs.length dup] 24)) (.int .i64 m) (.slice a xs.length cap) (.slice c ys.length cup) 28
  simp only [World.size_alloc] at X1
  go_enter Try.func3, Try.ntmps3
  go_wp2_with fail
  refine (szGram_any _ _ _ rs _ _ (H.below hb1 (Nat.le_refl _)) hs (by omega) (by omega)).mono ?_
  rintro e w2 ⟨rfl, hb2⟩
  have X2 := X1.below hb2
  have G2 := G1.below hb2
  have c2 := Below.on hb1 hb2 (Nat.le_refl _)
  clear X1 G1 hb1 hb2
  by_cases hneg : szGramM st rs 1048576 < 0
  · go_wp2
    go_ret
    exact ⟨rfl, c2⟩
  obtain ⟨nb, n1, n2, n3⟩ := szGram_bounds (st := st) (rs := rs) (left := 1048576) (by omega) (by omega)
  clear n3
  have hnn : decide (szGramM st rs 1048576 < 0) = false := by simpa using hneg
  generalize szGramM st rs 1048576 = left1 at *
  obtain ⟨x0, x1, x2⟩ := X2.2
  go_wp2_with fail
  refine (szTable_any m _ _ xs _ _ ys _ _ (HX.below c2 (Nat.le_refl _)) (HY.below c2 (Nat.le_refl _)) (by omega) (by omega)).mono ?_
  rintro e w3 ⟨rfl, hb3⟩
  have X3 := X2.below hb3
  have G3 := G2.below hb3
  have c3 := Below.on c2 hb3 (Nat.le_refl _)
  clear X2 G2 c2 hb3 x0 x1 x2 hnn
  by_cases hneg2 : szTableM xs ys left1 < 0
  · go_wp2
    go_ret
    exact ⟨rfl, c3⟩
  obtain ⟨⟨l1, _⟩, ⟨l2, _⟩⟩ := szTableM_len (xs := xs) (ys := ys) (left := left1) (by omega) (by omega) (by omega)
  have hnn : decide (szTableM xs ys left1 < 0) = false := by simpa using hneg2
  generalize szTableM xs ys left1 = left2 at *
  have H3 := H.below c3 (Nat.le_refl _)
  have HX3 := HX.below c3 (Nat.le_refl _)
  have HY3 := HY.below c3 (Nat.le_refl _)
  obtain ⟨x0, x1, x2⟩ := X3.2
  obtain ⟨g0, g1⟩ := G3.2
  go_wp2_with fail
  go_region_held3 (fun w' => w'.cell? ⟨w.heap.size, 0, none⟩ = some (.string st) ∧ w'.cell? ⟨w.heap.size, 1, none⟩ = some (.slice d rs.length dup) ∧ w'.cell? ⟨w.heap.size + 1, 0, none⟩ = some (.int .i64 m) ∧ w'.cell? ⟨w.heap.size + 1, 1, none⟩ = some (.slice a xs.length cap) ∧ w'.cell? ⟨w.heap.size + 1, 2, none⟩ = some (.slice c ys.length cup))
    (first
      | go_keep
      | with_reducible exact keepT5 (((G3.below hb4).below hb5).below hb6) (((X3.below hb4).below hb5).below hb6)
      | with_reducible exact keepT5 ((G3.below hb4).below hb5) ((X3.below hb4).below hb5)
      | with_reducible exact keepT5 (G3.below hb4) (X3.below hb4)
      | fail)
    (first
      | (go_at_call 11; (with_reducible refine (toGram_any st d dup rs _ ?_ n1).mono ?_); (exact H3.drew); rintro e w4 ⟨v4, rfl, b4, rfl, q4, row4, hb4'⟩; have hb4 := below_of_drew hb4')
      | (go_at_call 12; (with_reducible refine (toTable_any m a cap xs c cup ys _ ?_ ?_ l1 l2).mono ?_); (exact HX3.below hb4 (Nat.le_refl _)); (exact HY3.below hb4 (Nat.le_refl _)); rintro e w5 ⟨b5, c5, rfl, q5, r5, row5, sow5, hb5⟩)
      | (go_at_call 10; (with_reducible refine (sTableOk_any st _ _ rs m _ _ xs _ _ ys _ ?_ (Nat.le_refl _) ?_ ?_).mono ?_); (exact (rulesAt_of_row row4 H.fits).below hb5 (Nat.le_refl _)); (exact trisAt_of_row row5 HX.fits); (exact trisAt_of_row sow5 HY.fits); rintro e w6 ⟨rfl, hb6⟩)
      | fail)
  have X6 := ((X3.below hb4).below hb5).below hb6
  have G6 := ((G3.below hb4).below hb5).below hb6
  have d6 := Below.on (Below.on (Below.on c3 hb4 (Nat.le_refl _)) hb5 (Nat.le_refl _)) hb6 (Nat.le_refl _)
  clear X3 G3 c3 H3 HX3 HY3 hb4 hb4' hb5 hb6 q4 q5 r5 row4 row5 sow5 x0 x1 x2 g0 g1 hnn
  obtain ⟨g0, g1⟩ := G6.2
  generalize hgv : tabOkB st rs m xs ys = ok at *
  go_wp2_with fail
  refine (toGram_any st d dup rs _ (H.below d6 (Nat.le_refl _)) n1).mono ?_
  rintro e w7 ⟨v7, rfl, b7, rfl, q7, row7, hb7⟩
  have bx7 := (Below.refl _ _).alloc (Nat.le_refl w7.heap.size) (.cells #[.string st, .slice (some ⟨b7, 0, none⟩) rs.length rs.length] 34)
  have Z8 := Box2.new w7 (.string st) (.slice (some ⟨b7, 0, none⟩) rs.length rs.length) 34
  have R8 := (rulesAt_of_row row7 H.fits).below bx7 (Nat.le_refl _)
  have X8 := (X6.below hb7).below bx7
  have G8 := (G6.below hb7).below bx7
  have d8 := Below.on (Below.on d6 hb7 (Nat.le_refl _)) bx7 (Nat.le_refl _)
  clear X6 G6 d6 hb7 g0 g1 q7 row7 bx7
  obtain ⟨x0, x1, x2⟩ := X8.2
  go_wp2_with fail
  refine (toTable_any m _ _ xs _ _ ys _ (HX.below d8 (Nat.le_refl _)) (HY.below d8 (Nat.le_refl _)) l1 l2).mono ?_
  rintro e w9 ⟨b9, c9, rfl, _, _, row9, sow9, hb9⟩
  have bx9 := (Below.refl _ _).alloc (Nat.le_refl w9.heap.size) (.cells #[.int .i64 m, .slice (some ⟨b9, 0, none⟩) xs.length xs.length, .slice (some ⟨c9, 0, none⟩) ys.length ys.length] 39)
  have V9 := BoxT.new w9 (.int .i64 m) (.slice (some ⟨b9, 0, none⟩) xs.length xs.length) (.slice (some ⟨c9, 0, none⟩) ys.length ys.length) 39
  have P9 := (trisAt_of_row row9 HX.fits).below bx9 (Nat.le_refl _)
  have Q9 := (trisAt_of_row sow9 HY.fits).below bx9 (Nat.le_refl _)
  have R9 := (R8.below hb9 (Nat.le_refl _)).below bx9 (Nat.le_refl _)
  have Z9 := (Z8.below hb9).below bx9
  have X9 := (X8.below hb9).below bx9
  have G9 := (G8.below hb9).below bx9
  have d9 := Below.on (Below.on d8 hb9 (Nat.le_refl _)) bx9 (Nat.le_refl _)
  clear X8 G8 Z8 R8 d8 hb9 x0 x1 x2 row9 sow9 bx9
  obtain ⟨z0, z1⟩ := Z9.2
  obtain ⟨v0, v1, v2⟩ := V9.2
  go_wp2_with fail
  refine (tableOk_any st _ _ rs m _ _ xs _ _ ys _ R9 (Nat.le_refl _) P9 Q9).mono ?_
  rintro e w11 ⟨rfl, hb11⟩
  have P11 := P9.below hb11 (Nat.le_refl _)
  have Q11 := Q9.below hb11 (Nat.le_refl _)
  have R11 := R9.below hb11 (Nat.le_refl _)
  have X11 := X9.below hb11
  have G11 := G9.below hb11
  have V11 := V9.below hb11
  have Z11 := Z9.below hb11
  have d11 := Below.on d9 hb11 (Nat.le_refl _)
  clear X9 G9 V9 Z9 P9 Q9 R9 hb11 d9 z0 z1 v0 v1 v2
  have H11 := H.below d11 (Nat.le_refl _)
  have hE := eqG_refl st rs
  rw [hgv]
  clear hgv
  have hok : (ok != ok) = false := by cases ok <;> rfl
  obtain ⟨z0, z1⟩ := Z11.2
  obtain ⟨g0, g1⟩ := G11.2
  go_wp2_with fail
  go_region_held3 (fun w' => w'.cell? ⟨w.heap.size, 0, none⟩ = some (.string st) ∧ w'.cell? ⟨w.heap.size, 1, none⟩ = some (.slice d rs.length dup) ∧ w'.cell? ⟨w7.heap.size, 0, none⟩ = some (.string st) ∧ w'.cell? ⟨w7.heap.size, 1, none⟩ = some (.slice (some ⟨b7, 0, none⟩) rs.length rs.length))
    (first
      | go_keep
      | with_reducible exact keepG4 ((G11.below hb12).below hb13) ((Z11.below hb12).below hb13)
      | with_reducible exact keepG4 (G11.below hb12) (Z11.below hb12)
      | fail)
    (first
      | (go_at_call 11; (with_reducible refine (toGram_any st d dup rs _ ?_ n1).mono ?_); (exact H11.drew); rintro e w12 ⟨v12, rfl, b12, rfl, l12, row12, hb12'⟩; have hb12 := below_of_drew hb12')
      | (go_at_call 14; (with_reducible refine (eqGram_any st st _ _ _ _ rs rs _ ?_ ?_).mono ?_); (exact R11.below hb12 (Nat.le_refl _)); (exact rulesAt_of_row row12 H.fits); rintro e w13 ⟨rfl, hb13⟩)
      | fail)
  have X13 := (X11.below hb12).below hb13
  have V13 := (V11.below hb12).below hb13
  have P13 := (P11.below hb12 (Nat.le_refl _)).below hb13 (Nat.le_refl _)
  have Q13 := (Q11.below hb12 (Nat.le_refl _)).below hb13 (Nat.le_refl _)
  have d13 := Below.on (Below.on d11 hb12 (Nat.le_refl _)) hb13 (Nat.le_refl _)
  clear X11 V11 G11 Z11 P11 Q11 R11 H11 d11 hb12 hb12' hb13 row12 l12 z0 z1 g0 g1 hok
  have HX13 := HX.below d13 (Nat.le_refl _)
  have HY13 := HY.below d13 (Nat.le_refl _)
  obtain ⟨v0, v1, v2⟩ := V13.2
  obtain ⟨x0, x1, x2⟩ := X13.2
  go_wp2_with fail
  go_region_held3 (fun w' => w'.cell? ⟨w.heap.size + 1, 0, none⟩ = some (.int .i64 m) ∧ w'.cell? ⟨w.heap.size + 1, 1, none⟩ = some (.slice a xs.length cap) ∧ w'.cell? ⟨w.heap.size + 1, 2, none⟩ = some (.slice c ys.length cup) ∧ w'.cell? ⟨w9.heap.size, 0, none⟩ = some (.int .i64 m) ∧ w'.cell? ⟨w9.heap.size, 1, none⟩ = some (.slice (some ⟨b9, 0, none⟩) xs.length xs.length) ∧ w'.cell? ⟨w9.heap.size, 2, none⟩ = some (.slice (some ⟨c9, 0, none⟩) ys.length ys.length))
    (first
      | go_keep
      | with_reducible exact keepT6 ((X13.below hb14).below hb15) ((V13.below hb14).below hb15)
      | with_reducible exact keepT6 (X13.below hb14) (V13.below hb14)
      | fail)
    (first
      | (go_at_call 12; (with_reducible refine (toTable_any m a cap xs c cup ys _ ?_ ?_ l1 l2).mono ?_); (exact HX13.drew); (exact HY13.drew); rintro e w14 ⟨b14, c14, rfl, l14, m14, row14, sow14, hb14'⟩; have hb14 := below_of_drew hb14')
      | (go_at_call 15; (with_reducible refine (eqTable_any m _ _ xs _ _ ys _ _ _ _ _ ?_ ?_ ?_ ?_).mono ?_); (exact P13.below hb14 (Nat.le_refl _)); (exact Q13.below hb14 (Nat.le_refl _)); (exact trisAt_of_row row14 HX.fits); (exact trisAt_of_row sow14 HY.fits); rintro e w15 ⟨rfl, hb15⟩)
      | fail)
  have d15 := Below.on (Below.on d13 hb14 (Nat.le_refl _)) hb15 (Nat.le_refl _)
  go_wp2_with fail
  go_ret
  exact ⟨rfl, d15⟩
end Go.Proofs.Ytiloalbjcmpljaa
