/- The walk of FnExactGramSame. -/
import Derived.Test.YtmmkeaciaolapabSame
import Derived.Test.YtmmkeaciaolapabBox
namespace Go.Proofs.Ytmmkeaciaolapab
open Go.ChangeShapes Go.WideShapes Go.ChangeAt Go.RowKit
set_option maxHeartbeats 4000000 in
theorem gramSame_law (st : ByteArray) (a : Option Addr) (cap : Nat) (rs : List RuleT) (su : ByteArray) (c : Option Addr) (cup : Nat) (us : List RuleT) (w : World) (H : RulesAt w a rs) (hs : st.size ≤ maxLen) (G : RulesAt w c us) (hu : su.size ≤ maxLen) :
    Calls Try.prog 5 #[.agg #[.string st, .slice a rs.length cap], .agg #[.string su, .slice c us.length cup]] w fun e w' => e = .returned (.bool true) ∧ Below w.heap.size w w' := by
  have hb1 := ((Below.refl w.heap.size w).alloc (Nat.le_refl _) (.cells #[.string st, .slice a rs.length cap] 24)).alloc (by simp) (.cells #[.string su, .slice c us.length cup] 24)
  have X1 := (Box2.new w (.string st) (.slice a rs.length cap) 24).old (.cells #[.string su, .slice c us.length cup] 24)
  have Y1 := Box2.new (w.alloc (.cells #[.string st, .slice a rs.length cap] 24)) (.string su) (.slice c us.length cup) 24
  simp at Y1
  have H1 := H.below hb1 (Nat.le_refl _)
  go_enter Try.func5, Try.ntmps5
  go_wp2_with fail
  refine (szGram_any _ _ _ rs _ _ H1 hs (by omega) (by omega)).mono ?_
  rintro e w2 ⟨rfl, hb2⟩
  have X2 := X1.below hb2
  have Y2 := Y1.below hb2
  have c2 := Below.on hb1 hb2 (Nat.le_refl _)
  clear X1 Y1 hb1 hb2 H1
  by_cases hneg : szGramM st rs 1048576 < 0
  · go_wp2
    go_ret
    exact ⟨rfl, c2⟩
  obtain ⟨nb, n1, n2, n3⟩ := szGram_bounds (st := st) (rs := rs) (left := 1048576) (by omega) (by omega)
  clear n3
  have hnn : decide (szGramM st rs 1048576 < 0) = false := by simpa using hneg
  obtain ⟨_, k0, k1⟩ := Y2
  have X2' := X2
  have Y2 : Box2 w2 (w.heap.size + 1) (.string su) (.slice c us.length cup) := ⟨by assumption, k0, k1⟩
  go_wp2_with fail
  refine (szGram_any _ _ _ us _ _ (G.below c2 (Nat.le_refl _)) hu (by omega) (by omega)).mono ?_
  rintro e w3 ⟨rfl, hb3⟩
  have X3 := X2.below hb3
  have Y3 := Y2.below hb3
  have c3 := Below.on c2 hb3 (Nat.le_refl _)
  clear X2 X2' Y2 k0 k1 hb3 c2
  generalize hv : szGramM st rs 1048576 = left1 at *
  by_cases hneg2 : szGramM su us left1 < 0
  · go_wp2
    go_ret
    exact ⟨rfl, c3⟩
  obtain ⟨_, m1, m2, m3⟩ := szGram_bounds (st := su) (rs := us) (left := left1) (by omega) (by omega)
  clear m3
  have hnn2 : decide (szGramM su us left1 < 0) = false := by simpa using hneg2
  have HV := Lib.hid hv
  clear hv
  have H3 := H.below c3 (Nat.le_refl _)
  have G3 := G.below c3 (Nat.le_refl _)
  go_wp2_with fail
  have X3c := X3.2
  have Y3c := Y3.2
  obtain ⟨x0, x1⟩ := X3c
  obtain ⟨y0, y1⟩ := Y3c
  go_region_held3 (fun w' => w'.cell? ⟨w.heap.size, 0, none⟩ = some (.string st) ∧ w'.cell? ⟨w.heap.size, 1, none⟩ = some (.slice a rs.length cap) ∧ w'.cell? ⟨w.heap.size + 1, 0, none⟩ = some (.string su) ∧ w'.cell? ⟨w.heap.size + 1, 1, none⟩ = some (.slice c us.length cup))
    (first
      | go_keep
      | exact ⟨(((X3.below hb4).below hb5).below hb6).2.1, (((X3.below hb4).below hb5).below hb6).2.2, (((Y3.below hb4).below hb5).below hb6).2.1, (((Y3.below hb4).below hb5).below hb6).2.2⟩
      | exact ⟨((X3.below hb4).below hb5).2.1, ((X3.below hb4).below hb5).2.2, ((Y3.below hb4).below hb5).2.1, ((Y3.below hb4).below hb5).2.2⟩
      | exact ⟨(X3.below hb4).2.1, (X3.below hb4).2.2, (Y3.below hb4).2.1, (Y3.below hb4).2.2⟩)
    (first
      | (go_at_call 12; (with_reducible refine (toGram_any st a cap rs _ ?_ n1).mono ?_); (exact H3.drew); rintro e w4 ⟨v4, rfl, b4, rfl, l4, row4, hb4'⟩; have hb4 := below_of_drew hb4')
      | (go_at_call 12; (with_reducible refine (toGram_any su c cup us _ ?_ m1).mono ?_); (exact G3.below hb4 (Nat.le_refl _)); rintro e w5 ⟨v5, rfl, b5, rfl, l5, row5, hb5⟩)
      | (go_at_call 19; (with_reducible refine (sGramSame_any st su _ _ _ _ rs us _ ?_ ?_).mono ?_); (exact (rulesAt_of_row row4 H.fits).below hb5 (Nat.le_refl _)); (exact rulesAt_of_row row5 G.fits); rintro e w6 ⟨rfl, hb6⟩))
  have X6 := ((X3.below hb4).below hb5).below hb6
  have Y6 := ((Y3.below hb4).below hb5).below hb6
  have c6 := Below.on (Below.on (Below.on c3 hb4 (Nat.le_refl _)) hb5 (Nat.le_refl _)) hb6 (Nat.le_refl _)
  clear X3 Y3 c3 H3 G3 hb4 hb4' hb5 hb6 l4 l5 row4 row5 x0 x1 y0 y1
  have H6 := H.below c6 (Nat.le_refl _)
  obtain ⟨x0, x1⟩ := X6.2
  go_wp2_with fail
  refine (toGram_any st a cap rs _ H6 n1).mono ?_
  rintro e w7 ⟨v7, rfl, b7, rfl, l7, row7, hb7⟩
  have X7 := X6.below hb7
  have Y7 := Y6.below hb7
  have c7 := Below.on c6 hb7 (Nat.le_refl _)
  have Z7 := Box2.new w7 (.string st) (.slice (some ⟨b7, 0, none⟩) rs.length rs.length) 29
  have RA7 := (rulesAt_of_row row7 H.fits).below ((Below.refl _ _).alloc (Nat.le_refl _) (.cells #[.string st, .slice (some ⟨b7, 0, none⟩) rs.length rs.length] 29)) (Nat.le_refl _)
  have X8 := X7.old (.cells #[.string st, .slice (some ⟨b7, 0, none⟩) rs.length rs.length] 29)
  have Y8 := Y7.old (.cells #[.string st, .slice (some ⟨b7, 0, none⟩) rs.length rs.length] 29)
  have c8 := c7.alloc c7.size (.cells #[.string st, .slice (some ⟨b7, 0, none⟩) rs.length rs.length] 29)
  clear X6 Y6 c6 H6 hb7 x0 x1 X7 Y7 c7 l7 row7
  obtain ⟨y0, y1⟩ := Y8.2
  go_wp2_with fail
  refine (toGram_any su c cup us _ (G.below c8 (Nat.le_refl _)) m1).mono ?_
  rintro e w9 ⟨v9, rfl, b9, rfl, l9, row9, hb9⟩
  have X9 := X8.below hb9
  have Y9 := Y8.below hb9
  have Z9 := Z7.below hb9
  have RA9 := RA7.below hb9 (Nat.le_refl _)
  have c9 := Below.on c8 hb9 (Nat.le_refl _)
  have V9 := Box2.new w9 (.string su) (.slice (some ⟨b9, 0, none⟩) us.length us.length) 29
  have RB9 := (rulesAt_of_row row9 G.fits)
  have bx := (Below.refl _ _).alloc (Nat.le_refl w9.heap.size) (.cells #[.string su, .slice (some ⟨b9, 0, none⟩) us.length us.length] 29)
  clear X8 Y8 c8 hb9 y0 y1 RA7 Z7 l9 row9
  obtain ⟨x0, x1⟩ := (Z9.below bx).2
  go_wp2_with fail
  refine (gramSame_any st su _ _ _ _ rs us _ (RA9.below bx (Nat.le_refl _)) (RB9.below bx (Nat.le_refl _))).mono ?_
  rintro e w10 ⟨rfl, hb10⟩
  have X10 := (X9.below bx).below hb10
  have Y10 := (Y9.below bx).below hb10
  have Z10 := (Z9.below bx).below hb10
  have V10 := V9.below hb10
  have RA10 := (RA9.below bx (Nat.le_refl _)).below hb10 (Nat.le_refl _)
  have RB10 := (RB9.below bx (Nat.le_refl _)).below hb10 (Nat.le_refl _)
  have c10 := Below.on (Below.on c9 bx (Nat.le_refl _)) hb10 (Nat.le_refl _)
  clear X9 Y9 Z9 V9 RA9 RB9 c9 bx hb10 x0 x1
  have H10 := H.below c10 (Nat.le_refl _)
  have G10 := G.below c10 (Nat.le_refl _)
  have hE := eqG_refl st rs
  have hE2 := eqG_refl su us
  go_wp2_with fail
  obtain ⟨z0, z1⟩ := Z10.2
  obtain ⟨x0, x1⟩ := X10.2
  go_region_held3 (fun w' => w'.cell? ⟨w.heap.size, 0, none⟩ = some (.string st) ∧ w'.cell? ⟨w.heap.size, 1, none⟩ = some (.slice a rs.length cap) ∧ w'.cell? ⟨w7.heap.size, 0, none⟩ = some (.string st) ∧ w'.cell? ⟨w7.heap.size, 1, none⟩ = some (.slice (some ⟨b7, 0, none⟩) rs.length rs.length))
    (first
      | go_keep
      | exact ⟨((X10.below hb11).below hb12).2.1, ((X10.below hb11).below hb12).2.2, ((Z10.below hb11).below hb12).2.1, ((Z10.below hb11).below hb12).2.2⟩
      | exact ⟨(X10.below hb11).2.1, (X10.below hb11).2.2, (Z10.below hb11).2.1, (Z10.below hb11).2.2⟩)
    (first
      | (go_at_call 12; (with_reducible refine (toGram_any st a cap rs _ ?_ n1).mono ?_); (exact H10.drew); rintro e w11 ⟨v11, rfl, b11, rfl, l11, row11, hb11'⟩; have hb11 := below_of_drew hb11')
      | (go_at_call 14; (with_reducible refine (eqGram_any st st _ _ _ _ rs rs _ ?_ ?_).mono ?_); (exact RA10.below hb11 (Nat.le_refl _)); (exact rulesAt_of_row row11 H.fits); rintro e w12 ⟨rfl, hb12⟩))
  have Y12 := (Y10.below hb11).below hb12
  have V12 := (V10.below hb11).below hb12
  have RB12 := (RB10.below hb11 (Nat.le_refl _)).below hb12 (Nat.le_refl _)
  have c12 := Below.on (Below.on c10 hb11 (Nat.le_refl _)) hb12 (Nat.le_refl _)
  clear X10 Y10 Z10 V10 RA10 RB10 c10 hb11 hb11' hb12 row11 l11 H10 G10 z0 z1 x0 x1
  have G12 := G.below c12 (Nat.le_refl _)
  go_wp2_with fail
  obtain ⟨z0, z1⟩ := Y12.2
  obtain ⟨x0, x1⟩ := V12.2
  go_region_held3 (fun w' => w'.cell? ⟨w.heap.size + 1, 0, none⟩ = some (.string su) ∧ w'.cell? ⟨w.heap.size + 1, 1, none⟩ = some (.slice c us.length cup) ∧ w'.cell? ⟨w9.heap.size, 0, none⟩ = some (.string su) ∧ w'.cell? ⟨w9.heap.size, 1, none⟩ = some (.slice (some ⟨b9, 0, none⟩) us.length us.length))
    (first
      | go_keep
      | exact ⟨((Y12.below hb13).below hb14).2.1, ((Y12.below hb13).below hb14).2.2, ((V12.below hb13).below hb14).2.1, ((V12.below hb13).below hb14).2.2⟩
      | exact ⟨(Y12.below hb13).2.1, (Y12.below hb13).2.2, (V12.below hb13).2.1, (V12.below hb13).2.2⟩)
    (first
      | (go_at_call 12; (with_reducible refine (toGram_any su c cup us _ ?_ m1).mono ?_); (exact G12.drew); rintro e w13 ⟨v13, rfl, b13, rfl, l13, row13, hb13'⟩; have hb13 := below_of_drew hb13')
      | (go_at_call 14; (with_reducible refine (eqGram_any su su _ _ _ _ us us _ ?_ ?_).mono ?_); (exact RB12.below hb13 (Nat.le_refl _)); (exact rulesAt_of_row row13 G.fits); rintro e w14 ⟨rfl, hb14⟩))
  have c14 := Below.on (Below.on c12 hb13 (Nat.le_refl _)) hb14 (Nat.le_refl _)
  go_wp2
  go_ret
  exact ⟨rfl, c14⟩
end Go.Proofs.Ytmmkeaciaolapab
