/- The walk of FnExactItemsText. -/
import Derived.Test.YtpbpddbeofdpcaaItJ
namespace Go.Proofs.Ytpbpddbeofdpcaa
open Go.ChangeShapes Go.WideShapes Go.ChangeAt Go.RowKit Go.Deep
set_option maxRecDepth 100000
set_option maxHeartbeats 4000000 in
theorem itemsText_law (st : ByteArray) (a : Option Addr) (cap : Nat) (rs : List RuleT) (c : Option Addr) (cup : Nat) (xs : List ItemT) (w : World) (H : RulesAt w a rs) (hs : st.size ≤ maxLen) (G : ItemsAt w c xs) :
    Calls Try.prog 6 #[.agg #[.string st, .slice a rs.length cap], .slice c xs.length cup] w fun e w' => e = .returned (.bool true) ∧ Below w.heap.size w w' := by
  have hb1 := (Below.refl w.heap.size w).alloc (Nat.le_refl _) (.cells #[.string st, .slice a rs.length cap] 24)
  have X1 := Box2.new w (.string st) (.slice a rs.length cap) 24
  have H1 := H.below hb1 (Nat.le_refl _)
  go_enter Try.func6, Try.ntmps6
  go_wp2_with fail
  refine (szGram_any _ _ _ rs _ _ H1 hs (by omega) (by omega)).mono ?_
  rintro e w2 ⟨rfl, hb2⟩
  have X2 := X1.below hb2
  have c2 := Below.on hb1 hb2 (Nat.le_refl _)
  clear X1 hb1 hb2 H1
  by_cases hneg : szGramM st rs 1048576 < 0
  · go_wp2
    go_ret
    exact ⟨rfl, c2⟩
  obtain ⟨nb, n1, n2, n3⟩ := szGram_bounds (st := st) (rs := rs) (left := 1048576) (by omega) (by omega)
  clear n3
  have hnn : decide (szGramM st rs 1048576 < 0) = false := by simpa using hneg
  generalize szGramM st rs 1048576 = left1 at *
  go_wp2_with fail
  refine (szItemS_any _ _ xs left1 _ (G.below c2 (Nat.le_refl _)) (by omega) (by omega)).mono ?_
  rintro e w3 ⟨rfl, hb3⟩
  have X3 := X2.below hb3
  have c3 := Below.on c2 hb3 (Nat.le_refl _)
  clear X2 hb3 c2
  by_cases hneg2 : szItemsM xs left1 < 0
  · go_wp2
    go_ret
    exact ⟨rfl, c3⟩
  have m1 : xs.length ≤ 1048576 := szItemsM_len (left := left1) (by omega) (by omega)
  have hnn2 : decide (szItemsM xs left1 < 0) = false := by simpa using hneg2
  generalize szItemsM xs left1 = left2 at *
  obtain ⟨x0, x1⟩ := X3.2
  go_wp2_with fail
  refine (toGram_any st a cap rs _ (H.below c3 (Nat.le_refl _)) n1).mono ?_
  rintro e w4 ⟨v4, rfl, b4, rfl, l4, row4, hb4⟩
  have R4 := rulesAt_of_row row4 H.fits
  have X4 := X3.below hb4
  have c4 := Below.on c3 hb4 (Nat.le_refl _)
  clear X3 x0 x1 hb4 c3 row4 l4
  go_wp2_with fail
  refine (toItemS_any c cup xs _ (G.below c4 (Nat.le_refl _)) m1).mono ?_
  rintro e w5 ⟨b5, rfl, l5, row5, hb5⟩
  have R5 := R4.below hb5 (Nat.le_refl _)
  have I5 := itemsAt_of_row row5 G.fits
  have X5 := X4.below hb5
  have c5 := Below.on c4 hb5 (Nat.le_refl _)
  clear X4 R4 hb5 c4 row5 l5
  go_wp2_with fail
  refine (sItemsText_any st _ _ rs _ _ xs _ R5 hs (Nat.le_refl _) I5).mono ?_
  rintro e w6 ⟨rfl, hb6⟩
  have X6 := X5.below hb6
  have c6 := Below.on c5 hb6 (Nat.le_refl _)
  clear X5 R5 I5 hb6 c5
  obtain ⟨x0, x1⟩ := X6.2
  go_wp2_with fail
  refine (toGram_any st a cap rs _ (H.below c6 (Nat.le_refl _)) n1).mono ?_
  rintro e w7 ⟨v7, rfl, b7, rfl, l7, row7, hb7⟩
  have bx7 := (Below.refl _ _).alloc (Nat.le_refl w7.heap.size) (.cells #[.string st, .slice (some ⟨b7, 0, none⟩) rs.length rs.length] 32)
  have Z8 := Box2.new w7 (.string st) (.slice (some ⟨b7, 0, none⟩) rs.length rs.length) 32
  have R8 := (rulesAt_of_row row7 H.fits).below bx7 (Nat.le_refl _)
  have X8 := (X6.below hb7).below bx7
  have c8 := Below.on (Below.on c6 hb7 (Nat.le_refl _)) bx7 (Nat.le_refl _)
  clear X6 c6 hb7 x0 x1 l7 row7 bx7
  go_wp2_with fail
  refine (toItemS_any c cup xs _ (G.below c8 (Nat.le_refl _)) m1).mono ?_
  rintro e w9 ⟨b9, rfl, l9, row9, hb9⟩
  have R9 := R8.below hb9 (Nat.le_refl _)
  have I9 := itemsAt_of_row row9 G.fits
  have X9 := X8.below hb9
  have Z9 := Z8.below hb9
  have c9 := Below.on c8 hb9 (Nat.le_refl _)
  clear X8 Z8 R8 hb9 c8 row9 l9
  obtain ⟨z0, z1⟩ := Z9.2
  go_wp2_with fail
  refine (iItemsText_any st _ _ rs _ _ xs _ R9 hs (Nat.le_refl _) I9).mono ?_
  rintro e w10 ⟨rfl, hb10⟩
  have R11 := R9.below hb10 (Nat.le_refl _)
  have I11 := I9.below hb10 (Nat.le_refl _)
  have X11 := X9.below hb10
  have Z11 := Z9.below hb10
  have c11 := Below.on c9 hb10 (Nat.le_refl _)
  clear X9 Z9 R9 I9 hb10 c9 z0 z1
  have H11 := H.below c11 (Nat.le_refl _)
  have hE := eqG_refl st rs
  obtain ⟨z0, z1⟩ := Z11.2
  obtain ⟨x0, x1⟩ := X11.2
  generalize itemsTextL st rs xs = ok at *
  have hok : (ok.toList == ok.toList) = true := by simp
  have hok2 : (ok.toList != ok.toList) = false := by simp
  go_wp2_with fail
  go_region_held3 (fun w' => w'.cell? ⟨w.heap.size, 0, none⟩ = some (.string st) ∧ w'.cell? ⟨w.heap.size, 1, none⟩ = some (.slice a rs.length cap) ∧ w'.cell? ⟨w7.heap.size, 0, none⟩ = some (.string st) ∧ w'.cell? ⟨w7.heap.size, 1, none⟩ = some (.slice (some ⟨b7, 0, none⟩) rs.length rs.length))
    (first
      | go_keep
      | with_reducible exact keep4' ((X11.below hb12).below hb13) ((Z11.below hb12).below hb13)
      | with_reducible exact keep4' (X11.below hb12) (Z11.below hb12)
      | fail)
    (first
      | (go_at_call 10; (with_reducible refine (toGram_any st a cap rs _ ?_ n1).mono ?_); (exact H11.drew); rintro e w12 ⟨v12, rfl, b12, rfl, l12, row12, hb12'⟩; have hb12 := below_of_drew hb12')
      | (go_at_call 13; (with_reducible refine (eqGram_any st st _ _ _ _ rs rs _ ?_ ?_).mono ?_); (exact R11.below hb12 (Nat.le_refl _)); (exact rulesAt_of_row row12 H.fits); rintro e w13 ⟨rfl, hb13⟩)
      | fail)
  have I13 := (I11.below hb12 (Nat.le_refl _)).below hb13 (Nat.le_refl _)
  have c13 := Below.on (Below.on c11 hb12 (Nat.le_refl _)) hb13 (Nat.le_refl _)
  clear X11 Z11 R11 I11 H11 c11 hb12 hb12' hb13 row12 l12 x0 x1 z0 z1
  go_wp2_with fail
  refine (toItemS_any c cup xs _ (G.below c13 (Nat.le_refl _)) m1).mono ?_
  rintro e w14 ⟨b14, rfl, l14, row14, hb14⟩
  have I14 := I13.below hb14 (Nat.le_refl _)
  have J14 := itemsAt_of_row row14 G.fits
  have c14 := Below.on c13 hb14 (Nat.le_refl _)
  clear I13 c13 row14 hb14 l14
  go_wp2_with fail
  refine (eqItemS_any _ _ _ _ xs _ I14 J14).mono ?_
  rintro e w15 ⟨rfl, hb15⟩
  go_wp2_with fail
  go_ret
  exact ⟨rfl, Below.on c14 hb15 (Nat.le_refl _)⟩
end Go.Proofs.Ytpbpddbeofdpcaa
