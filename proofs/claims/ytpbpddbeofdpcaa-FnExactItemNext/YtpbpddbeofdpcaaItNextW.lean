/- The walk of FnExactItemNext. -/
import Derived.Test.YtpbpddbeofdpcaaItC
namespace Go.Proofs.Ytpbpddbeofdpcaa
open Go.ChangeShapes Go.WideShapes Go.ChangeAt Go.RowKit Go.Deep
set_option maxRecDepth 100000
set_option maxHeartbeats 4000000 in
theorem itemNext_law (st : ByteArray) (a : Option Addr) (cap : Nat) (rs : List RuleT) (r d : Int) (s : ByteArray) (w : World) (H : RulesAt w a rs) (hs : st.size ≤ maxLen) (hi : s.size ≤ maxLen) :
    Calls Try.prog 4 #[.agg #[.string st, .slice a rs.length cap], .agg #[.int .i64 r, .int .i64 d, .string s]] w fun e w' => e = .returned (.bool true) ∧ Below w.heap.size w w' := by
  have hb1 := ((Below.refl w.heap.size w).alloc (Nat.le_refl _) (.cells #[.string st, .slice a rs.length cap] 24)).alloc (by simp) (.cells #[.int .i64 r, .int .i64 d, .string s] 26)
  have X1 := (Box2.new w (.string st) (.slice a rs.length cap) 24).old (.cells #[.int .i64 r, .int .i64 d, .string s] 26)
  have Y1 := Box3.new (w.alloc (.cells #[.string st, .slice a rs.length cap] 24)) (.int .i64 r) (.int .i64 d) (.string s) 26
  simp only [World.size_alloc] at Y1
  have H1 := H.below hb1 (Nat.le_refl _)
  go_enter Try.func4, Try.ntmps4
  go_wp2_with fail
  refine (szGram_any _ _ _ rs _ _ H1 hs (by omega) (by omega)).mono ?_
  rintro e w2 ⟨rfl, hb2⟩
  have X2 := X1.below hb2
  have Y2 := Y1.below hb2
  have c2 := Below.on hb1 hb2 (Nat.le_refl _)
  clear X1 Y1 hb1 hb2 H1
  by_cases hneg : szGramM st rs 1048576 < 0
  · go_wp2
    go_ret
    exact ⟨rfl, c2⟩
  obtain ⟨nb, n1, n2, n3⟩ := szGram_bounds (st := st) (rs := rs) (left := 1048576) (by omega) (by omega)
  clear n3
  have hnn : decide (szGramM st rs 1048576 < 0) = false := by simpa using hneg
  obtain ⟨_, y0, y1, y2⟩ := Y2
  have Y2 : Box3 w2 (w.heap.size + 1) (.int .i64 r) (.int .i64 d) (.string s) := ⟨by assumption, y0, y1, y2⟩
  generalize szGramM st rs 1048576 = left1 at *
  go_wp2_with fail
  refine (szItem_any _ _ _ left1 _ (by omega) (by omega) hi).mono ?_
  rintro e w3 ⟨rfl, hb3⟩
  have X3 := X2.below hb3
  have Y3 := Y2.below hb3
  have c3 := Below.on c2 hb3 (Nat.le_refl _)
  clear X2 Y2 y0 y1 y2 hb3 c2
  by_cases hneg2 : szItemM s left1 < 0
  · go_wp2
    go_ret
    exact ⟨rfl, c3⟩
  have hnn2 : decide (szItemM s left1 < 0) = false := by simpa using hneg2
  have H3 := H.below c3 (Nat.le_refl _)
  generalize szItemM s left1 = left2 at *
  go_wp2_with fail
  obtain ⟨x0, x1⟩ := X3.2
  obtain ⟨y0, y1, y2⟩ := Y3.2
  go_region_held3 (fun w' => w'.cell? ⟨w.heap.size, 0, none⟩ = some (.string st) ∧ w'.cell? ⟨w.heap.size, 1, none⟩ = some (.slice a rs.length cap) ∧ w'.cell? ⟨w.heap.size + 1, 0, none⟩ = some (.int .i64 r) ∧ w'.cell? ⟨w.heap.size + 1, 1, none⟩ = some (.int .i64 d) ∧ w'.cell? ⟨w.heap.size + 1, 2, none⟩ = some (.string s))
    (first
      | go_keep
      | with_reducible exact keep5 (((X3.below hb4).below hb5).below hb6) (((Y3.below hb4).below hb5).below hb6)
      | with_reducible exact keep5 ((X3.below hb4).below hb5) ((Y3.below hb4).below hb5)
      | with_reducible exact keep5 (X3.below hb4) (Y3.below hb4)
      | fail)
    (first
      | (go_at_call 10; (with_reducible refine (toGram_any st a cap rs _ ?_ n1).mono ?_); (exact H3.drew); rintro e w4 ⟨v4, rfl, b4, rfl, l4, row4, hb4'⟩; have hb4 := below_of_drew hb4')
      | (go_at_call 11; (with_reducible refine (toItem_any r d s _).mono ?_); rintro e w5 ⟨rfl, hb5⟩)
      | (go_at_call 14; (with_reducible refine (sItemNext_any st _ _ rs r d s _ ?_ hs ?_).mono ?_); (exact (rulesAt_of_row row4 H.fits).below hb5 (Nat.le_refl _)); (exact Nat.le_refl _); rintro e w6 ⟨rfl, hb6⟩)
      | fail)
  have X6 := ((X3.below hb4).below hb5).below hb6
  have Y6 := ((Y3.below hb4).below hb5).below hb6
  have c6 := Below.on (Below.on (Below.on c3 hb4 (Nat.le_refl _)) hb5 (Nat.le_refl _)) hb6 (Nat.le_refl _)
  clear X3 Y3 c3 H3 hb4 hb4' hb5 hb6 l4 row4 x0 x1 y0 y1 y2
  have H6 := H.below c6 (Nat.le_refl _)
  obtain ⟨x0, x1⟩ := X6.2
  go_wp2_with fail
  refine (toGram_any st a cap rs _ H6 n1).mono ?_
  rintro e w7 ⟨v7, rfl, b7, rfl, l7, row7, hb7⟩
  have bx7 := (Below.refl _ _).alloc (Nat.le_refl w7.heap.size) (.cells #[.string st, .slice (some ⟨b7, 0, none⟩) rs.length rs.length] 32)
  have Z8 := Box2.new w7 (.string st) (.slice (some ⟨b7, 0, none⟩) rs.length rs.length) 32
  have R8 := (rulesAt_of_row row7 H.fits).below bx7 (Nat.le_refl _)
  have X8 := (X6.below hb7).below bx7
  have Y8 := (Y6.below hb7).below bx7
  have c8 := Below.on (Below.on c6 hb7 (Nat.le_refl _)) bx7 (Nat.le_refl _)
  clear X6 Y6 c6 H6 hb7 x0 x1 l7 row7
  generalize hw8 : w7.alloc (.cells #[.string st, .slice (some ⟨b7, 0, none⟩) rs.length rs.length] 32) = w8 at *
  obtain ⟨y0, y1, y2⟩ := Y8.2
  obtain ⟨z0, z1⟩ := Z8.2
  go_wp2_with fail
  go_region_held3 (fun w' => w'.cell? ⟨w7.heap.size, 0, none⟩ = some (.string st) ∧ w'.cell? ⟨w7.heap.size, 1, none⟩ = some (.slice (some ⟨b7, 0, none⟩) rs.length rs.length) ∧ w'.cell? ⟨w.heap.size + 1, 0, none⟩ = some (.int .i64 r) ∧ w'.cell? ⟨w.heap.size + 1, 1, none⟩ = some (.int .i64 d) ∧ w'.cell? ⟨w.heap.size + 1, 2, none⟩ = some (.string s))
    (first
      | go_keep
      | with_reducible exact keep5 ((Z8.below hb9).below hb10) ((Y8.below hb9).below hb10)
      | with_reducible exact keep5 (Z8.below hb9) (Y8.below hb9)
      | fail)
    (first
      | (go_at_call 11; (with_reducible refine (toItem_any r d s _).mono ?_); rintro e w9 ⟨rfl, hb9'⟩; have hb9 := below_of_drew hb9')
      | (go_at_call 15; (with_reducible refine (iItemNext_any st _ _ rs r d s _ ?_ hs ?_).mono ?_); (exact R8.below hb9 (Nat.le_refl _)); (exact Nat.le_refl _); rintro e w10 ⟨rfl, hb10⟩)
      | fail)
  have Z11 := (Z8.below hb9).below hb10
  have R11 := (R8.below hb9 (Nat.le_refl _)).below hb10 (Nat.le_refl _)
  have X11 := (X8.below hb9).below hb10
  have c11 := Below.on (Below.on c8 hb9 (Nat.le_refl _)) hb10 (Nat.le_refl _)
  have H11 := H.below c11 (Nat.le_refl _)
  clear Z8 R8 X8 Y8 c8 hb9 hb9' hb10 y0 y1 y2 z0 z1 bx7 hw8
  have hE := eqG_refl st rs
  obtain ⟨z0, z1⟩ := Z11.2
  obtain ⟨x0, x1⟩ := X11.2
  generalize nextB st rs r d s = ok at *
  have hok : (ok.toList == ok.toList) = true := by simp
  have hok2 : (ok.toList != ok.toList) = false := by simp
  go_wp2_with fail
  go_region_held3 (fun w' => w'.cell? ⟨w.heap.size, 0, none⟩ = some (.string st) ∧ w'.cell? ⟨w.heap.size, 1, none⟩ = some (.slice a rs.length cap) ∧ w'.cell? ⟨w7.heap.size, 0, none⟩ = some (.string st) ∧ w'.cell? ⟨w7.heap.size, 1, none⟩ = some (.slice (some ⟨b7, 0, none⟩) rs.length rs.length))
    (first
      | go_keep
      | with_reducible exact keep4' ((X11.below hb12).below hb13) ((Z11.below hb12).below hb13)
      | with_reducible exact keep4' (X11.below hb12) (Z11.below hb12)
      | fail)
    (first
      | (go_at_call 10; (with_reducible refine (toGram_any st a cap rs _ ?_ n1).mono ?_); (exact H11.drew); rintro e w12 ⟨v12, rfl, b12, rfl, l12, row12, hb12'⟩; have hb12 := below_of_drew hb12')
      | (go_at_call 13; (with_reducible refine (eqGram_any st st _ _ _ _ rs rs _ ?_ ?_).mono ?_); (exact R11.below hb12 (Nat.le_refl _)); (exact rulesAt_of_row row12 H.fits); rintro e w13 ⟨rfl, hb13⟩)
      | fail)
  go_wp2_with fail
  go_ret
  exact ⟨rfl, Below.on (Below.on c11 hb12 (Nat.le_refl _)) hb13 (Nat.le_refl _)⟩
end Go.Proofs.Ytpbpddbeofdpcaa
