/- The walk of FnExactTreeText. -/
import Derived.Test.YtnfadakbffhonaaDoorTtC
import Derived.Test.YtnfadakbffhonaaDoorTokV
namespace Go.Proofs.YtnfadakbffhonaaDoor
open Go.ChangeShapes Go.WideShapes Go.ChangeAt Go.RowKit Go.Deep
set_option maxRecDepth 100000
set_option linter.unusedVariables false
set_option maxHeartbeats 4000000 in
theorem treeText_law (st : ByteArray) (a : Option Addr) (cap : Nat) (rs : List RuleT) (v : Value) (T : Tr) (w : World) (H : RulesAt w a rs) (hs : st.size ≤ maxLen) (HT : TrIn w 0 v T) (hL : laidMetH Tryd.prog Rows.fnExactTreeTextRow.laid w) :
    Calls Tryd.prog 3 #[.agg #[.string st, .slice a rs.length cap], v] w fun e w' => e = .returned (.bool true) ∧ Below w.heap.size w w' := by
  clear hL
  obtain ⟨s, r, ks, ka, kc, rfl, hTe, _⟩ := HT.open
  clear hTe
  have hb1 := ((Below.refl w.heap.size w).alloc (Nat.le_refl _) (.cells #[.string st, .slice a rs.length cap] 24)).alloc (by simp) (.cells #[.string s, .int .i64 r, .slice ka ks.length kc] 27)
  have X1 := (Box2.new w (.string st) (.slice a rs.length cap) 24).old (.cells #[.string s, .int .i64 r, .slice ka ks.length kc] 27)
  have Y1 := Box3.new (w.alloc (.cells #[.string st, .slice a rs.length cap] 24)) (.string s) (.int .i64 r) (.slice ka ks.length kc) 27
  simp only [World.size_alloc] at Y1
  have H1 := H.below hb1 (Nat.le_refl _)
  have hszw := sz_le_wt _ T (Nat.le_refl _)
  go_enter Tryd.func3, Tryd.ntmps3
  go_wp2_with fail
  refine (szGram_any _ _ _ rs _ _ H1 hs (by omega) (by omega)).mono ?_
  rintro e w2 ⟨rfl, hb2⟩
  have X2 := X1.below hb2
  have Y2 := Y1.below hb2
  have c2 := Below.on hb1 hb2 (Nat.le_refl _)
  clear X1 Y1 hb1 hb2 H1
  by_cases hneg : szGramM st rs 1048576 < 0
  · go_wp2
    go_ret
    exact ⟨rfl, c2⟩
  obtain ⟨nb, n1, n2, n3⟩ := szGram_bounds (st := st) (rs := rs) (left := 1048576) (by omega) (by omega)
  clear n3
  have hnn : decide (szGramM st rs 1048576 < 0) = false := by simpa using hneg
  obtain ⟨_, y0, y1, y2⟩ := Y2
  have Y2 : Box3 w2 (w.heap.size + 1) (.string s) (.int .i64 r) (.slice ka ks.length kc) := ⟨by assumption, y0, y1, y2⟩
  generalize szGramM st rs 1048576 = left1 at *
  go_wp2_with fail
  refine (szTree_any _ T (Nat.le_refl _) _ _ left1 (HT.keep c2) (by omega) (by omega)).mono ?_
  rintro e w3 ⟨⟨v3, rfl, hv1, hv2, hv3⟩, hb3⟩
  have X3 := X2.below hb3
  have Y3 := Y2.below hb3
  have c3 := Below.on c2 hb3 (Nat.le_refl _)
  clear X2 Y2 y0 y1 y2 hb3 c2
  by_cases hneg2 : v3 < 0
  · clear hv3
    go_wp2
    go_ret
    exact ⟨rfl, c3⟩
  have hwt : T.wt ≤ 1048576 := by have := hv3 (by omega); omega
  have hnn2 : decide (v3 < 0) = false := by simpa using hneg2
  have hz : T.sz ≤ 2000000 := by omega
  have H3 := H.below c3 (Nat.le_refl _)
  have T3 := HT.keep c3
  clear hv3
  go_wp2_with fail
  obtain ⟨x0, x1⟩ := X3.2
  obtain ⟨y0, y1, y2⟩ := Y3.2
  go_region_held3 (fun w' => w'.cell? ⟨w.heap.size, 0, none⟩ = some (.string st) ∧ w'.cell? ⟨w.heap.size, 1, none⟩ = some (.slice a rs.length cap) ∧ w'.cell? ⟨w.heap.size + 1, 0, none⟩ = some (.string s) ∧ w'.cell? ⟨w.heap.size + 1, 1, none⟩ = some (.int .i64 r) ∧ w'.cell? ⟨w.heap.size + 1, 2, none⟩ = some (.slice ka ks.length kc))
    (first
      | go_keep
      | with_reducible exact keep5 (((X3.below hb4).below hb5).below hb6) (((Y3.below hb4).below hb5).below hb6)
      | with_reducible exact keep5 ((X3.below hb4).below hb5) ((Y3.below hb4).below hb5)
      | with_reducible exact keep5 (X3.below hb4) (Y3.below hb4)
      | fail)
    (first
      | (go_at_call 7; (with_reducible refine (toGram_any st a cap rs _ ?_ n1).mono ?_); (exact H3.drew); rintro e w4 ⟨v4, rfl, b4, rfl, l4, row4, hb4'⟩; have hb4 := below_of_drew hb4')
      | (go_at_call 8; (with_reducible refine (toTree_any _ T (Nat.le_refl _) hwt _ _ ?_).mono ?_); (exact T3.keep hb4); rintro e w5 ⟨v5, rfl, t5, hb5, _⟩)
      | (go_at_call 6; (with_reducible refine (sTreeText_any st _ _ rs T v5 _ ?_ ?_ ?_ hwt hz).mono ?_); (exact (rulesAt_of_row row4 H.fits).below hb5 (Nat.le_refl _)); (exact Nat.le_refl _); (exact t5.mono (Nat.zero_le _)); rintro e w6 ⟨rfl, hb6⟩)
      | fail)
  have X6 := ((X3.below hb4).below hb5).below hb6
  have Y6 := ((Y3.below hb4).below hb5).below hb6
  have c6 := Below.on (Below.on (Below.on c3 hb4 (Nat.le_refl _)) hb5 (Nat.le_refl _)) hb6 (Nat.le_refl _)
  clear X3 Y3 c3 H3 T3 hb4 hb4' hb5 hb6 l4 t5 row4 x0 x1 y0 y1 y2
  have H6 := H.below c6 (Nat.le_refl _)
  obtain ⟨x0, x1⟩ := X6.2
  go_wp2_with fail
  refine (toGram_any st a cap rs _ H6 n1).mono ?_
  rintro e w7 ⟨v7, rfl, b7, rfl, l7, row7, hb7⟩
  have bx7 := (Below.refl _ _).alloc (Nat.le_refl w7.heap.size) (.cells #[.string st, .slice (some ⟨b7, 0, none⟩) rs.length rs.length] 33)
  have Z8 := Box2.new w7 (.string st) (.slice (some ⟨b7, 0, none⟩) rs.length rs.length) 33
  have R8 := (rulesAt_of_row row7 H.fits).below bx7 (Nat.le_refl _)
  have X8 := (X6.below hb7).below bx7
  have Y8 := (Y6.below hb7).below bx7
  have c8 := Below.on (Below.on c6 hb7 (Nat.le_refl _)) bx7 (Nat.le_refl _)
  clear X6 Y6 c6 H6 hb7 x0 x1 l7 row7 bx7
  obtain ⟨y0, y1, y2⟩ := Y8.2
  go_wp2_with fail
  refine (toTree_any _ T (Nat.le_refl _) hwt _ _ (HT.keep c8)).mono ?_
  rintro e w9 ⟨v9, rfl, t9, hb9, _⟩
  obtain ⟨s9, r9, ks9, ka9, kc9, rfl, hTe9, _⟩ := t9.open
  clear hTe9
  have bx9 := (Below.refl _ _).alloc (Nat.le_refl w9.heap.size) (.cells #[.string s9, .int .i64 r9, .slice ka9 ks9.length kc9] 37)
  have Z10 := (Z8.below hb9).below bx9
  have V10 := Box3.new w9 (.string s9) (.int .i64 r9) (.slice ka9 ks9.length kc9) 37
  have R10 := (R8.below hb9 (Nat.le_refl _)).below bx9 (Nat.le_refl _)
  have T10 := (t9.mono (Nat.zero_le _)).keep bx9
  have X10 := (X8.below hb9).below bx9
  have Y10 := (Y8.below hb9).below bx9
  have c10 := Below.on (Below.on c8 hb9 (Nat.le_refl _)) bx9 (Nat.le_refl _)
  clear Z8 R8 X8 Y8 c8 hb9 bx9 t9 y0 y1 y2
  obtain ⟨z0, z1⟩ := Z10.2
  obtain ⟨u0, u1, u2⟩ := V10.2
  go_wp2_with fail
  refine (treeText_any st _ _ rs T _ _ R10 (Nat.le_refl _) T10 hz).mono ?_
  rintro e w11 ⟨rfl, hb11⟩
  have Z11 := Z10.below hb11
  have V11 := V10.below hb11
  have R11 := R10.below hb11 (Nat.le_refl _)
  have T11 := T10.keep hb11
  have X11 := X10.below hb11
  have Y11 := Y10.below hb11
  have c11 := Below.on c10 hb11 (Nat.le_refl _)
  have H11 := H.below c11 (Nat.le_refl _)
  clear Z10 V10 R10 T10 X10 Y10 c10 hb11 z0 z1 u0 u1 u2
  have hE := eqG_refl st rs
  obtain ⟨z0, z1⟩ := Z11.2
  obtain ⟨x0, x1⟩ := X11.2
  generalize treeTextS st rs T = ok at *
  have hok : (ok.toList == ok.toList) = true := by simp
  have hok2 : (ok.toList != ok.toList) = false := by simp
  go_wp2_with fail
  go_region_held3 (fun w' => w'.cell? ⟨w.heap.size, 0, none⟩ = some (.string st) ∧ w'.cell? ⟨w.heap.size, 1, none⟩ = some (.slice a rs.length cap) ∧ w'.cell? ⟨w7.heap.size, 0, none⟩ = some (.string st) ∧ w'.cell? ⟨w7.heap.size, 1, none⟩ = some (.slice (some ⟨b7, 0, none⟩) rs.length rs.length))
    (first
      | go_keep
      | with_reducible exact keep4' ((X11.below hb12).below hb13) ((Z11.below hb12).below hb13)
      | with_reducible exact keep4' (X11.below hb12) (Z11.below hb12)
      | fail)
    (first
      | (go_at_call 7; (with_reducible refine (toGram_any st a cap rs _ ?_ n1).mono ?_); (exact H11.drew); rintro e w12 ⟨v12, rfl, b12, rfl, l12, row12, hb12'⟩; have hb12 := below_of_drew hb12')
      | (go_at_call 10; (with_reducible refine (eqGram_any st st _ _ _ _ rs rs _ ?_ ?_).mono ?_); (exact R11.below hb12 (Nat.le_refl _)); (exact rulesAt_of_row row12 H.fits); rintro e w13 ⟨rfl, hb13⟩)
      | fail)
  have V13 := (V11.below hb12).below hb13
  have T13 := (T11.keep hb12).keep hb13
  have Y13 := (Y11.below hb12).below hb13
  have c13 := Below.on (Below.on c11 hb12 (Nat.le_refl _)) hb13 (Nat.le_refl _)
  clear Z11 V11 R11 T11 X11 Y11 c11 H11 hb12 hb12' hb13 l12 row12 x0 x1 z0 z1
  have HT13 := HT.keep c13
  obtain ⟨y0, y1, y2⟩ := Y13.2
  obtain ⟨u0, u1, u2⟩ := V13.2
  go_wp2_with fail
  go_region_held3 (fun w' => w'.cell? ⟨w.heap.size + 1, 0, none⟩ = some (.string s) ∧ w'.cell? ⟨w.heap.size + 1, 1, none⟩ = some (.int .i64 r) ∧ w'.cell? ⟨w.heap.size + 1, 2, none⟩ = some (.slice ka ks.length kc) ∧ w'.cell? ⟨w9.heap.size, 0, none⟩ = some (.string s9) ∧ w'.cell? ⟨w9.heap.size, 1, none⟩ = some (.int .i64 r9) ∧ w'.cell? ⟨w9.heap.size, 2, none⟩ = some (.slice ka9 ks9.length kc9))
    (first
      | go_keep
      | with_reducible exact keep6 ((Y13.below hb14).below hb15) ((V13.below hb14).below hb15)
      | with_reducible exact keep6 (Y13.below hb14) (V13.below hb14)
      | fail)
    (first
      | (go_at_call 8; (with_reducible refine (toTree_any _ T (Nat.le_refl _) hwt _ _ ?_).mono ?_); (exact HT13.drew); rintro e w14 ⟨v14, rfl, t14, hb14', _⟩; have hb14 := below_of_drew hb14')
      | (go_at_call 11; (with_reducible refine (eqTree_any _ T (Nat.le_refl _) _ _ _ ?_ ?_).mono ?_); (exact T13.keep hb14); (exact t14.mono (Nat.zero_le _)); rintro e w15 ⟨rfl, hb15⟩)
      | fail)
  go_wp2_with fail
  go_ret
  exact ⟨rfl, Below.on (Below.on c13 hb14 (Nat.le_refl _)) hb15 (Nat.le_refl _)⟩
end Go.Proofs.YtnfadakbffhonaaDoor
