/- The walk of FnExactStepsTree. -/
import Derived.Test.YtcningdeocmbgaaSgV
namespace Go.Proofs.Ytcningdeocmbgaa
open Go.ChangeShapes Go.WideShapes Go.ChangeAt Go.RowKit Go.Deep
set_option maxRecDepth 100000
theorem Box3.of_block {w w' : World} {b : Nat} {v0 v1 v2 : Value} (h : Box3 w b v0 v1 v2) (hb : w'.heap[b]? = w.heap[b]?) (hs : w.heap.size ≤ w'.heap.size) : Box3 w' b v0 v1 v2 :=
  ⟨Nat.lt_of_lt_of_le h.1 hs, (cell_same hb 0).trans h.2.1, (cell_same hb 1).trans h.2.2.1, (cell_same hb 2).trans h.2.2.2⟩
theorem KidOk.own {w : World} {s : ByteArray} {r : Int} {a : Option Addr} {n cap : Nat} {t : OT} (h : KidOk w (s, r, .slice a n cap) t) : OwnK w t.g a t.ks := by
  obtain ⟨a', cap', h1, _, _, _, _, h6⟩ := h
  simp only [Prod.mk.injEq, Value.slice.injEq] at h1
  obtain ⟨_, _, rfl, _, _⟩ := h1
  exact h6
set_option maxHeartbeats 4000000 in
theorem stepsTree_law (st : ByteArray) (a : Option Addr) (cap : Nat) (rs : List RuleT) (s : ByteArray) (c : Option Addr) (cup : Nat) (zs : List StepT) (w : World) (H : RulesAt w a rs) (hst : st.size ≤ maxLen) (hs : s.size ≤ maxLen) (HS : StepsAt w c zs) :
    Calls Try.prog 3 #[.agg #[.string st, .slice a rs.length cap], .string s, .slice c zs.length cup] w fun e w' => e = .returned (.bool true) ∧ Below w.heap.size w w' := by
  obtain ⟨R1, hR1⟩ : ∃ x, (stRes (stepsTreeM st rs s zs)).1 = x := ⟨_, rfl⟩
  obtain ⟨R2, hR2⟩ : ∃ x, (stRes (stepsTreeM st rs s zs)).2 = x := ⟨_, rfl⟩
  have CI : ∀ (ag' c' : Option Addr) (W : World), RulesAt W ag' rs → StepsAt W c' zs → Calls Try.prog 10 #[.agg #[.string st, .slice ag' rs.length rs.length], .string s, .slice c' zs.length zs.length] W fun e w' => Below W.heap.size W w' ∧ ∃ t a cap, OT.tr t = R1 ∧ e = .returned (.tuple #[.agg #[.string t.s, .int .i64 t.r, .slice a t.ks.length cap], .bool R2]) ∧ KidOk w' (t.s, t.r, .slice a t.ks.length cap) t ∧ t.bs.Nodup ∧ (∀ b ∈ t.bs, W.heap.size ≤ b) ∧ t.tr.sz ≤ 201 :=
    fun ag' c' W h1 h2 => by rw [← hR1, ← hR2]; exact stepsTree_two st ag' _ rs s c' _ zs W h1 (Nat.le_refl _) hs h2 (Nat.le_refl _)
  have CS : ∀ (ag' c' : Option Addr) (W : World), RulesAt W ag' rs → StepsAt W c' zs → Calls Try.prog 7 #[.agg #[.string st, .slice ag' rs.length rs.length], .string s, .slice c' zs.length zs.length] W fun e w' => Below W.heap.size W w' ∧ ∃ v, e = .returned (.tuple #[v, .bool R2]) ∧ TrIn w' 0 v R1 :=
    fun ag' c' W h1 h2 => by rw [← hR1, ← hR2]; exact sStepsTree_two st ag' _ rs s c' _ zs W h1 (Nat.le_refl _) hs h2
  clear hR1 hR2
  have hb1 := (Below.refl w.heap.size w).alloc (Nat.le_refl _) (.cells #[.string st, .slice a rs.length cap] 24)
  have X1 := Box2.new w (.string st) (.slice a rs.length cap) 24
  have H1 := H.below hb1 (Nat.le_refl _)
  go_enter Try.func3, Try.ntmps3
  by_cases hbig : (1048576 : Int) < ((s.size : Nat) : Int)
  · go_wp2
    go_ret
    exact ⟨rfl, hb1⟩
  have hbd : decide ((1048576 : Int) < ((s.size : Nat) : Int)) = false := by simpa using hbig
  obtain ⟨x0, x1⟩ := X1.2
  go_wp2_with fail
  refine (szGram_any _ _ _ rs _ _ H1 hst (by omega) (by omega)).mono ?_
  rintro e w2 ⟨rfl, hb2⟩
  have X2 := X1.below hb2
  have c2 := Below.on hb1 hb2 (Nat.le_refl _)
  clear X1 hb1 hb2 H1 x0 x1
  by_cases hneg : szGramM st rs 1048576 < 0
  · go_wp2
    go_ret
    exact ⟨rfl, c2⟩
  obtain ⟨nb, n1, n2, n3⟩ := szGram_bounds (st := st) (rs := rs) (left := 1048576) (by omega) (by omega)
  clear n3
  have hnn : decide (szGramM st rs 1048576 < 0) = false := by simpa using hneg
  generalize szGramM st rs 1048576 = left1 at *
  have S2 := HS.below c2 (Nat.le_refl _)
  go_wp2_with fail
  refine (szStepS_any _ _ zs left1 _ S2 (by omega) (by omega)).mono ?_
  rintro e w3 ⟨rfl, hb3⟩
  have X3 := X2.below hb3
  have c3 := Below.on c2 hb3 (Nat.le_refl _)
  clear X2 c2 hb3 S2
  by_cases hneg2 : szStepsM zs left1 < 0
  · go_wp2
    go_ret
    exact ⟨rfl, c3⟩
  have hm := (szStepsM_le (xs := zs) (left := left1) (by omega)).1
  have m1 : zs.length ≤ 1048576 := by omega
  have hnn2 : decide (szStepsM zs left1 < 0) = false := by simpa using hneg2
  clear hm
  have H3 := H.below c3 (Nat.le_refl _)
  obtain ⟨x0, x1⟩ := X3.2
  go_wp2_with fail
  refine (toGram_any st a cap rs _ H3 n1).mono ?_
  rintro e w4 ⟨v4, rfl, b4, rfl, l4, row4, hb4⟩
  have X4 := X3.below hb4
  have c4 := Below.on c3 hb4 (Nat.le_refl _)
  have R4 := rulesAt_of_row row4 H.fits
  have S4 := HS.below c4 (Nat.le_refl _)
  clear X3 c3 H3 x0 x1 hnn hnn2 hneg hneg2 hbd hbig hb4 row4 l4
  go_wp2_with fail
  refine (toStepS_any c cup zs _ S4 (by omega)).mono ?_
  rintro e w5 ⟨b5, rfl, l5, row5, hb5⟩
  have X5 := X4.below hb5
  have c5 := Below.on c4 hb5 (Nat.le_refl _)
  have R5 := R4.below hb5 (Nat.le_refl _)
  have S5 := StepsAt.of_row row5 HS.fits
  clear X4 c4 R4 S4 row5 l5 hb5
  go_wp2_with fail
  refine (CS _ _ _ R5 S5).mono ?_
  rintro e w6 ⟨hb6, v6, rfl, t6⟩
  obtain ⟨s6, r6, ks6, ka6, kc6, rfl, hTe6, _⟩ := t6.open
  clear hTe6
  have X6 := X5.below hb6
  have c6 := Below.on c5 hb6 (Nat.le_refl _)
  have bx7 := (Below.refl _ _).alloc (Nat.le_refl w6.heap.size) (.cells #[.string s6, .int .i64 r6, .slice ka6 ks6.length kc6] 30)
  have W7 := Box3.new w6 (.string s6) (.int .i64 r6) (.slice ka6 ks6.length kc6) 30
  have X7 := X6.below bx7
  have c7 := Below.on c6 bx7 (Nat.le_refl _)
  have t7 := t6.keep bx7
  have H7 := H.below c7 (Nat.le_refl _)
  clear X5 c5 R5 S5 X6 c6 t6 bx7 hb6
  obtain ⟨x0, x1⟩ := X7.2
  go_wp2_with fail
  generalize w6.alloc (.cells #[.string s6, .int .i64 r6, .slice ka6 ks6.length kc6] 30) = w7 at *
  refine (toGram_any st a cap rs _ H7 n1).mono ?_
  rintro e w8 ⟨v8, rfl, b8, rfl, l8, row8, hb8⟩
  have bx9 := (Below.refl _ _).alloc (Nat.le_refl w8.heap.size) (.cells #[.string st, .slice (some ⟨b8, 0, none⟩) rs.length rs.length] 35)
  have Z9 := Box2.new w8 (.string st) (.slice (some ⟨b8, 0, none⟩) rs.length rs.length) 35
  have R9 := (rulesAt_of_row row8 H.fits).below bx9 (Nat.le_refl _)
  have O9 := (OwnRow.of_row (n := rs.length) row8 l8).below bx9
  have s8 := hb8.size
  have d9 := Below.on hb8 bx9 (Nat.le_refl _)
  have S9 := HS.below (Below.on c7 d9 (Nat.le_refl _)) (Nat.le_refl _)
  clear H7 x0 x1 row8 bx9 hb8 l8
  go_wp2_with fail
  generalize w8.alloc (.cells #[.string st, .slice (some ⟨b8, 0, none⟩) rs.length rs.length] 35) = w9 at *
  have s9 := Z9.1
  refine (toStepS_any c cup zs _ S9 (by omega)).mono ?_
  rintro e w10 ⟨b10, rfl, l10, row10, hb10⟩
  have Q10 := StepsAt.of_row row10 HS.fits
  have P10 := OwnG.of_row row10 l10
  have s10 := hb10.size
  have Z10 := Z9.below hb10
  have R10 := R9.below hb10 (Nat.le_refl _)
  have O10 := O9.below hb10
  have d10 := Below.on d9 hb10 (Nat.le_refl _)
  clear Z9 R9 O9 d9 S9 row10 l10 hb10
  obtain ⟨z0, z1⟩ := Z10.2
  go_wp2_with fail
  refine (CI _ _ _ R10 Q10).mono ?_
  rintro e w11 ⟨hb11, t, a11, c11, htr, rfl, k11, nd11, low11, sz11⟩
  have s11 := hb11.size
  have lt11 := k11.lt
  have bx12 := (Below.refl _ _).alloc (Nat.le_refl w11.heap.size) (.cells #[.string t.s, .int .i64 t.r, .slice a11 t.ks.length c11] 30)
  have V12 := Box3.new w11 (.string t.s) (.int .i64 t.r) (.slice a11 t.ks.length c11) 30
  have e12 := Below.on hb11 bx12 (Nat.le_refl _)
  have K12 := k11.keep (fun b hb => bx12.block b (k11.lt b hb))
  have Z12 := Z10.below e12
  have R12 := R10.below e12 (Nat.le_refl _)
  have O12 := O10.below e12
  have P12 := P10.below e12
  have Q12 := Q10.below e12 (Nat.le_refl _)
  have d12 := Below.on d10 e12 (Nat.le_refl _)
  have W12 := W7.below d12
  have T12 := t7.keep d12
  have hsum : (t.ks.map OT.sz).sum ≤ 200 := by
    have h1 := OT.sz_tr _ t (Nat.le_refl _)
    have h2 := OT.sz_eq t
    omega
  have LT := Lib.hid lt11
  have LOW := Lib.hid low11
  have ND := Lib.hid nd11
  clear z0 z1 Z10 R10 O10 P10 Q10 d10 e12 bx12 hb11 k11 sz11 lt11 low11 nd11
  obtain ⟨v0, v1, v2⟩ := V12.2
  obtain ⟨y0, y1, y2⟩ := W12.2
  go_wp2_with fail
  generalize w11.alloc (.cells #[.string t.s, .int .i64 t.r, .slice a11 t.ks.length c11] 30) = w12 at *
  have s12 := V12.1
  have G12 : TrIn w12 0 (.agg #[.string t.s, .int .i64 t.r, .slice a11 t.ks.length c11]) R1 := htr ▸ K12.tree
  refine (eqTree_any _ R1 (Nat.le_refl _) _ _ _ G12 T12).mono ?_
  rintro e w13 ⟨rfl, hb13⟩
  have d13 := Below.on d12 hb13 (Nat.le_refl _)
  have s13 := hb13.size
  have K13 := K12.keep (fun b hb => hb13.block b (K12.lt b hb))
  have V13 := V12.below hb13
  have Z13 := Z12.below hb13
  have R13 := R12.below hb13 (Nat.le_refl _)
  have O13 := O12.below hb13
  have P13 := P12.below hb13
  have Q13 := Q12.below hb13 (Nat.le_refl _)
  have X13 := X7.below d13
  have H13 := H.below (Below.on c7 d13 (Nat.le_refl _)) (Nat.le_refl _)
  have hE := eqG_refl st rs
  clear G12 T12 W12 d12 v0 v1 v2 y0 y1 y2 K12 V12 Z12 R12 O12 P12 Q12 hb13
  obtain ⟨z0, z1⟩ := Z13.2
  obtain ⟨x0, x1⟩ := X13.2
  go_wp2_with fail
  go_region_held3 (fun w' => w'.cell? ⟨w.heap.size, 0, none⟩ = some (.string st) ∧ w'.cell? ⟨w.heap.size, 1, none⟩ = some (.slice a rs.length cap) ∧ w'.cell? ⟨w8.heap.size, 0, none⟩ = some (.string st) ∧ w'.cell? ⟨w8.heap.size, 1, none⟩ = some (.slice (some ⟨b8, 0, none⟩) rs.length rs.length))
    (first
      | go_keep
      | with_reducible exact keep4' ((X13.below hb14).below hb15) ((Z13.below hb14).below hb15)
      | with_reducible exact keep4' (X13.below hb14) (Z13.below hb14)
      | fail)
    (first
      | (go_at_call 8; (with_reducible refine (toGram_any st a cap rs _ ?_ n1).mono ?_); (exact H13.drew); rintro e w14 ⟨v14, rfl, b14, rfl, l14, row14, hb14'⟩; have hb14 := below_of_drew hb14')
      | (go_at_call 12; (with_reducible refine (eqGram_any st st _ _ _ _ rs rs _ ?_ ?_).mono ?_); (exact R13.below hb14 (Nat.le_refl _)); (exact rulesAt_of_row row14 H.fits); rintro e w15 ⟨rfl, hb15⟩)
      | fail)
  have hb1315 : Below w13.heap.size w13 w15 := Below.on hb14 hb15 (Nat.le_refl _)
  have s15 := hb1315.size
  have d15 := Below.on d13 hb1315 (Nat.le_refl _)
  have K15 := K13.keep (fun b hb => hb1315.block b (K13.lt b hb))
  have V15 := V13.below hb1315
  have Z15 := Z13.below hb1315
  have O15 := O13.below hb1315
  have P15 := P13.below hb1315
  have Q15 := Q13.below hb1315 (Nat.le_refl _)
  have S15 := HS.below (Below.on c7 d15 (Nat.le_refl _)) (Nat.le_refl _)
  clear X13 H13 R13 d13 K13 V13 Z13 O13 P13 Q13 hb1315 hb14 hb14' hb15 row14 l14 x0 x1 z0 z1
  go_wp2_with fail
  refine (toStepS_any c cup zs _ S15 (by omega)).mono ?_
  rintro e w16 ⟨b16, rfl, l16, row16, hb16⟩
  have S16 := StepsAt.of_row row16 HS.fits
  have Q16 := Q15.below hb16 (Nat.le_refl _)
  clear row16 l16 S15 Q15
  go_wp2_with fail
  refine (eqStepS_any _ _ _ _ zs _ Q16 S16).mono ?_
  rintro e w17 ⟨rfl, hb17⟩
  have hb1517 : Below w15.heap.size w15 w17 := Below.on hb16 hb17 (Nat.le_refl _)
  have s17 := hb1517.size
  have d17 := Below.on d15 hb1517 (Nat.le_refl _)
  have K17 := K15.keep (fun b hb => hb1517.block b (K15.lt b hb))
  have V17 := V15.below hb1517
  have Z17 := Z15.below hb1517
  have O17 := O15.below hb1517
  have P17 := P15.below hb1517
  clear Q16 S16 d15 K15 V15 Z15 O15 P15 hb1517 hb16 hb17
  obtain ⟨z0, z1⟩ := Z17.2
  go_wp2_with fail
  refine (markGram_any st _ _ _ 1 w7.heap.size w8.heap.size _ O17 (by omega) n1 (by omega) (by omega)).mono ?_
  rintro e w18 ⟨rfl, _, bm, hm1, hm2, ho⟩
  have d18 : Below w7.heap.size w7 w18 := d17.trans (ho.below _ (by omega) (by omega))
  have P18 := P17.keep (w' := w18) (fun b h1 h2 hl => ho.block b hl (by omega))
  have K18 := K17.keep (w' := w18) (fun b hb => ho.block b (by have := LT.out b hb; omega) (by have := LT.out b hb; have := LOW.out b hb; omega))
  have V18 := V17.of_block (w' := w18) (ho.block w11.heap.size (by omega) (by omega)) ho.size
  have s18 := ho.size
  clear d17 P17 K17 V17 Z17 O17 ho z0 z1
  go_wp2_with fail
  rw [show (1 + (rs.length : Int) * 2) = ((1 + rs.length * 2 : Nat) : Int) by omega]
  refine (markStepS_any _ zs.length _ (1 + rs.length * 2) w9.heap.size w10.heap.size _ P18 (by omega) (by omega) (by omega) (by omega)).mono ?_
  rintro e w19 ⟨rfl, _, bn, hn1, hn2, ho⟩
  have d19 : Below w7.heap.size w7 w19 := d18.trans (ho.below _ (by omega) (by omega))
  have K19 := K18.keep (w' := w19) (fun b hb => ho.block b (by have := LT.out b hb; omega) (by have := LT.out b hb; have := LOW.out b hb; omega))
  have V19 := V18.of_block (w' := w19) (ho.block w11.heap.size (by omega) (by omega)) ho.size
  have s19 := ho.size
  have W19 := W7.below d19
  have T19 := t7.keep d19
  have hk0 : ¬ ((1 + rs.length * 2 + zs.length * 2 : Nat) : Int) < 0 := by omega
  clear d18 P18 K18 V18 ho
  obtain ⟨v0, v1, v2⟩ := V19.2
  obtain ⟨y0, y1, y2⟩ := W19.2
  have G19 : TrIn w19 0 (.agg #[.string t.s, .int .i64 t.r, .slice a11 t.ks.length c11]) R1 := htr ▸ K19.tree
  go_wp2_with fail
  refine (eqTree_any _ R1 (Nat.le_refl _) _ _ _ G19 T19).mono ?_
  rintro e w20 ⟨rfl, hb20⟩
  have d20 := Below.on d19 hb20 (Nat.le_refl _)
  have K20 := K19.keep (fun b hb => hb20.block b (K19.lt b hb))
  have V20 := V19.below hb20
  have s20 := hb20.size
  have OWN := K20.own
  have hndk : (bsK t.g t.ks).Nodup := by rw [← OT.bs_eq]; exact ND.out
  clear d19 K19 V19 W19 T19 G19 hb20 hk0 v0 v1 v2 y0 y1 y2
  obtain ⟨v0, v1, v2⟩ := V20.2
  go_wp2_with fail
  refine (markOT_any t a11 c11 1 _ OWN hndk (by omega) (by omega)).mono ?_
  rintro e w21 ⟨rfl, M21, hL⟩
  have d21 := d20.trans (hL.low w7.heap.size (fun b hb => by have := LOW.out b (by rw [OT.bs_eq]; exact hb); omega) (by omega))
  have V21 := V20.of_block (w' := w21) (hL.block w11.heap.size (by omega) (fun h => by have := LT.out _ (by rw [OT.bs_eq]; exact h); omega)) hL.size
  have s21 := hL.size
  clear d20 K20 V20 hL OWN hndk v0 v1 v2
  obtain ⟨v0, v1, v2⟩ := V21.2
  go_wp2_with fail
  refine (heldOT_any t a11 c11 1 _ M21 (by omega) (by omega)).mono ?_
  rintro e w22 ⟨rfl, hb22⟩
  have d22 := Below.on d21 hb22 (Nat.le_refl _)
  have M22 := M21.under hb22
  have V22 := V21.below hb22
  have hq0 : ¬ ((1 + 2 * (t.ks.map OT.sz).sum : Nat) : Int) < 0 := by omega
  have hqq : (((1 + 2 * (t.ks.map OT.sz).sum : Nat) : Int) != ((1 + 2 * (t.ks.map OT.sz).sum : Nat) : Int)) = false := by simp
  have X22 := X7.below d22
  have H22 := H.below (Below.on c7 d22 (Nat.le_refl _)) (Nat.le_refl _)
  clear d21 M21 V21 hb22 v0 v1 v2
  obtain ⟨x0, x1⟩ := X22.2
  go_wp2_with fail
  refine (toGram_any st a cap rs _ H22 n1).mono ?_
  rintro e w23 ⟨v23, rfl, b23, rfl, l23, row23, hb23⟩
  have R23 := rulesAt_of_row row23 H.fits
  have S23 := HS.below (Below.on c7 (Below.on d22 hb23 (Nat.le_refl _)) (Nat.le_refl _)) (Nat.le_refl _)
  clear X22 H22 x0 x1 row23 l23
  go_wp2_with fail
  refine (toStepS_any c cup zs _ S23 (by omega)).mono ?_
  rintro e w24 ⟨b24, rfl, l24, row24, hb24⟩
  have R24 := R23.below hb24 (Nat.le_refl _)
  have S24 := StepsAt.of_row row24 HS.fits
  clear R23 S23 row24 l24
  go_wp2_with fail
  refine (CI _ _ _ R24 S24).mono ?_
  rintro e w25 ⟨hb25, t', a25, c25, htr', rfl, k25, _, _, _⟩
  have bx26 := (Below.refl _ _).alloc (Nat.le_refl w25.heap.size) (.cells #[.string t'.s, .int .i64 t'.r, .slice a25 t'.ks.length c25] 30)
  have U26 := Box3.new w25 (.string t'.s) (.int .i64 t'.r) (.slice a25 t'.ks.length c25) 30
  have hb2226 : Below w22.heap.size w22 (w25.alloc (.cells #[.string t'.s, .int .i64 t'.r, .slice a25 t'.ks.length c25] 30)) := Below.on (Below.on (Below.on hb23 hb24 (Nat.le_refl _)) hb25 (Nat.le_refl _)) bx26 (Nat.le_refl _)
  have K26 := k25.keep (fun b hb => bx26.block b (k25.lt b hb))
  have d26 := Below.on d22 hb2226 (Nat.le_refl _)
  have M26 := M22.under hb2226
  have V26 := V22.below hb2226
  have W26 := W7.below d26
  have T26 := t7.keep d26
  clear R24 S24 hb23 hb24 hb25 bx26 hb2226 k25 d22 M22 V22
  obtain ⟨v0, v1, v2⟩ := U26.2
  obtain ⟨y0, y1, y2⟩ := W26.2
  go_wp2_with fail
  generalize w25.alloc (.cells #[.string t'.s, .int .i64 t'.r, .slice a25 t'.ks.length c25] 30) = w26 at *
  have G26 : TrIn w26 0 (.agg #[.string t'.s, .int .i64 t'.r, .slice a25 t'.ks.length c25]) R1 := htr' ▸ K26.tree
  refine (eqTree_any _ R1 (Nat.le_refl _) _ _ _ G26 T26).mono ?_
  rintro e w27 ⟨rfl, hb27⟩
  have d27 := Below.on d26 hb27 (Nat.le_refl _)
  have M27 := M26.under hb27
  have V27 := V26.below hb27
  clear d26 M26 V26 W26 T26 G26 K26 U26 v0 v1 v2 y0 y1 y2 hb27
  obtain ⟨v0, v1, v2⟩ := V27.2
  go_wp2_with fail
  refine (heldOT_any t a11 c11 1 _ M27 (by omega) (by omega)).mono ?_
  rintro e w28 ⟨rfl, hb28⟩
  go_wp2
  go_ret
  exact ⟨rfl, Below.on c7 (Below.on d27 hb28 (Nat.le_refl _)) (Nat.le_refl _)⟩
end Go.Proofs.Ytcningdeocmbgaa
