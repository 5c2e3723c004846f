/- The walk of FnExactStepsOf. -/
import Derived.Test.YtcningdeocmbgaaStB
import Derived.Test.YtcningdeocmbgaaTokV
import Derived.Test.YtcningdeocmbgaaMkT
import Derived.Test.YtcningdeocmbgaaStC
namespace Go.Proofs.Ytcningdeocmbgaa
open Go.ChangeShapes Go.WideShapes Go.ChangeAt Go.RowKit Go.Deep
set_option maxRecDepth 100000
theorem Ret.below' {B A B0 : Nat} {w w' : World} (h : Ret B A w w') (hB : B0 ≤ B) (hs : B0 ≤ w.heap.size) : Below B0 w w' := ⟨h.os, h.tape, h.output, h.size, fun g hg => h.same g (by omega) (by omega)⟩
theorem Shp.keep {B A : Nat} {w w' : World} (hk : ∀ g, B ≤ g → g < A → w'.heap[g]? = w.heap[g]?) : ∀ m a ks, Shp w B A m a ks → Shp w' B A m a ks
  | 0, _, _, h => h
  | m + 1, a, ks, h => fun i hi => by
    obtain ⟨g, off, s, r, a', cap', e, hB, hA, c0, c1, c2, ht⟩ := h i hi
    exact ⟨g, off, s, r, a', cap', e, hB, hA, (cell_same (hk g hB hA) _).trans c0, (cell_same (hk g hB hA) _).trans c1, (cell_same (hk g hB hA) _).trans c2, Shp.keep hk m _ _ ht⟩
theorem Box3.of_block {w w' : World} {b : Nat} {v0 v1 v2 : Value} (h : Box3 w b v0 v1 v2) (hb : w'.heap[b]? = w.heap[b]?) (hs : w.heap.size ≤ w'.heap.size) : Box3 w' b v0 v1 v2 :=
  ⟨Nat.lt_of_lt_of_le h.1 hs, (cell_same hb 0).trans h.2.1, (cell_same hb 1).trans h.2.2.1, (cell_same hb 2).trans h.2.2.2⟩
theorem stepsOfM_len (st : ByteArray) (rs : List RuleT) (T : Tr) : (stepsOfM st rs T).length ≤ T.sz + 1 := by
  cases T with
  | node s r ks =>
    rw [stepsOfM]
    split
    · rw [List.length_append]; have := steps_len _ (.node s r ks) (Nat.le_refl _); simp; omega
    · exact Nat.zero_le _
set_option maxHeartbeats 4000000 in
theorem stepsOf_law (st : ByteArray) (a : Option Addr) (cap : Nat) (rs : List RuleT) (v : Value) (T : Tr) (w : World) (H : RulesAt w a rs) (hs : st.size ≤ maxLen) (HT : TrIn w 0 v T) :
    Calls Try.prog 4 #[.agg #[.string st, .slice a rs.length cap], v] w fun e w' => e = .returned (.bool true) ∧ Below w.heap.size w w' := by
  obtain ⟨s, r, ks, ka, kc, rfl, hTe, _⟩ := HT.open
  clear hTe
  have hb1 := ((Below.refl w.heap.size w).alloc (Nat.le_refl _) (.cells #[.string st, .slice a rs.length cap] 24)).alloc (by simp) (.cells #[.string s, .int .i64 r, .slice ka ks.length kc] 48)
  have X1 := (Box2.new w (.string st) (.slice a rs.length cap) 24).old (.cells #[.string s, .int .i64 r, .slice ka ks.length kc] 48)
  have Y1 := Box3.new (w.alloc (.cells #[.string st, .slice a rs.length cap] 24)) (.string s) (.int .i64 r) (.slice ka ks.length kc) 48
  simp only [World.size_alloc] at Y1
  have H1 := H.below hb1 (Nat.le_refl _)
  have hszw := sz_le_wt _ T (Nat.le_refl _)
  go_enter Try.func4, Try.ntmps4
  go_wp2_with fail
  refine (szGram_any _ _ _ rs _ _ H1 hs (by omega) (by omega)).mono ?_
  rintro e w2 ⟨rfl, hb2⟩
  have X2 := X1.below hb2
  have Y2 := Y1.below hb2
  have c2 := Below.on hb1 hb2 (Nat.le_refl _)
  clear X1 Y1 hb1 hb2 H1
  by_cases hneg : szGramM st rs 1048576 < 0
  · go_wp2
    go_ret
    exact ⟨rfl, c2⟩
  obtain ⟨nb, n1, n2, n3⟩ := szGram_bounds (st := st) (rs := rs) (left := 1048576) (by omega) (by omega)
  clear n3
  have hnn : decide (szGramM st rs 1048576 < 0) = false := by simpa using hneg
  obtain ⟨_, y0, y1, y2⟩ := Y2
  have Y2 : Box3 w2 (w.heap.size + 1) (.string s) (.int .i64 r) (.slice ka ks.length kc) := ⟨by assumption, y0, y1, y2⟩
  generalize szGramM st rs 1048576 = left1 at *
  go_wp2_with fail
  refine (szTree_any _ T (Nat.le_refl _) _ _ left1 (HT.keep c2) (by omega) (by omega)).mono ?_
  rintro e w3 ⟨⟨v3, rfl, hv1, hv2, hv3⟩, hb3⟩
  have X3 := X2.below hb3
  have Y3 := Y2.below hb3
  have c3 := Below.on c2 hb3 (Nat.le_refl _)
  clear X2 Y2 y0 y1 y2 hb3 c2
  by_cases hneg2 : v3 < 0
  · clear hv3
    go_wp2
    go_ret
    exact ⟨rfl, c3⟩
  have hwt : T.wt ≤ 1048576 := by have := hv3 (by omega); omega
  have hnn2 : decide (v3 < 0) = false := by simpa using hneg2
  have hz : T.sz ≤ 2000000 := by omega
  have H3 := H.below c3 (Nat.le_refl _)
  have T3 := HT.keep c3
  clear hv3
  go_wp2_with fail
  obtain ⟨x0, x1⟩ := X3.2
  obtain ⟨y0, y1, y2⟩ := Y3.2
  go_region_held3 (fun w' => w'.cell? ⟨w.heap.size, 0, none⟩ = some (.string st) ∧ w'.cell? ⟨w.heap.size, 1, none⟩ = some (.slice a rs.length cap) ∧ w'.cell? ⟨w.heap.size + 1, 0, none⟩ = some (.string s) ∧ w'.cell? ⟨w.heap.size + 1, 1, none⟩ = some (.int .i64 r) ∧ w'.cell? ⟨w.heap.size + 1, 2, none⟩ = some (.slice ka ks.length kc))
    (first
      | go_keep
      | with_reducible exact keep5 (((X3.below hb4).below hb5).below hb6) (((Y3.below hb4).below hb5).below hb6)
      | with_reducible exact keep5 ((X3.below hb4).below hb5) ((Y3.below hb4).below hb5)
      | with_reducible exact keep5 (X3.below hb4) (Y3.below hb4)
      | fail)
    (first
      | (go_at_call 8; (with_reducible refine (toGram_any st a cap rs _ ?_ n1).mono ?_); (exact H3.drew); rintro e w4 ⟨v4, rfl, b4, rfl, l4, row4, hb4'⟩; have hb4 := below_of_drew hb4')
      | (go_at_call 20; (with_reducible refine (toTree_any _ T (Nat.le_refl _) hwt _ _ ?_).mono ?_); (exact T3.keep hb4); rintro e w5 ⟨v5, rfl, t5, hb5, _⟩)
      | (go_at_call 19; (with_reducible refine (sStepsOf_any st _ _ rs T v5 _ ?_ ?_ ?_ hwt hz).mono ?_); (exact (rulesAt_of_row row4 H.fits).below hb5 (Nat.le_refl _)); (exact Nat.le_refl _); (exact t5.mono (Nat.zero_le _)); rintro e w6 ⟨x6, rfl, hx6, hb6⟩)
      | fail)
  have X6 := ((X3.below hb4).below hb5).below hb6
  have Y6 := ((Y3.below hb4).below hb5).below hb6
  have c6 := Below.on (Below.on (Below.on c3 hb4 (Nat.le_refl _)) hb5 (Nat.le_refl _)) hb6 (Nat.le_refl _)
  have hLlen := stepsOfM_len st rs T
  obtain ⟨av, cv, rfl, V6, _⟩ := hx6.at
  clear X3 Y3 c3 H3 T3 hb4 hb4' hb5 hb6 l4 t5 row4 x0 x1 y0 y1 y2 hx6
  obtain ⟨L, hL⟩ : ∃ L, L = stepsOfM st rs T := ⟨_, rfl⟩
  rw [← hL] at hLlen V6 ⊢
  have HL := Lib.hid hL
  have hF := flatS_F L
  clear hL
  have H6 := H.below c6 (Nat.le_refl _)
  obtain ⟨x0, x1⟩ := X6.2
  go_wp2_with fail
  refine (toGram_any st a cap rs _ H6 n1).mono ?_
  rintro e w7 ⟨v7, rfl, b7, rfl, l7, row7, hb7⟩
  have bx7 := (Below.refl _ _).alloc (Nat.le_refl w7.heap.size) (.cells #[.string st, .slice (some ⟨b7, 0, none⟩) rs.length rs.length] 35)
  have Z8 := Box2.new w7 (.string st) (.slice (some ⟨b7, 0, none⟩) rs.length rs.length) 35
  have R8 := (rulesAt_of_row row7 H.fits).below bx7 (Nat.le_refl _)
  have O8 := (OwnRow.of_row (n := rs.length) row7 l7).below bx7
  have s7 := hb7.size
  have d8 := Below.on hb7 bx7 (Nat.le_refl _)
  have Y8 := Y6.below d8
  clear H6 x0 x1 row7 bx7 hb7 l7
  obtain ⟨y0, y1, y2⟩ := Y8.2
  go_wp2_with fail
  generalize w7.alloc (.cells #[.string st, .slice (some ⟨b7, 0, none⟩) rs.length rs.length] 35) = w8 at *
  have s8 := Z8.1
  refine (toTree_any _ T (Nat.le_refl _) hwt _ _ (HT.keep (Below.on c6 d8 (Nat.le_refl _)))).mono ?_
  rintro e w9 ⟨v9, rfl, t9, hb9, hp9⟩
  obtain ⟨s9, r9, ks9, ka9, kc9, rfl, hTe9, _, _, _, _, hk9⟩ := t9.open
  have hsum : (ks9.map Tr.sz).sum + 1 = T.sz := by rw [hTe9, Tr.sz]; omega
  have S9 := Shp.of_kids T.sz ka9 ks9 (by omega) hk9
  have F9 : Thaw w9 w8.heap.size w9.heap.size := fun g o h1 h2 => by obtain ⟨c, t, h⟩ := hp9 g h1 h2; exact frozen_of_block h o
  clear hTe9 hk9 hp9
  have s9' := hb9.size
  have bx9 := (Below.refl _ _).alloc (Nat.le_refl w9.heap.size) (.cells #[.string s9, .int .i64 r9, .slice ka9 ks9.length kc9] 30)
  have V10 := Box3.new w9 (.string s9) (.int .i64 r9) (.slice ka9 ks9.length kc9) 30
  have Z10 := (Z8.below hb9).below bx9
  have R10 := (R8.below hb9 (Nat.le_refl _)).below bx9 (Nat.le_refl _)
  have O10 := (O8.below hb9).below bx9
  have T10 := (t9.mono (Nat.zero_le _)).keep bx9
  have S10 := Shp.ret (Ret.of_below (B := w8.heap.size) bx9 (Nat.le_refl _)) _ _ _ S9
  have F10 := F9.ret (Ret.of_below bx9 (Nat.le_refl _))
  have d10 := Below.on (Below.on d8 hb9 (Nat.le_refl _)) bx9 (Nat.le_refl _)
  clear Z8 R8 O8 Y8 d8 hb9 bx9 t9 y0 y1 y2 S9 F9
  obtain ⟨z0, z1⟩ := Z10.2
  obtain ⟨u0, u1, u2⟩ := V10.2
  go_wp2_with fail
  generalize w9.alloc (.cells #[.string s9, .int .i64 r9, .slice ka9 ks9.length kc9] 30) = w10 at *
  have s10 := V10.1
  refine (stepsOf_any st _ _ rs T _ _ R10 (Nat.le_refl _) T10 hz).mono ?_
  rintro e w11 ⟨x11, rfl, hx11, e11⟩
  rw [← HL.out] at hx11
  obtain ⟨ag, cgv, rfl, V11, _⟩ := hx11.at
  have I11 := hx11
  have s11 := e11.size
  have d11 := Below.on d10 e11 (Nat.le_refl _)
  clear z0 z1 u0 u1 u2 hx11 d10
  go_wp2_with fail
  refine (eqStepS_self ag av L.length cgv cv _ _ hF V11 (V6.below d11) (by omega)).mono ?_
  rintro e w12 ⟨rfl, hb12⟩
  have I12 := I11.below hb12
  have d12 := Below.on d11 hb12 (Nat.le_refl _)
  have e12 := Below.on e11 hb12 (Nat.le_refl _)
  have s12 := hb12.size
  clear I11 d11 e11 hb12
  have X12 := X6.below d12
  have Z12 := Z10.below e12
  have R12 := R10.below e12 (Nat.le_refl _)
  have H12 := H.below (Below.on c6 d12 (Nat.le_refl _)) (Nat.le_refl _)
  have hE := eqG_refl st rs
  obtain ⟨z0, z1⟩ := Z12.2
  obtain ⟨x0, x1⟩ := X12.2
  go_wp2_with fail
  go_region_held3 (fun w' => w'.cell? ⟨w.heap.size, 0, none⟩ = some (.string st) ∧ w'.cell? ⟨w.heap.size, 1, none⟩ = some (.slice a rs.length cap) ∧ w'.cell? ⟨w7.heap.size, 0, none⟩ = some (.string st) ∧ w'.cell? ⟨w7.heap.size, 1, none⟩ = some (.slice (some ⟨b7, 0, none⟩) rs.length rs.length))
    (first
      | go_keep
      | with_reducible exact keep4' ((X12.below hb13).below hb14) ((Z12.below hb13).below hb14)
      | with_reducible exact keep4' (X12.below hb13) (Z12.below hb13)
      | fail)
    (first
      | (go_at_call 8; (with_reducible refine (toGram_any st a cap rs _ ?_ n1).mono ?_); (exact H12.drew); rintro e w13 ⟨v13, rfl, b13, rfl, l13, row13, hb13'⟩; have hb13 := below_of_drew hb13')
      | (go_at_call 12; (with_reducible refine (eqGram_any st st _ _ _ _ rs rs _ ?_ ?_).mono ?_); (exact R12.below hb13 (Nat.le_refl _)); (exact rulesAt_of_row row13 H.fits); rintro e w14 ⟨rfl, hb14⟩)
      | fail)
  have hb1214 : Below w12.heap.size w12 w14 := Below.on hb13 hb14 (Nat.le_refl _)
  have I14 := I12.below hb1214
  have d14 := Below.on d12 hb1214 (Nat.le_refl _)
  have e14 := Below.on e12 hb1214 (Nat.le_refl _)
  have s14 := hb1214.size
  clear X12 Z12 R12 H12 I12 d12 e12 hb13 hb13' hb14 hb1214 l13 row13 x0 x1 z0 z1
  have Y14 := Y6.below d14
  have V14 := V10.below e14
  have T14 := T10.keep e14
  have HT14 := HT.keep (Below.on c6 d14 (Nat.le_refl _))
  obtain ⟨y0, y1, y2⟩ := Y14.2
  obtain ⟨u0, u1, u2⟩ := V14.2
  go_wp2_with fail
  go_region_held3 (fun w' => w'.cell? ⟨w.heap.size + 1, 0, none⟩ = some (.string s) ∧ w'.cell? ⟨w.heap.size + 1, 1, none⟩ = some (.int .i64 r) ∧ w'.cell? ⟨w.heap.size + 1, 2, none⟩ = some (.slice ka ks.length kc) ∧ w'.cell? ⟨w9.heap.size, 0, none⟩ = some (.string s9) ∧ w'.cell? ⟨w9.heap.size, 1, none⟩ = some (.int .i64 r9) ∧ w'.cell? ⟨w9.heap.size, 2, none⟩ = some (.slice ka9 ks9.length kc9))
    (first
      | go_keep
      | with_reducible exact keep6 ((Y14.below hb15).below hb16) ((V14.below hb15).below hb16)
      | with_reducible exact keep6 (Y14.below hb15) (V14.below hb15)
      | fail)
    (first
      | (go_at_call 20; (with_reducible refine (toTree_any _ T (Nat.le_refl _) hwt _ _ ?_).mono ?_); (exact HT14.drew); rintro e w15 ⟨v15, rfl, t15, hb15', _⟩; have hb15 := below_of_drew hb15')
      | (go_at_call 11; (with_reducible refine (eqTree_any _ T (Nat.le_refl _) _ _ _ ?_ ?_).mono ?_); (exact T14.keep hb15); (exact t15.mono (Nat.zero_le _)); rintro e w16 ⟨rfl, hb16⟩)
      | fail)
  have hb1416 : Below w14.heap.size w14 w16 := Below.on hb15 hb16 (Nat.le_refl _)
  have I16 := I14.below hb1416
  have d16 := Below.on d14 hb1416 (Nat.le_refl _)
  have e16 := Below.on e14 hb1416 (Nat.le_refl _)
  have s16 := hb1416.size
  clear Y14 V14 T14 HT14 I14 d14 e14 hb15 hb15' hb16 hb1416 t15 y0 y1 y2 u0 u1 u2
  have Z16 := Z10.below e16
  have V16 := V10.below e16
  have O16 := O10.below e16
  obtain ⟨z0, z1⟩ := Z16.2
  go_wp2_with fail
  refine (markGram_any st _ _ _ 1 w6.heap.size w7.heap.size _ O16 (by omega) n1 (by omega) (by omega)).mono ?_
  rintro e wm ⟨rfl, _, bm, hm1, hm2, ho⟩
  have Im := I16.keep (w' := wm) (fun g hg hl => ho.block g hl (by omega))
  have dm : Below w6.heap.size w6 wm := d16.trans (ho.below _ (by omega) (by omega))
  have sm := ho.size
  have Vm : Box3 wm w9.heap.size (.string s9) (.int .i64 r9) (.slice ka9 ks9.length kc9) := V16.of_block (ho.block w9.heap.size (by omega) (by omega)) sm
  have Sm : Shp wm w8.heap.size w9.heap.size T.sz ka9 ks9 := Shp.keep (fun g h1 h2 => (ho.block g (by omega) (by omega)).trans (e16.block g (by omega))) _ _ _ S10
  have Fm : Thaw wm w8.heap.size w9.heap.size := fun g o h1 h2 => by rw [World.frozen?_of_block (a := ⟨g, o, none⟩) ((ho.block g (by omega) (by omega)).trans (e16.block g (by omega)))]; exact F10 g o h1 h2
  clear I16 d16 ho Z16 V16 O16 z0 z1 S10 F10 e16 Z10 R10 O10 T10 V10
  obtain ⟨u0, u1, u2⟩ := Vm.2
  go_wp2_with fail
  rw [show (1 + (rs.length : Int) * 2) = ((1 + rs.length * 2 : Nat) : Int) by omega]
  refine (markTree_any w8.heap.size w9.heap.size T.sz s9 r9 ka9 ks9 kc9 (1 + rs.length * 2) _ Sm Fm (by omega) (by omega) (by omega)).mono ?_
  rintro e wn ⟨rfl, hRn⟩
  have In := Im.keep (w' := wn) (fun b h1 hl => hRn.same b hl (by omega))
  have dn : Below w6.heap.size w6 wn := dm.trans (hRn.below' (by omega) (by omega))
  have sn := hRn.size
  have hk0 : ¬ ((1 + rs.length * 2 + 2 * (ks9.map Tr.sz).sum : Nat) : Int) < 0 := by omega
  clear Im dm hRn Sm Fm Vm u0 u1 u2
  go_wp2_with fail
  obtain ⟨_, _, e2, Vn, _⟩ := In.at
  simp only [Value.slice.injEq, true_and] at e2
  obtain ⟨rfl, rfl⟩ := e2
  refine (eqStepS_self ag av L.length cgv cv _ _ hF Vn (V6.below dn) (by omega)).mono ?_
  rintro e wb ⟨rfl, hbb⟩
  have Ib := In.below hbb
  have db := Below.on dn hbb (Nat.le_refl _)
  have sb := hbb.size
  clear In dn hbb hk0
  go_wp2_with fail
  obtain ⟨_, _, e2, _, Og⟩ := Ib.at
  simp only [Value.slice.injEq, true_and] at e2
  obtain ⟨rfl, rfl⟩ := e2
  refine (markStepS_any ag L.length cgv 1 w10.heap.size wb.heap.size _ Og (by omega) (by omega) (by omega) (by omega)).mono ?_
  rintro e wc ⟨rfl, hMc, bn, hn1, hn2, ho⟩
  have dc : Below w6.heap.size w6 wc := db.trans (ho.below _ (by omega) (by omega))
  clear Ib db ho
  have hq0 : ¬ ((1 + L.length * 2 : Nat) : Int) < 0 := by omega
  have hqq : (((1 + L.length * 2 : Nat) : Int) != ((1 + L.length * 2 : Nat) : Int)) = false := by simp
  go_wp2_with fail
  refine (heldStepS_any ag L.length cgv 1 _ hMc (by omega) (by omega) (by omega)).mono ?_
  rintro e wd ⟨rfl, hbd⟩
  have hMd := hMc.below hbd
  have dd := Below.on dc hbd (Nat.le_refl _)
  clear hMc dc hbd
  have Xd := X6.below dd
  have Yd := Y6.below dd
  have Hd := H.below (Below.on c6 dd (Nat.le_refl _)) (Nat.le_refl _)
  have Td := HT.keep (Below.on c6 dd (Nat.le_refl _))
  obtain ⟨x0, x1⟩ := Xd.2
  obtain ⟨y0, y1, y2⟩ := Yd.2
  go_wp2_with fail
  go_region_held3 (fun w' => w'.cell? ⟨w.heap.size, 0, none⟩ = some (.string st) ∧ w'.cell? ⟨w.heap.size, 1, none⟩ = some (.slice a rs.length cap) ∧ w'.cell? ⟨w.heap.size + 1, 0, none⟩ = some (.string s) ∧ w'.cell? ⟨w.heap.size + 1, 1, none⟩ = some (.int .i64 r) ∧ w'.cell? ⟨w.heap.size + 1, 2, none⟩ = some (.slice ka ks.length kc))
    (first
      | go_keep
      | with_reducible exact keep5 (((Xd.below hb20).below hb21).below hb22) (((Yd.below hb20).below hb21).below hb22)
      | with_reducible exact keep5 ((Xd.below hb20).below hb21) ((Yd.below hb20).below hb21)
      | with_reducible exact keep5 (Xd.below hb20) (Yd.below hb20)
      | fail)
    (first
      | (go_at_call 8; (with_reducible refine (toGram_any st a cap rs _ ?_ n1).mono ?_); (exact Hd.drew); rintro e w20 ⟨v20, rfl, b20, rfl, l20, row20, hb20'⟩; have hb20 := below_of_drew hb20')
      | (go_at_call 20; (with_reducible refine (toTree_any _ T (Nat.le_refl _) hwt _ _ ?_).mono ?_); (exact Td.keep hb20); rintro e w21 ⟨v21, rfl, t21, hb21, _⟩)
      | (go_at_call 21; (with_reducible refine (stepsOf_any st _ _ rs T v21 _ ?_ ?_ ?_ hz).mono ?_); (exact (rulesAt_of_row row20 H.fits).below hb21 (Nat.le_refl _)); (exact Nat.le_refl _); (exact t21.mono (Nat.zero_le _)); rintro e w22 ⟨x22, rfl, hx22, hb22⟩)
      | fail)
  rw [← HL.out] at hx22
  obtain ⟨ah, ch, rfl, I22, _⟩ := hx22.at
  have hM22 := ((hMd.below hb20).below hb21).below hb22
  have d22 := Below.on (Below.on (Below.on dd hb20 (Nat.le_refl _)) hb21 (Nat.le_refl _)) hb22 (Nat.le_refl _)
  clear hMd dd Xd Yd Hd Td x0 x1 y0 y1 y2 hb20 hb20' hb21 hb22 l20 row20 t21 hx22
  go_wp2_with fail
  refine (eqStepS_self ah av L.length ch cv _ _ hF I22 (V6.below d22) (by omega)).mono ?_
  rintro e w23 ⟨rfl, hb23⟩
  have hM23 := hM22.below hb23
  have d23 := Below.on d22 hb23 (Nat.le_refl _)
  clear hM22 d22 hb23 I22
  go_wp2_with fail
  refine (heldStepS_any ag L.length cgv 1 _ hM23 (by omega) (by omega) (by omega)).mono ?_
  rintro e w24 ⟨rfl, hb24⟩
  go_wp2
  go_ret
  exact ⟨rfl, Below.on c6 (Below.on d23 hb24 (Nat.le_refl _)) (Nat.le_refl _)⟩
end Go.Proofs.Ytcningdeocmbgaa
