/- The walk of FnExactTreeSame. -/
import Derived.Test.YtpkejcjjbkgomaaDoorNuE
import Derived.Test.YtpkejcjjbkgomaaDoorSizB
namespace Go.Proofs.YtpkejcjjbkgomaaDoor
open Go.ChangeShapes Go.WideShapes Go.ChangeAt Go.RowKit Go.Deep
set_option maxRecDepth 100000
set_option maxHeartbeats 4000000 in
theorem treeSame_law (vA : Value) (A : Tr) (vB : Value) (B : Tr) (w : World) (HA : TrIn w 0 vA A) (HB : TrIn w 0 vB B) (hp : PowB w.heap.size w) :
    Calls Tryd.prog 3 #[vA, vB] w fun e w' => e = .returned (.bool true) ∧ Below w.heap.size w w' := by
  obtain ⟨s, r, ks, ka, kc, rfl, hTe, _⟩ := HA.open
  clear hTe
  obtain ⟨s', r', ks', ka', kc', rfl, hTe, _⟩ := HB.open
  clear hTe
  have hb1 := ((Below.refl w.heap.size w).alloc (Nat.le_refl _) (.cells #[.string s, .int .i64 r, .slice ka ks.length kc] 24)).alloc (by simp) (.cells #[.string s', .int .i64 r', .slice ka' ks'.length kc'] 24)
  have Y1 := (Box3.new w (.string s) (.int .i64 r) (.slice ka ks.length kc) 24).old (.cells #[.string s', .int .i64 r', .slice ka' ks'.length kc'] 24)
  have Z1 := Box3.new (w.alloc (.cells #[.string s, .int .i64 r, .slice ka ks.length kc] 24)) (.string s') (.int .i64 r') (.slice ka' ks'.length kc') 24
  rw [World.size_alloc] at Z1
  have hszA := sz_le_wt _ A (Nat.le_refl _)
  have hszB := sz_le_wt _ B (Nat.le_refl _)
  obtain ⟨y0, y1, y2⟩ := Y1.2
  obtain ⟨z0, z1, z2⟩ := Z1.2
  go_enter Tryd.func3, Tryd.ntmps3
  go_wp2_with fail
  refine (szTree_any _ A (Nat.le_refl _) _ _ 1048576 (HA.keep hb1) (by omega) (by omega)).mono ?_
  rintro e w3 ⟨⟨v3, rfl, hv1, hv2, hv3⟩, hb3⟩
  have Y3 := Y1.below hb3
  have Z3 := Z1.below hb3
  have c3 := Below.on hb1 hb3 (Nat.le_refl _)
  clear Y1 Z1 y0 y1 y2 z0 z1 z2 hb3 hb1
  by_cases hneg : v3 < 0
  · clear hv3
    go_wp2
    go_ret
    exact ⟨rfl, c3⟩
  have hnn : decide (v3 < 0) = false := by simpa using hneg
  have hv3e := hv3 (by omega)
  have hwA : A.wt ≤ 1048576 := by omega
  clear hv3
  obtain ⟨z0, z1, z2⟩ := Z3.2
  go_wp2_with fail
  refine (szTree_any _ B (Nat.le_refl _) _ _ v3 (HB.keep c3) (by omega) (by omega)).mono ?_
  rintro e w4 ⟨⟨v4, rfl, hu1, hu2, hu3⟩, hb4⟩
  have Y4 := Y3.below hb4
  have Z4 := Z3.below hb4
  have c4 := Below.on c3 hb4 (Nat.le_refl _)
  clear Y3 Z3 z0 z1 z2 hb4
  by_cases hneg2 : v4 < 0
  · clear hu3
    go_wp2
    go_ret
    exact ⟨rfl, c4⟩
  have hnn2 : decide (v4 < 0) = false := by simpa using hneg2
  have hu3e := hu3 (by omega)
  have hwB : B.wt ≤ 1048576 := by omega
  have hzA : A.sz ≤ 2000000 := by omega
  have hzB : B.sz ≤ 2000000 := by omega
  have hzAB : 2 * A.sz + 2 * B.sz ≤ 4000000 := by omega
  clear hu3 hv3e hu3e hszA hszB
  have A4 := HA.keep c4
  have B4 := HB.keep c4
  obtain ⟨y0, y1, y2⟩ := Y4.2
  obtain ⟨z0, z1, z2⟩ := Z4.2
  go_wp2_with fail
  go_region_held3 (fun w' => w'.cell? ⟨w.heap.size, 0, none⟩ = some (.string s) ∧ w'.cell? ⟨w.heap.size, 1, none⟩ = some (.int .i64 r) ∧ w'.cell? ⟨w.heap.size, 2, none⟩ = some (.slice ka ks.length kc) ∧ w'.cell? ⟨w.heap.size + 1, 0, none⟩ = some (.string s') ∧ w'.cell? ⟨w.heap.size + 1, 1, none⟩ = some (.int .i64 r') ∧ w'.cell? ⟨w.heap.size + 1, 2, none⟩ = some (.slice ka' ks'.length kc'))
    (first
      | go_keep
      | with_reducible exact keep6 (((Y4.below hb5).below hb6).below hb7) (((Z4.below hb5).below hb6).below hb7)
      | with_reducible exact keep6 ((Y4.below hb5).below hb6) ((Z4.below hb5).below hb6)
      | with_reducible exact keep6 (Y4.below hb5) (Z4.below hb5)
      | fail)
    (first
      | (go_at_call 13; (with_reducible refine (sTreeSame_any _ A (Nat.le_refl _) B _ _ _ ?_ ?_).mono ?_); (exact (t5.mono (Nat.zero_le _)).keep hb6); (exact t6.mono (Nat.zero_le _)); rintro e w7 ⟨rfl, hb7⟩)
      | (go_at_call 14; (with_reducible refine (toTree_any _ B (Nat.le_refl _) hwB _ _ ?_).mono ?_); (exact B4.keep hb5); rintro e w6 ⟨v6, rfl, t6, hb6, _⟩)
      | (go_at_call 14; (with_reducible refine (toTree_any _ A (Nat.le_refl _) hwA _ _ ?_).mono ?_); (exact A4.drew); rintro e w5 ⟨v5, rfl, t5, hb5', _⟩; have hb5 := below_of_drew hb5')
      | fail)
  have Y7 := ((Y4.below hb5).below hb6).below hb7
  have Z7 := ((Z4.below hb5).below hb6).below hb7
  have c7 := Below.on (Below.on (Below.on c4 hb5 (Nat.le_refl _)) hb6 (Nat.le_refl _)) hb7 (Nat.le_refl _)
  clear Y4 Z4 c4 hb5 hb6 hb7 t5 t6 A4 B4 y0 y1 y2 z0 z1 z2
  obtain ⟨y0, y1, y2⟩ := Y7.2
  go_wp2_with fail
  refine (toTree_any _ A (Nat.le_refl _) hwA _ _ (HA.keep c7)).mono ?_
  rintro e w9 ⟨v9, rfl, t9, hb9, hp9⟩
  have tp9 := MadeTree.trP t9 hp9
  obtain ⟨s9, r9, ks9, ka9, kc9, rfl, hTe9, _⟩ := t9.open
  clear hTe9 hp9
  have bx9 := (Below.refl _ _).alloc (Nat.le_refl w9.heap.size) (.cells #[.string s9, .int .i64 r9, .slice ka9 ks9.length kc9] 29)
  have V10 := Box3.new w9 (.string s9) (.int .i64 r9) (.slice ka9 ks9.length kc9) 29
  have T10 := (t9.mono (Nat.zero_le _)).keep bx9
  have P10 := tp9.keep bx9
  have Y10 := (Y7.below hb9).below bx9
  have Z10 := (Z7.below hb9).below bx9
  have c10 := Below.on (Below.on c7 hb9 (Nat.le_refl _)) bx9 (Nat.le_refl _)
  clear Y7 Z7 c7 hb9 bx9 t9 y0 y1 y2 tp9
  obtain ⟨z0, z1, z2⟩ := Z10.2
  go_wp2_with fail
  refine (toTree_any _ B (Nat.le_refl _) hwB _ _ (HB.keep c10)).mono ?_
  rintro e w11 ⟨v11, rfl, t11, hb11, hp11⟩
  have tp11 := MadeTree.trP t11 hp11
  obtain ⟨s11, r11, ks11, ka11, kc11, rfl, hTe11, _⟩ := t11.open
  clear hTe11 hp11
  have bx11 := (Below.refl _ _).alloc (Nat.le_refl w11.heap.size) (.cells #[.string s11, .int .i64 r11, .slice ka11 ks11.length kc11] 29)
  have U12 := Box3.new w11 (.string s11) (.int .i64 r11) (.slice ka11 ks11.length kc11) 29
  have T12 := (t11.mono (Nat.zero_le _)).keep bx11
  have P12 := tp11.keep bx11
  have V12 := (V10.below hb11).below bx11
  have Q12 := (P10.keep hb11).keep bx11
  have R12 := (T10.keep hb11).keep bx11
  have Y12 := (Y10.below hb11).below bx11
  have Z12 := (Z10.below hb11).below bx11
  have c12 := Below.on (Below.on c10 hb11 (Nat.le_refl _)) bx11 (Nat.le_refl _)
  clear Y10 Z10 V10 P10 T10 c10 hb11 bx11 t11 z0 z1 z2 tp11
  obtain ⟨u0, u1, u2⟩ := U12.2
  obtain ⟨x0, x1, x2⟩ := V12.2
  have HPW := (hp.on c12).up c12.size
  go_wp2_with fail
  refine (treeSame_any A B _ _ _ _ _ Q12 P12 hzA hzB hzAB HPW).mono ?_
  rintro e w13 ⟨rfl, hb13⟩
  have V13 := V12.below hb13
  have U13 := U12.below hb13
  have R13 := R12.keep hb13
  have T13 := T12.keep hb13
  have Y13 := Y12.below hb13
  have Z13 := Z12.below hb13
  have c13 := Below.on c12 hb13 (Nat.le_refl _)
  clear V12 U12 R12 T12 Q12 P12 Y12 Z12 c12 hb13 u0 u1 u2 x0 x1 x2 HPW
  have HA13 := HA.keep c13
  have hne : (sameT A B != sameT A B) = false := by simp
  have heq : (sameT A B == sameT A B) = true := by simp
  obtain ⟨y0, y1, y2⟩ := Y13.2
  obtain ⟨x0, x1, x2⟩ := V13.2
  go_wp2_with fail
  go_region_held3 (fun w' => w'.cell? ⟨w.heap.size, 0, none⟩ = some (.string s) ∧ w'.cell? ⟨w.heap.size, 1, none⟩ = some (.int .i64 r) ∧ w'.cell? ⟨w.heap.size, 2, none⟩ = some (.slice ka ks.length kc) ∧ w'.cell? ⟨w9.heap.size, 0, none⟩ = some (.string s9) ∧ w'.cell? ⟨w9.heap.size, 1, none⟩ = some (.int .i64 r9) ∧ w'.cell? ⟨w9.heap.size, 2, none⟩ = some (.slice ka9 ks9.length kc9))
    (first
      | go_keep
      | with_reducible exact keep6 ((Y13.below hb14).below hb15) ((V13.below hb14).below hb15)
      | with_reducible exact keep6 (Y13.below hb14) (V13.below hb14)
      | fail)
    (first
      | (go_at_call 14; (with_reducible refine (toTree_any _ A (Nat.le_refl _) hwA _ _ ?_).mono ?_); (exact HA13.drew); rintro e w14 ⟨v14, rfl, t14, hb14', _⟩; have hb14 := below_of_drew hb14')
      | (go_at_call 16; (with_reducible refine (eqTree_any _ A (Nat.le_refl _) _ _ _ ?_ ?_).mono ?_); (exact R13.keep hb14); (exact t14.mono (Nat.zero_le _)); rintro e w15 ⟨rfl, hb15⟩)
      | fail)
  have U15 := (U13.below hb14).below hb15
  have Z15 := (Z13.below hb14).below hb15
  have T15 := (T13.keep hb14).keep hb15
  have c15 := Below.on (Below.on c13 hb14 (Nat.le_refl _)) hb15 (Nat.le_refl _)
  clear V13 U13 R13 T13 Y13 Z13 c13 HA13 hb14 hb15 y0 y1 y2 x0 x1 x2
  have HB15 := HB.keep c15
  obtain ⟨z0, z1, z2⟩ := Z15.2
  obtain ⟨u0, u1, u2⟩ := U15.2
  go_wp2_with fail
  go_region_held3 (fun w' => w'.cell? ⟨w.heap.size + 1, 0, none⟩ = some (.string s') ∧ w'.cell? ⟨w.heap.size + 1, 1, none⟩ = some (.int .i64 r') ∧ w'.cell? ⟨w.heap.size + 1, 2, none⟩ = some (.slice ka' ks'.length kc') ∧ w'.cell? ⟨w11.heap.size, 0, none⟩ = some (.string s11) ∧ w'.cell? ⟨w11.heap.size, 1, none⟩ = some (.int .i64 r11) ∧ w'.cell? ⟨w11.heap.size, 2, none⟩ = some (.slice ka11 ks11.length kc11))
    (first
      | go_keep
      | with_reducible exact keep6 ((Z15.below hb16).below hb17) ((U15.below hb16).below hb17)
      | with_reducible exact keep6 (Z15.below hb16) (U15.below hb16)
      | fail)
    (first
      | (go_at_call 14; (with_reducible refine (toTree_any _ B (Nat.le_refl _) hwB _ _ ?_).mono ?_); (exact HB15.drew); rintro e w16 ⟨v16, rfl, t16, hb16', _⟩; have hb16 := below_of_drew hb16')
      | (go_at_call 16; (with_reducible refine (eqTree_any _ B (Nat.le_refl _) _ _ _ ?_ ?_).mono ?_); (exact T15.keep hb16); (exact t16.mono (Nat.zero_le _)); rintro e w17 ⟨rfl, hb17⟩)
      | fail)
  go_wp2_with fail
  go_ret
  exact ⟨rfl, Below.on (Below.on c15 hb16 (Nat.le_refl _)) hb17 (Nat.le_refl _)⟩
end Go.Proofs.YtpkejcjjbkgomaaDoor
