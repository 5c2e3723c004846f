/- The walk of FnExactTreeYield. -/
import Derived.Test.YtpbimoodihbliaaYldB
namespace Go.Proofs.Ytpbimoodihbliaa
open Go.ChangeShapes Go.WideShapes Go.ChangeAt Go.RowKit Go.Deep
set_option maxRecDepth 100000
set_option maxHeartbeats 4000000 in
theorem treeYield_law (v : Value) (T : Tr) (w : World) (HT : TrIn w 0 v T) :
    Calls Try.prog 7 #[v] w fun e w' => e = .returned (.bool true) ∧ Below w.heap.size w w' := by
  obtain ⟨s, r, ks, ka, kc, rfl, hTe, _⟩ := HT.open
  clear hTe
  have hb1 := (Below.refl w.heap.size w).alloc (Nat.le_refl _) (.cells #[.string s, .int .i64 r, .slice ka ks.length kc] 28)
  have Y1 := Box3.new w (.string s) (.int .i64 r) (.slice ka ks.length kc) 28
  have hszw := sz_le_wt _ T (Nat.le_refl _)
  obtain ⟨y0, y1, y2⟩ := Y1.2
  go_enter Try.func7, Try.ntmps7
  go_wp2_with fail
  refine (szTree_any _ T (Nat.le_refl _) _ _ 1048576 (HT.keep hb1) (by omega) (by omega)).mono ?_
  rintro e w3 ⟨⟨v3, rfl, hv1, hv2, hv3⟩, hb3⟩
  have Y3 := Y1.below hb3
  have c3 := Below.on hb1 hb3 (Nat.le_refl _)
  clear Y1 y0 y1 y2 hb3 hb1
  by_cases hneg2 : v3 < 0
  · clear hv3
    go_wp2
    go_ret
    exact ⟨rfl, c3⟩
  have hwt : T.wt ≤ 1048576 := by have := hv3 (by omega); omega
  have hnn2 : decide (v3 < 0) = false := by simpa using hneg2
  have hz : T.sz ≤ 2000000 := by omega
  have T3 := HT.keep c3
  obtain ⟨y0, y1, y2⟩ := Y3.2
  clear hv3
  go_wp2_with fail
  refine (toTree_any _ T (Nat.le_refl _) hwt _ _ T3).mono ?_
  rintro e w5 ⟨v5, rfl, t5, hb5, hp5⟩
  obtain ⟨s5, r5, ks5, ka5, kc5, rfl, hTe5, _⟩ := t5.open
  clear hTe5
  have Y5 := Y3.below hb5
  have c5 := Below.on c3 hb5 (Nat.le_refl _)
  clear Y3 y0 y1 y2 hb5 T3
  go_wp2_with fail
  refine (sTreeYield_any T hz _ _ (t5.mono (Nat.zero_le _))).mono ?_
  rintro e w6 ⟨rfl, hb6⟩
  have Y6 := Y5.below hb6
  have c6 := Below.on c5 hb6 (Nat.le_refl _)
  obtain ⟨y0, y1, y2⟩ := Y6.2
  clear Y5 hb6 t5 hp5
  go_wp2_with fail
  refine (toTree_any _ T (Nat.le_refl _) hwt _ _ (HT.keep c6)).mono ?_
  rintro e w9 ⟨v9, rfl, t9, hb9, hp9⟩
  have tp9 := MadeTree.trP t9 hp9
  obtain ⟨s9, r9, ks9, ka9, kc9, rfl, hTe9, _⟩ := t9.open
  clear hTe9
  have bx9 := (Below.refl _ _).alloc (Nat.le_refl w9.heap.size) (.cells #[.string s9, .int .i64 r9, .slice ka9 ks9.length kc9] 38)
  have V10 := Box3.new w9 (.string s9) (.int .i64 r9) (.slice ka9 ks9.length kc9) 38
  have T10 := (t9.mono (Nat.zero_le _)).keep bx9
  have P10 := tp9.keep bx9
  have Y10 := (Y6.below hb9).below bx9
  have c10 := Below.on (Below.on c6 hb9 (Nat.le_refl _)) bx9 (Nat.le_refl _)
  clear Y6 c6 hb9 bx9 t9 y0 y1 y2 tp9
  obtain ⟨u0, u1, u2⟩ := V10.2
  go_wp2_with fail
  refine (treeYield_any T _ _ P10 hz).mono ?_
  rintro e w11 ⟨rfl, hb11⟩
  have V13 := V10.below hb11
  have T13 := T10.keep hb11
  have Y13 := Y10.below hb11
  have c13 := Below.on c10 hb11 (Nat.le_refl _)
  clear V10 T10 P10 Y10 c10 hb11 u0 u1 u2
  have HT13 := HT.keep c13
  obtain ⟨y0, y1, y2⟩ := Y13.2
  obtain ⟨u0, u1, u2⟩ := V13.2
  generalize bytesOf (yieldL T) = yv at *
  have hne : (yv.toList != yv.toList) = false := by simp
  go_wp2_with fail
  go_region_held3 (fun w' => w'.cell? ⟨w.heap.size, 0, none⟩ = some (.string s) ∧ w'.cell? ⟨w.heap.size, 1, none⟩ = some (.int .i64 r) ∧ w'.cell? ⟨w.heap.size, 2, none⟩ = some (.slice ka ks.length kc) ∧ w'.cell? ⟨w9.heap.size, 0, none⟩ = some (.string s9) ∧ w'.cell? ⟨w9.heap.size, 1, none⟩ = some (.int .i64 r9) ∧ w'.cell? ⟨w9.heap.size, 2, none⟩ = some (.slice ka9 ks9.length kc9))
    (first
      | go_keep
      | with_reducible exact keep6 ((Y13.below hb14).below hb15) ((V13.below hb14).below hb15)
      | with_reducible exact keep6 (Y13.below hb14) (V13.below hb14)
      | fail)
    (first
      | (go_at_call 19; (with_reducible refine (toTree_any _ T (Nat.le_refl _) hwt _ _ ?_).mono ?_); (exact HT13.drew); rintro e w14 ⟨v14, rfl, t14, hb14', _⟩; have hb14 := below_of_drew hb14')
      | (go_at_call 22; (with_reducible refine (eqTree_any _ T (Nat.le_refl _) _ _ _ ?_ ?_).mono ?_); (exact T13.keep hb14); (exact t14.mono (Nat.zero_le _)); rintro e w15 ⟨rfl, hb15⟩)
      | fail)
  go_wp2_with fail
  go_ret
  exact ⟨rfl, Below.on (Below.on c13 hb14 (Nat.le_refl _)) hb15 (Nat.le_refl _)⟩
end Go.Proofs.Ytpbimoodihbliaa
