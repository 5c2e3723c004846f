/- The walk of FnGramOnly. -/
import Derived.Test.YtmmkeaciaolapaaOnlyE
import Derived.Deep.RegionHeld3
namespace Go.Proofs.Ytmmkeaciaolapaa
open Go.ChangeShapes Go.WideShapes Go.ChangeAt Go.RowKit
set_option maxRecDepth 100000
theorem lit_at (w : World) (zs : List Int) (T : TypeId) (h : zs.length ≤ 1000) : IntsAt (w.alloc (.cells (zs.map (Value.int .i64)).toArray T)) (some ⟨w.heap.size, 0, none⟩) zs :=
  ⟨by unfold maxLen; omega, fun i hi => ⟨w.heap.size, 0, rfl, by simp, by rw [Nat.zero_add]; exact lit_ints w zs T i hi⟩⟩
theorem keep2b {w w' : World} (hb : Below w.heap.size w w') {b c : Nat} {v0 v1 u0 u1 : Value} (h : BoxG w b v0 v1) (k : BoxG w c u0 u1) : w'.cell? ⟨b, 0, none⟩ = some v0 ∧ w'.cell? ⟨b, 1, none⟩ = some v1 ∧ w'.cell? ⟨c, 0, none⟩ = some u0 ∧ w'.cell? ⟨c, 1, none⟩ = some u1 :=
  ⟨(h.below hb).cells.1, (h.below hb).cells.2.1, (k.below hb).cells.1, (k.below hb).cells.2.1⟩
set_option maxHeartbeats 8000000 in
theorem gramOnly_law (a : Option Addr) (n cap : Nat) (w : World) (H : BytesAt w a n cap) :
    Calls Try.prog 6 #[.slice a n cap] w fun e w' => e = .returned (.bool true) ∧ Below w.heap.size w w' := by
  have hm := H.2.1
  unfold maxLen at hm
  by_cases h : (1048576 : Int) < (n : Int)
  · go_enter Try.func6, Try.ntmps6
    go_wp2
    go_ret
    exact ⟨rfl, Below.refl _ _⟩
  go_enter Try.func6, Try.ntmps6
  go_wp2_with fail
  refine (drawGramOnly_any a n cap w H).mono ?_
  rintro e w1 ⟨v1, st, rs, gz, zs, cz, rfl, ⟨b, off, c1, rfl, hc1, hR1, hl1, hs1, hS1, hb1⟩, hI1, hzl, hB1⟩
  have hbw := (Below.refl w1.heap.size w1).alloc (Nat.le_refl _) (.cells #[.string st, .slice (some ⟨b, off, none⟩) rs.length c1] 25)
  have hR2 := hR1.below hbw (Nat.le_refl _)
  have hI2 := hI1.below hbw
  have hG : BoxG (w1.alloc (.cells #[.string st, .slice (some ⟨b, off, none⟩) rs.length c1] 25)) w1.heap.size (.string st) (.slice (some ⟨b, off, none⟩) rs.length c1) := blk_new _ _ rfl
  have hB2 : Below w.heap.size w (w1.alloc (.cells #[.string st, .slice (some ⟨b, off, none⟩) rs.length c1] 25)) := hB1.alloc hB1.size _
  clear hR1 hI1 hbw hB1
  cases hok : gramOkB st rs with
  | false =>
    go_wp2_with fail
    refine (gramOnly_bad st (some ⟨b, off, none⟩) c1 rs _ _ hR2 hc1 hok).mono ?_
    rintro e w3 ⟨rfl, hb3⟩
    have hX : BoxG (w3.alloc (.cells #[.string ⟨#[]⟩, .slice none 0 0] 25)) w3.heap.size (.string ⟨#[]⟩) (.slice none 0 0) := blk_new _ _ rfl
    have hG4 := (hG.below hb3).old (.cells #[.string ⟨#[]⟩, .slice none 0 0] 25)
    have hR4 := (hR2.below hb3 (Nat.le_refl _)).alloc (.cells #[.string ⟨#[]⟩, .slice none 0 0] 25)
    have hB4 : Below w.heap.size w (w3.alloc (.cells #[.string ⟨#[]⟩, .slice none 0 0] 25)) := (hB2.trans (hb3.mono hB2.size)).alloc (hB2.trans (hb3.mono hB2.size)).size _
    clear hG hR2 hI2 hB2 hb3
    generalize w1.heap.size = G at *
    go_upto_region 5 with fail
    generalize w3.alloc (.cells #[.string ⟨#[]⟩, .slice none 0 0] 25) = W at *
    generalize w3.heap.size = X at *
    obtain ⟨g0, g1, _, _⟩ := hG4.cells
    obtain ⟨x0, x1, _, _⟩ := hX.cells
    go_region_held3 (fun w' => w'.cell? ⟨G, 0, none⟩ = some (.string st) ∧ w'.cell? ⟨G, 1, none⟩ = some (.slice (some ⟨b, off, none⟩) rs.length c1) ∧ w'.cell? ⟨X, 0, none⟩ = some (.string ⟨#[]⟩) ∧ w'.cell? ⟨X, 1, none⟩ = some (.slice none 0 0))
      (first
        | go_keep
        | exact keep2b hT hG4 hX)
      (first
        | (go_at_call 38; refine (sGramOnly_bad _ _ _ rs _ _ ?_ hc1 hok).mono ?_; (exact hR4); rintro e wA ⟨rfl, hT'⟩; have hT := below_of_drew hT')
        | (go_at_call 21; refine (noneSame _).mono ?_; rintro e wF ⟨rfl, hT5⟩; replace hT := hT.trans (hT5.mono hT.size)))
    have hGF := hG4.below hT
    have hXF := hX.below hT
    have hRF := hR4.below hT (Nat.le_refl _)
    have hBF : Below w.heap.size w wF := hB4.trans (hT.mono hB4.size)
    clear hG4 hX hR4 hB4 hT x0 x1 g0 g1
    obtain ⟨g0, g1, _, _⟩ := hGF.cells
    go_wp2_with fail
    refine (sGramOk_any st (some ⟨b, off, none⟩) c1 rs _ hRF hc1).mono ?_
    rintro e w5 ⟨rfl, hb5⟩
    rw [hok]
    obtain ⟨x0, x1, _, _⟩ := (hXF.below hb5).cells
    go_wp2_with fail
    refine (noneSame _).mono ?_
    rintro e w6 ⟨rfl, hb6⟩
    go_wp2
    go_ret
    exact ⟨rfl, (hBF.trans (hb5.mono hBF.size)).trans (hb6.mono (hBF.trans (hb5.mono hBF.size)).size)⟩
  | true =>
    obtain ⟨f1, f2, _⟩ := gramOk_facts hok
    go_wp2_with fail
    refine (gramOnly_any st (some ⟨b, off, none⟩) (some ⟨gz, 0, none⟩) c1 cz rs zs _ hR2 hc1 hok hI2).mono ?_
    rintro e w3 ⟨v3, rfl, hown3, hb3⟩
    have hus := only_sub rs zs
    have hul := hus.length_le
    have hUS := onlyTo_small (zs := zs) hS1 rs.length
    have hoku := ok_only zs hok
    obtain ⟨au, cu, rfl, hcu, hU3⟩ := hown3.at hUS (by omega)
    generalize hUU : onlyTo rs zs rs.length = us at *
    have hX : BoxG (w3.alloc (.cells #[.string st, .slice au us.length cu] 25)) w3.heap.size (.string st) (.slice au us.length cu) := blk_new _ _ rfl
    have hG4 := (hG.below hb3).old (.cells #[.string st, .slice au us.length cu] 25)
    have hR4 := (hR2.below hb3 (Nat.le_refl _)).alloc (.cells #[.string st, .slice au us.length cu] 25)
    have hU4 := hU3.alloc (.cells #[.string st, .slice au us.length cu] 25)
    have hI4 := (hI2.below hb3).below ((Below.refl _ _).alloc (Nat.le_refl _) (.cells #[.string st, .slice au us.length cu] 25))
    have hB4 : Below w.heap.size w (w3.alloc (.cells #[.string st, .slice au us.length cu] 25)) := (hB2.trans (hb3.mono hB2.size)).alloc (hB2.trans (hb3.mono hB2.size)).size _
    clear hG hR2 hI2 hB2 hb3 hown3 hU3 hus
    generalize w1.heap.size = G at *
    go_upto_region 5 with fail
    generalize w3.alloc (.cells #[.string st, .slice au us.length cu] 25) = W at *
    generalize w3.heap.size = X at *
    obtain ⟨g0, g1, _, _⟩ := hG4.cells
    obtain ⟨x0, x1, _, _⟩ := hX.cells
    have hE := eqG_refl st us
    go_region_held3 (fun w' => w'.cell? ⟨G, 0, none⟩ = some (.string st) ∧ w'.cell? ⟨G, 1, none⟩ = some (.slice (some ⟨b, off, none⟩) rs.length c1) ∧ w'.cell? ⟨X, 0, none⟩ = some (.string st) ∧ w'.cell? ⟨X, 1, none⟩ = some (.slice au us.length cu))
      (first
        | go_keep
        | exact keep2b hT hG4 hX
        | fail)
      (first
        | (go_at_call 38; refine (sGramOnly_any st (some ⟨b, off, none⟩) (some ⟨gz, 0, none⟩) c1 cz rs zs _ ?_ hc1 hok ?_).mono ?_; (exact hR4); (exact hI4); rintro e wA ⟨vA, rfl, hoA, hT'⟩; have hT := below_of_drew hT'; rw [hUU] at hoA; obtain ⟨gA, cA, rfl, _, hcA, _, hUA⟩ := hoA.at hUS (by omega))
        | (go_at_call 21; refine (gramSame_any st st au (some ⟨gA, 0, none⟩) cu cA us us _ ?_ ?_).mono ?_; (exact hU4.below hT (Nat.le_refl _)); (exact hUA); rintro e wF ⟨rfl, hT5⟩; rw [hE]; replace hT := hT.trans (hT5.mono hT.size))
        | fail)
    have hGF := hG4.below hT
    have hXF := hX.below hT
    have hRF := hR4.below hT (Nat.le_refl _)
    have hUF := hU4.below hT (Nat.le_refl _)
    have hBF : Below w.heap.size w wF := hB4.trans (hT.mono hB4.size)
    clear hG4 hX hR4 hB4 hT x0 x1 g0 g1 hU4 hI4 hUA hoA
    obtain ⟨g0, g1, _, _⟩ := hGF.cells
    go_wp2_with fail
    refine (sGramOk_any st (some ⟨b, off, none⟩) c1 rs _ hRF hc1).mono ?_
    rintro e w5 ⟨rfl, hb5⟩
    rw [hok]
    have hG5 := hGF.below hb5
    have hX5 := hXF.below hb5
    have hR5 := hRF.below hb5 (Nat.le_refl _)
    have hU5 := hUF.below hb5 (Nat.le_refl _)
    have hB5 : Below w.heap.size w w5 := hBF.trans (hb5.mono hBF.size)
    clear hGF hXF hRF hUF hBF hb5 g0 g1
    obtain ⟨g0, g1, _, _⟩ := hG5.cells
    obtain ⟨x0, x1, _, _⟩ := hX5.cells
    have hEr := eqG_refl st rs
    have hle : decide ((us.length : Int) ≤ (rs.length : Int)) = true := by simp; omega
    have hleN : decide (us.length ≤ rs.length) = true := by simp; omega
    have hAd := only_all (rs := rs) (zs := [7, 6, 5, 4, 3, 2, 1, 0]) (fun i hi => down_has i (by omega))
    have hAu := only_all (rs := us) (zs := [0, 1, 2, 3, 4, 5, 6, 7]) (fun i hi => up_has i (by omega))
    go_upto_region 9 with fail
    go_region_held3 (fun w' => w'.cell? ⟨G, 0, none⟩ = some (.string st) ∧ w'.cell? ⟨G, 1, none⟩ = some (.slice (some ⟨b, off, none⟩) rs.length c1) ∧ w'.cell? ⟨X, 0, none⟩ = some (.string st) ∧ w'.cell? ⟨X, 1, none⟩ = some (.slice au us.length cu))
      (first
        | go_keep
        | exact keep2b hT hG5 hX5
        | fail)
      (first
        | (go_at_call 21; have hq := hM2; refine (gramSame_any st st aD au cD cu us us _ ?_ ?_).mono ?_; (exact hUD); (exact hU5.below hT (Nat.le_refl _)); rintro e wE ⟨rfl, hT4⟩; rw [hE]; replace hT := hT.trans (hT4.mono hT.size))
        | (go_at_call 21; refine (gramSame_any st st aB (some ⟨b, off, none⟩) cB c1 rs rs _ ?_ ?_).mono ?_; (exact hRB); (exact hR5.below hT (Nat.le_refl _)); rintro e wC ⟨rfl, hT2⟩; rw [hEr]; replace hT := hT.trans (hT2.mono hT.size); have hM1 := hT)
        | (go_at_call 37; have hq := hM1; refine (gramOnly_any st au (some ⟨wC.heap.size, 0, none⟩) cu 8 us [0, 1, 2, 3, 4, 5, 6, 7] _ ?_ hcu hoku ?_).mono ?_; (exact hU5.below (hT.alloc hT.size _) (Nat.le_refl _)); (exact lit_at wC [0, 1, 2, 3, 4, 5, 6, 7] _ (by decide)); rintro e wD ⟨vD, rfl, hoD, hT3⟩; replace hT := (hT.alloc hT.size _).trans (hT3.mono (hT.alloc hT.size _).size); rw [hAu] at hoD; obtain ⟨aD, cD, rfl, hcD, hUD⟩ := hoD.at hUS (by omega); have hM2 := hT)
        | (go_at_call 37; refine (gramOnly_any st (some ⟨b, off, none⟩) (some ⟨wA.heap.size, 0, none⟩) c1 8 rs [7, 6, 5, 4, 3, 2, 1, 0] _ ?_ hc1 hok ?_).mono ?_; (exact hR5.below (hT.alloc hT.size _) (Nat.le_refl _)); (exact lit_at wA [7, 6, 5, 4, 3, 2, 1, 0] _ (by decide)); rintro e wB ⟨vB, rfl, hoB, hT1⟩; replace hT := (hT.alloc hT.size _).trans (hT1.mono (hT.alloc hT.size _).size); rw [hAd] at hoB; obtain ⟨aB, cB, rfl, hcB, hRB⟩ := hoB.at hS1 (by omega))
        | (go_at_call 19; refine (gramOk_any st au cu us _ ?_ hcu).mono ?_; (exact hU5); rintro e wA ⟨rfl, hT'⟩; rw [hoku]; have hT := below_of_drew hT')
        | fail)
    go_wp2
    go_ret
    exact ⟨rfl, hB5.trans (hT.mono hB5.size)⟩
end Go.Proofs.Ytmmkeaciaolapaa
