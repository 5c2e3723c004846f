/- The walk of FnExactGramFor. -/
import Derived.Test.YtjpkohahabclgaaEForA
import Derived.Test.YtjpkohahabclgaaBox
namespace Go.Proofs.Ytjpkohahabclgaa
open Go.ChangeShapes Go.WideShapes Go.ChangeAt Go.RowKit
set_option maxRecDepth 100000
theorem OwnI.mono {w : World} {B B' U : Nat} {a : Option Addr} {zs : List Int} (h : OwnI w B U a zs) (hB : B' ≤ B) : OwnI w B' U a zs := by
  rcases h with ⟨hm, h | ⟨g, h1, h2⟩⟩
  · exact ⟨hm, .inl h⟩
  · exact ⟨hm, .inr ⟨g, by omega, h2⟩⟩
set_option maxHeartbeats 8000000 in
theorem eFor_law (st : ByteArray) (a : Option Addr) (cap : Nat) (rs : List RuleT) (left : ByteArray) (w : World) (H : RulesAt w a rs) (hs : st.size ≤ maxLen) (hlf : left.size ≤ maxLen) :
    Calls Try.prog 4 #[.agg #[.string st, .slice a rs.length cap], .string left] w fun e w' => e = .returned (.bool true) ∧ Below w.heap.size w w' := by
  have hb1 := (Below.refl w.heap.size w).alloc (Nat.le_refl _) (.cells #[.string st, .slice a rs.length cap] 32)
  have hA1 : GB (w.alloc (.cells #[.string st, .slice a rs.length cap] 32)) w.heap.size 32 st (.slice a rs.length cap) := blk_new _ _ rfl
  have H1 := H.below hb1 (Nat.le_refl _)
  have hzl := hlf
  unfold maxLen at hzl
  by_cases hbz : (1048576 : Int) < (left.size : Int)
  · go_enter Try.func4, Try.ntmps4
    go_wp2
    go_ret
    exact ⟨rfl, hb1⟩
  go_enter Try.func4, Try.ntmps4
  go_wp2_with fail
  refine (szGram_any _ _ _ rs _ _ H1 hs (by omega) (by omega)).mono ?_
  rintro e w2 ⟨rfl, hb2⟩
  have hA2 := hA1.below hb2
  have c2 : Below w.heap.size w w2 := hb1.trans (hb2.mono (by simp))
  clear hb1 H1 hb2 hA1
  obtain ⟨k0, k1⟩ := hA2.cells
  by_cases hneg : szGramM st rs 1048576 < 0
  · go_wp2
    go_ret
    exact ⟨rfl, c2⟩
  obtain ⟨_, n1, n2, n3⟩ := szGram_bounds (st := st) (rs := rs) (left := 1048576) (by omega) (by omega)
  have hnn : decide (szGramM st rs 1048576 < 0) = false := by simpa using hneg
  clear hneg n3
  have hl8 := forL_len st rs left
  go_wp2_with fail
  refine (toGram_any _ _ _ rs _ (H.below c2 (Nat.le_refl _)) n1).mono ?_
  rintro e w3 ⟨v, rfl, b3, rfl, l3, row3, hb3⟩
  have R3 := rulesAt_of_row row3 H.fits
  have hA3 := hA2.below hb3
  have c3 : Below w.heap.size w w3 := Below.on c2 hb3 (Nat.le_refl _)
  clear k0 k1 hA2 row3 hb3 c2
  obtain ⟨k0, k1⟩ := hA3.cells
  go_wp2_with fail
  refine (sGramFor_any _ left _ _ rs _ R3 (Nat.le_refl _)).mono ?_
  rintro e w4 ⟨v, rfl, HV', hb4⟩
  obtain ⟨av, cv, rfl, HV⟩ := HV'.ints (by omega)
  have hA4 := hA3.below hb4
  have c4 : Below w.heap.size w w4 := Below.on c3 hb4 (Nat.le_refl _)
  clear k0 k1 hA3 R3 hb4 c3 HV' l3
  obtain ⟨k0, k1⟩ := hA4.cells
  have lA := hA4.lt
  go_wp2_with fail
  refine (toGram_any _ _ _ rs _ (H.below c4 (Nat.le_refl _)) n1).mono ?_
  rintro e w5 ⟨v, rfl, b5, rfl, l5, row5, hb5⟩
  have R5 := rulesAt_of_row row5 H.fits
  have O5 := OwnRow.of_row (n := rs.length) row5 l5
  have l5' : b5 < w5.heap.size := row5.lt
  have hA5 := hA4.below hb5
  have c5 := Below.on c4 hb5 (Nat.le_refl _)
  have s5 := hb5.size
  have d5 := hb5
  clear k0 k1 hA4 c4 row5 hb5
  -- the variable x0
  have hbx := (Below.refl w5.heap.size w5).alloc (Nat.le_refl _) (.cells #[.string st, .slice (some ⟨b5, 0, none⟩) rs.length rs.length] 24)
  have hX5 : GB (w5.alloc (.cells #[.string st, .slice (some ⟨b5, 0, none⟩) rs.length rs.length] 24)) w5.heap.size 24 st (.slice (some ⟨b5, 0, none⟩) rs.length rs.length) := blk_new _ _ rfl
  have hA5' := hA5.below hbx
  have d5' := Below.on d5 hbx (Nat.le_refl _)
  have R5' := R5.below hbx (Nat.le_refl _)
  have O5' := O5.below hbx
  have c5' := Below.on c5 hbx (Nat.le_refl _)
  clear hA5 R5 O5 c5 hbx d5
  obtain ⟨x0, x1⟩ := hX5.cells
  go_wp2_with fail
  generalize w5.alloc (.cells #[.string st, .slice (some ⟨b5, 0, none⟩) rs.length rs.length] 24) = W5 at *
  have lX := hX5.lt
  refine (gramFor_any _ left _ _ rs _ R5' (Nat.le_refl _) hlf).mono ?_
  rintro e w6 ⟨au, cu, rfl, hO, hb6⟩
  have hA6 := hA5'.below hb6
  have hX6 := hX5.below hb6
  have d6 := Below.on d5' hb6 (Nat.le_refl _)
  have R6 := R5'.below hb6 (Nat.le_refl _)
  have O6 := O5'.below hb6
  have c6 := Below.on c5' hb6 (Nat.le_refl _)
  have s6 := hb6.size
  have hE2 := eqG_refl st rs
  clear x0 x1 hA5' R5' O5' c5' hb6 hX5 d5'
  go_wp2_with fail
  refine (eqIntS_any _ _ _ _ _ _ hO.ints (HV.below d6)).mono ?_
  rintro e w7 ⟨rfl, hb7⟩
  have hA7 := hA6.below hb7
  have hX7 := hX6.below hb7
  have hO7 := hO.below hb7
  have d7 := Below.on d6 hb7 (Nat.le_refl _)
  have R7 := R6.below hb7 (Nat.le_refl _)
  have O7 := O6.below hb7
  have c7 := Below.on c6 hb7 (Nat.le_refl _)
  have s7 := hb7.size
  clear hA6 hX6 hO d6 R6 O6 c6 hb7
  obtain ⟨k0, k1⟩ := hA7.cells
  obtain ⟨x0, x1⟩ := hX7.cells
  have H7 := H.below c7 (Nat.le_refl _)
  have z1 := hA7.lt
  have z2 := hX7.lt
  go_wp2_with fail
  go_region_held3 (fun w' => w'.cell? ⟨w.heap.size, 0, none⟩ = some (.string st) ∧ w'.cell? ⟨w.heap.size, 1, none⟩ = some (.slice a rs.length cap) ∧ w'.cell? ⟨w5.heap.size, 0, none⟩ = some (.string st) ∧ w'.cell? ⟨w5.heap.size, 1, none⟩ = some (.slice (some ⟨b5, 0, none⟩) rs.length rs.length))
    (first
      | go_keep
      | exact keep4 (hb8.trans (hb9.mono hb8.size)) z1 z2 k0 k1 x0 x1
      | exact keep4 hb8 z1 z2 k0 k1 x0 x1)
    (first
      | (go_at_call 21; refine (toGram_any _ _ _ rs _ ?_ n1).mono ?_; (exact H7); rintro e w8 ⟨v, rfl, b8, rfl, l8, row8, hb8'⟩; have hb8 := below_of_drew hb8')
      | (go_at_call 16; refine (eqGram_any _ _ _ _ _ _ rs rs _ ?_ ?_).mono ?_; (exact R7.below hb8 (Nat.le_refl _)); (exact rulesAt_of_row row8 H.fits); rintro e w9 ⟨rfl, hb9⟩))
  have hb79 : Below w7.heap.size w7 w9 := hb8.trans (hb9.mono hb8.size)
  have hA9 := hA7.below hb79
  have hX9 := hX7.below hb79
  have O9 := O7.below hb79
  have hO9 := hO7.below hb79
  have c9 := Below.on c7 hb79 (Nat.le_refl _)
  have d9 := Below.on d7 hb79 (Nat.le_refl _)
  have s9 := hb79.size
  clear hA7 hX7 R7 O7 hO7 c7 d7 hb79 hb8 hb8' hb9 H7 k0 k1 x0 x1 row8 l8 z1 z2
  obtain ⟨x0, x1⟩ := hX9.cells
  -- the marks of x0
  go_wp2_with fail
  refine (markGram_any st _ _ _ 1 w4.heap.size w5.heap.size _ O9 (by omega) n1 (by omega) (by omega)).mono ?_
  rintro e wm ⟨rfl, _, bm, hm1, hm2, ho⟩
  have hAm := hA9.only ho (by omega)
  have hOm := hO9.only ho (by omega)
  have cm : Below w.heap.size w wm := c9.trans (ho.below _ (by omega) (by omega))
  have dm : Below w4.heap.size w4 wm := d9.trans (ho.below _ (by omega) (by omega))
  have sm := ho.size
  have hk0 : ¬ ((1 + rs.length * 2 : Nat) : Int) < 0 := by omega
  clear hA9 hX9 O9 hO9 c9 d9 ho x0 x1
  go_wp2_with fail
  refine (eqIntS_any _ _ _ _ _ _ hOm.ints (HV.below dm)).mono ?_
  rintro e wb ⟨rfl, hbb⟩
  have hAb := hAm.below hbb
  have hOb := hOm.below hbb
  have cb := Below.on cm hbb (Nat.le_refl _)
  have db := Below.on dm hbb (Nat.le_refl _)
  have sb := hbb.size
  clear hAm hOm cm dm hbb hk0
  -- the marks of g0
  go_wp2_with fail
  refine (markOwnI_any _ _ _ 1 W5.heap.size w6.heap.size _ _ hOb rfl (by omega) (by omega) (by omega)).mono ?_
  rintro e wc ⟨rfl, hMc, bn, hn1, hn2, ho⟩
  have hAc := hAb.only ho (by omega)
  have cc : Below w.heap.size w wc := cb.trans (ho.below _ (by omega) (by omega))
  have dc : Below w4.heap.size w4 wc := db.trans (ho.below _ (by omega) (by omega))
  clear hAb hOb cb db ho
  have hq0 : ¬ ((1 + (forL st rs left).length : Nat) : Int) < 0 := by omega
  go_wp2_with fail
  refine (heldIntS_any _ _ _ 1 _ hMc (by omega) (by omega)).mono ?_
  rintro e wd ⟨rfl, hbd⟩
  have hAd := hAc.below hbd
  have hMd := hMc.below hbd
  have cd := Below.on cc hbd (Nat.le_refl _)
  have dd := Below.on dc hbd (Nat.le_refl _)
  clear hAc hMc cc dc hbd
  obtain ⟨k0, k1⟩ := hAd.cells
  go_wp2_with fail
  refine (toGram_any _ _ _ rs _ (H.below cd (Nat.le_refl _)) n1).mono ?_
  rintro e we ⟨v, rfl, be, rfl, le, rowe, hbe⟩
  have Re := rulesAt_of_row rowe H.fits
  have hMe := hMd.below hbe
  have ce := Below.on cd hbe (Nat.le_refl _)
  have de := Below.on dd hbe (Nat.le_refl _)
  clear hAd hMd cd dd hbe k0 k1 rowe
  go_wp2_with fail
  refine (gramFor_any _ left _ _ rs _ Re (Nat.le_refl _) hlf).mono ?_
  rintro e wf ⟨ah, ch, rfl, hOf, hbf⟩
  have hMf := hMe.below hbf
  have cf := Below.on ce hbf (Nat.le_refl _)
  have df := Below.on de hbf (Nat.le_refl _)
  clear hMe ce de hbf Re
  go_wp2_with fail
  refine (eqIntS_any _ _ _ _ _ _ hOf.ints (HV.below df)).mono ?_
  rintro e wh ⟨rfl, hbh⟩
  have hMh := hMf.below hbh
  have ch2 := Below.on cf hbh (Nat.le_refl _)
  clear hMf cf df hbh hOf
  go_wp2_with fail
  refine (heldIntS_any _ _ _ 1 _ hMh (by omega) (by omega)).mono ?_
  rintro e wi ⟨rfl, hbi⟩
  go_wp2
  go_ret
  exact ⟨rfl, Below.on ch2 hbi (Nat.le_refl _)⟩
end Go.Proofs.Ytjpkohahabclgaa
