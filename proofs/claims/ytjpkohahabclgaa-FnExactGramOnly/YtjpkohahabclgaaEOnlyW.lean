/- The walk of FnExactGramOnly. -/
import Derived.Test.YtjpkohahabclgaaIntA
import Derived.Test.YtjpkohahabclgaaBox
namespace Go.Proofs.Ytjpkohahabclgaa
open Go.ChangeShapes Go.WideShapes Go.ChangeAt Go.RowKit
set_option maxRecDepth 100000
theorem ok_smallR {st : ByteArray} {rs : List RuleT} (h : gramOkB st rs = true) : SmallR rs := by
  intro r hr
  obtain ⟨i, hi, rfl⟩ := List.getElem_of_mem hr
  have := (gramOk_facts h).2.2 i hi
  omega
theorem onlyTo_mem (rs : List RuleT) (zs : List Int) : ∀ k, ∀ r ∈ onlyTo rs zs k, r ∈ rs
  | 0, _, h => by cases h
  | k + 1, r, h => by
    rcases List.mem_append.1 h with h | h
    · exact onlyTo_mem rs zs k r h
    · split at h
      · exact List.mem_of_getElem? (by simpa using h)
      · cases h
def onlyS (st : ByteArray) (rs : List RuleT) : ByteArray := if gramOkB st rs = true then st else ⟨#[]⟩
def onlyR (st : ByteArray) (rs : List RuleT) (zs : List Int) : List RuleT := if gramOkB st rs = true then onlyTo rs zs rs.length else []
theorem onlyR_small (st : ByteArray) (rs : List RuleT) (zs : List Int) : SmallR (onlyR st rs zs) ∧ (onlyR st rs zs).length ≤ 1000 := by
  unfold onlyR
  split
  · rename_i hok
    refine ⟨fun r hr => ok_smallR hok r (onlyTo_mem rs zs _ r hr), ?_⟩
    have h1 := (gramOk_facts hok).2.1
    have h2 := onlyTo_len rs zs rs.length
    omega
  · exact ⟨(fun r hr => by cases hr), (by simp)⟩
/-- GramOnly gives rules of its own -/
theorem gramOnly_own (st : ByteArray) (a a' : Option Addr) (cap cap' : Nat) (rs : List RuleT) (zs : List Int) (w : World) (H : RulesAt w a rs) (hcap : rs.length ≤ cap) (HZ : IntsAt w a' zs) :
    Calls Try.prog 28 #[.agg #[.string st, .slice a rs.length cap], .slice a' zs.length cap'] w fun e w' => ∃ au cu, e = .returned (.agg #[.string (onlyS st rs), .slice au (onlyR st rs zs).length cu]) ∧ (onlyR st rs zs).length ≤ cu ∧ RulesAt w' au (onlyR st rs zs) ∧ OwnN w' w.heap.size (.slice au (onlyR st rs zs).length cu) (onlyR st rs zs) ∧ Below w.heap.size w w' := by
  obtain ⟨hsm, hsl⟩ := onlyR_small st rs zs
  cases hok : gramOkB st rs with
  | false =>
    have e1 : onlyS st rs = ⟨#[]⟩ := by simp [onlyS, hok]
    have e2 : onlyR st rs zs = [] := by simp [onlyR, hok]
    refine (gramOnly_bad st a cap rs _ w H hcap hok).mono ?_
    rintro e w' ⟨rfl, hb⟩
    rw [e1, e2]
    exact ⟨none, 0, rfl, Nat.le_refl _, ⟨by simp [maxLen], fun i h => absurd h (Nat.not_lt_zero i)⟩, ⟨rfl, .inl ⟨rfl, rfl⟩⟩, hb⟩
  | true =>
    have e1 : onlyS st rs = st := by simp [onlyS, hok]
    have e2 : onlyR st rs zs = onlyTo rs zs rs.length := by simp [onlyR, hok]
    rw [e2] at hsm hsl
    refine (gramOnly_any st a a' cap cap' rs zs w H hcap hok HZ).mono ?_
    rintro e w' ⟨v, rfl, hO, hb⟩
    rw [e1, e2]
    obtain ⟨au, cu, rfl, hcu, HU⟩ := OwnN.at hO hsm hsl
    exact ⟨au, cu, rfl, hcu, HU, hO, hb⟩
theorem sGramOnly_bad (st : ByteArray) (a : Option Addr) (cap : Nat) (rs : List RuleT) (v : Value) (w : World) (H : RulesAt w a rs) (hcap : rs.length ≤ cap) (hok : gramOkB st rs = false) :
    Calls Try.prog 26 #[.agg #[.string st, .slice a rs.length cap], v] w fun e w' => e = .returned (.agg #[.string ⟨#[]⟩, .slice none 0 0]) ∧ Below w.heap.size w w' := by
  have hb1 := ((((Below.refl w.heap.size w).alloc (Nat.le_refl _) (.cells #[.string st, .slice a rs.length cap] 24)).alloc (by simp) (.cells #[.string ⟨#[]⟩, .slice none 0 0] 24)).alloc (by simp; omega) (.cells #[] 55)).alloc (by simp; omega) (.cells #[.string st, .slice (some ⟨w.heap.size + 2, 0, none⟩) 0 0] 24)
  have hZ : BoxG ((((w.alloc (.cells #[.string st, .slice a rs.length cap] 24)).alloc (.cells #[.string ⟨#[]⟩, .slice none 0 0] 24)).alloc (.cells #[] 55)).alloc (.cells #[.string st, .slice (some ⟨w.heap.size + 2, 0, none⟩) 0 0] 24)) (w.heap.size + 1) (.string ⟨#[]⟩) (.slice none 0 0) := BoxG.old (BoxG.old (blk_new _ _ (by simp)) _) _
  go_enter Try.func26, Try.ntmps26
  go_wp2_with fail
  refine (sGramOk_any _ _ _ rs _ (H.below hb1 (Nat.le_refl _)) hcap).mono ?_
  rintro e w2 ⟨rfl, hb2⟩
  rw [hok]
  have c2 : Below w.heap.size w w2 := hb1.trans (hb2.mono (by simp; omega))
  obtain ⟨z0, z1, zf0, zf1⟩ := (hZ.below hb2).cells
  clear hb2 hb1 hZ
  go_wp2
  exact bodyPost_ret (v := .agg #[.string ⟨#[]⟩, .slice none 0 0]) (by simp [results, Try.results26, go_sem, z0, z1]) rfl ⟨rfl, (c2.setCell (p := ⟨w.heap.size + 1, 0, none⟩) (Nat.le_succ _) _).setCell (p := ⟨w.heap.size + 1, 1, none⟩) (Nat.le_succ _) _⟩
theorem sGramOnly_all (st : ByteArray) (a a' : Option Addr) (cap cap' : Nat) (rs : List RuleT) (zs : List Int) (w : World) (H : RulesAt w a rs) (hcap : rs.length ≤ cap) (HZ : IntsAt w a' zs) :
    Calls Try.prog 26 #[.agg #[.string st, .slice a rs.length cap], .slice a' zs.length cap'] w fun e w' => ∃ au cu, e = .returned (.agg #[.string (onlyS st rs), .slice au (onlyR st rs zs).length cu]) ∧ (onlyR st rs zs).length ≤ cu ∧ RulesAt w' au (onlyR st rs zs) ∧ Below w.heap.size w w' := by
  obtain ⟨hsm, hsl⟩ := onlyR_small st rs zs
  cases hok : gramOkB st rs with
  | false =>
    have e1 : onlyS st rs = ⟨#[]⟩ := by simp [onlyS, hok]
    have e2 : onlyR st rs zs = [] := by simp [onlyR, hok]
    refine (sGramOnly_bad st a cap rs _ w H hcap hok).mono ?_
    rintro e w' ⟨rfl, hb⟩
    rw [e1, e2]
    exact ⟨none, 0, rfl, Nat.le_refl _, ⟨by simp [maxLen], fun i h => absurd h (Nat.not_lt_zero i)⟩, hb⟩
  | true =>
    have e1 : onlyS st rs = st := by simp [onlyS, hok]
    have e2 : onlyR st rs zs = onlyTo rs zs rs.length := by simp [onlyR, hok]
    rw [e2] at hsm hsl
    refine (sGramOnly_any st a a' cap cap' rs zs w H hcap hok HZ).mono ?_
    rintro e w' ⟨v, rfl, hO, hb⟩
    rw [e1, e2]
    obtain ⟨g, cu, rfl, _, hcu, _, HU⟩ := OwnR.at hO hsm hsl
    exact ⟨_, cu, rfl, hcu, HU, hb⟩
theorem OwnN.rules {w : World} {B : Nat} {a : Option Addr} {n cap : Nat} {rs : List RuleT} (h : OwnN w B (.slice a n cap) rs) (hs : SmallR rs) (hl : rs.length ≤ 1000) : RulesAt w a rs := by
  obtain ⟨a', cap', e, _, hR⟩ := h.at hs hl
  simp only [Value.slice.injEq] at e
  rw [e.1]; exact hR
theorem OwnN.only {R : Nat} {w w' : World} {B : Nat} {v : Value} {rs : List RuleT} (h : OwnN w B v rs) (hb : Only R w w') (hR : R < B ∨ w.heap.size ≤ R) : OwnN w' B v rs := by
  refine ⟨h.1, ?_⟩
  rcases h.2 with h0 | ⟨g, cap, cur, hv, hg, hh, hl, hm, hs, ht⟩
  · exact .inl h0
  · have hlt := (Array.getElem?_eq_some_iff.1 hh).1
    exact .inr ⟨g, cap, cur, hv, hg, by rw [hb.block g hlt (by omega)]; exact hh, hl, hm, hs, ht⟩
theorem rowIs_only {R : Nat} {w w' : World} {b n : Nat} {T : TypeId} {f : Nat → Value} (h : w.rowIs b T n f) (hb : Only R w w') (hR : b ≠ R) : w'.rowIs b T n f := h.of_block (hb.block b h.lt hR)
theorem rowIs_below {w w' : World} {b n : Nat} {T : TypeId} {f : Nat → Value} (h : w.rowIs b T n f) (hb : Below w.heap.size w w') : w'.rowIs b T n f := h.of_block (hb.block b h.lt)
set_option maxHeartbeats 8000000 in
theorem eOnly_law (st : ByteArray) (a : Option Addr) (cap : Nat) (rs : List RuleT) (a' : Option Addr) (cap' : Nat) (zs : List Int) (w : World) (H : RulesAt w a rs) (hs : st.size ≤ maxLen) (HZ : IntsAt w a' zs) :
    Calls Try.prog 5 #[.agg #[.string st, .slice a rs.length cap], .slice a' zs.length cap'] w fun e w' => e = .returned (.bool true) ∧ Below w.heap.size w w' := by
  have hb1 := (Below.refl w.heap.size w).alloc (Nat.le_refl _) (.cells #[.string st, .slice a rs.length cap] 32)
  have hA1 : GB (w.alloc (.cells #[.string st, .slice a rs.length cap] 32)) w.heap.size 32 st (.slice a rs.length cap) := blk_new _ _ rfl
  have H1 := H.below hb1 (Nat.le_refl _)
  have hzl := HZ.1
  unfold maxLen at hzl
  by_cases hbz : (1048576 : Int) < (zs.length : Int)
  · go_enter Try.func5, Try.ntmps5
    go_wp2
    go_ret
    exact ⟨rfl, hb1⟩
  have hzn : zs.length ≤ 1048576 := by omega
  go_enter Try.func5, Try.ntmps5
  go_wp2_with fail
  refine (szGram_any _ _ _ rs _ _ H1 hs (by omega) (by omega)).mono ?_
  rintro e w2 ⟨rfl, hb2⟩
  have hA2 := hA1.below hb2
  have c2 : Below w.heap.size w w2 := hb1.trans (hb2.mono (by simp))
  clear hb1 H1 hb2 hA1
  obtain ⟨k0, k1⟩ := hA2.cells
  by_cases hneg : szGramM st rs 1048576 < 0
  · go_wp2
    go_ret
    exact ⟨rfl, c2⟩
  obtain ⟨_, n1, n2, n3⟩ := szGram_bounds (st := st) (rs := rs) (left := 1048576) (by omega) (by omega)
  have hnn : decide (szGramM st rs 1048576 < 0) = false := by simpa using hneg
  clear hneg n3
  obtain ⟨hsm, hsl⟩ := onlyR_small st rs zs
  have HSM := Lib.hid hsm
  clear hsm
  go_wp2_with fail
  refine (toGram_any _ _ _ rs _ (H.below c2 (Nat.le_refl _)) n1).mono ?_
  rintro e w3 ⟨v, rfl, b3, rfl, l3, row3, hb3⟩
  have R3 := rulesAt_of_row row3 H.fits
  have hA3 := hA2.below hb3
  have c3 : Below w.heap.size w w3 := Below.on c2 hb3 (Nat.le_refl _)
  clear k0 k1 hA2 row3 hb3 c2
  obtain ⟨k0, k1⟩ := hA3.cells
  go_wp2_with fail
  refine (toIntS_any _ _ zs _ (HZ.below c3) hzn).mono ?_
  rintro e w3' ⟨bz, rfl, lz, rowz, hbz3⟩
  have R3' := R3.below hbz3 (Nat.le_refl _)
  have hA3' := hA3.below hbz3
  have c3' : Below w.heap.size w w3' := Below.on c3 hbz3 (Nat.le_refl _)
  clear k0 k1 hA3 R3 c3 hbz3
  obtain ⟨k0, k1⟩ := hA3'.cells
  go_wp2_with fail
  refine (sGramOnly_all _ _ _ _ _ rs zs _ R3' (Nat.le_refl _) (intsAt_of_row rowz HZ.1)).mono ?_
  rintro e w4 ⟨av, cv, rfl, hcv, HV, hb4⟩
  have hA4 := hA3'.below hb4
  have c4 : Below w.heap.size w w4 := Below.on c3' hb4 (Nat.le_refl _)
  -- the variable w0
  have hbx := (Below.refl w4.heap.size w4).alloc (Nat.le_refl _) (.cells #[.string (onlyS st rs), .slice av (onlyR st rs zs).length cv] 24)
  have hV4 : GB (w4.alloc (.cells #[.string (onlyS st rs), .slice av (onlyR st rs zs).length cv] 24)) w4.heap.size 24 (onlyS st rs) (.slice av (onlyR st rs zs).length cv) := blk_new _ _ rfl
  have hA4' := hA4.below hbx
  have HV4 := HV.below hbx (Nat.le_refl _)
  have c4' := Below.on c4 hbx (Nat.le_refl _)
  have lA := hA4.lt
  clear k0 k1 hA3' R3' hb4 c3' hA4 HV c4 hbx l3 rowz lz
  obtain ⟨k0, k1⟩ := hA4'.cells
  go_wp2_with fail
  generalize w4.alloc (.cells #[.string (onlyS st rs), .slice av (onlyR st rs zs).length cv] 24) = W4 at *
  have lV := hV4.lt
  refine (toGram_any _ _ _ rs _ (H.below c4' (Nat.le_refl _)) n1).mono ?_
  rintro e w5 ⟨v, rfl, b5, rfl, l5, row5, hb5⟩
  have R5 := rulesAt_of_row row5 H.fits
  have O5 := OwnRow.of_row (n := rs.length) row5 l5
  have l5' : b5 < w5.heap.size := row5.lt
  have hA5 := hA4'.below hb5
  have hV5 := hV4.below hb5
  have c5 := Below.on c4' hb5 (Nat.le_refl _)
  have s5 := hb5.size
  have d5 := hb5
  clear k0 k1 hA4' hV4 c4' row5 hb5
  -- the variable x0
  have hbx := (Below.refl w5.heap.size w5).alloc (Nat.le_refl _) (.cells #[.string st, .slice (some ⟨b5, 0, none⟩) rs.length rs.length] 24)
  have hX5 : GB (w5.alloc (.cells #[.string st, .slice (some ⟨b5, 0, none⟩) rs.length rs.length] 24)) w5.heap.size 24 st (.slice (some ⟨b5, 0, none⟩) rs.length rs.length) := blk_new _ _ rfl
  have hA5' := hA5.below hbx
  have hV5' := hV5.below hbx
  have d5' := Below.on d5 hbx (Nat.le_refl _)
  have R5' := R5.below hbx (Nat.le_refl _)
  have O5' := O5.below hbx
  have c5' := Below.on c5 hbx (Nat.le_refl _)
  clear hA5 hV5 R5 O5 c5 hbx d5
  obtain ⟨x0, x1⟩ := hX5.cells
  go_wp2_with fail
  generalize w5.alloc (.cells #[.string st, .slice (some ⟨b5, 0, none⟩) rs.length rs.length] 24) = W5a at *
  have lX := hX5.lt
  refine (toIntS_any _ _ zs _ (HZ.below c5') hzn).mono ?_
  rintro e W5 ⟨b1, rfl, l1z, row1, hb5z⟩
  replace hA5' := hA5'.below hb5z
  replace hV5' := hV5'.below hb5z
  replace hX5 := hX5.below hb5z
  replace R5' := R5'.below hb5z (Nat.le_refl _)
  replace O5' := O5'.below hb5z
  replace c5' := Below.on c5' hb5z (Nat.le_refl _)
  replace d5' := Below.on d5' hb5z (Nat.le_refl _)
  have s5z := hb5z.size
  have l1y := row1.lt
  clear x0 x1 hb5z
  obtain ⟨x0, x1⟩ := hX5.cells
  go_wp2_with fail
  refine (gramOnly_own _ _ _ _ _ rs zs _ R5' (Nat.le_refl _) (intsAt_of_row row1 HZ.1)).mono ?_
  rintro e w6 ⟨au, cu, rfl, hcu, HU, hO, hb6⟩
  have hA6 := hA5'.below hb6
  have hV6 := hV5'.below hb6
  have hX6 := hX5.below hb6
  replace row1 := rowIs_below row1 hb6
  have d6 := Below.on d5' hb6 (Nat.le_refl _)
  have R6 := R5'.below hb6 (Nat.le_refl _)
  have O6 := O5'.below hb6
  have c6 := Below.on c5' hb6 (Nat.le_refl _)
  have s6 := hb6.size
  clear x0 x1 hA5' hV5' R5' O5' c5' hb6 hX5 d5'
  -- the variable g0
  have hbx := (Below.refl w6.heap.size w6).alloc (Nat.le_refl _) (.cells #[.string (onlyS st rs), .slice au (onlyR st rs zs).length cu] 24)
  have hG6 : GB (w6.alloc (.cells #[.string (onlyS st rs), .slice au (onlyR st rs zs).length cu] 24)) w6.heap.size 24 (onlyS st rs) (.slice au (onlyR st rs zs).length cu) := blk_new _ _ rfl
  have hA6' := hA6.below hbx
  have hV6' := hV6.below hbx
  have hX6' := hX6.below hbx
  replace row1 := rowIs_below row1 hbx
  have d6' := Below.on d6 hbx (Nat.le_refl _)
  have R6' := R6.below hbx (Nat.le_refl _)
  have O6' := O6.below hbx
  have HU6' := HU.below hbx (Nat.le_refl _)
  have hO6' := hO.below hbx
  have P6 := (hO.row' rfl).below hbx
  have c6' := Below.on c6 hbx (Nat.le_refl _)
  have hE := eqG_refl (onlyS st rs) (onlyR st rs zs)
  have hE2 := eqG_refl st rs
  clear hA6 hV6 hX6 R6 O6 HU hO c6 hbx d6
  obtain ⟨g0, g1⟩ := hG6.cells
  obtain ⟨v0, v1⟩ := hV6'.cells
  go_wp2_with fail
  generalize w6.alloc (.cells #[.string (onlyS st rs), .slice au (onlyR st rs zs).length cu] 24) = W6 at *
  have lG := hG6.lt
  refine (eqGram_any _ _ _ _ _ _ (onlyR st rs zs) (onlyR st rs zs) _ HU6' (HV4.below d6' (Nat.le_refl _))).mono ?_
  rintro e w7 ⟨rfl, hb7⟩
  rw [hE]
  have hA7 := hA6'.below hb7
  have hV7 := hV6'.below hb7
  have hX7 := hX6'.below hb7
  replace row1 := rowIs_below row1 hb7
  have hG7 := hG6.below hb7
  have d7 := Below.on d6' hb7 (Nat.le_refl _)
  have R7 := R6'.below hb7 (Nat.le_refl _)
  have O7 := O6'.below hb7
  have hO7 := hO6'.below hb7
  have P7 := P6.below hb7
  have c7 := Below.on c6' hb7 (Nat.le_refl _)
  have s7 := hb7.size
  clear hA6' hV6' hX6' hG6 R6' O6' hO6' P6 c6' d6' hb7 g0 g1 v0 v1 HU6'
  obtain ⟨k0, k1⟩ := hA7.cells
  obtain ⟨x0, x1⟩ := hX7.cells
  have H7 := H.below c7 (Nat.le_refl _)
  have z1 := hA7.lt
  have z2 := hX7.lt
  go_wp2_with fail
  go_region_held3 (fun w' => w'.cell? ⟨w.heap.size, 0, none⟩ = some (.string st) ∧ w'.cell? ⟨w.heap.size, 1, none⟩ = some (.slice a rs.length cap) ∧ w'.cell? ⟨w5.heap.size, 0, none⟩ = some (.string st) ∧ w'.cell? ⟨w5.heap.size, 1, none⟩ = some (.slice (some ⟨b5, 0, none⟩) rs.length rs.length))
    (first
      | go_keep
      | exact keep4 (hb8.trans (hb9.mono hb8.size)) z1 z2 k0 k1 x0 x1
      | exact keep4 hb8 z1 z2 k0 k1 x0 x1)
    (first
      | (go_at_call 21; refine (toGram_any _ _ _ rs _ ?_ n1).mono ?_; (exact H7); rintro e w8 ⟨v, rfl, b8, rfl, l8, row8, hb8'⟩; have hb8 := below_of_drew hb8')
      | (go_at_call 16; refine (eqGram_any _ _ _ _ _ _ rs rs _ ?_ ?_).mono ?_; (exact R7.below hb8 (Nat.le_refl _)); (exact rulesAt_of_row row8 H.fits); rintro e w9r ⟨rfl, hb9⟩))
  have hb79r : Below w7.heap.size w7 w9r := hb8.trans (hb9.mono hb8.size)
  have c9r := Below.on c7 hb79r (Nat.le_refl _)
  go_wp2_with fail
  refine (toIntS_any _ _ zs _ (HZ.below c9r) hzn).mono ?_
  rintro e w9s ⟨b9, rfl, l9z, row9, hb9s⟩
  have hb79s := Below.on hb79r hb9s (Nat.le_refl _)
  go_wp2_with fail
  refine (eqIntS_any _ _ _ _ zs _ (intsAt_of_row (rowIs_below row1 hb79s) HZ.1) (intsAt_of_row row9 HZ.1)).mono ?_
  rintro e w9 ⟨rfl, hb9t⟩
  have hb79 : Below w7.heap.size w7 w9 := Below.on hb79s hb9t (Nat.le_refl _)
  replace row1 := rowIs_below row1 hb79
  clear hb79r c9r hb79s hb9s hb9t row9 l9z
  have hA9 := hA7.below hb79
  have hV9 := hV7.below hb79
  have hX9 := hX7.below hb79
  have hG9 := hG7.below hb79
  have O9 := O7.below hb79
  have hO9 := hO7.below hb79
  have P9 := P7.below hb79
  have c9 := Below.on c7 hb79 (Nat.le_refl _)
  have d9 := Below.on d7 hb79 (Nat.le_refl _)
  have s9 := hb79.size
  have t9 := hG9.lt
  clear hA7 hV7 hX7 hG7 R7 O7 hO7 P7 c7 d7 hb79 hb8 hb8' hb9 H7 k0 k1 x0 x1 row8 l8 z1 z2
  obtain ⟨x0, x1⟩ := hX9.cells
  -- the marks of x0
  go_wp2_with fail
  refine (markGram_any st _ _ _ 1 W4.heap.size w5.heap.size _ O9 (by omega) n1 (by omega) (by omega)).mono ?_
  rintro e wm ⟨rfl, _, bm, hm1, hm2, ho⟩
  have hAm := hA9.only ho (by omega)
  have hVm := hV9.only ho (by omega)
  have hGm := hG9.only ho (by omega)
  have hOm := hO9.only ho (by omega)
  have Pm := P9.only ho (by omega)
  have rowm := rowIs_only row1 ho (by omega)
  have cm : Below w.heap.size w wm := c9.trans (ho.below _ (by omega) (by omega))
  have dm : Below W4.heap.size W4 wm := d9.trans (ho.below _ (by omega) (by omega))
  have sm := ho.size
  clear hA9 hV9 hX9 hG9 O9 hO9 P9 c9 d9 ho x0 x1
  go_wp2_with fail
  refine (markIntS_any b1 zs.length _ (1 + rs.length * 2) _ _ rowm hzn (by omega)).mono ?_
  rintro e wa ⟨rfl, ho⟩
  have hAa := hAm.only ho (by omega)
  have hVa := hVm.only ho (by omega)
  have hGa := hGm.only ho (by omega)
  have hOa := hOm.only ho (by omega)
  have Pa := Pm.only ho (by omega)
  have ca : Below w.heap.size w wa := cm.trans (ho.below _ (by omega) (by omega))
  have da : Below W4.heap.size W4 wa := dm.trans (ho.below _ (by omega) (by omega))
  have sa := ho.size
  clear hAm hVm hGm hOm Pm cm dm ho rowm row1
  obtain ⟨g0, g1⟩ := hGa.cells
  obtain ⟨v0, v1⟩ := hVa.cells
  have hk0 : ¬ ((1 + rs.length * 2 + zs.length : Nat) : Int) < 0 := by omega
  go_wp2_with fail
  refine (eqGram_any _ _ _ _ _ _ (onlyR st rs zs) (onlyR st rs zs) _ (hOa.rules HSM.out hsl) (HV4.below da (Nat.le_refl _))).mono ?_
  rintro e wb ⟨rfl, hbb⟩
  rw [hE]
  have hAb := hAa.below hbb
  have hVb := hVa.below hbb
  have hGb := hGa.below hbb
  have Pb := Pa.below hbb
  have cb := Below.on ca hbb (Nat.le_refl _)
  have db := Below.on da hbb (Nat.le_refl _)
  have sb := hbb.size
  clear hAa hVa hGa hOa Pa ca da hbb g0 g1 v0 v1 hk0
  obtain ⟨g0, g1⟩ := hGb.cells
  -- the marks of g0
  go_wp2_with fail
  refine (markGram_any _ _ _ _ 1 W5.heap.size w6.heap.size _ Pb (by omega) (by omega) (by omega) (by omega)).mono ?_
  rintro e wc ⟨rfl, hMc, bn, hn1, hn2, ho⟩
  have hAc := hAb.only ho (by omega)
  have hVc := hVb.only ho (by omega)
  have hGc := hGb.only ho (by omega)
  have cc : Below w.heap.size w wc := cb.trans (ho.below _ (by omega) (by omega))
  have dc : Below W4.heap.size W4 wc := db.trans (ho.below _ (by omega) (by omega))
  clear hAb hVb hGb Pb cb db ho g0 g1
  obtain ⟨g0, g1⟩ := hGc.cells
  have hq0 : ¬ ((1 + (onlyR st rs zs).length * 2 : Nat) : Int) < 0 := by omega
  go_wp2_with fail
  refine (heldGram_any _ _ _ _ 1 _ hMc (by omega) (by omega) (by omega)).mono ?_
  rintro e wd ⟨rfl, hbd⟩
  have hAd := hAc.below hbd
  have hVd := hVc.below hbd
  have hGd := hGc.below hbd
  have hMd := hMc.below hbd
  have cd := Below.on cc hbd (Nat.le_refl _)
  have dd := Below.on dc hbd (Nat.le_refl _)
  clear hAc hVc hGc hMc cc dc hbd g0 g1
  obtain ⟨k0, k1⟩ := hAd.cells
  go_wp2_with fail
  refine (toGram_any _ _ _ rs _ (H.below cd (Nat.le_refl _)) n1).mono ?_
  rintro e we ⟨v, rfl, be, rfl, le, rowe, hbe⟩
  have Re := rulesAt_of_row rowe H.fits
  have hVe := hVd.below hbe
  have hGe := hGd.below hbe
  have hMe := hMd.below hbe
  have ce := Below.on cd hbe (Nat.le_refl _)
  have de := Below.on dd hbe (Nat.le_refl _)
  clear hAd hVd hGd hMd cd dd hbe k0 k1 rowe
  go_wp2_with fail
  refine (toIntS_any _ _ zs _ (HZ.below ce) hzn).mono ?_
  rintro e we2 ⟨bq, rfl, lq, rowq, hbq⟩
  replace Re := Re.below hbq (Nat.le_refl _)
  replace hVe := hVe.below hbq
  replace hGe := hGe.below hbq
  replace hMe := hMe.below hbq
  replace ce := Below.on ce hbq (Nat.le_refl _)
  replace de := Below.on de hbq (Nat.le_refl _)
  clear hbq
  go_wp2_with fail
  refine (gramOnly_own _ _ _ _ _ rs zs _ Re (Nat.le_refl _) (intsAt_of_row rowq HZ.1)).mono ?_
  rintro e wf ⟨ah, ch, rfl, hch, HH, _, hbf⟩
  have hVf := hVe.below hbf
  have hGf := hGe.below hbf
  have hMf := hMe.below hbf
  have cf := Below.on ce hbf (Nat.le_refl _)
  have df := Below.on de hbf (Nat.le_refl _)
  clear hVe hGe hMe ce de hbf Re
  -- the variable h0
  have hbx := (Below.refl wf.heap.size wf).alloc (Nat.le_refl _) (.cells #[.string (onlyS st rs), .slice ah (onlyR st rs zs).length ch] 24)
  have hHg : GB (wf.alloc (.cells #[.string (onlyS st rs), .slice ah (onlyR st rs zs).length ch] 24)) wf.heap.size 24 (onlyS st rs) (.slice ah (onlyR st rs zs).length ch) := blk_new _ _ rfl
  have hVg := hVf.below hbx
  have hGg := hGf.below hbx
  have hMg := hMf.below hbx
  have HHg := HH.below hbx (Nat.le_refl _)
  have cg := Below.on cf hbx (Nat.le_refl _)
  have dg := Below.on df hbx (Nat.le_refl _)
  clear hVf hGf hMf HH cf df hbx
  obtain ⟨h0, h1⟩ := hHg.cells
  obtain ⟨v0, v1⟩ := hVg.cells
  go_wp2_with fail
  generalize wf.alloc (.cells #[.string (onlyS st rs), .slice ah (onlyR st rs zs).length ch] 24) = Wf at *
  refine (eqGram_any _ _ _ _ _ _ (onlyR st rs zs) (onlyR st rs zs) _ HHg (HV4.below dg (Nat.le_refl _))).mono ?_
  rintro e wh ⟨rfl, hbh⟩
  rw [hE]
  have hGh := hGg.below hbh
  have hMh := hMg.below hbh
  have ch2 := Below.on cg hbh (Nat.le_refl _)
  clear hVg hGg hMg cg dg hbh h0 h1 v0 v1 hHg HHg
  obtain ⟨g0, g1⟩ := hGh.cells
  go_wp2_with fail
  refine (heldGram_any _ _ _ _ 1 _ hMh (by omega) (by omega) (by omega)).mono ?_
  rintro e wi ⟨rfl, hbi⟩
  have ci := Below.on ch2 hbi (Nat.le_refl _)
  go_wp2
  go_ret
  exact ⟨rfl, ci⟩
end Go.Proofs.Ytjpkohahabclgaa
