/- The walk of FnGramText. -/
import Derived.Test.YtjpkohahabclgaaTornA
import Derived.Test.YtjpkohahabclgaaReadD
import Derived.Test.YtjpkohahabclgaaSetE
namespace Go.Proofs.Ytjpkohahabclgaa
open Go.ChangeShapes Go.WideShapes Go.ChangeAt Go.RowKit
set_option maxRecDepth 100000
theorem good_text {st : ByteArray} {rs : List RuleT} : (gramOkB st rs = true → goodT (gramTextL st rs) = true ∧ rdS (gramTextL st rs) = st ∧ rdR (gramTextL st rs) = rs) ∧ (gramOkB st rs = false → goodT (gramTextL st rs) = false) := by
  refine ⟨fun h => good_of (text_ne h) rfl, fun h => ?_⟩
  cases hg : goodT (gramTextL st rs) with
  | false => rfl
  | true =>
    exfalso
    have e : gramTextL st rs = [] := by unfold gramTextL; rw [h]; rfl
    rw [e] at hg
    unfold goodT at hg
    simp only [Bool.and_eq_true, beq_iff_eq] at hg
    exact text_ne hg.1 hg.2
theorem rdR_len2 (t : List UInt8) : (rdR t).length ≤ 9 := by
  unfold rdR
  split
  · exact linesR_len 9 _
  · simp
theorem good_facts {t : List UInt8} (h : goodT t = true) : gramOkB (rdS t) (rdR t) = true ∧ gramTextL (rdS t) (rdR t) = t := by
  have e1 : rdS t = parseS t := by unfold rdS; rw [if_pos h]
  have e2 : rdR t = parseR t := by unfold rdR; rw [if_pos h]
  rw [e1, e2]
  unfold goodT at h
  simp only [Bool.and_eq_true, beq_iff_eq] at h
  exact h
set_option maxHeartbeats 8000000 in
theorem textF_law (a : Option Addr) (n cap : Nat) (a' : Option Addr) (n' cap' : Nat) (w : World) (H : BytesAt w a n cap) (H' : BytesAt w a' n' cap') :
    Calls Try.prog 8 #[.slice a n cap, .slice a' n' cap'] w fun e w' => e = .returned (.bool true) ∧ Below w.heap.size w w' := by
  have hm := H.2.1
  have hm' := H'.2.1
  unfold maxLen at hm hm'
  have hn1 := H.1
  have hn2 := H'.1
  by_cases h : (1048576 : Int) < (n : Int)
  · go_enter Try.func8, Try.ntmps8
    go_wp2
    go_ret
    exact ⟨rfl, Below.refl _ _⟩
  by_cases h' : (1048576 : Int) < (n' : Int)
  · go_enter Try.func8, Try.ntmps8
    go_wp2
    go_ret
    exact ⟨rfl, Below.refl _ _⟩
  go_enter Try.func8, Try.ntmps8
  go_wp2_with fail
  refine (drawGramText_any a n cap w H).mono ?_
  rintro e w1 ⟨v1, st, rs, rfl, ⟨b, off, c1, rfl, hc1, hR1, hl1, hs1, hS1, hb1⟩, hB1⟩
  have hbw := (Below.refl w1.heap.size w1).alloc (Nat.le_refl _) (.cells #[.string st, .slice (some ⟨b, off, none⟩) rs.length c1] 24)
  have hR2 := hR1.below hbw (Nat.le_refl _)
  have hG : GBox (w1.alloc (.cells #[.string st, .slice (some ⟨b, off, none⟩) rs.length c1] 24)) w1.heap.size st (some ⟨b, off, none⟩) rs.length c1 := blk_new _ _ rfl
  have hT := text_len2 st rs (by omega) hs1 hS1
  go_wp2_with fail
  with_reducible refine (gramText_any st (some ⟨b, off, none⟩) c1 rs _ hR2 hc1).mono ?_
  rintro e w3 ⟨rfl, hb3⟩
  have hG3 := hG.below hb3
  have hR3 := hR2.below hb3 (Nat.le_refl _)
  have hB3 : Below w.heap.size w w3 := hB1.trans ((hbw.trans (hb3.mono (by simp))).mono hB1.size)
  clear hG hR2 hb3 hbw hR1 hS1
  have hgt := Lib.hid (@good_text st rs)
  go_wp2_with fail
  with_reducible refine (gramRead_any (gramTextL st rs) _ (by omega)).mono ?_
  rintro e w4 ⟨au, cu, rfl, hcu, HU, _, hb4⟩
  have hG4 := hG3.below hb4
  have hR4 := hR3.below hb4 (Nat.le_refl _)
  have hB4 := Below.on hB3 hb4 (Nat.le_refl _)
  clear hG3 hR3 hB3 hb4
  have hT9 := rdR_len2 (gramTextL st rs)
  -- the variable x
  have hbx := (Below.refl w4.heap.size w4).alloc (Nat.le_refl _) (.cells #[.string (rdS (gramTextL st rs)), .slice au (rdR (gramTextL st rs)).length cu] 24)
  have hX5 : GBox (w4.alloc (.cells #[.string (rdS (gramTextL st rs)), .slice au (rdR (gramTextL st rs)).length cu] 24)) w4.heap.size (rdS (gramTextL st rs)) au (rdR (gramTextL st rs)).length cu := blk_new _ _ rfl
  have hG5 := hG4.below hbx
  have hR5 := hR4.below hbx (Nat.le_refl _)
  have HU5 := HU.below hbx (Nat.le_refl _)
  have hB5 := Below.on hB4 hbx (Nat.le_refl _)
  clear hG4 hR4 HU hB4 hbx
  go_upto_region 6 with fail
  generalize (w4.alloc (.cells #[.string (rdS (gramTextL st rs)), .slice au (rdR (gramTextL st rs)).length cu] 24)) = w5 at *
  obtain ⟨g0, g1⟩ := hG5.cells
  obtain ⟨x0, x1⟩ := hX5.cells
  have hltg := hG5.lt
  have hltx := hX5.lt
  cases hok : gramOkB st rs with
  | false =>
    have hgd := hgt.out.2 hok
    rw [hgd]
    clear hgd hgt
    have q0 : ∀ x, (grow w5 x).cell? ⟨w1.heap.size, 0, none⟩ = some (.string st) := fun x => by rw [grow_cell _ _ _ _ hltg]; exact g0
    have q1 : ∀ x, (grow w5 x).cell? ⟨w1.heap.size, 1, none⟩ = some (.slice (some ⟨b, off, none⟩) rs.length c1) := fun x => by rw [grow_cell _ _ _ _ hltg]; exact g1
    have p0 : ∀ x, (grow w5 x).cell? ⟨w4.heap.size, 0, none⟩ = some (.string (rdS (gramTextL st rs))) := fun x => by rw [grow_cell _ _ _ _ hltx]; exact x0
    have p1 : ∀ x, (grow w5 x).cell? ⟨w4.heap.size, 1, none⟩ = some (.slice au (rdR (gramTextL st rs)).length cu) := fun x => by rw [grow_cell _ _ _ _ hltx]; exact x1
    have HW : ∀ x, RulesAt (grow w5 x) (some ⟨b, off, none⟩) rs := fun x => hR5.below (below_grow _ x) (Nat.le_refl _)
    have HX : ∀ x, RulesAt (grow w5 x) au (rdR (gramTextL st rs)) := fun x => HU5.below (below_grow _ x) (Nat.le_refl _)
    have K1 : ∀ x, Calls Try.prog 36 #[.agg #[.string st, .slice (some ⟨b, off, none⟩) rs.length c1]] (grow w5 x) fun e w' => e = .returned (.bool false) ∧ ∃ y, w' = grow w5 y := fun x => by
      have h := Calls.grow_of (gramOk_any st (some ⟨b, off, none⟩) c1 rs _ (HW x) hc1)
      rwa [hok] at h
    have K2 : ∀ x, Calls Try.prog 37 #[.agg #[.string st, .slice (some ⟨b, off, none⟩) rs.length c1]] (grow w5 x) fun e w' => e = .returned (.bool false) ∧ ∃ y, w' = grow w5 y := fun x => by
      have h := Calls.grow_of (sGramOk_any st (some ⟨b, off, none⟩) c1 rs _ (HW x) hc1)
      rwa [hok] at h
    have hqT : ((bytesOf (gramTextL st rs)).toList == (bytesOf (gramTextL st rs)).toList) = true := by simp
    have hqN : ((bytesOf (gramTextL st rs)).toList != (bytesOf (gramTextL st rs)).toList) = false := by simp
    have K3 : True := trivial
    refine wp_region_grow (by kernel_rfl) (by kernel_rfl) ?_
    repeat (go_big_quiet_step ((first | (go_at_call 35; exact Calls.grow_of (sGramText_any st _ c1 rs _ (HW _) hc1)) | (go_at_call 36; exact K1 _) | (go_at_call 37; exact K2 _))))
    refine wpQuiet_nil ?_
    rintro _ ⟨y1', rfl⟩
    have hB6 := Below.on hB5 (below_grow w5 y1') (Nat.le_refl _)
    generalize grow w5 y1' = w6 at *
    clear q0 q1 p0 p1 HW HX K1 K2 hqT hqN hB5 hR5 HU5 hX5 hG5 g0 g1 x0 x1 hltg hltx hok K3
    go_wp2_with fail
    with_reducible refine (drawGramRead_any a' n' cap' _ (H'.below hB6)).mono ?_
    rintro e w7 ⟨s, rfl, hs7, hb7⟩
    obtain ⟨t, rfl⟩ : ∃ t, s = bytesOf t := ⟨s.data.toList, (bytesOf_self s).symm⟩
    have ht : t.length ≤ 100000000 := by rw [bytesOf_size] at hs7; omega
    have hB7 := Below.on hB6 hb7 (Nat.le_refl _)
    clear hB6 hb7 hs7
    go_wp2_with fail
    with_reducible refine (gramRead_any t _ ht).mono ?_
    rintro e w8 ⟨ay, cy, rfl, hcy, HY, _, hb8⟩
    have hbx := (Below.refl w8.heap.size w8).alloc (Nat.le_refl _) (.cells #[.string (rdS t), .slice ay (rdR t).length cy] 24)
    have hY8 : GBox (w8.alloc (.cells #[.string (rdS t), .slice ay (rdR t).length cy] 24)) w8.heap.size (rdS t) ay (rdR t).length cy := blk_new _ _ rfl
    have HY8 := HY.below hbx (Nat.le_refl _)
    have hB8 := Below.on (Below.on hB7 hb8 (Nat.le_refl _)) hbx (Nat.le_refl _)
    clear hB7 hb8 hbx HY
    go_wp2_with fail
    generalize (w8.alloc (.cells #[.string (rdS t), .slice ay (rdR t).length cy] 24)) = W8 at *
    with_reducible refine (sGramRead_any t _ ht).mono ?_
    rintro e w9 ⟨az, cz, rfl, hcz, HZ, hb9⟩
    have hbx := (Below.refl w9.heap.size w9).alloc (Nat.le_refl _) (.cells #[.string (rdS t), .slice az (rdR t).length cz] 24)
    have hZ9 : GBox (w9.alloc (.cells #[.string (rdS t), .slice az (rdR t).length cz] 24)) w9.heap.size (rdS t) az (rdR t).length cz := blk_new _ _ rfl
    have hY9 := (hY8.below hb9).below hbx
    have HY9 := (HY8.below hb9 (Nat.le_refl _)).below hbx (Nat.le_refl _)
    have HZ9 := HZ.below hbx (Nat.le_refl _)
    have hB9 := Below.on (Below.on hB8 hb9 (Nat.le_refl _)) hbx (Nat.le_refl _)
    clear hB8 hb9 hbx HZ HY8 hY8
    obtain ⟨y0, y1⟩ := hY9.cells
    obtain ⟨z0, z1⟩ := hZ9.cells
    have hee : (goodT t == goodT t) = true := by simp
    have hsame := eqG_refl (rdS t) (rdR t)
    go_wp2_with fail
    generalize (w9.alloc (.cells #[.string (rdS t), .slice az (rdR t).length cz] 24)) = W9 at *
    with_reducible refine (gramSame_any (rdS t) (rdS t) ay az cy cz (rdR t) (rdR t) _ HY9 HZ9).mono ?_
    rintro e wa ⟨rfl, hba⟩
    rw [hsame]
    have hYa := hY9.below hba
    have HYa := HY9.below hba (Nat.le_refl _)
    have hBa := Below.on hB9 hba (Nat.le_refl _)
    clear hY9 HY9 HZ9 hB9 hba y0 y1 z0 z1 hZ9 hee
    obtain ⟨y0, y1⟩ := hYa.cells
    cases hgd : goodT t with
    | false =>
      go_wp2
      go_ret
      exact ⟨rfl, hBa⟩
    | true =>
      obtain ⟨f1, f2⟩ := good_facts hgd
      have F1 := Lib.hid f1
      have F2 := Lib.hid f2
      clear f1 f2 hgd hsame
      go_wp2_with fail
      with_reducible refine (gramText_any (rdS t) ay cy (rdR t) _ HYa hcy).mono ?_
      rintro e wb ⟨rfl, hbb⟩
      rw [F2.out]
      have hYb := hYa.below hbb
      have HYb := HYa.below hbb (Nat.le_refl _)
      have hBb := Below.on hBa hbb (Nat.le_refl _)
      clear hYa HYa hBa hbb y0 y1
      obtain ⟨y0, y1⟩ := hYb.cells
      go_wp2_with fail
      with_reducible refine (gramOk_any (rdS t) ay cy (rdR t) _ HYb hcy).mono ?_
      rintro e wc ⟨rfl, hbc⟩
      rw [F1.out]
      go_wp2
      go_ret
      exact ⟨rfl, Below.on hBb hbc (Nat.le_refl _)⟩
  | true =>
    obtain ⟨hgd, e1, e2⟩ := hgt.out.1 hok
    rw [hgd, e1, e2]
    rw [e1] at x0
    rw [e2] at x1 HU5 hcu
    clear hgd hgt e1 e2 hX5 hT9
    have q0 : ∀ x, (grow w5 x).cell? ⟨w1.heap.size, 0, none⟩ = some (.string st) := fun x => by rw [grow_cell _ _ _ _ hltg]; exact g0
    have q1 : ∀ x, (grow w5 x).cell? ⟨w1.heap.size, 1, none⟩ = some (.slice (some ⟨b, off, none⟩) rs.length c1) := fun x => by rw [grow_cell _ _ _ _ hltg]; exact g1
    have p0 : ∀ x, (grow w5 x).cell? ⟨w4.heap.size, 0, none⟩ = some (.string st) := fun x => by rw [grow_cell _ _ _ _ hltx]; exact x0
    have p1 : ∀ x, (grow w5 x).cell? ⟨w4.heap.size, 1, none⟩ = some (.slice au rs.length cu) := fun x => by rw [grow_cell _ _ _ _ hltx]; exact x1
    have HW : ∀ x, RulesAt (grow w5 x) (some ⟨b, off, none⟩) rs := fun x => hR5.below (below_grow _ x) (Nat.le_refl _)
    have HX : ∀ x, RulesAt (grow w5 x) au rs := fun x => HU5.below (below_grow _ x) (Nat.le_refl _)
    have K1 : ∀ x, Calls Try.prog 36 #[.agg #[.string st, .slice (some ⟨b, off, none⟩) rs.length c1]] (grow w5 x) fun e w' => e = .returned (.bool true) ∧ ∃ y, w' = grow w5 y := fun x => by
      have h := Calls.grow_of (gramOk_any st (some ⟨b, off, none⟩) c1 rs _ (HW x) hc1)
      rwa [hok] at h
    have K2 : ∀ x, Calls Try.prog 37 #[.agg #[.string st, .slice (some ⟨b, off, none⟩) rs.length c1]] (grow w5 x) fun e w' => e = .returned (.bool true) ∧ ∃ y, w' = grow w5 y := fun x => by
      have h := Calls.grow_of (sGramOk_any st (some ⟨b, off, none⟩) c1 rs _ (HW x) hc1)
      rwa [hok] at h
    have hqT : ((bytesOf (gramTextL st rs)).toList == (bytesOf (gramTextL st rs)).toList) = true := by simp
    have hqN : ((bytesOf (gramTextL st rs)).toList != (bytesOf (gramTextL st rs)).toList) = false := by simp
    have hsm := eqG_refl st rs
    have K3 : ∀ x, Calls Try.prog 38 #[.agg #[.string st, .slice au rs.length cu], .agg #[.string st, .slice (some ⟨b, off, none⟩) rs.length c1]] (grow w5 x) fun e w' => e = .returned (.bool true) ∧ ∃ y, w' = grow w5 y := fun x => by
      have h := Calls.grow_of (gramSame_any st st au (some ⟨b, off, none⟩) cu c1 rs rs _ (HX x) (HW x))
      rwa [hsm] at h
    clear hsm
    refine wp_region_grow (by kernel_rfl) (by kernel_rfl) ?_
    repeat (go_big_quiet_step ((first | (go_at_call 35; exact Calls.grow_of (sGramText_any st _ c1 rs _ (HW _) hc1)) | (go_at_call 36; exact K1 _) | (go_at_call 37; exact K2 _) | (go_at_call 38; exact K3 _))))
    refine wpQuiet_nil ?_
    rintro _ ⟨y1', rfl⟩
    have hB6 := Below.on hB5 (below_grow w5 y1') (Nat.le_refl _)
    generalize grow w5 y1' = w6 at *
    clear q0 q1 p0 p1 HW HX K1 K2 hqT hqN hB5 hR5 HU5 hG5 g0 g1 x0 x1 hltg hltx hok K3
    go_wp2_with fail
    with_reducible refine (drawGramRead_any a' n' cap' _ (H'.below hB6)).mono ?_
    rintro e w7 ⟨s, rfl, hs7, hb7⟩
    obtain ⟨t, rfl⟩ : ∃ t, s = bytesOf t := ⟨s.data.toList, (bytesOf_self s).symm⟩
    have ht : t.length ≤ 100000000 := by rw [bytesOf_size] at hs7; omega
    have hB7 := Below.on hB6 hb7 (Nat.le_refl _)
    clear hB6 hb7 hs7
    go_wp2_with fail
    with_reducible refine (gramRead_any t _ ht).mono ?_
    rintro e w8 ⟨ay, cy, rfl, hcy, HY, _, hb8⟩
    have hbx := (Below.refl w8.heap.size w8).alloc (Nat.le_refl _) (.cells #[.string (rdS t), .slice ay (rdR t).length cy] 24)
    have hY8 : GBox (w8.alloc (.cells #[.string (rdS t), .slice ay (rdR t).length cy] 24)) w8.heap.size (rdS t) ay (rdR t).length cy := blk_new _ _ rfl
    have HY8 := HY.below hbx (Nat.le_refl _)
    have hB8 := Below.on (Below.on hB7 hb8 (Nat.le_refl _)) hbx (Nat.le_refl _)
    clear hB7 hb8 hbx HY
    go_wp2_with fail
    generalize (w8.alloc (.cells #[.string (rdS t), .slice ay (rdR t).length cy] 24)) = W8 at *
    with_reducible refine (sGramRead_any t _ ht).mono ?_
    rintro e w9 ⟨az, cz, rfl, hcz, HZ, hb9⟩
    have hbx := (Below.refl w9.heap.size w9).alloc (Nat.le_refl _) (.cells #[.string (rdS t), .slice az (rdR t).length cz] 24)
    have hZ9 : GBox (w9.alloc (.cells #[.string (rdS t), .slice az (rdR t).length cz] 24)) w9.heap.size (rdS t) az (rdR t).length cz := blk_new _ _ rfl
    have hY9 := (hY8.below hb9).below hbx
    have HY9 := (HY8.below hb9 (Nat.le_refl _)).below hbx (Nat.le_refl _)
    have HZ9 := HZ.below hbx (Nat.le_refl _)
    have hB9 := Below.on (Below.on hB8 hb9 (Nat.le_refl _)) hbx (Nat.le_refl _)
    clear hB8 hb9 hbx HZ HY8 hY8
    obtain ⟨y0, y1⟩ := hY9.cells
    obtain ⟨z0, z1⟩ := hZ9.cells
    have hee : (goodT t == goodT t) = true := by simp
    have hsame := eqG_refl (rdS t) (rdR t)
    go_wp2_with fail
    generalize (w9.alloc (.cells #[.string (rdS t), .slice az (rdR t).length cz] 24)) = W9 at *
    with_reducible refine (gramSame_any (rdS t) (rdS t) ay az cy cz (rdR t) (rdR t) _ HY9 HZ9).mono ?_
    rintro e wa ⟨rfl, hba⟩
    rw [hsame]
    have hYa := hY9.below hba
    have HYa := HY9.below hba (Nat.le_refl _)
    have hBa := Below.on hB9 hba (Nat.le_refl _)
    clear hY9 HY9 HZ9 hB9 hba y0 y1 z0 z1 hZ9 hee
    obtain ⟨y0, y1⟩ := hYa.cells
    cases hgd : goodT t with
    | false =>
      go_wp2
      go_ret
      exact ⟨rfl, hBa⟩
    | true =>
      obtain ⟨f1, f2⟩ := good_facts hgd
      have F1 := Lib.hid f1
      have F2 := Lib.hid f2
      clear f1 f2 hgd hsame
      go_wp2_with fail
      with_reducible refine (gramText_any (rdS t) ay cy (rdR t) _ HYa hcy).mono ?_
      rintro e wb ⟨rfl, hbb⟩
      rw [F2.out]
      have hYb := hYa.below hbb
      have HYb := HYa.below hbb (Nat.le_refl _)
      have hBb := Below.on hBa hbb (Nat.le_refl _)
      clear hYa HYa hBa hbb y0 y1
      obtain ⟨y0, y1⟩ := hYb.cells
      go_wp2_with fail
      with_reducible refine (gramOk_any (rdS t) ay cy (rdR t) _ HYb hcy).mono ?_
      rintro e wc ⟨rfl, hbc⟩
      rw [F1.out]
      go_wp2
      go_ret
      exact ⟨rfl, Below.on hBb hbc (Nat.le_refl _)⟩
end Go.Proofs.Ytjpkohahabclgaa
