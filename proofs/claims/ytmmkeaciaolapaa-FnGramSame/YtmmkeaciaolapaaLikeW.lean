/- The walk of FnGramSame. -/
import Derived.Test.YtmmkeaciaolapaaSameA
namespace Go.Proofs.Ytmmkeaciaolapaa
open Go.ChangeShapes Go.WideShapes Go.ChangeAt Go.RowKit
set_option maxRecDepth 100000
theorem list_append_rules {ops : Array Oper} {rest : List Oper} {o : Oper} {a : Act} {w : World} {Q : Exit → Act → World → Prop} (hgd : o.guard = none) (s x : Operand)
    (ho : o.op = .call { callee := .builtin .append, args := #[s, x], argTypes := #[23, 23] })
    (B : Nat) (v : Value) (rs us : List RuleT) (b off c : Nat) (hs : a.eval s = v) (hx : a.eval x = .slice (some ⟨b, off, none⟩) us.length c) (hown : OwnR w B v rs) (hU : RulesAt w (some ⟨b, off, none⟩) us)
    (hlen : rs.length + us.length ≤ 1000) (hB : B ≤ w.heap.size)
    (h : ∀ g cap w', OwnR w' B (.slice (some ⟨g, 0, none⟩) (rs.length + us.length) cap) (rs ++ us) → w.grownBy w' v.ownBlock → wpList Try.prog ops Q rest (a.put o.dst (.slice (some ⟨g, 0, none⟩) (rs.length + us.length) cap)) w') :
    wpList Try.prog ops Q (o :: rest) a w := by
  obtain ⟨i0, hi0, hz0, hz1, hz2⟩ := info_parts infoRule
  refine wpList_append_own w hgd s x 23 ho B 40 i0 (.agg #[.string ByteArray.empty, .string ByteArray.empty]) 2 32 Try.underlying23 hi0 hz0 hz1 hz2 rfl (by decide) v rs.length (flatR rs) hs hown.2 ⟨b, off, none⟩ us.length c (flatR us) hx (flatR_len us) (rules_cells hU) (flatR_one us) (by unfold maxLen; omega) (by omega) hB ?_
  intro v' w' h1 h2 h3
  obtain ⟨g, cap, cur, hv, _⟩ := hown.block
  have hne : ¬ v' = .slice none 0 0 := fun e => by have := (h3.1 e).1; rw [hv] at this; cases this
  rcases h1.2 with ⟨h0, _⟩ | ⟨g', cap', cur', hv', hB', hh', hl', hm', hs', ht'⟩
  · exact absurd h0 hne
  · subst hv'
    refine h g' cap' w' ⟨⟨g', cap', by simp, hB', by simpa using hl'⟩, ?_⟩ h2
    rw [flatR_append, List.length_append]
    exact h1
theorem eqRs_comm (xs ys : List RuleT) : eqRs xs ys = eqRs ys xs := by
  by_cases h : xs.length = ys.length
  · unfold eqRs
    rw [h]
    congr 1
    apply List.all_congr rfl
    intro i
    cases xs[i]? <;> cases ys[i]? <;> simp [eqR_comm]
  · rw [eqRs_len h, eqRs_len (Ne.symm h)]
theorem eqG_comm (sa sb : ByteArray) (xs ys : List RuleT) : eqG sa xs sb ys = eqG sb ys sa xs := by
  unfold eqG
  rw [eqRs_comm xs ys, Bool.beq_comm (a := sa.toList)]
theorem eqG_longer (sa : ByteArray) (xs : List RuleT) (y : RuleT) : eqG sa xs sa (xs ++ [y]) = false := by
  unfold eqG
  rw [eqRs_len (by simp)]
  simp
theorem not_both (s : ByteArray) : (isBigS s && isSmallS s) = false := by
  unfold isBigS isSmallS bigN smallN
  rw [Bool.eq_false_iff]
  intro h
  simp at h
  omega
set_option maxHeartbeats 4000000 in
theorem gramLike_law (a : Option Addr) (n cap : Nat) (w : World) (H : BytesAt w a n cap) :
    Calls Try.prog 7 #[.slice a n cap] w fun e w' => e = .returned (.bool true) ∧ Below w.heap.size w w' := by
  have hm := H.2.1
  unfold maxLen at hm
  by_cases h : (1048576 : Int) < (n : Int)
  · go_enter Try.func7, Try.ntmps7
    go_wp2
    go_ret
    exact ⟨rfl, Below.refl _ _⟩
  go_enter Try.func7, Try.ntmps7
  go_wp2_with fail
  refine (drawGramSame_any a n cap w H).mono ?_
  rintro e w1 ⟨v1, st, rs, v2, st', rs', rfl, ⟨b, off, c1, rfl, hc1, hR1, hl1, hs1, hS1, hb1⟩, ⟨b', off', c2, rfl, hc2, hQ1, hl2, hs2, hS2, hb2⟩, hB1⟩
  have hA := (Below.refl w1.heap.size w1).alloc (Nat.le_refl _) (.cells #[.string st, .slice (some ⟨b, off, none⟩) rs.length c1] 25)
  have hAB := hA.alloc hA.size (.cells #[.string st', .slice (some ⟨b', off', none⟩) rs'.length c2] 25)
  have hG : BoxG ((w1.alloc (.cells #[.string st, .slice (some ⟨b, off, none⟩) rs.length c1] 25)).alloc (.cells #[.string st', .slice (some ⟨b', off', none⟩) rs'.length c2] 25)) w1.heap.size (.string st) (.slice (some ⟨b, off, none⟩) rs.length c1) := BoxG.old (blk_new _ _ rfl) _
  have hK : BoxG ((w1.alloc (.cells #[.string st, .slice (some ⟨b, off, none⟩) rs.length c1] 25)).alloc (.cells #[.string st', .slice (some ⟨b', off', none⟩) rs'.length c2] 25)) (w1.heap.size + 1) (.string st') (.slice (some ⟨b', off', none⟩) rs'.length c2) := blk_new _ _ (by simp)
  have hR2 := hR1.below hAB (Nat.le_refl _)
  have hQ2 := hQ1.below hAB (Nat.le_refl _)
  have hB2 : Below w.heap.size w _ := hB1.trans (hAB.mono hB1.size)
  clear hA hAB hR1 hQ1
  go_wp2_with fail
  refine (drawSignBig_any a n cap _ (((H.below hB1).alloc _).alloc _)).mono ?_
  rintro e W ⟨s, rfl, hs, hb3⟩
  have hGW := hG.below hb3
  have hKW := hK.below hb3
  have hRW := hR2.below hb3 (Nat.le_refl _)
  have hQW := hQ2.below hb3 (Nat.le_refl _)
  have hBW : Below w.heap.size w W := hB2.trans (hb3.mono hB2.size)
  clear hG hK hR2 hQ2 hB2 hb3 hB1
  generalize w1.heap.size = G at *
  have HR : ∀ x, RulesAt (grow W x) (some ⟨b, off, none⟩) rs := fun x => hRW.below (below_grow _ x) (Nat.le_refl _)
  have HQ : ∀ x, RulesAt (grow W x) (some ⟨b', off', none⟩) rs' := fun x => hQW.below (below_grow _ x) (Nat.le_refl _)
  have p0 : ∀ x, (grow W x).cell? ⟨G, 0, none⟩ = some (.string st) := fun x => by rw [grow_cell _ _ _ _ hGW.lt]; exact hGW.cells.1
  have p1 : ∀ x, (grow W x).cell? ⟨G, 1, none⟩ = some (.slice (some ⟨b, off, none⟩) rs.length c1) := fun x => by rw [grow_cell _ _ _ _ hGW.lt]; exact hGW.cells.2.1
  have q0 : ∀ x, (grow W x).cell? ⟨G + 1, 0, none⟩ = some (.string st') := fun x => by rw [grow_cell _ _ _ _ hKW.lt]; exact hKW.cells.1
  have q1 : ∀ x, (grow W x).cell? ⟨G + 1, 1, none⟩ = some (.slice (some ⟨b', off', none⟩) rs'.length c2) := fun x => by rw [grow_cell _ _ _ _ hKW.lt]; exact hKW.cells.2.1
  have C1 : ∀ x, Calls Try.prog 21 #[.agg #[.string st, .slice (some ⟨b, off, none⟩) rs.length c1], .agg #[.string st', .slice (some ⟨b', off', none⟩) rs'.length c2]] (grow W x) fun e w' => e = .returned (.bool (eqG st rs st' rs')) ∧ ∃ y, w' = grow W y := fun x =>
    Calls.grow_of (gramSame_any st st' _ _ c1 c2 rs rs' _ (HR x) (HQ x))
  have C2 : ∀ x, Calls Try.prog 41 #[.agg #[.string st, .slice (some ⟨b, off, none⟩) rs.length c1], .agg #[.string st', .slice (some ⟨b', off', none⟩) rs'.length c2]] (grow W x) fun e w' => e = .returned (.bool (eqG st rs st' rs')) ∧ ∃ y, w' = grow W y := fun x =>
    Calls.grow_of (sGramSame_any st st' _ _ c1 c2 rs rs' _ (HR x) (HQ x))
  have C3 : ∀ x, Calls Try.prog 21 #[.agg #[.string st', .slice (some ⟨b', off', none⟩) rs'.length c2], .agg #[.string st, .slice (some ⟨b, off, none⟩) rs.length c1]] (grow W x) fun e w' => e = .returned (.bool (eqG st rs st' rs')) ∧ ∃ y, w' = grow W y := fun x => by
    have := gramSame_any st' st _ _ c2 c1 rs' rs _ (HQ x) (HR x)
    rw [← eqG_comm] at this
    exact Calls.grow_of this
  have C4 : ∀ x, Calls Try.prog 21 #[.agg #[.string st, .slice (some ⟨b, off, none⟩) rs.length c1], .agg #[.string st, .slice (some ⟨b, off, none⟩) rs.length c1]] (grow W x) fun e w' => e = .returned (.bool true) ∧ ∃ y, w' = grow W y := fun x => by
    have := gramSame_any st st _ _ c1 c1 rs rs _ (HR x) (HR x)
    rw [eqG_refl] at this
    exact Calls.grow_of this
  generalize eqG st rs st' rs' = E at *
  go_wp2_with fail
  refine wp_region_grow (by kernel_rfl) (by kernel_rfl) ?_
  repeat (go_big_quiet_step ((first | (go_at_call 21; first | with_reducible exact C1 _ | with_reducible exact C3 _ | with_reducible exact C4 _) | (go_at_call 41; exact C2 _) | (go_at_call 28; exact Calls.grow_of_same (signBig_any _ _)) | (go_at_call 42; exact Calls.grow_of_same (sSignBig_any _ _)) | (go_at_call 34; exact Calls.grow_of_same (signSmall_any _ _)) | (go_at_call 43; exact Calls.grow_of_same (sSignSmall_any _ _)))))
  refine wpQuiet_nil ?_
  rintro _ ⟨x, rfl⟩
  have hGV := hGW.below (below_grow W x)
  have hRV := HR x
  have hBV : Below w.heap.size w (grow W x) := hBW.trans ((below_grow W x).mono hBW.size)
  clear C1 C2 C3 C4 HR HQ p0 p1 q0 q1 hGW hKW hRW hQW hBW
  generalize grow W x = V at *
  obtain ⟨g0, g1, gf0, gf1⟩ := hGV.cells
  have hGl := hGV.lt
  have nG1 : ¬ G = V.heap.size := by omega
  have nG2 : ¬ G = V.heap.size + 1 := by omega
  have O1 : OwnR ((V.alloc (.cells #[.string st, .slice (some ⟨b, off, none⟩) rs.length c1] 25)).alloc (.cells #[] 40)) (V.heap.size + 1) (.slice (some ⟨V.heap.size + 1, 0, none⟩) 0 0) [] := by
    have h := own_new (V.alloc (.cells #[.string st, .slice (some ⟨b, off, none⟩) rs.length c1] 25)) (V.heap.size + 1) (by simp)
    rwa [Deep.nblk_alloc] at h
  have hR4 := (hRV.alloc (.cells #[.string st, .slice (some ⟨b, off, none⟩) rs.length c1] 25)).alloc (.cells #[] 40)
  have hG4 := (hGV.old (.cells #[.string st, .slice (some ⟨b, off, none⟩) rs.length c1] 25)).old (.cells #[] 40)
  have hX4 : BoxG ((V.alloc (.cells #[.string st, .slice (some ⟨b, off, none⟩) rs.length c1] 25)).alloc (.cells #[] 40)) V.heap.size (.string st) (.slice (some ⟨b, off, none⟩) rs.length c1) := BoxG.old (blk_new _ _ rfl) _
  have hB4 : Below w.heap.size w ((V.alloc (.cells #[.string st, .slice (some ⟨b, off, none⟩) rs.length c1] 25)).alloc (.cells #[] 40)) := (hBV.alloc hBV.size _).alloc (hBV.alloc hBV.size _).size _
  go_wp2_with (at_builtin; refine list_append_rules rfl _ _ rfl (V.heap.size + 1) (.slice (some ⟨V.heap.size + 1, 0, none⟩) 0 0) [] rs b off c1 rfl rfl O1 hR4 ?c1 ?c2 ?_)
  case c1 => simp; omega
  case c2 => simp
  intro g5 cap5 w5 hO5' hgrow5
  have hO5 : OwnR w5 (V.heap.size + 1) (.slice (some ⟨g5, 0, none⟩) rs.length cap5) rs := by simpa using hO5'
  have hG5 : BoxG w5 G (.string st) (.slice (some ⟨b, off, none⟩) rs.length c1) := grown_keep O1 hgrow5 hG4 (fun cur h => by simp at h)
  have hX5 : BoxG w5 V.heap.size (.string st) (.slice (some ⟨b, off, none⟩) rs.length c1) := grown_keep O1 hgrow5 hX4 (fun cur h => by simp at h)
  have hV4 : Below V.heap.size V ((V.alloc (.cells #[.string st, .slice (some ⟨b, off, none⟩) rs.length c1] 25)).alloc (.cells #[] 40)) := ((Below.refl _ _).alloc (Nat.le_refl _) _).alloc (by simp) _
  have hV5 : Below V.heap.size V w5 := hV4.grown hgrow5 (by simp; omega) (by intro k hk; simp [Value.ownBlock] at hk; omega)
  clear O1 hR4 hG4 hX4 hB4 hgrow5 hV4 hO5' nG1 nG2
  have O2 := hO5.alloc (.cells #[.string ⟨#[]⟩, .string ⟨#[]⟩] 40)
  have U2 := lit_rules w5 ⟨#[]⟩ ⟨#[]⟩ (by decide) (by decide)
  have hG6' := hG5.old (.cells #[.string ⟨#[]⟩, .string ⟨#[]⟩] 40)
  have hX6' := hX5.old (.cells #[.string ⟨#[]⟩, .string ⟨#[]⟩] 40)
  have hV6' := hV5.alloc hV5.size (.cells #[.string ⟨#[]⟩, .string ⟨#[]⟩] 40)
  go_wp2_with (at_builtin; refine list_append_rules rfl _ _ rfl (V.heap.size + 1) (.slice (some ⟨g5, 0, none⟩) rs.length cap5) rs [(⟨#[]⟩, ⟨#[]⟩)] w5.heap.size 0 1 rfl rfl O2 U2 ?c1 ?c2 ?_)
  case c1 => simp; omega
  case c2 => have := hX5.lt; simp; omega
  intro g6 cap6 w6 hO6' hgrow6
  have hO6 : OwnR w6 (V.heap.size + 1) (.slice (some ⟨g6, 0, none⟩) (rs.length + 1) cap6) (rs ++ [(⟨#[]⟩, ⟨#[]⟩)]) := by simpa using hO6'
  have hG6 : BoxG w6 G (.string st) (.slice (some ⟨b, off, none⟩) rs.length c1) := grown_keep O2 hgrow6 hG6' (fun cur h => by simp at h)
  have hX6 : BoxG w6 V.heap.size (.string st) (.slice (some ⟨b, off, none⟩) rs.length c1) := grown_keep O2 hgrow6 hX6' (fun cur h => by simp at h)
  have hg5 : V.heap.size + 1 ≤ g5 := by
    obtain ⟨g', cap', cur, e, hg, _⟩ := hO5.block
    cases e
    exact hg
  have hV6 : Below V.heap.size V w6 := hV6'.grown hgrow6 hV6'.size (by intro k hk; simp [Value.ownBlock] at hk; omega)
  clear O2 U2 hG6' hX6' hV6' hgrow6 hO6' hG5 hX5 hV5 hO5
  have hO7 := hO6.store (p := ⟨V.heap.size, 1, none⟩) hX6 (by decide) (.slice (some ⟨g6, 0, none⟩) (rs.length + 1) cap6)
  have hX7 := hX6.set1 (.slice (some ⟨g6, 0, none⟩) (rs.length + 1) cap6)
  have hG7 := hG6.other (p := ⟨V.heap.size, 1, none⟩) (by show G ≠ V.heap.size; omega) (.slice (some ⟨g6, 0, none⟩) (rs.length + 1) cap6)
  have hV7 : Below V.heap.size V (w6.setCell ⟨V.heap.size, 1, none⟩ (.slice (some ⟨g6, 0, none⟩) (rs.length + 1) cap6)) := hV6.setCell (p := ⟨V.heap.size, 1, none⟩) (Nat.le_refl _) _
  obtain ⟨x0, x1, xf0, xf1⟩ := hX6.cells
  have hR7 := hRV.below hV7 (Nat.le_refl _)
  obtain ⟨g', cap', e, _, _, _, hU7⟩ := OwnR.at (by simpa using hO7 : OwnR _ (V.heap.size + 1) (.slice (some ⟨g6, 0, none⟩) (rs ++ [((⟨#[]⟩ : ByteArray), (⟨#[]⟩ : ByteArray))]).length cap6) (rs ++ [(⟨#[]⟩, ⟨#[]⟩)])) (small_snoc hS1 (by decide) (by decide)) (by simp; omega)
  simp only [Value.slice.injEq, Option.some.injEq, Addr.mk.injEq] at e
  obtain ⟨⟨rfl, _⟩, _, rfl⟩ := e
  have hSame := gramSame_any st st (some ⟨b, off, none⟩) (some ⟨g6, 0, none⟩) c1 cap6 rs (rs ++ [(⟨#[]⟩, ⟨#[]⟩)]) _ hR7 hU7
  rw [eqG_longer, show (rs ++ [((⟨#[]⟩ : ByteArray), (⟨#[]⟩ : ByteArray))]).length = rs.length + 1 from by simp] at hSame
  have hBz : Below w.heap.size w (w6.setCell ⟨V.heap.size, 1, none⟩ (.slice (some ⟨g6, 0, none⟩) (rs.length + 1) cap6)) := hBV.trans (hV7.mono hBV.size)
  clear hO6 hG6 hX6 hV6 hO7 hV7 hR7 hU7 hRV hGV hBV
  obtain ⟨y0, y1, _, _⟩ := hX7.cells
  obtain ⟨z0, z1, _, _⟩ := hG7.cells
  have hnb := not_both s
  cases hbs : isBigS s with
  | false =>
    go_wp2_with (first | (go_at_call 21; refine hSame.mono ?_; rintro e w8 ⟨rfl, hb8⟩) | (go_at_call 28; refine (signBig_any _ _).mono ?_; rintro e w9 ⟨rfl, rfl⟩; rw [hbs]))
    go_ret
    exact ⟨rfl, hBz.trans (hb8.mono hBz.size)⟩
  | true =>
    have hsm : isSmallS s = false := by rw [hbs] at hnb; simpa using hnb
    go_wp2_with (first | (go_at_call 21; refine hSame.mono ?_; rintro e w8 ⟨rfl, hb8⟩) | (go_at_call 28; refine (signBig_any _ _).mono ?_; rintro e w9 ⟨rfl, rfl⟩; rw [hbs]) | (go_at_call 34; refine (signSmall_any _ _).mono ?_; rintro e w9 ⟨rfl, rfl⟩; rw [hsm]))
    go_ret
    exact ⟨rfl, hBz.trans (hb8.mono hBz.size)⟩
end Go.Proofs.Ytmmkeaciaolapaa
