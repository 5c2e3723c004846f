/- The walk of FnTreeBent. -/
import Derived.Test.YtoaajnipmiffpaaDoorDrawX
namespace Go.Proofs.YtoaajnipmiffpaaDoor
open Go.ChangeShapes Go.WideShapes Go.ChangeAt Go.RowKit Go.Deep
set_option maxRecDepth 100000
set_option linter.unusedVariables false
set_option maxHeartbeats 2000000 in
/-- no tree: no text -/
theorem treeText_bad (st : ByteArray) (ag : Option Addr) (cg : Nat) (rs : List RuleT) (T : Tr) (v : Value) (w : World) (HR : RulesAt w ag rs) (hcg : rs.length ≤ cg) (HT : TrIn w 0 v T) (hz : T.sz ≤ 2000000) (hok : treeOkB st rs T = false) :
    Calls Tryd.prog 7 #[.agg #[.string st, .slice ag rs.length cg], v] w fun e w' => e = .returned (.string ⟨#[]⟩) ∧ Below w.heap.size w w' := by
  obtain ⟨s, r, ks, a, cap, rfl, hTe, _⟩ := HT.open
  clear hTe
  have hb2 := ((Below.refl w.heap.size w).alloc (Nat.le_refl _) (.cells #[.string st, .slice ag rs.length cg] 25)).alloc (by simp) (.cells #[.string s, .int .i64 r, .slice a ks.length cap] 28)
  have HR2 := HR.below hb2 (Nat.le_refl _)
  have HT2 := HT.keep hb2
  go_enter Tryd.func7, Tryd.ntmps7
  go_wp2_with fail
  refine (treeOk_any st ag cg rs T _ _ HR2 hcg HT2 hz).mono ?_
  rintro e w3 ⟨rfl, hb3⟩
  have hB3 := Below.on hb2 hb3 (Nat.le_refl _)
  rw [hok]
  clear hb2 hb3 HR2 HT2
  go_wp2_with fail
  go_ret
  exact ⟨rfl, hB3⟩
set_option maxHeartbeats 2000000 in
/-- no tree: no rules -/
theorem treeRules_bad (st : ByteArray) (ag : Option Addr) (cg : Nat) (rs : List RuleT) (T : Tr) (v : Value) (w : World) (HR : RulesAt w ag rs) (hcg : rs.length ≤ cg) (HT : TrIn w 0 v T) (hz : T.sz ≤ 2000000) (hok : treeOkB st rs T = false) :
    Calls Tryd.prog 8 #[.agg #[.string st, .slice ag rs.length cg], v] w fun e w' => e = .returned (.slice none 0 0) ∧ Below w.heap.size w w' := by
  obtain ⟨s, r, ks, a, cap, rfl, hTe, _⟩ := HT.open
  clear hTe
  have hb2 := ((Below.refl w.heap.size w).alloc (Nat.le_refl _) (.cells #[.string st, .slice ag rs.length cg] 25)).alloc (by simp) (.cells #[.string s, .int .i64 r, .slice a ks.length cap] 28)
  have HR2 := HR.below hb2 (Nat.le_refl _)
  have HT2 := HT.keep hb2
  go_enter Tryd.func8, Tryd.ntmps8
  go_wp2_with fail
  refine (treeOk_any st ag cg rs T _ _ HR2 hcg HT2 hz).mono ?_
  rintro e w3 ⟨rfl, hb3⟩
  have hB3 := Below.on hb2 hb3 (Nat.le_refl _)
  rw [hok]
  clear hb2 hb3 HR2 HT2
  go_wp2_with fail
  go_ret
  exact ⟨rfl, hB3⟩
set_option maxHeartbeats 8000000 in
theorem treeBent_fn (a : Option Addr) (n cap : Nat) (w : World) (H : BytesAt w a n cap) (hL : laidMetH Tryd.prog Rows.fnTreeBentRow.laid w) :
    Calls Tryd.prog 3 #[.slice a n cap] w fun e w' => e = .returned (.bool true) ∧ Below w.heap.size w w' := by
  clear hL
  have hm := H.2.1
  have hn := H.1
  unfold maxLen at hm
  by_cases hbig : (1048576 : Int) < (n : Int)
  · go_enter Tryd.func3, Tryd.ntmps3
    go_wp2
    go_ret
    exact ⟨rfl, Below.refl _ _⟩
  · go_enter Tryd.func3, Tryd.ntmps3
    go_wp2_with fail
    refine (drawTreeRules_any a n cap _ H).mono ?_
    rintro e w2 ⟨gv, tv, rfl, ⟨st, rs, T, ⟨b, off, cg, rfl, hcg, HU, _, hst, _, _⟩, HT, hsz, hwt⟩, hb2⟩
    obtain ⟨s, r, ks, ka, kc, rfl, rfl, hs, _⟩ := HT.tr.open
    have bx := ((Below.refl w2.heap.size w2).alloc (Nat.le_refl _) (.cells #[.string st, .slice (some ⟨b, off, none⟩) rs.length cg] 25)).alloc (by simp) (.cells #[.string s, .int .i64 r, .slice ka ks.length kc] 28)
    have G3 := (Box2.new w2 (.string st) (.slice (some ⟨b, off, none⟩) rs.length cg) 25).old (.cells #[.string s, .int .i64 r, .slice ka ks.length kc] 28)
    have X3 := Box3.new (w2.alloc (.cells #[.string st, .slice (some ⟨b, off, none⟩) rs.length cg] 25)) (.string s) (.int .i64 r) (.slice ka ks.length kc) 28
    simp only [World.size_alloc] at X3
    have HT3 := HT.keep bx
    have U3 := HU.below bx (Nat.le_refl _)
    have c3 := Below.on hb2 bx (Nat.le_refl _)
    go_wp2_with fail
    refine (treeOk_any _ _ _ rs _ _ _ U3 hcg HT3.tr (by omega)).mono ?_
    rintro e w4 ⟨rfl, hb4⟩
    have G4 := G3.below hb4
    have X4 := X3.below hb4
    have HT4 := HT3.keep hb4
    have U4 := U3.below hb4 (Nat.le_refl _)
    have c4 := Below.on c3 hb4 (Nat.le_refl _)
    clear G3 X3 HT3 U3 c3 hb4 bx HT HU hb2
    obtain ⟨g0, g1⟩ := G4.2
    obtain ⟨x0, x1, x2⟩ := X4.2
    have CO : ∀ v, RulesAt v (some ⟨b, off, none⟩) rs → TrIn v 0 (.agg #[.string s, .int .i64 r, .slice ka ks.length kc]) (.node s r ks) → Calls Tryd.prog 6 #[.agg #[.string st, .slice (some ⟨b, off, none⟩) rs.length cg], .agg #[.string s, .int .i64 r, .slice ka ks.length kc]] v fun e w' => e = .returned (.bool (treeOkB st rs (.node s r ks))) ∧ Below v.heap.size v w' :=
      fun v hv ht => sTreeOk_any _ _ _ rs _ _ _ hv hcg ht hwt
    cases hok : treeOkB st rs (.node s r ks) with
    | true =>
      rw [hok] at CO
      go_wp2_with fail
      refine (CO _ U4 HT4.tr).mono ?_
      rintro e w5 ⟨rfl, hb5⟩
      have U5 := U4.below hb5 (Nat.le_refl _)
      have HT5 := HT4.keep hb5
      have c5 := Below.on c4 hb5 (Nat.le_refl _)
      have G5 := G4.below hb5
      have X5 := X4.below hb5
      clear g0 g1 x0 x1 x2 U4 HT4 c4 hb5
      obtain ⟨g0, g1⟩ := G5.2
      obtain ⟨x0, x1, x2⟩ := X5.2
      go_wp2_with fail
      refine (CO _ U5 HT5.tr).mono ?_
      rintro e w6 ⟨rfl, hb6⟩
      go_wp2_with fail
      go_ret
      exact ⟨rfl, Below.on c5 hb6 (Nat.le_refl _)⟩
    | false =>
      rw [hok] at CO
      go_wp2_with fail
      refine (CO _ U4 HT4.tr).mono ?_
      rintro e w5 ⟨rfl, hb5⟩
      have U5 := U4.below hb5 (Nat.le_refl _)
      have HT5 := HT4.keep hb5
      have c5 := Below.on c4 hb5 (Nat.le_refl _)
      have G5 := G4.below hb5
      have X5 := X4.below hb5
      clear g0 g1 x0 x1 x2 U4 HT4 c4 hb5 G4 X4
      obtain ⟨g0, g1⟩ := G5.2
      obtain ⟨x0, x1, x2⟩ := X5.2
      go_wp2_with fail
      refine (treeText_bad st _ cg rs _ _ _ U5 hcg HT5.tr (by omega) hok).mono ?_
      rintro e w6 ⟨rfl, hb6⟩
      have U6 := U5.below hb6 (Nat.le_refl _)
      have HT6 := HT5.keep hb6
      have c6 := Below.on c5 hb6 (Nat.le_refl _)
      have G6 := G5.below hb6
      have X6 := X5.below hb6
      clear g0 g1 x0 x1 x2 U5 HT5 c5 hb6 G5 X5
      obtain ⟨g0, g1⟩ := G6.2
      obtain ⟨x0, x1, x2⟩ := X6.2
      go_wp2_with fail
      refine (treeRules_bad st _ cg rs _ _ _ U6 hcg HT6.tr (by omega) hok).mono ?_
      rintro e w7 ⟨rfl, hb7⟩
      go_wp2_with fail
      go_ret
      exact ⟨rfl, Below.on c6 hb7 (Nat.le_refl _)⟩
end Go.Proofs.YtoaajnipmiffpaaDoor
