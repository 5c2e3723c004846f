/- The walk of FnTreeFirst. -/
import Derived.Test.YtngekjbdjnfhmaaTfM
import Derived.Test.YtngekjbdjnfhmaaYldB
import Derived.Test.YtngekjbdjnfhmaaLawN
namespace Go.Proofs.Ytngekjbdjnfhmaa
open Go.ChangeShapes Go.WideShapes Go.ChangeAt Go.RowKit Go.Deep
set_option maxRecDepth 100000
set_option linter.unusedVariables false
set_option maxHeartbeats 4000000 in
theorem treeFirst_fn (a : Option Addr) (n cap : Nat) (w : World) (H : BytesAt w a n cap) :
    Calls Try.prog 3 #[.slice a n cap] w fun e w' => e = .returned (.bool true) ∧ Below w.heap.size w w' := by
  have hm := H.2.1
  have hn := H.1
  unfold maxLen at hm
  by_cases hbig : (1048576 : Int) < (n : Int)
  · go_enter Try.func3, Try.ntmps3
    go_wp2
    go_ret
    exact ⟨rfl, Below.refl _ _⟩
  · go_enter Try.func3, Try.ntmps3
    go_wp2_with fail
    refine (drawTreeOk_any a n cap _ H).mono ?_
    rintro e w2 ⟨gv, tv, rfl, ⟨st, rs, T, ⟨b, off, cg, rfl, hcg, HU, _, hst, _, _⟩, HT, hsz, hwt⟩, hb2⟩
    obtain ⟨s, r, ks, ka, kc, rfl, rfl, hs, _⟩ := HT.tr.open
    have bx := ((Below.refl w2.heap.size w2).alloc (Nat.le_refl _) (.cells #[.string st, .slice (some ⟨b, off, none⟩) rs.length cg] 25)).alloc (by simp) (.cells #[.string s, .int .i64 r, .slice ka ks.length kc] 28)
    have G3 := (Box2.new w2 (.string st) (.slice (some ⟨b, off, none⟩) rs.length cg) 25).old (.cells #[.string s, .int .i64 r, .slice ka ks.length kc] 28)
    have X3 := Box3.new (w2.alloc (.cells #[.string st, .slice (some ⟨b, off, none⟩) rs.length cg] 25)) (.string s) (.int .i64 r) (.slice ka ks.length kc) 28
    simp only [World.size_alloc] at X3
    have HT3 := HT.keep bx
    have U3 := HU.below bx (Nat.le_refl _)
    have c3 := Below.on hb2 bx (Nat.le_refl _)
    go_wp2_with fail
    refine (treeOk_any _ _ _ rs _ _ _ U3 hcg HT3.tr (by omega)).mono ?_
    rintro e w4 ⟨rfl, hb4⟩
    have G4 := G3.below hb4
    have X4 := X3.below hb4
    have HT4 := HT3.keep hb4
    have U4 := U3.below hb4 (Nat.le_refl _)
    have c4 := Below.on c3 hb4 (Nat.le_refl _)
    clear G3 X3 HT3 U3 c3 hb4 bx HT HU hb2
    obtain ⟨g0, g1⟩ := G4.2
    obtain ⟨x0, x1, x2⟩ := X4.2
    have CO : ∀ v, RulesAt v (some ⟨b, off, none⟩) rs → TrIn v 0 (.agg #[.string s, .int .i64 r, .slice ka ks.length kc]) (.node s r ks) → Calls Try.prog 6 #[.agg #[.string st, .slice (some ⟨b, off, none⟩) rs.length cg], .agg #[.string s, .int .i64 r, .slice ka ks.length kc]] v fun e w' => e = .returned (.bool (treeOkB st rs (.node s r ks))) ∧ Below v.heap.size v w' :=
      fun v hv ht => sTreeOk_any _ _ _ rs _ _ _ hv hcg ht hwt
    cases hok : treeOkB st rs (.node s r ks) with
    | false =>
      rw [hok] at CO
      clear hok
      go_wp2_with fail
      refine (CO _ U4 HT4.tr).mono ?_
      rintro e w5 ⟨rfl, hb5⟩
      have U5 := U4.below hb5 (Nat.le_refl _)
      have HT5 := HT4.keep hb5
      have c5 := Below.on c4 hb5 (Nat.le_refl _)
      have G5 := G4.below hb5
      have X5 := X4.below hb5
      clear g0 g1 x0 x1 x2 U4 HT4 c4 hb5
      obtain ⟨g0, g1⟩ := G5.2
      obtain ⟨x0, x1, x2⟩ := X5.2
      go_wp2_with fail
      refine (CO _ U5 HT5.tr).mono ?_
      rintro e w6 ⟨rfl, hb6⟩
      go_wp2_with fail
      go_ret
      exact ⟨rfl, Below.on c5 hb6 (Nat.le_refl _)⟩
    | true =>
      rw [hok] at CO
      have HOK := Lib.hid hok
      clear hok
      go_wp2_with fail
      refine (CO _ U4 HT4.tr).mono ?_
      rintro e w5 ⟨rfl, hb5⟩
      have U5 := U4.below hb5 (Nat.le_refl _)
      have HT5 := HT4.keep hb5
      have c5 := Below.on c4 hb5 (Nat.le_refl _)
      have G5 := G4.below hb5
      have X5 := X4.below hb5
      clear g0 g1 x0 x1 x2 U4 HT4 c4 hb5 G4 X4 CO
      obtain ⟨x0, x1, x2⟩ := X5.2
      go_wp2_with fail
      refine (treeYield_any _ _ _ _ HT5 (by omega)).mono ?_
      rintro e w6 ⟨rfl, hb6⟩
      have U6 := U5.below hb6 (Nat.le_refl _)
      have c6 := Below.on c5 hb6 (Nat.le_refl _)
      have G6 := G5.below hb6
      have X6 := X5.below hb6
      clear x0 x1 x2 U5 HT5 c5 hb6 G5 X5
      obtain ⟨g0, g1⟩ := G6.2
      obtain ⟨x0, x1, x2⟩ := X6.2
      go_wp2_with fail
      refine (firstOf_any st _ cg rs s _ U6 hcg hs).mono ?_
      rintro e w7 ⟨F, hF, rfl, hb7⟩
      have c7 := Below.on c6 hb7 (Nat.le_refl _)
      have hfirst := first_of_tree HOK.out (F := F) hF
      have HFI := Lib.hid hfirst
      clear hfirst hF U6 G6 X6 g0 g1 x0 x1 x2 c6 hb7 HOK
      simp only [Tr.sign] at HFI
      cases hy : yieldL (.node s r ks) with
      | nil =>
        have h1 := HFI.out.1 hy
        rw [h1]
        clear h1 hy HFI
        have e1 : (bytesOf []).toList = [] := by rw [Go.ByteArray.toList_eq]; rfl
        have e1b : (bytesOf []).toList.isEmpty = true := by rw [e1]; rfl
        generalize bytesOf (firstRes st rs F s).1 = q at *
        go_wp2_with fail
        go_ret
        exact ⟨rfl, c7⟩
      | cons c ys =>
        obtain ⟨m, h1, h2⟩ := HFI.out.2 c ys hy
        rw [h1]
        clear h1 hy HFI
        have e1 : ¬ (bytesOf (c :: ys)).toList = [] := by rw [Go.ByteArray.toList_eq]; simp [bytesOf]
        have e1b : (bytesOf (c :: ys)).toList.isEmpty = false := by rw [Go.ByteArray.toList_eq]; rfl
        have e2 : 0 < (bytesOf (c :: ys)).size := by rw [bytesOf_size]; simp
        have e3 : ((bytesOf (c :: ys))[0]'e2) = c := rfl
        have CW : ∀ v, Calls Try.prog 9 #[.string (bytesOf (textN m)), .int .u8 (((bytesOf (c :: ys))[0]'e2).toNat : Int)] v fun e w' => e = .returned (.bool true) ∧ v = w' := fun v => (wpHas_text m _ v).mono fun e w' h => ⟨by rw [h.1, e3, h2], h.2⟩
        clear e3 h2
        generalize (firstRes st rs F s).2 = q at *
        generalize bytesOf (c :: ys) = z at *
        go_wp2_with fail
        refine (CW _).mono ?_
        rintro e w8 ⟨rfl, rfl⟩
        go_wp2_with fail
        go_ret
        exact ⟨rfl, c7⟩
end Go.Proofs.Ytngekjbdjnfhmaa
