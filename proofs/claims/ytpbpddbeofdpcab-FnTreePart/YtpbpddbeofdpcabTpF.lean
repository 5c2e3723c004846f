/- The walk of FnTreePart. -/
import Derived.Test.YtpbpddbeofdpcabTyA
namespace Go.Proofs.Ytpbpddbeofdpcab
open Go.ChangeShapes Go.WideShapes Go.ChangeAt Go.RowKit Go.Deep
set_option maxRecDepth 100000
set_option linter.unusedVariables false
theorem shape_mono (rs : List RuleT) : ∀ (d : Nat) (T : Tr), shapeB rs d T = true → shapeB rs (d + 1) T = true
  | 0, _, h => by rw [shapeB] at h; cases h
  | d + 1, .node s r ks, h => by
    rw [shape_split, Bool.and_eq_true, List.all_eq_true] at h ⊢
    exact ⟨h.1, fun k hk => shape_mono rs d k (h.2 k hk)⟩
theorem ok_facts {st : ByteArray} {rs : List RuleT} {s : ByteArray} {r : Int} {ks : List Tr} (h : treeOkB st rs (.node s r ks) = true) : gramOkB st rs = true ∧ (Tr.node s r ks).sz ≤ 60 ∧ ∀ k ∈ ks, treeOkB st rs k = true ∧ k.sz < (Tr.node s r ks).sz := by
  unfold treeOkB at h
  simp only [Bool.and_eq_true, decide_eq_true_eq] at h
  obtain ⟨hg, hs, hm⟩ := h
  have he := many_shape rs 20 _ hs
  rw [he] at hm
  refine ⟨hg, by omega, fun k hk => ?_⟩
  have hlt := Tr.sz_kid (s := s) (r := r) hk
  rw [shape_split, Bool.and_eq_true, List.all_eq_true] at hs
  have hk20 := shape_mono rs 19 k (hs.2 k hk)
  refine ⟨?_, hlt⟩
  unfold treeOkB
  simp only [Bool.and_eq_true, decide_eq_true_eq]
  refine ⟨hg, hk20, ?_⟩
  rw [many_shape rs 20 k hk20]
  omega
set_option maxHeartbeats 8000000 in
theorem treePart_fn (a : Option Addr) (n cap : Nat) (w : World) (H : BytesAt w a n cap) :
    Calls Try.prog 5 #[.slice a n cap] w fun e w' => e = .returned (.bool true) ∧ Below w.heap.size w w' := by
  have hm := H.2.1
  have hn := H.1
  unfold maxLen at hm
  by_cases hbig : (1048576 : Int) < (n : Int)
  · go_enter Try.func5, Try.ntmps5
    go_wp2
    go_ret
    exact ⟨rfl, Below.refl _ _⟩
  · go_enter Try.func5, Try.ntmps5
    go_wp2_with fail
    refine (drawTreeOk_any a n cap _ H).mono ?_
    rintro e w2 ⟨gv, tv, rfl, ⟨st, rs, T, ⟨b, off, cg, rfl, hcg, HU, _, hst, _, _⟩, HT, hsz, hwt⟩, hb2⟩
    obtain ⟨s, r, ks, ka, kc, rfl, rfl, hs, _⟩ := HT.tr.open
    obtain ⟨ks', eT, _, hml, HK⟩ := HT.kid
    simp only [Tr.node.injEq, true_and] at eT
    subst eT
    unfold maxLen at hml
    have bx := ((Below.refl w2.heap.size w2).alloc (Nat.le_refl _) (.cells #[.string st, .slice (some ⟨b, off, none⟩) rs.length cg] 25)).alloc (by simp) (.cells #[.string s, .int .i64 r, .slice ka ks.length kc] 28)
    have G3 := (Box2.new w2 (.string st) (.slice (some ⟨b, off, none⟩) rs.length cg) 25).old (.cells #[.string s, .int .i64 r, .slice ka ks.length kc] 28)
    have X3 := Box3.new (w2.alloc (.cells #[.string st, .slice (some ⟨b, off, none⟩) rs.length cg] 25)) (.string s) (.int .i64 r) (.slice ka ks.length kc) 28
    simp only [World.size_alloc] at X3
    have HT3 := HT.keep bx
    have U3 := HU.below bx (Nat.le_refl _)
    have c3 := Below.on hb2 bx (Nat.le_refl _)
    have K3 : ∀ i (hi : i < ks.length), KidAt _ w.heap.size ka i ks[i] := fun i hi => (HK i hi).keep bx
    go_wp2_with fail
    refine (treeOk_any _ _ _ rs _ _ _ U3 hcg HT3.tr (by omega)).mono ?_
    rintro e w4 ⟨rfl, hb4⟩
    have G4 := G3.below hb4
    have X4 := X3.below hb4
    have HT4 := HT3.keep hb4
    have U4 := U3.below hb4 (Nat.le_refl _)
    have c4 := Below.on c3 hb4 (Nat.le_refl _)
    have K4 : ∀ i (hi : i < ks.length), KidAt w4 w.heap.size ka i ks[i] := fun i hi => (K3 i hi).keep hb4
    clear G3 X3 HT3 U3 c3 K3 hb4 bx HK HT HU hb2
    obtain ⟨g0, g1⟩ := G4.2
    obtain ⟨x0, x1, x2⟩ := X4.2
    have CO : ∀ v, RulesAt v (some ⟨b, off, none⟩) rs → TrIn v 0 (.agg #[.string s, .int .i64 r, .slice ka ks.length kc]) (.node s r ks) → Calls Try.prog 11 #[.agg #[.string st, .slice (some ⟨b, off, none⟩) rs.length cg], .agg #[.string s, .int .i64 r, .slice ka ks.length kc]] v fun e w' => e = .returned (.bool (treeOkB st rs (.node s r ks))) ∧ Below v.heap.size v w' :=
      fun v hv ht => sTreeOk_any _ _ _ rs _ _ _ hv hcg ht hwt
    cases hok : treeOkB st rs (.node s r ks) with
    | false =>
      rw [hok] at CO
      go_wp2_with fail
      refine (CO _ U4 HT4.tr).mono ?_
      rintro e w5 ⟨rfl, hb5⟩
      have U5 := U4.below hb5 (Nat.le_refl _)
      have HT5 := HT4.keep hb5
      have c5 := Below.on c4 hb5 (Nat.le_refl _)
      have G5 := G4.below hb5
      have X5 := X4.below hb5
      clear g0 g1 x0 x1 x2 U4 HT4 c4 hb5
      obtain ⟨g0, g1⟩ := G5.2
      obtain ⟨x0, x1, x2⟩ := X5.2
      go_wp2_with fail
      refine (CO _ U5 HT5.tr).mono ?_
      rintro e w6 ⟨rfl, hb6⟩
      go_wp2_with fail
      go_ret
      exact ⟨rfl, Below.on c5 hb6 (Nat.le_refl _)⟩
    | true =>
      rw [hok] at CO
      obtain ⟨hgr, hs60, hkids⟩ := ok_facts hok
      have HKS := Lib.hid hkids
      clear hkids
      go_wp2_with fail
      refine (CO _ U4 HT4.tr).mono ?_
      rintro e w5 ⟨rfl, hb5⟩
      have U5 := U4.below hb5 (Nat.le_refl _)
      have HT5 := HT4.keep hb5
      have c5 := Below.on c4 hb5 (Nat.le_refl _)
      have G5 := G4.below hb5
      have X5 := X4.below hb5
      have K5 : ∀ i (hi : i < ks.length), KidAt w5 w.heap.size ka i ks[i] := fun i hi => (K4 i hi).keep hb5
      clear g0 g1 x0 x1 x2 U4 HT4 c4 hb5 G4 X4 K4 CO
      obtain ⟨x0, x1, x2⟩ := X5.2
      go_wp2_with fail
      refine (treeSize_any _ _ _ _ HT5 (by omega)).mono ?_
      rintro e w6 ⟨rfl, hb6⟩
      have U6 := U5.below hb6 (Nat.le_refl _)
      have c6 := Below.on c5 hb6 (Nat.le_refl _)
      have G6 := G5.below hb6
      have X6 := X5.below hb6
      have K6 : ∀ i (hi : i < ks.length), KidAt w6 w.heap.size ka i ks[i] := fun i hi => (K5 i hi).keep hb6
      clear x0 x1 x2 U5 HT5 c5 hb6 G5 X5 K5
      have HK6 := Lib.hid K6
      clear K6
      generalize (Tr.node s r ks).sz = Z at *
      go_wp2_with fail
      go_loopw [7] (fun i wr => ∃ k : Nat, k ≤ ks.length ∧ i = .int .i64 k ∧ Below w6.heap.size w6 wr) (fun i _ => ks.length - (intOf i).toNat)
      case atStart => exact ⟨0, Nat.zero_le _, rfl, Below.refl _ _⟩
      case round =>
        obtain ⟨k, hk, rfl, hb⟩ := hrel
        have Gr := G6.below hb
        have Xr := X6.below hb
        have Ur := U6.below hb (Nat.le_refl _)
        have cr := Below.on c6 hb (Nat.le_refl _)
        obtain ⟨g0, g1⟩ := Gr.2
        obtain ⟨x0, x1, x2⟩ := Xr.2
        by_cases hlt : k < ks.length
        · have hkl : (k : Int) < (ks.length : Int) := by omega
          obtain ⟨g, goff, s1, r1, a1, n1, c1, e, hg, d0, d1, d2, HTk⟩ := (HK6.out k hlt).keep hb
          subst e
          obtain ⟨hok1, hlt1⟩ := HKS.out ks[k] (List.getElem_mem hlt)
          have hgl := Gr.1
          have hxl := Xr.1
          have p0 : ∀ x, (grow wr x).cell? ⟨w2.heap.size, 0, none⟩ = some (.string st) := fun x => by rw [grow_cell _ _ _ _ hgl, g0]
          have p1 : ∀ x, (grow wr x).cell? ⟨w2.heap.size, 1, none⟩ = some (.slice (some ⟨b, off, none⟩) rs.length cg) := fun x => by rw [grow_cell _ _ _ _ hgl, g1]
          have p2 : ∀ x, (grow wr x).cell? ⟨w2.heap.size + 1, 2, none⟩ = some (.slice (some ⟨g, goff, none⟩) ks.length kc) := fun x => by rw [grow_cell _ _ _ _ hxl, x2]
          have q0 : ∀ x, (grow wr x).cell? ⟨g, goff + k * 3, none⟩ = some (.string s1) := fun x => by rw [grow_cell _ _ _ _ hg, d0]
          have q1 : ∀ x, (grow wr x).cell? ⟨g, goff + k * 3 + 1, none⟩ = some (.int .i64 r1) := fun x => by rw [grow_cell _ _ _ _ hg, d1]
          have q2 : ∀ x, (grow wr x).cell? ⟨g, goff + k * 3 + 2, none⟩ = some (.slice a1 n1 c1) := fun x => by rw [grow_cell _ _ _ _ hg, d2]
          have CO : ∀ x, Calls Try.prog 27 #[.agg #[.string st, .slice (some ⟨b, off, none⟩) rs.length cg], .agg #[.string s1, .int .i64 r1, .slice a1 n1 c1]] (grow wr x) fun e w'' => e = .returned (.bool true) ∧ ∃ y, w'' = grow wr y := fun x => by
            have := treeOk_any st _ cg rs ks[k] _ (grow wr x) (Ur.below (below_grow _ _) (Nat.le_refl _)) hcg (HTk.keep (below_grow _ _)).tr (by omega)
            rw [hok1] at this
            exact Calls.grow_of this
          have CS : ∀ x, Calls Try.prog 13 #[.agg #[.string s1, .int .i64 r1, .slice a1 n1 c1]] (grow wr x) fun e w'' => e = .returned (.int .i64 (ks[k].sz : Int)) ∧ ∃ y, w'' = grow wr y := fun x => Calls.grow_of (treeSize_any _ _ _ _ (HTk.keep (below_grow _ _)) (by omega))
          have hge : decide ((Z : Int) ≤ (ks[k].sz : Int)) = false := by rw [decide_eq_false_iff_not]; omega
          generalize ks[k].sz = z1 at *
          clear d0 d1 d2 g0 g1 x0 x1
          go_wp2_with fail
          refine wp_region_grow (by kernel_rfl) (by kernel_rfl) ?_
          repeat (go_big_quiet_step ((first | (go_at_call 27; exact CO _) | (go_at_call 13; exact CS _))))
          refine wpQuiet_nil ?_
          rintro _ ⟨x, rfl⟩
          clear hge
          go_wp2_with fail
          go_roundw
          case rel => exact ⟨k + 1, by omega, by go_num, hb.trans ((below_grow _ _).mono hb.size)⟩
          case measure => simp [intOf]; omega
        · have hnk : ¬ (k : Int) < (ks.length : Int) := by omega
          have h60 : decide ((Z : Int) ≤ 60) = true := by rw [decide_eq_true_eq]; omega
          go_wp2_with fail
          go_ret
          exact ⟨ret_bool (by simp), cr⟩
end Go.Proofs.Ytpbpddbeofdpcab
