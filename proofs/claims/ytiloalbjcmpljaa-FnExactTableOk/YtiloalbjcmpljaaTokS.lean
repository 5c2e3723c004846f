/- TableOk of the model. -/
import Derived.Test.YtiloalbjcmpljaaTokT
namespace Go.Proofs.Ytiloalbjcmpljaa
open Go.ChangeShapes Go.WideShapes Go.ChangeAt Go.RowKit Go.Deep
set_option maxRecDepth 100000
set_option maxHeartbeats 4000000 in
theorem sTableOk_any (st : ByteArray) (b : Option Addr) (kup : Nat) (rs : List RuleT) (m : Int) (a : Option Addr) (cap : Nat) (xs : List TriT) (c : Option Addr) (cup : Nat) (ys : List TriT) (w : World) (H : RulesAt w b rs) (hcap : rs.length ≤ kup) (HX : TrisAt w a xs) (HY : TrisAt w c ys) :
    Calls Try.prog 10 #[.agg #[.string st, .slice b rs.length kup], tabV m a xs.length cap c ys.length cup] w fun e w' => e = .returned (.bool (tabOkB st rs m xs ys)) ∧ Below w.heap.size w w' := by
  have hn1 := HX.1
  have hn2 := HY.1
  have hn3 := H.1
  unfold maxLen at hn1 hn2 hn3
  have hb1 := ((Below.refl w.heap.size w).alloc (Nat.le_refl _) (.cells #[.string st, .slice b rs.length kup] 34)).alloc (by simp) (.cells #[.int .i64 m, .slice a xs.length cap, .slice c ys.length cup] 39)
  have G1 := (Box2.new w (.string st) (.slice b rs.length kup) 34).old (.cells #[.int .i64 m, .slice a xs.length cap, .slice c ys.length cup] 39)
  have X1 := BoxT.new (w.alloc (.cells #[.string st, .slice b rs.length kup] 34)) (.int .i64 m) (.slice a xs.length cap) (.slice c ys.length cup) 39
  simp only [World.size_alloc] at X1
  go_enter Try.func10, Try.ntmps10
  go_wp2_with fail
  refine (sGramOk_any st b kup rs _ (H.below hb1 (Nat.le_refl _)) hcap).mono ?_
  rintro e w2 ⟨rfl, hb2⟩
  have X2 := X1.below hb2
  have G2 := G1.below hb2
  have c2 := Below.on hb1 hb2 (Nat.le_refl _)
  clear X1 G1 hb1 hb2
  obtain ⟨x0, x1, x2⟩ := X2.2
  obtain ⟨g0, g1⟩ := G2.2
  by_cases hlo : gramOkB st rs = true ∧ 1 ≤ m ∧ m ≤ 40
  · obtain ⟨e0, e1, e2⟩ := hlo
    have E := Lib.hid (And.intro e0 (And.intro e1 e2))
    have d1 : decide (m < 1) = false := by rw [decide_eq_false_iff_not]; omega
    have d2 : decide (40 < m) = false := by rw [decide_eq_false_iff_not]; omega
    rw [e0]
    clear e0 e1 e2
    go_wp2_with fail
    clear x0 x1 x2 g0 g1 d1 d2
    go_loopw [5] (fun i wr => ∃ k : Nat, k ≤ xs.length ∧ i = .int .i64 k ∧ Hid (∀ j (h : j < xs.length), j < k → mvB m xs[j] = true) ∧ Below w.heap.size w wr ∧ BoxT wr (w.heap.size + 1) (.int .i64 m) (.slice a xs.length cap) (.slice c ys.length cup) ∧ Box2 wr w.heap.size (.string st) (.slice b rs.length kup)) (fun i _ => xs.length - (intOf i).toNat)
    case atStart => exact ⟨0, Nat.zero_le _, rfl, fun j _ h => by omega, c2, X2, G2⟩
    case round =>
      clear c2 X2 G2
      obtain ⟨k, hk, rfl, HG, hb, X, G⟩ := hrel
      have hX := X.1
      have hG := G.1
      by_cases hlt : k < xs.length
      · obtain ⟨z, b', off, e, hbb, c0, c1, c2⟩ := (HX.below hb (Nat.le_refl _)).2 k hlt
        have hkl : (k : Int) < (xs.length : Int) := by omega
        have hfin : ∀ x, Below w.heap.size w (grow wr x) := fun x => hb.trans ((below_grow _ _).mono hb.size)
        have X' : ∀ x, BoxT (grow wr x) (w.heap.size + 1) (.int .i64 m) (.slice a xs.length cap) (.slice c ys.length cup) := fun x => X.below (below_grow _ _)
        have G' : ∀ x, Box2 (grow wr x) w.heap.size (.string st) (.slice b rs.length kup) := fun x => G.below (below_grow _ _)
        have p0 : ∀ x, (grow wr x).cell? ⟨w.heap.size + 1, 0, none⟩ = some (.int .i64 m) := fun x => (X' x).2.1
        have p1 : ∀ x, (grow wr x).cell? ⟨w.heap.size + 1, 1, none⟩ = some (.slice a xs.length cap) := fun x => (X' x).2.2.1
        have p2 : ∀ x, (grow wr x).cell? ⟨w.heap.size + 1, 2, none⟩ = some (.slice c ys.length cup) := fun x => (X' x).2.2.2
        have p3 : ∀ x, (grow wr x).cell? ⟨w.heap.size, 1, none⟩ = some (.slice b rs.length kup) := fun x => (G' x).2.2
        have g0 : ∀ x, (grow wr x).cell? ⟨b', off + k * 3, none⟩ = some (.int .i64 xs[k].1) := fun x => by rw [grow_cell _ _ _ _ hbb, c0]
        have g1 : ∀ x, (grow wr x).cell? ⟨b', off + k * 3 + 1, none⟩ = some (.string xs[k].2.1) := fun x => by rw [grow_cell _ _ _ _ hbb, c1]
        have g2 : ∀ x, (grow wr x).cell? ⟨b', off + k * 3 + 2, none⟩ = some (.int .i64 xs[k].2.2) := fun x => by rw [grow_cell _ _ _ _ hbb, c2]
        have CS1 : ∀ x, Calls Try.prog 32 #[tabV m a xs.length cap c ys.length cup, .int .i64 xs[k].1] (grow wr x) fun e w'' => e = .returned (.bool (hasStB m xs[k].1)) ∧ ∃ y, w'' = grow wr y :=
          fun x => Calls.grow_of (l6State_any _ _ _ _ _ _ _ _ _)
        have CS2 : ∀ x, Calls Try.prog 32 #[tabV m a xs.length cap c ys.length cup, .int .i64 xs[k].2.2] (grow wr x) fun e w'' => e = .returned (.bool (hasStB m xs[k].2.2)) ∧ ∃ y, w'' = grow wr y :=
          fun x => Calls.grow_of (l6State_any _ _ _ _ _ _ _ _ _)
        have CB : ∀ x, Calls Try.prog 33 #[.string xs[k].2.1] (grow wr x) fun e w'' => e = .returned (.bool (isBigS xs[k].2.1)) ∧ ∃ y, w'' = grow wr y :=
          fun x => Calls.grow_of_same (sSignBig_any _ _)
        have CM : ∀ x, Calls Try.prog 34 #[.string xs[k].2.1] (grow wr x) fun e w'' => e = .returned (.bool (isSmallS xs[k].2.1)) ∧ ∃ y, w'' = grow wr y :=
          fun x => Calls.grow_of_same (sSignSmall_any _ _)
        have HE : Hid (mvB m xs[k] = (hasStB m xs[k].1 && (hasStB m xs[k].2.2 && (isBigS xs[k].2.1 || isSmallS xs[k].2.1)))) := rfl
        subst e
        clear c0 c1 c2 hbb z
        obtain ⟨x0, x1, x2⟩ := X.2
        cases h1 : hasStB m xs[k].1 with
        | false =>
          rw [h1] at CS1
          go_wp2_with fail
          refine wp_region_grow (by kernel_rfl) (by kernel_rfl) ?_
          repeat (go_big_quiet_step ((first | (go_at_call 32; with_reducible exact CS1 _) | (go_at_call 32; with_reducible exact CS2 _) | (go_at_call 33; exact CB _) | (go_at_call 34; exact CM _) | fail)))
          refine wpQuiet_nil ?_
          rintro _ ⟨x, rfl⟩
          go_wp2_with fail
          go_ret
          exact ⟨ret_bool (tabOk_mv hlt (by rw [show mvB m (xs[k].1, xs[k].2.1, xs[k].2.2) = mvB m xs[k] from rfl, HE.out, h1]; rfl)).symm, hfin x⟩
        | true =>
          rw [h1] at CS1
          cases h2 : hasStB m xs[k].2.2 with
          | false =>
            rw [h2] at CS2
            go_wp2_with fail
            refine wp_region_grow (by kernel_rfl) (by kernel_rfl) ?_
            repeat (go_big_quiet_step ((first | (go_at_call 32; with_reducible exact CS1 _) | (go_at_call 32; with_reducible exact CS2 _) | (go_at_call 33; exact CB _) | (go_at_call 34; exact CM _) | fail)))
            refine wpQuiet_nil ?_
            rintro _ ⟨x, rfl⟩
            go_wp2_with fail
            go_ret
            exact ⟨ret_bool (tabOk_mv hlt (by rw [show mvB m (xs[k].1, xs[k].2.1, xs[k].2.2) = mvB m xs[k] from rfl, HE.out, h1, h2]; rfl)).symm, hfin x⟩
          | true =>
            rw [h2] at CS2
            cases h3 : isBigS xs[k].2.1 with
            | false =>
              rw [h3] at CB
              cases h4 : isSmallS xs[k].2.1 with
              | false =>
                rw [h4] at CM
                go_wp2_with fail
                refine wp_region_grow (by kernel_rfl) (by kernel_rfl) ?_
                repeat (go_big_quiet_step ((first | (go_at_call 32; with_reducible exact CS1 _) | (go_at_call 32; with_reducible exact CS2 _) | (go_at_call 33; exact CB _) | (go_at_call 34; exact CM _) | fail)))
                refine wpQuiet_nil ?_
                rintro _ ⟨x, rfl⟩
                go_wp2_with fail
                go_ret
                exact ⟨ret_bool (tabOk_mv hlt (by rw [show mvB m (xs[k].1, xs[k].2.1, xs[k].2.2) = mvB m xs[k] from rfl, HE.out, h1, h2, h3, h4]; rfl)).symm, hfin x⟩
              | true =>
                rw [h4] at CM
                have HT : Hid (mvB m xs[k] = true) := by show _ = _; rw [HE.out, h1, h2, h3, h4]; rfl
                go_wp2_with fail
                refine wp_region_grow (by kernel_rfl) (by kernel_rfl) ?_
                repeat (go_big_quiet_step ((first | (go_at_call 32; with_reducible exact CS1 _) | (go_at_call 32; with_reducible exact CS2 _) | (go_at_call 33; exact CB _) | (go_at_call 34; exact CM _) | fail)))
                refine wpQuiet_nil ?_
                rintro _ ⟨x, rfl⟩
                go_wp2_with fail
                go_roundw
                case rel => exact ⟨k + 1, by omega, by go_num, fun j h hj => by
                              by_cases e : j = k
                              · subst e; exact HT.out
                              · exact HG.out j h (by omega), hfin x, X' x, G' x⟩
                case measure => simp [intOf]; omega
            | true =>
              rw [h3] at CB
              have HT : Hid (mvB m xs[k] = true) := by show _ = _; rw [HE.out, h1, h2, h3]; rfl
              go_wp2_with fail
              refine wp_region_grow (by kernel_rfl) (by kernel_rfl) ?_
              repeat (go_big_quiet_step ((first | (go_at_call 32; with_reducible exact CS1 _) | (go_at_call 32; with_reducible exact CS2 _) | (go_at_call 33; exact CB _) | (go_at_call 34; exact CM _) | fail)))
              refine wpQuiet_nil ?_
              rintro _ ⟨x, rfl⟩
              go_wp2_with fail
              go_roundw
              case rel => exact ⟨k + 1, by omega, by go_num, fun j h hj => by
                            by_cases e : j = k
                            · subst e; exact HT.out
                            · exact HG.out j h (by omega), hfin x, X' x, G' x⟩
              case measure => simp [intOf]; omega
      · obtain ⟨x0, x1, x2⟩ := X.2
        have HG2 : Hid (∀ j (h : j < xs.length), mvB m xs[j] = true) := fun j h => HG.out j h (by omega)
        clear HG
        go_wp2_with fail
        clear x0 x1 x2
        have c2 := hb
        have X2 := X
        have G2 := G
        clear hb X G hlt hk
        go_loopw [6] (fun i wr => ∃ k : Nat, k ≤ ys.length ∧ i = .int .i64 k ∧ Hid (∀ j (h : j < ys.length), j < k → enB m rs.length ys[j] = true) ∧ Below w.heap.size w wr ∧ BoxT wr (w.heap.size + 1) (.int .i64 m) (.slice a xs.length cap) (.slice c ys.length cup) ∧ Box2 wr w.heap.size (.string st) (.slice b rs.length kup)) (fun i _ => ys.length - (intOf i).toNat)
        case atStart => exact ⟨0, Nat.zero_le _, rfl, fun j _ h => by omega, c2, X2, G2⟩
        case round =>
          clear c2 X2 G2
          obtain ⟨k, hk, rfl, HG, hb, X, G⟩ := hrel
          have hX := X.1
          have hG := G.1
          by_cases hlt : k < ys.length
          · obtain ⟨z, b', off, e, hbb, c0, c1, c2⟩ := (HY.below hb (Nat.le_refl _)).2 k hlt
            have hkl : (k : Int) < (ys.length : Int) := by omega
            have hfin : ∀ x, Below w.heap.size w (grow wr x) := fun x => hb.trans ((below_grow _ _).mono hb.size)
            have X' : ∀ x, BoxT (grow wr x) (w.heap.size + 1) (.int .i64 m) (.slice a xs.length cap) (.slice c ys.length cup) := fun x => X.below (below_grow _ _)
            have G' : ∀ x, Box2 (grow wr x) w.heap.size (.string st) (.slice b rs.length kup) := fun x => G.below (below_grow _ _)
            have p0 : ∀ x, (grow wr x).cell? ⟨w.heap.size + 1, 0, none⟩ = some (.int .i64 m) := fun x => (X' x).2.1
            have p1 : ∀ x, (grow wr x).cell? ⟨w.heap.size + 1, 1, none⟩ = some (.slice a xs.length cap) := fun x => (X' x).2.2.1
            have p2 : ∀ x, (grow wr x).cell? ⟨w.heap.size + 1, 2, none⟩ = some (.slice c ys.length cup) := fun x => (X' x).2.2.2
            have p3 : ∀ x, (grow wr x).cell? ⟨w.heap.size, 1, none⟩ = some (.slice b rs.length kup) := fun x => (G' x).2.2
            have g0 : ∀ x, (grow wr x).cell? ⟨b', off + k * 3, none⟩ = some (.int .i64 ys[k].1) := fun x => by rw [grow_cell _ _ _ _ hbb, c0]
            have g1 : ∀ x, (grow wr x).cell? ⟨b', off + k * 3 + 1, none⟩ = some (.string ys[k].2.1) := fun x => by rw [grow_cell _ _ _ _ hbb, c1]
            have g2 : ∀ x, (grow wr x).cell? ⟨b', off + k * 3 + 2, none⟩ = some (.int .i64 ys[k].2.2) := fun x => by rw [grow_cell _ _ _ _ hbb, c2]
            have CS1 : ∀ x, Calls Try.prog 32 #[tabV m a xs.length cap c ys.length cup, .int .i64 ys[k].1] (grow wr x) fun e w'' => e = .returned (.bool (hasStB m ys[k].1)) ∧ ∃ y, w'' = grow wr y :=
              fun x => Calls.grow_of (l6State_any _ _ _ _ _ _ _ _ _)
            have CA : ∀ x, Calls Try.prog 35 #[.string ys[k].2.1] (grow wr x) fun e w'' => e = .returned (.bool (endT ys[k].2.1 || isSmallS ys[k].2.1)) ∧ ∃ y, w'' = grow wr y :=
              fun x => Calls.grow_of_same (l5AheadT_any _ _)
            have HE : Hid (enB m rs.length ys[k] = (hasStB m ys[k].1 && ((endT ys[k].2.1 || isSmallS ys[k].2.1) && (decide (-1 ≤ ys[k].2.2) && decide (ys[k].2.2 < (rs.length : Int)))))) := rfl
            subst e
            clear c0 c1 c2 hbb z
            obtain ⟨x0, x1, x2⟩ := X.2
            cases h1 : hasStB m ys[k].1 with
            | false =>
              rw [h1] at CS1
              go_wp2_with fail
              refine wp_region_grow (by kernel_rfl) (by kernel_rfl) ?_
              repeat (go_big_quiet_step ((first | (go_at_call 32; with_reducible exact CS1 _) | (go_at_call 35; exact CA _) | fail)))
              refine wpQuiet_nil ?_
              rintro _ ⟨x, rfl⟩
              go_wp2_with fail
              go_ret
              exact ⟨ret_bool (tabOk_en hlt (by rw [show enB m rs.length (ys[k].1, ys[k].2.1, ys[k].2.2) = enB m rs.length ys[k] from rfl, HE.out, h1]; simp)).symm, hfin x⟩
            | true =>
              rw [h1] at CS1
              cases a2 : (endT ys[k].2.1 || isSmallS ys[k].2.1) with
              | false =>
                rw [a2] at CA
                go_wp2_with fail
                refine wp_region_grow (by kernel_rfl) (by kernel_rfl) ?_
                repeat (go_big_quiet_step ((first | (go_at_call 32; with_reducible exact CS1 _) | (go_at_call 35; exact CA _) | fail)))
                refine wpQuiet_nil ?_
                rintro _ ⟨x, rfl⟩
                go_wp2_with fail
                go_ret
                exact ⟨ret_bool (tabOk_en hlt (by rw [show enB m rs.length (ys[k].1, ys[k].2.1, ys[k].2.2) = enB m rs.length ys[k] from rfl, HE.out, h1, a2]; simp)).symm, hfin x⟩
              | true =>
                rw [a2] at CA
                by_cases p : -1 ≤ ys[k].2.2
                · have p1 : decide (-1 ≤ ys[k].2.2) = true := by simpa using p
                  have p2 : decide (ys[k].2.2 < -1) = false := by rw [decide_eq_false_iff_not]; omega
                  clear p
                  by_cases q : ys[k].2.2 < (rs.length : Int)
                  · have q1 : decide (ys[k].2.2 < (rs.length : Int)) = true := by simpa using q
                    have q2 : decide ((rs.length : Int) ≤ ys[k].2.2) = false := by rw [decide_eq_false_iff_not]; omega
                    clear q
                    have HT : Hid (enB m rs.length ys[k] = true) := by show _ = _; rw [HE.out, h1, a2, p1, q1]; rfl
                    go_wp2_with fail
                    refine wp_region_grow (by kernel_rfl) (by kernel_rfl) ?_
                    repeat (go_big_quiet_step ((first | (go_at_call 32; with_reducible exact CS1 _) | (go_at_call 35; exact CA _) | fail)))
                    refine wpQuiet_nil ?_
                    rintro _ ⟨x, rfl⟩
                    go_wp2_with fail
                    go_roundw
                    case rel => exact ⟨k + 1, by omega, by go_num, fun j h hj => by
                                  by_cases e : j = k
                                  · subst e; exact HT.out
                                  · exact HG.out j h (by omega), hfin x, X' x, G' x⟩
                    case measure => simp [intOf]; omega
                  · have q1 : decide (ys[k].2.2 < (rs.length : Int)) = false := by simpa using q
                    have q2 : decide ((rs.length : Int) ≤ ys[k].2.2) = true := by rw [decide_eq_true_eq]; omega
                    clear q
                    go_wp2_with fail
                    refine wp_region_grow (by kernel_rfl) (by kernel_rfl) ?_
                    repeat (go_big_quiet_step ((first | (go_at_call 32; with_reducible exact CS1 _) | (go_at_call 35; exact CA _) | fail)))
                    refine wpQuiet_nil ?_
                    rintro _ ⟨x, rfl⟩
                    go_wp2_with fail
                    go_ret
                    exact ⟨ret_bool (tabOk_en hlt (by rw [show enB m rs.length (ys[k].1, ys[k].2.1, ys[k].2.2) = enB m rs.length ys[k] from rfl, HE.out, h1, a2, p1, q1]; simp)).symm, hfin x⟩
                · have p1 : decide (-1 ≤ ys[k].2.2) = false := by simpa using p
                  have p2 : decide (ys[k].2.2 < -1) = true := by rw [decide_eq_true_eq]; omega
                  clear p
                  go_wp2_with fail
                  refine wp_region_grow (by kernel_rfl) (by kernel_rfl) ?_
                  repeat (go_big_quiet_step ((first | (go_at_call 32; with_reducible exact CS1 _) | (go_at_call 35; exact CA _) | fail)))
                  refine wpQuiet_nil ?_
                  rintro _ ⟨x, rfl⟩
                  go_wp2_with fail
                  go_ret
                  exact ⟨ret_bool (tabOk_en hlt (by rw [show enB m rs.length (ys[k].1, ys[k].2.1, ys[k].2.2) = enB m rs.length ys[k] from rfl, HE.out, h1, a2, p1]; simp)).symm, hfin x⟩
          · obtain ⟨x0, x1, x2⟩ := X.2
            go_wp2_with fail
            go_ret
            exact ⟨ret_bool (tabOk_all E.out.1 E.out.2.1 E.out.2.2 HG2.out (fun j h => HG.out j h (by omega))).symm, hb⟩
  · have HF := Lib.hid (tabOk_lo (st := st) (rs := rs) (m := m) (xs := xs) (ys := ys) (fun h0 h1 h2 => hlo ⟨h0, h1, h2⟩))
    cases e0 : gramOkB st rs with
    | false =>
      clear hlo
      go_wp2_with fail
      go_ret
      exact ⟨ret_bool HF.out.symm, c2⟩
    | true =>
      by_cases e1 : m < 1
      · have d1 : decide (m < 1) = true := by simpa using e1
        clear hlo e1
        go_wp2_with fail
        go_ret
        exact ⟨ret_bool HF.out.symm, c2⟩
      · have d1 : decide (m < 1) = false := by simpa using e1
        have d2 : decide (40 < m) = true := by rw [decide_eq_true_eq]; rw [e0] at hlo; simp at hlo; omega
        clear hlo e1
        go_wp2_with fail
        go_ret
        exact ⟨ret_bool HF.out.symm, c2⟩
end Go.Proofs.Ytiloalbjcmpljaa
