/- FnTreeMany holds at every code and leaves it alone. Conditions: none. -/
import Derived.Test.YtpbpddbeofdpcabTyA
import Derived.Test.YtpbpddbeofdpcabRulA
import Derived.Test.YtpbpddbeofdpcabOpenB
import Derived.WalkKit
import Derived.ProofKit
import Derived.OpenShut
import Derived.ShutString
import Derived.ChangeOld
import Derived.Below
namespace Go.Proofs.Ytpbpddbeofdpcab
open Go.ChangeShapes Go.WideShapes Go.ChangeAt Go.RowKit Go.Deep
set_option maxRecDepth 100000
set_option linter.unusedVariables false
set_option maxHeartbeats 400000 in
theorem wpNums_any (a a' : Option Addr) (cap cap' : Nat) (zs : List Int) (w : World) (H : IntsAt w a zs) (H' : IntsAt w a' zs) :
    Calls Try.prog 9 #[.slice a zs.length cap, .slice a' zs.length cap'] w fun e w' => e = .returned (.bool true) ∧ Below w.heap.size w w' := by
  have hn := H.1
  unfold maxLen at hn
  go_enter Try.func9, Try.ntmps9
  go_wp2
  go_loopw [5] (fun i wr => ∃ k : Nat, k ≤ zs.length ∧ i = .int .i64 k ∧ Below w.heap.size w wr) (fun i _ => zs.length - (intOf i).toNat)
  case atStart => exact ⟨0, Nat.zero_le _, rfl, Below.refl _ _⟩
  case round =>
    obtain ⟨k, hk, rfl, hb⟩ := hrel
    by_cases hlt : k < zs.length
    · obtain ⟨b, off, e, hbb, c1⟩ := H.2 k hlt
      obtain ⟨b', off', e', hbb', c1'⟩ := H'.2 k hlt
      subst e e'
      have hkl : (k : Int) < (zs.length : Int) := by omega
      have d1 : wr.cell? ⟨b, off + k, none⟩ = some (.int .i64 zs[k]) := by rw [hb.cell (p := ⟨b, _, none⟩) hbb, c1]
      have d1' : wr.cell? ⟨b', off' + k, none⟩ = some (.int .i64 zs[k]) := by rw [hb.cell (p := ⟨b', _, none⟩) hbb', c1']
      have d2 : wr.drew.cell? ⟨b, off + k, none⟩ = some (.int .i64 zs[k]) := d1
      have d2' : wr.drew.cell? ⟨b', off' + k, none⟩ = some (.int .i64 zs[k]) := d1'
      go_wp2
      go_region
      all_goals
        go_wp2
        go_roundw
        case rel => exact ⟨k + 1, by omega, by go_num, hb.drew⟩
        case measure => simp [intOf]; omega
    · have hkl : ¬ (k : Int) < (zs.length : Int) := by omega
      go_wp2
      go_ret
      exact ⟨rfl, hb⟩
theorem RowZ.ints {w : World} {B : Nat} {v : Value} {zs : List Int} (h : RowZ w B v zs) (hl : zs.length ≤ 1000) : ∃ a cap, v = .slice a zs.length cap ∧ IntsAt w a zs := by
  rcases h.2 with ⟨rfl, h0⟩ | ⟨g, cap, cur, rfl, hrest⟩
  · have hz : zs = [] := List.eq_nil_of_length_eq_zero h0
    subst hz
    exact ⟨none, 0, rfl, Nat.zero_le _, fun i hi => absurd hi (Nat.not_lt_zero _)⟩
  · obtain ⟨g', cap', e, _, hI⟩ := OwnZ.at (zs := zs) ⟨⟨g, cap, rfl⟩, h⟩ hl
    exact ⟨_, _, e, hI⟩
theorem IntsAt.keepB {w w' : World} {a : Option Addr} {zs : List Int} (h : IntsAt w a zs) (hb : Below w.heap.size w w') : IntsAt w' a zs := by
  refine ⟨h.1, fun i hi => ?_⟩
  obtain ⟨b, off, e, hl, c⟩ := h.2 i hi
  exact ⟨b, off, e, Nat.lt_of_lt_of_le hl hb.size, (hb.cell (p := ⟨b, _, none⟩) hl).trans c⟩
theorem node_rule {rs : List RuleT} {s : ByteArray} {r : Int} {ks : List Tr} (h : nodeB rs (.node s r ks) = true) : (isSmallS s = true ∧ r = -1 ∧ ks = []) ∨ (isSmallS s = false ∧ ∃ (n : Nat) (hn : n < rs.length), r = n ∧ (rs[n].1.toList == s.toList) = true) := by
  rw [nodeB] at h
  split at h
  · rename_i hs
    simp only [Bool.and_eq_true, beq_iff_eq] at h
    exact Or.inl ⟨hs, h.1, List.eq_nil_of_length_eq_zero h.2⟩
  · rename_i hs
    refine Or.inr ⟨by simpa using hs, ?_⟩
    unfold ruleAt at h
    by_cases hr : r < 0
    · rw [if_pos hr] at h; cases h
    · rw [if_neg hr] at h
      by_cases hl : r.toNat < rs.length
      · rw [List.getElem?_eq_getElem hl] at h
        dsimp only at h
        split at h
        · rename_i hh
          split at hh
          · rename_i h2
            exact ⟨r.toNat, hl, by omega, h2.1⟩
          · cases hh
        · cases h
      · rw [List.getElem?_eq_none (by omega)] at h; cases h
theorem rules_node (s : ByteArray) (r : Int) (ks : List Tr) : rulesL (.node s r ks) = (if 0 ≤ r then [r] else []) ++ ks.flatMap rulesL := by rw [rulesL]
/-- rules and leaves make the tree -/
theorem many_facts (rs : List RuleT) : ∀ (d : Nat) (T : Tr), shapeB rs d T = true → (rulesL T).length + (yieldL T).length = T.sz ∧ ∀ z ∈ rulesL T, ∃ (n : Nat), n < rs.length ∧ z = (n : Int)
  | 0, _, h => by rw [shapeB] at h; cases h
  | d + 1, .node s r ks, h => by
    rw [shape_split, Bool.and_eq_true, List.all_eq_true] at h
    obtain ⟨hn, hk⟩ := h
    have ih : ∀ l : List Tr, (∀ k ∈ l, shapeB rs d k = true) → (l.flatMap rulesL).length + (l.flatMap yieldL).length = (l.map Tr.sz).sum ∧ ∀ z ∈ l.flatMap rulesL, ∃ (n : Nat), n < rs.length ∧ z = (n : Int) := by
      intro l
      induction l with
      | nil => intro _; exact ⟨rfl, fun z hz => by cases hz⟩
      | cons x xs ihl =>
        intro hx
        have h1 := many_facts rs d x (hx x (List.mem_cons_self ..))
        have h2 := ihl (fun k hk => hx k (List.mem_cons_of_mem _ hk))
        refine ⟨?_, fun z hz => ?_⟩
        · simp only [List.flatMap_cons, List.length_append, List.map_cons, List.sum_cons]
          omega
        · rw [List.flatMap_cons, List.mem_append] at hz
          rcases hz with hz | hz
          · exact h1.2 z hz
          · exact h2.2 z hz
    have hks := ih ks hk
    rw [rules_node, yield_node, Tr.sz]
    rcases node_rule hn with ⟨hs, rfl, rfl⟩ | ⟨hs, n, hnl, rfl, _⟩
    · rw [if_neg (show ¬ (0 : Int) ≤ -1 by omega), if_pos hs]
      have hz : s.size = 1 := by unfold isSmallS at hs; simp only [Bool.and_eq_true, decide_eq_true_eq] at hs; exact hs.1
      refine ⟨by simp [hz], fun z hz => by simp at hz⟩
    · rw [if_pos (show (0 : Int) ≤ (n : Int) by omega), if_neg (by rw [hs]; simp)]
      refine ⟨by simp only [List.length_append, List.length_cons, List.length_nil]; omega, fun z hz => ?_⟩
      rw [List.mem_append] at hz
      rcases hz with hz | hz
      · simp only [List.mem_cons, List.not_mem_nil, or_false] at hz
        exact ⟨n, hnl, hz⟩
      · exact hks.2 z hz
/-- the first rule is one of the root's sign -/
theorem first_rule {rs : List RuleT} {d : Nat} {s : ByteArray} {r : Int} {ks : List Tr} (h : shapeB rs (d + 1) (.node s r ks) = true) : rulesL (.node s r ks) = [] ∨ ∃ (n : Nat) (hn : n < rs.length) (t : List Int), rulesL (.node s r ks) = (n : Int) :: t ∧ (rs[n].1.toList == s.toList) = true := by
  rw [shape_split, Bool.and_eq_true] at h
  rw [rules_node]
  rcases node_rule h.1 with ⟨hs, rfl, rfl⟩ | ⟨hs, n, hnl, rfl, he⟩
  · exact Or.inl (by simp)
  · exact Or.inr ⟨n, hnl, ks.flatMap rulesL, by rw [if_pos (by omega)]; rfl, he⟩
set_option maxHeartbeats 8000000 in
theorem treeMany_fn (a : Option Addr) (n cap : Nat) (w : World) (H : BytesAt w a n cap) :
    Calls Try.prog 3 #[.slice a n cap] w fun e w' => e = .returned (.bool true) ∧ Below w.heap.size w w' := by
  have hm := H.2.1
  have hn := H.1
  unfold maxLen at hm
  by_cases hbig : (1048576 : Int) < (n : Int)
  · go_enter Try.func3, Try.ntmps3
    go_wp2
    go_ret
    exact ⟨rfl, Below.refl _ _⟩
  · go_enter Try.func3, Try.ntmps3
    go_wp2_with fail
    refine (drawTreeRules_any a n cap _ H).mono ?_
    rintro e w2 ⟨gv, tv, rfl, ⟨st, rs, T, ⟨b, off, cg, rfl, hcg, HU, hrl, hst, _, _⟩, HT, hsz, hwt⟩, hb2⟩
    obtain ⟨s, r, ks, ka, kc, rfl, rfl, hs, _⟩ := HT.tr.open
    have bx := ((Below.refl w2.heap.size w2).alloc (Nat.le_refl _) (.cells #[.string st, .slice (some ⟨b, off, none⟩) rs.length cg] 25)).alloc (by simp) (.cells #[.string s, .int .i64 r, .slice ka ks.length kc] 28)
    have G3 := (Box2.new w2 (.string st) (.slice (some ⟨b, off, none⟩) rs.length cg) 25).old (.cells #[.string s, .int .i64 r, .slice ka ks.length kc] 28)
    have X3 := Box3.new (w2.alloc (.cells #[.string st, .slice (some ⟨b, off, none⟩) rs.length cg] 25)) (.string s) (.int .i64 r) (.slice ka ks.length kc) 28
    simp only [World.size_alloc] at X3
    have HT3 := HT.keep bx
    have U3 := HU.below bx (Nat.le_refl _)
    have c3 := Below.on hb2 bx (Nat.le_refl _)
    have hzl : (treeRulesM st rs (.node s r ks)).length ≤ 60 := by
      unfold treeRulesM
      split
      · rename_i hok
        have h1 := (ok_facts hok).2.1
        have h2 := rules_len _ (.node s r ks) (Nat.le_refl _)
        omega
      · simp
    have CR : ∀ v, RulesAt v (some ⟨b, off, none⟩) rs → TrIn v 0 (.agg #[.string s, .int .i64 r, .slice ka ks.length kc]) (.node s r ks) → Calls Try.prog 10 #[.agg #[.string st, .slice (some ⟨b, off, none⟩) rs.length cg], .agg #[.string s, .int .i64 r, .slice ka ks.length kc]] v fun e w' => ∃ x, e = .returned x ∧ OwnZ w' v.heap.size x (treeRulesM st rs (.node s r ks)) ∧ Below v.heap.size v w' :=
      fun v hv ht => sTreeRules_any _ _ _ rs _ _ _ hv hcg ht hwt (by omega)
    have CO : ∀ v, RulesAt v (some ⟨b, off, none⟩) rs → TrIn v 0 (.agg #[.string s, .int .i64 r, .slice ka ks.length kc]) (.node s r ks) → Calls Try.prog 11 #[.agg #[.string st, .slice (some ⟨b, off, none⟩) rs.length cg], .agg #[.string s, .int .i64 r, .slice ka ks.length kc]] v fun e w' => e = .returned (.bool (treeOkB st rs (.node s r ks))) ∧ Below v.heap.size v w' :=
      fun v hv ht => sTreeOk_any _ _ _ rs _ _ _ hv hcg ht hwt
    go_wp2_with fail
    refine (treeRules_any st _ cg rs _ _ _ U3 hcg HT3.tr (by omega)).mono ?_
    rintro e w4 ⟨x, rfl, hrow, hb4⟩
    obtain ⟨la, lc, rfl, I4⟩ := hrow.ints (by omega)
    have G4 := G3.below hb4
    have X4 := X3.below hb4
    have HT4 := HT3.keep hb4
    have U4 := U3.below hb4 (Nat.le_refl _)
    have c4 := Below.on c3 hb4 (Nat.le_refl _)
    clear G3 X3 HT3 U3 c3 hb4 bx HT HU hb2 hrow
    obtain ⟨g0, g1⟩ := G4.2
    obtain ⟨x0, x1, x2⟩ := X4.2
    have HZM : ∃ zs, Hid (zs = treeRulesM st rs (.node s r ks)) := ⟨_, rfl⟩
    obtain ⟨zs, HZM⟩ := HZM
    rw [← HZM.out] at I4 hzl CR ⊢
    go_wp2_with fail
    refine (CR _ U4 HT4.tr).mono ?_
    rintro e w5 ⟨y, rfl, hown, hb5⟩
    obtain ⟨yg, yc, rfl, _, J5⟩ := hown.at (by omega)
    have I5 := I4.keepB hb5
    have U5 := U4.below hb5 (Nat.le_refl _)
    have HT5 := HT4.keep hb5
    have c5 := Below.on c4 hb5 (Nat.le_refl _)
    have G5 := G4.below hb5
    have X5 := X4.below hb5
    clear g0 g1 x0 x1 x2 U4 HT4 c4 hb5 G4 X4 I4 hown
    go_wp2_with fail
    refine (wpNums_any _ _ _ _ zs _ I5 J5).mono ?_
    rintro e w6 ⟨rfl, hb6⟩
    have I6 := I5.keepB hb6
    have U6 := U5.below hb6 (Nat.le_refl _)
    have HT6 := HT5.keep hb6
    have c6 := Below.on c5 hb6 (Nat.le_refl _)
    have G6 := G5.below hb6
    have X6 := X5.below hb6
    clear U5 HT5 c5 hb6 G5 X5 I5 J5
    obtain ⟨g0, g1⟩ := G6.2
    obtain ⟨x0, x1, x2⟩ := X6.2
    go_wp2_with fail
    refine (CO _ U6 HT6.tr).mono ?_
    rintro e w7 ⟨rfl, hb7⟩
    have I7 := I6.keepB hb7
    have U7 := U6.below hb7 (Nat.le_refl _)
    have HT7 := HT6.keep hb7
    have c7 := Below.on c6 hb7 (Nat.le_refl _)
    have G7 := G6.below hb7
    have X7 := X6.below hb7
    clear U6 HT6 c6 hb7 G6 X6 I6 g0 g1 x0 x1 x2 CO
    cases hok : treeOkB st rs (.node s r ks) with
    | false =>
      obtain ⟨g0, g1⟩ := G7.2
      obtain ⟨x0, x1, x2⟩ := X7.2
      go_wp2_with fail
      refine (CR _ U7 HT7.tr).mono ?_
      rintro e w8 ⟨y, rfl, hown, hb8⟩
      obtain ⟨yg, yc, rfl, _, J8⟩ := hown.at (by omega)
      have I8 := I7.keepB hb8
      have c8 := Below.on c7 hb8 (Nat.le_refl _)
      go_wp2_with fail
      refine (wpNums_any _ _ _ _ zs _ I8 J8).mono ?_
      rintro e w9 ⟨rfl, hb9⟩
      go_wp2_with fail
      go_ret
      exact ⟨rfl, Below.on c8 hb9 (Nat.le_refl _)⟩
    | true =>
      have hokk := hok
      unfold treeOkB at hokk
      simp only [Bool.and_eq_true, decide_eq_true_eq] at hokk
      obtain ⟨hlen, hall⟩ := many_facts rs 20 _ hokk.2.1
      have hfirst := first_rule hokk.2.1
      have HZ : Hid (zs = rulesL (.node s r ks)) := by show _ = _; rw [HZM.out]; unfold treeRulesM; rw [if_pos hok]
      rw [← HZ.out] at hlen hall hfirst
      have HALL := Lib.hid hall
      have HFI := Lib.hid hfirst
      have hz60 := (ok_facts hok).2.1
      clear hall hfirst hokk CR
      have HI7 := Lib.hid I7
      go_wp2_with fail
      go_loopw [6] (fun i wr => ∃ k : Nat, k ≤ zs.length ∧ i = .int .i64 k ∧ ∃ m, wr = w7.drewN m) (fun i _ => zs.length - (intOf i).toNat)
      case atStart => exact ⟨0, Nat.zero_le _, rfl, 0, rfl⟩
      case round =>
        obtain ⟨k, hk, rfl, m, rfl⟩ := hrel
        obtain ⟨g0, g1⟩ := G7.2
        by_cases hlt : k < zs.length
        · have hkl : (k : Int) < (zs.length : Int) := by omega
          obtain ⟨lb, loff, e, hlb, ck⟩ := HI7.out.2 k hlt
          subst e
          obtain ⟨q, hq, hqz⟩ := HALL.out zs[k] (List.getElem_mem hlt)
          rw [hqz] at ck
          have t1 : decide ((q : Int) < 0) = false := by rw [decide_eq_false_iff_not]; omega
          have t2 : decide ((rs.length : Int) ≤ (q : Int)) = false := by rw [decide_eq_false_iff_not]; omega
          clear hqz
          go_wp2_with fail
          go_quiet (fail)
          go_wp2_with fail
          go_roundw
          case rel => exact ⟨k + 1, by omega, by go_num, _, rfl⟩
          case measure => simp [intOf]; omega
        · have hnk : ¬ (k : Int) < (zs.length : Int) := by omega
          have c8 : Below w.heap.size w (w7.drewN m) := ⟨c7.os, c7.tape, c7.output, c7.size, c7.block⟩
          have G8 : Box2 (w7.drewN m) w2.heap.size (.string st) (.slice (some ⟨b, off, none⟩) rs.length cg) := G7
          have X8 : Box3 (w7.drewN m) (w2.heap.size + 1) (.string s) (.int .i64 r) (.slice ka ks.length kc) := X7
          have U8 : RulesAt (w7.drewN m) (some ⟨b, off, none⟩) rs := U7
          have I8 : IntsAt (w7.drewN m) la zs := HI7.out
          have HT8 : TrP (w7.drewN m) w.heap.size (.agg #[.string s, .int .i64 r, .slice ka ks.length kc]) (.node s r ks) := HT7.stay (fun _ _ _ => rfl)
          generalize w7.drewN m = w8 at *
          clear g0 g1 G7 X7 U7 I7 HT7 HI7 c7
          obtain ⟨g0, g1⟩ := G8.2
          obtain ⟨x0, x1, x2⟩ := X8.2
          have hgl := G8.1
          have hxl := X8.1
          have p1 : ∀ x, (grow w8 x).cell? ⟨w2.heap.size, 1, none⟩ = some (.slice (some ⟨b, off, none⟩) rs.length cg) := fun x => by rw [grow_cell _ _ _ _ hgl, g1]
          have p2 : ∀ x, (grow w8 x).cell? ⟨w2.heap.size + 1, 0, none⟩ = some (.string s) := fun x => by rw [grow_cell _ _ _ _ hxl, x0]
          have p3 : ∀ x, (grow w8 x).cell? ⟨w2.heap.size + 1, 1, none⟩ = some (.int .i64 r) := fun x => by rw [grow_cell _ _ _ _ hxl, x1]
          have p4 : ∀ x, (grow w8 x).cell? ⟨w2.heap.size + 1, 2, none⟩ = some (.slice ka ks.length kc) := fun x => by rw [grow_cell _ _ _ _ hxl, x2]
          have CY : ∀ x, Calls Try.prog 12 #[.agg #[.string s, .int .i64 r, .slice ka ks.length kc]] (grow w8 x) fun e w'' => e = .returned (.string (bytesOf (yieldL (.node s r ks)))) ∧ ∃ y, w'' = grow w8 y := fun x => Calls.grow_of (treeYield_any _ _ _ _ (HT8.keep (below_grow _ _)) (by omega))
          have CS : ∀ x, Calls Try.prog 13 #[.agg #[.string s, .int .i64 r, .slice ka ks.length kc]] (grow w8 x) fun e w'' => e = .returned (.int .i64 ((Tr.node s r ks).sz : Int)) ∧ ∃ y, w'' = grow w8 y := fun x => Calls.grow_of (treeSize_any _ _ _ _ (HT8.keep (below_grow _ _)) (by omega))
          have hsum : (((zs.length : Int) + ((bytesOf (yieldL (.node s r ks))).size : Int)) == ((Tr.node s r ks).sz : Int)) = true := by
            rw [bytesOf_size, beq_iff_eq]; omega
          have hyz : (bytesOf (yieldL (.node s r ks))).size ≤ 60 := by rw [bytesOf_size]; omega
          generalize (Tr.node s r ks).sz = Z at *
          generalize bytesOf (yieldL (.node s r ks)) = yb at *
          rcases HFI.out with h0 | ⟨q, hq, tl, hcons, heq⟩
          · have e0 : ((zs.length : Int) == 0) = true := by rw [h0]; rfl
            clear h0
            go_wp2_with fail
            refine wp_region_grow (by kernel_rfl) (by kernel_rfl) ?_
            repeat (go_big_quiet_step ((first | (go_at_call 12; exact CY _) | (go_at_call 13; exact CS _))))
            refine wpQuiet_nil ?_
            rintro _ ⟨x, rfl⟩
            clear hsum
            go_wp2_with fail
            go_ret
            exact ⟨rfl, c8.trans ((below_grow _ _).mono c8.size)⟩
          · have e0 : ((zs.length : Int) == 0) = false := by rw [hcons, beq_eq_false_iff_ne]; simp; omega
            have hl0 : 0 < zs.length := by rw [hcons]; simp
            have hl0' : (0 : Int) < (zs.length : Int) := by omega
            obtain ⟨lb, loff, e, hlb, ck⟩ := I8.2 0 hl0
            subst e
            have hz0 : zs[0] = (q : Int) := by simp only [hcons, List.getElem_cons_zero]
            rw [hz0, Nat.add_zero] at ck
            have q0 : ∀ x, (grow w8 x).cell? ⟨lb, loff, none⟩ = some (.int .i64 (q : Int)) := fun x => by rw [grow_cell _ _ _ _ hlb, ck]
            obtain ⟨_, _, b', off', e', hbb, cr1, _⟩ := U8.2 q hq
            simp only [Option.some.injEq, Addr.mk.injEq] at e'
            obtain ⟨rfl, rfl, _⟩ := e'
            have q1 : ∀ x, (grow w8 x).cell? ⟨b, off + q * 2, none⟩ = some (.string rs[q].1) := fun x => by rw [grow_cell _ _ _ _ hbb, cr1]
            have hql : (q : Int) < (rs.length : Int) := by omega
            clear hcons hz0 ck cr1
            go_wp2_with fail
            refine wp_region_grow (by kernel_rfl) (by kernel_rfl) ?_
            repeat (go_big_quiet_step ((first | (go_at_call 12; exact CY _) | (go_at_call 13; exact CS _))))
            refine wpQuiet_nil ?_
            rintro _ ⟨x, rfl⟩
            clear hsum
            go_wp2_with fail
            go_ret
            exact ⟨rfl, c8.trans ((below_grow _ _).mono c8.size)⟩
end Go.Proofs.Ytpbpddbeofdpcab
namespace Go.Proofs.Ytpbpddbeofdpcab.fnTreeMany
open Go.ChangeShapes Go.WideShapes Go.ChangeAt Go.RowKit
open Go.ChangeMaps (open_string shut_string)
set_option linter.unusedVariables false

set_option maxRecDepth 100000 in
theorem lifted (os : Os) (started : os.Started) (H : Type) (enc : TypeId × Value → H) :
    ReturnsInHanded {} Try.checked os 3 .any (Rows.fnTreeManySpec.pre6 enc Try.prog Try.f3 Rows.fnTreeManyRow.domain false) (Rows.fnTreeManySpec.post enc Try.prog Try.f3 false true false false) := by
  refine returnsInHanded_of_change (C := Try.checked) ownK started (by kernel_rfl) Try.func3
    (ChangeSpec.witness6 (enc := enc) (C := Try.checked) false ⟨#[], #[.slice none 0 0], []⟩ 8 (by kernel_rfl) (by kernel_rfl) (by kernel_rfl) (by kernel_rfl)) ?_
  intro W base args ds gs before hval0 hW hcnd _
  have hval : ∀ (j : Nat) t v, Try.f3.params[j]? = some t → args[j]? = some v → Value.okWide Try.prog W .any base t v := hval0
  have hW' := hW
  obtain ⟨p, q, hA0, hV, rfl, hfz, hnd⟩ := hW
  have hA : DataW.TrodAll enc Try.prog W 0 (fun _ => true) true Try.f3.params.toList args.toList ds p := hA0
  rw [Try.params3] at hA hval
  obtain ⟨v0, vs0, d0, ds0, p0, q0, hargs, rfl, rfl, h0, r0⟩ := trodAll_cons hA
  obtain ⟨rfl, rfl, rfl⟩ := trodAll_nil r0
  obtain rfl : args = #[v0] := by cases args; simp_all
  obtain ⟨rfl, rfl⟩ := trodVars_none hV
  have k0 := h0
  have lt0 : ∀ x ∈ p0, x.block < W.heap.size := by obtain ⟨m, hm⟩ := k0; exact DataW.trod_lt m _ _ _ hm
  obtain ⟨a0, len0, cap0, rfl, w0⟩ := open_bytes (hval 0 22 v0 rfl rfl) h0
  clear hA0 hval0
  refine (treeMany_fn a0 len0 cap0 W w0).mono fun e W' ⟨he, bel⟩ => ?_
  subst he
  exact ⟨_, rfl, _, _, _, [], _, [], hW', trodAll_mk1 (shut_bool Try.underlying4 _), (trodAll_cons_mk (Below.trod laidOutP (by kernel_rfl) (of_decide_eq_true (by kernel_rfl)) k0 bel lt0) trodAll_mk0), rfl, bel.frame _, fun h => by cases h⟩

theorem over : Rows.fnTreeManyRow.holds Try.pinned (OpenSpec.ofChange Rows.fnTreeManySpec) :=
  OpenClaim.holds_of_wide 3 Try.f3 rfl rfl rfl rfl rfl rfl rfl ⟨rfl, rfl, rfl, rfl, rfl⟩ rfl rfl rfl rfl rfl (by kernel_rfl) Try.func3 (by kernel_rfl)
    (of_decide_eq_true (by kernel_rfl)) (by unfold Func.isWrapper; first | (rw [if_pos (by decide +kernel)]; kernel_rfl) | (rw [if_neg (by decide +kernel)]; exact ⟨rfl, rfl⟩))
    (fun os started H enc _ => lifted os started H enc)
end Go.Proofs.Ytpbpddbeofdpcab.fnTreeMany
namespace Go.Proofs.Ytpbpddbeofdpcab
theorem fnTreeMany_holds : Rows.FnTreeManySaid := fnTreeMany.over
#print axioms fnTreeMany_holds
end Go.Proofs.Ytpbpddbeofdpcab
