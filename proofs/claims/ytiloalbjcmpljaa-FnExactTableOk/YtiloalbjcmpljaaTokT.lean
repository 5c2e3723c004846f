/- TableOk of the program and of the model. -/
import Derived.Test.YtiloalbjcmpljaaTabB
namespace Go.Proofs.Ytiloalbjcmpljaa
open Go.ChangeShapes Go.WideShapes Go.ChangeAt Go.RowKit Go.Deep
set_option maxRecDepth 100000
def hasStB (m n : Int) : Bool := decide (0 ≤ n) && decide (n < m)
def endT (s : ByteArray) : Bool := s.toList == [36]
def mvB (m : Int) (x : TriT) : Bool := hasStB m x.1 && (hasStB m x.2.2 && (isBigS x.2.1 || isSmallS x.2.1))
def enB (m n : Int) (x : TriT) : Bool := hasStB m x.1 && ((endT x.2.1 || isSmallS x.2.1) && (decide (-1 ≤ x.2.2) && decide (x.2.2 < n)))
def tabOkB (st : ByteArray) (rs : List RuleT) (m : Int) (xs ys : List TriT) : Bool := gramOkB st rs && (decide (1 ≤ m) && (decide (m ≤ 40) && (xs.all (mvB m) && ys.all (enB m rs.length))))
theorem tabOk_lo {st : ByteArray} {rs : List RuleT} {m : Int} {xs ys : List TriT} (h : gramOkB st rs = true → 1 ≤ m → ¬ m ≤ 40) : tabOkB st rs m xs ys = false := by
  unfold tabOkB
  cases h0 : gramOkB st rs
  · rfl
  · by_cases h1 : 1 ≤ m
    · simp [h1, h h0 h1]
    · simp [h1]
theorem tabOk_mv {st : ByteArray} {rs : List RuleT} {m : Int} {xs ys : List TriT} {k : Nat} (hk : k < xs.length) (h : mvB m (xs[k].1, xs[k].2.1, xs[k].2.2) = false) : tabOkB st rs m xs ys = false := by
  have : xs.all (mvB m) = false := by
    rw [List.all_eq_false]
    exact ⟨xs[k], List.getElem_mem hk, by rw [show xs[k] = (xs[k].1, xs[k].2.1, xs[k].2.2) from rfl, h]; simp⟩
  unfold tabOkB; rw [this]; simp
theorem tabOk_en {st : ByteArray} {rs : List RuleT} {m : Int} {xs ys : List TriT} {k : Nat} (hk : k < ys.length) (h : enB m rs.length (ys[k].1, ys[k].2.1, ys[k].2.2) = false) : tabOkB st rs m xs ys = false := by
  have : ys.all (enB m rs.length) = false := by
    rw [List.all_eq_false]
    exact ⟨ys[k], List.getElem_mem hk, by rw [show ys[k] = (ys[k].1, ys[k].2.1, ys[k].2.2) from rfl, h]; simp⟩
  unfold tabOkB; rw [this]; simp
theorem tabOk_all {st : ByteArray} {rs : List RuleT} {m : Int} {xs ys : List TriT} (h0 : gramOkB st rs = true) (h1 : 1 ≤ m) (h2 : m ≤ 40) (h3 : ∀ j (h : j < xs.length), mvB m xs[j] = true) (h4 : ∀ j (h : j < ys.length), enB m rs.length ys[j] = true) : tabOkB st rs m xs ys = true := by
  have e3 : xs.all (mvB m) = true := by
    rw [List.all_eq_true]; intro x hx; obtain ⟨j, hj, rfl⟩ := List.getElem_of_mem hx; exact h3 j hj
  have e4 : ys.all (enB m rs.length) = true := by
    rw [List.all_eq_true]; intro x hx; obtain ⟨j, hj, rfl⟩ := List.getElem_of_mem hx; exact h4 j hj
  unfold tabOkB; rw [e3, e4, h0]; simp [h1, h2]
theorem hasState_any (m : Int) (a : Option Addr) (cap n : Nat) (c : Option Addr) (l cup : Nat) (r : Int) (w : World) :
    Calls Try.prog 71 #[tabV m a n cap c l cup, .int .i64 r] w fun e w' => e = .returned (.bool (hasStB m r)) ∧ Below w.heap.size w w' := by
  have hb1 := (Below.refl w.heap.size w).alloc (Nat.le_refl _) (.cells #[.int .i64 m, .slice a n cap, .slice c l cup] 39)
  have HI : Hid (hasStB m r = (decide (0 ≤ r) && decide (r < m))) := rfl
  cases h0 : decide (0 ≤ r)
  all_goals
    go_enter Try.func71, Try.ntmps71
    go_wp2_with fail
    go_ret
    exact ⟨ret_bool (by rw [HI.out, h0]; simp), hb1⟩
theorem l6State_any (m : Int) (a : Option Addr) (cap n : Nat) (c : Option Addr) (l cup : Nat) (r : Int) (w : World) :
    Calls Try.prog 32 #[tabV m a n cap c l cup, .int .i64 r] w fun e w' => e = .returned (.bool (hasStB m r)) ∧ Below w.heap.size w w' := by
  have hb1 := (Below.refl w.heap.size w).alloc (Nat.le_refl _) (.cells #[.int .i64 m, .slice a n cap, .slice c l cup] 39)
  have HI : Hid (hasStB m r = (decide (0 ≤ r) && decide (r < m))) := rfl
  cases h0 : decide (0 ≤ r)
  all_goals
    go_enter Try.func32, Try.ntmps32
    go_wp2_with fail
    go_ret
    exact ⟨ret_bool (by rw [HI.out, h0]; simp), hb1⟩
theorem l5AheadT_any (s : ByteArray) (w : World) :
    Calls Try.prog 35 #[.string s] w fun e w' => e = .returned (.bool (endT s || isSmallS s)) ∧ w = w' := by
  cases hE : (s.toList == [36])
  all_goals
    have HE : Hid ((endT s || isSmallS s) = (s.toList == [36] || isSmallS s)) := rfl
    go_enter Try.func35, Try.ntmps35
    go_wp2_with (go_at_call 34; refine (sSignSmall_any _ _).mono ?_; rintro e w' ⟨rfl, rfl⟩)
    go_ret
    exact ⟨ret_bool (by rw [HE.out, hE]; simp), rfl⟩
set_option maxHeartbeats 1000000 in
theorem moveOk_any (m : Int) (a : Option Addr) (cap n : Nat) (c : Option Addr) (l cup : Nat) (r d : Int) (s : ByteArray) (w : World) :
    Calls Try.prog 40 #[tabV m a n cap c l cup, .agg #[.int .i64 r, .string s, .int .i64 d]] w fun e w' => e = .returned (.bool (mvB m (r, s, d))) ∧ Below w.heap.size w w' := by
  have hb1 := ((Below.refl w.heap.size w).alloc (Nat.le_refl _) (.cells #[.int .i64 m, .slice a n cap, .slice c l cup] 39)).alloc (by simp) (.cells #[.int .i64 r, .string s, .int .i64 d] 60)
  have X1 := (BoxT.new w (.int .i64 m) (.slice a n cap) (.slice c l cup) 39).old (.cells #[.int .i64 r, .string s, .int .i64 d] 60)
  have Y1 := BoxT.new (w.alloc (.cells #[.int .i64 m, .slice a n cap, .slice c l cup] 39)) (.int .i64 r) (.string s) (.int .i64 d) 60
  simp only [World.size_alloc] at Y1
  have HI : Hid (mvB m (r, s, d) = (hasStB m r && (hasStB m d && (isBigS s || isSmallS s)))) := rfl
  go_enter Try.func40, Try.ntmps40
  go_wp2_with fail
  refine (hasState_any m _ _ _ _ _ _ r _).mono ?_
  rintro e w2 ⟨rfl, hb2⟩
  have X2 := X1.below hb2
  have Y2 := Y1.below hb2
  have c2 := Below.on hb1 hb2 (Nat.le_refl _)
  clear X1 Y1 hb1 hb2
  obtain ⟨x0, x1, x2⟩ := X2.2
  obtain ⟨y0, y1, y2⟩ := Y2.2
  cases h0 : hasStB m r with
  | false =>
    go_wp2_with fail
    go_ret
    exact ⟨ret_bool (by rw [HI.out, h0]; rfl), c2⟩
  | true =>
    go_wp2_with fail
    refine (hasState_any m _ _ _ _ _ _ d _).mono ?_
    rintro e w3 ⟨rfl, hb3⟩
    have X3 := X2.below hb3
    have Y3 := Y2.below hb3
    have c3 := Below.on c2 hb3 (Nat.le_refl _)
    clear X2 Y2 c2 hb3 x0 x1 x2 y0 y1 y2
    obtain ⟨x0, x1, x2⟩ := X3.2
    obtain ⟨y0, y1, y2⟩ := Y3.2
    cases h1 : hasStB m d with
    | false =>
      go_wp2_with fail
      go_ret
      exact ⟨ret_bool (by rw [HI.out, h0, h1]; rfl), c3⟩
    | true =>
      cases h2 : isBigS s
      all_goals
        go_wp2_with (first | (go_at_call 68; refine (signBig_any _ _).mono ?_; rintro e w' ⟨rfl, rfl⟩; rw [h2]) | (go_at_call 72; refine (signSmall_any _ _).mono ?_; rintro e w' ⟨rfl, rfl⟩) | fail)
        go_ret
        exact ⟨ret_bool (by rw [HI.out, h0, h1, h2]; simp), c3⟩
set_option maxHeartbeats 1000000 in
theorem endOk_any (m : Int) (a : Option Addr) (cap n : Nat) (c : Option Addr) (l cup : Nat) (st : ByteArray) (b : Option Addr) (k kup : Nat) (r d : Int) (s : ByteArray) (w : World) :
    Calls Try.prog 41 #[tabV m a n cap c l cup, .agg #[.string st, .slice b k kup], .agg #[.int .i64 r, .string s, .int .i64 d]] w fun e w' => e = .returned (.bool (enB m k (r, s, d))) ∧ Below w.heap.size w w' := by
  have hb1 := (((Below.refl w.heap.size w).alloc (Nat.le_refl _) (.cells #[.int .i64 m, .slice a n cap, .slice c l cup] 39)).alloc (by simp) (.cells #[.string st, .slice b k kup] 34)).alloc (by simp; omega) (.cells #[.int .i64 r, .string s, .int .i64 d] 63)
  have X1 := ((BoxT.new w (.int .i64 m) (.slice a n cap) (.slice c l cup) 39).old (.cells #[.string st, .slice b k kup] 34)).old (.cells #[.int .i64 r, .string s, .int .i64 d] 63)
  have G1 := (Box2.new (w.alloc (.cells #[.int .i64 m, .slice a n cap, .slice c l cup] 39)) (.string st) (.slice b k kup) 34).old (.cells #[.int .i64 r, .string s, .int .i64 d] 63)
  have Y1 := BoxT.new ((w.alloc (.cells #[.int .i64 m, .slice a n cap, .slice c l cup] 39)).alloc (.cells #[.string st, .slice b k kup] 34)) (.int .i64 r) (.string s) (.int .i64 d) 63
  simp only [World.size_alloc] at Y1 G1
  have HI : Hid (enB m k (r, s, d) = (hasStB m r && ((endT s || isSmallS s) && (decide (-1 ≤ d) && decide (d < (k : Int)))))) := rfl
  cases hE : (s.toList == [36]) <;> cases hS : isSmallS s <;> cases h0 : hasStB m r <;> cases h2 : decide (-1 ≤ d)
  all_goals
    have HE : Hid (enB m k (r, s, d) = (hasStB m r && (((s.toList == [36]) || isSmallS s) && (decide (-1 ≤ d) && decide (d < (k : Int)))))) := rfl
    go_enter Try.func41, Try.ntmps41
    go_wp2_with (first | (go_at_call 72; refine (signSmall_any _ _).mono ?_; rintro e w' ⟨rfl, rfl⟩; rw [hS]) | fail)
    refine (hasState_any m _ _ _ _ _ _ r _).mono ?_
    rintro e w2 ⟨rfl, hb2⟩
    have X2 := X1.below hb2
    have G2 := G1.below hb2
    have Y2 := Y1.below hb2
    have c2 := Below.on hb1 hb2 (Nat.le_refl _)
    clear X1 Y1 G1 hb1 hb2
    obtain ⟨x0, x1, x2⟩ := X2.2
    obtain ⟨y0, y1, y2⟩ := Y2.2
    obtain ⟨g0, g1⟩ := G2.2
    rw [h0]
    go_wp2_with fail
    go_ret
    exact ⟨ret_bool (by rw [HE.out, hE, hS, h0, h2]; simp), c2⟩
set_option maxHeartbeats 1000000 in
theorem tableOk_any (st : ByteArray) (b : Option Addr) (kup : Nat) (rs : List RuleT) (m : Int) (a : Option Addr) (cap : Nat) (xs : List TriT) (c : Option Addr) (cup : Nat) (ys : List TriT) (w : World) (H : RulesAt w b rs) (hcap : rs.length ≤ kup) (HX : TrisAt w a xs) (HY : TrisAt w c ys) :
    Calls Try.prog 13 #[.agg #[.string st, .slice b rs.length kup], tabV m a xs.length cap c ys.length cup] w fun e w' => e = .returned (.bool (tabOkB st rs m xs ys)) ∧ Below w.heap.size w w' := by
  have hn1 := HX.1
  have hn2 := HY.1
  unfold maxLen at hn1 hn2
  have hb1 := ((Below.refl w.heap.size w).alloc (Nat.le_refl _) (.cells #[.string st, .slice b rs.length kup] 34)).alloc (by simp) (.cells #[.int .i64 m, .slice a xs.length cap, .slice c ys.length cup] 39)
  have G1 := (Box2.new w (.string st) (.slice b rs.length kup) 34).old (.cells #[.int .i64 m, .slice a xs.length cap, .slice c ys.length cup] 39)
  have X1 := BoxT.new (w.alloc (.cells #[.string st, .slice b rs.length kup] 34)) (.int .i64 m) (.slice a xs.length cap) (.slice c ys.length cup) 39
  simp only [World.size_alloc] at X1
  go_enter Try.func13, Try.ntmps13
  go_wp2_with fail
  refine (gramOk_any st b kup rs _ (H.below hb1 (Nat.le_refl _)) hcap).mono ?_
  rintro e w2 ⟨rfl, hb2⟩
  have X2 := X1.below hb2
  have G2 := G1.below hb2
  have c2 := Below.on hb1 hb2 (Nat.le_refl _)
  clear X1 G1 hb1 hb2
  obtain ⟨x0, x1, x2⟩ := X2.2
  obtain ⟨g0, g1⟩ := G2.2
  by_cases hlo : gramOkB st rs = true ∧ 1 ≤ m ∧ m ≤ 40
  · obtain ⟨e0, e1, e2⟩ := hlo
    have E := Lib.hid (And.intro e0 (And.intro e1 e2))
    have d1 : decide (m < 1) = false := by rw [decide_eq_false_iff_not]; omega
    have d2 : decide (40 < m) = false := by rw [decide_eq_false_iff_not]; omega
    rw [e0]
    clear e0 e1 e2
    go_wp2_with fail
    clear x0 x1 x2 g0 g1
    go_loopw [25] (fun i wr => ∃ k : Nat, k ≤ xs.length ∧ i = .int .i64 k ∧ Hid (∀ j (h : j < xs.length), j < k → mvB m xs[j] = true) ∧ Below w.heap.size w wr ∧ BoxT wr (w.heap.size + 1) (.int .i64 m) (.slice a xs.length cap) (.slice c ys.length cup) ∧ Box2 wr w.heap.size (.string st) (.slice b rs.length kup)) (fun i _ => xs.length - (intOf i).toNat)
    case atStart => exact ⟨0, Nat.zero_le _, rfl, fun j _ h => by omega, c2, X2, G2⟩
    case round =>
      clear c2 X2 G2
      obtain ⟨k, hk, rfl, HG, hb, X, G⟩ := hrel
      by_cases hlt : k < xs.length
      · obtain ⟨z, b', off, e, hbb, c0, c1, c2⟩ := (HX.below hb (Nat.le_refl _)).2 k hlt
        subst e
        have hb3 := (Below.refl wr.heap.size wr).alloc (Nat.le_refl _) (.cells #[.int .i64 xs[k].1, .string xs[k].2.1, .int .i64 xs[k].2.2] 60)
        have X3 := X.old (.cells #[.int .i64 xs[k].1, .string xs[k].2.1, .int .i64 xs[k].2.2] 60)
        have G3 := G.old (.cells #[.int .i64 xs[k].1, .string xs[k].2.1, .int .i64 xs[k].2.2] 60)
        have hc3 := Below.on hb hb3 (Nat.le_refl _)
        obtain ⟨x0, x1, x2⟩ := X3.2
        go_wp2_with fail
        refine (moveOk_any m _ _ _ _ _ _ _ _ _ _).mono ?_
        rintro e w4 ⟨rfl, hb4⟩
        have X4 := X3.below hb4
        have G4 := G3.below hb4
        have hc4 := Below.on hc3 hb4 (Nat.le_refl _)
        clear hb3 X3 G3 hc3 x0 x1 x2 hb4 X G hb c0 c1 c2 hbb
        cases ho : mvB m (xs[k].1, xs[k].2.1, xs[k].2.2) with
        | false =>
          have HF := Lib.hid (tabOk_mv (st := st) (rs := rs) (ys := ys) hlt ho)
          go_wp2_with fail
          go_ret
          exact ⟨ret_bool HF.out.symm, hc4⟩
        | true =>
          have HT := Lib.hid ho
          clear ho
          go_wp2_with fail
          go_roundw
          case rel => exact ⟨k + 1, by omega, by go_num, fun j h hj => by
                        by_cases e : j = k
                        · subst e; exact HT.out
                        · exact HG.out j h (by omega), hc4, X4, G4⟩
          case measure => simp [intOf]; omega
      · have HG2 : Hid (∀ j (h : j < xs.length), mvB m xs[j] = true) := fun j h => HG.out j h (by omega)
        clear HG
        obtain ⟨x0, x1, x2⟩ := X.2
        go_wp2_with fail
        clear x0 x1 x2
        have c2 := hb
        have X2 := X
        have G2 := G
        clear hb X G hlt hk
        go_loopw [37] (fun i wr => ∃ k : Nat, k ≤ ys.length ∧ i = .int .i64 k ∧ Hid (∀ j (h : j < ys.length), j < k → enB m rs.length ys[j] = true) ∧ Below w.heap.size w wr ∧ BoxT wr (w.heap.size + 1) (.int .i64 m) (.slice a xs.length cap) (.slice c ys.length cup) ∧ Box2 wr w.heap.size (.string st) (.slice b rs.length kup)) (fun i _ => ys.length - (intOf i).toNat)
        case atStart => exact ⟨0, Nat.zero_le _, rfl, fun j _ h => by omega, c2, X2, G2⟩
        case round =>
          clear c2 X2 G2
          obtain ⟨k, hk, rfl, HG, hb, X, G⟩ := hrel
          by_cases hlt : k < ys.length
          · obtain ⟨z, b', off, e, hbb, c0, c1, c2⟩ := (HY.below hb (Nat.le_refl _)).2 k hlt
            subst e
            have hb3 := (Below.refl wr.heap.size wr).alloc (Nat.le_refl _) (.cells #[.int .i64 ys[k].1, .string ys[k].2.1, .int .i64 ys[k].2.2] 63)
            have X3 := X.old (.cells #[.int .i64 ys[k].1, .string ys[k].2.1, .int .i64 ys[k].2.2] 63)
            have G3 := G.old (.cells #[.int .i64 ys[k].1, .string ys[k].2.1, .int .i64 ys[k].2.2] 63)
            have hc3 := Below.on hb hb3 (Nat.le_refl _)
            obtain ⟨x0, x1, x2⟩ := X3.2
            obtain ⟨g0, g1⟩ := G3.2
            go_wp2_with fail
            refine (endOk_any m _ _ _ _ _ _ _ _ _ _ _ _ _ _).mono ?_
            rintro e w4 ⟨rfl, hb4⟩
            have X4 := X3.below hb4
            have G4 := G3.below hb4
            have hc4 := Below.on hc3 hb4 (Nat.le_refl _)
            clear hb3 X3 G3 hc3 x0 x1 x2 g0 g1 hb4 X G hb c0 c1 c2 hbb
            cases ho : enB m rs.length (ys[k].1, ys[k].2.1, ys[k].2.2) with
            | false =>
              have HF := Lib.hid (tabOk_en (st := st) (rs := rs) (xs := xs) hlt ho)
              go_wp2_with fail
              go_ret
              exact ⟨ret_bool HF.out.symm, hc4⟩
            | true =>
              have HT := Lib.hid ho
              clear ho
              go_wp2_with fail
              go_roundw
              case rel => exact ⟨k + 1, by omega, by go_num, fun j h hj => by
                            by_cases e : j = k
                            · subst e; exact HT.out
                            · exact HG.out j h (by omega), hc4, X4, G4⟩
              case measure => simp [intOf]; omega
          · go_wp2_with fail
            go_ret
            exact ⟨ret_bool (tabOk_all E.out.1 E.out.2.1 E.out.2.2 HG2.out (fun j h => HG.out j h (by omega))).symm, hb⟩
  · have HF := Lib.hid (tabOk_lo (st := st) (rs := rs) (m := m) (xs := xs) (ys := ys) (fun h0 h1 h2 => hlo ⟨h0, h1, h2⟩))
    cases e0 : gramOkB st rs with
    | false =>
      clear hlo
      go_wp2_with fail
      go_ret
      exact ⟨ret_bool HF.out.symm, c2⟩
    | true =>
      by_cases e1 : m < 1
      · have d1 : decide (m < 1) = true := by simpa using e1
        clear hlo e1
        go_wp2_with fail
        go_ret
        exact ⟨ret_bool HF.out.symm, c2⟩
      · have d1 : decide (m < 1) = false := by simpa using e1
        have d2 : decide (40 < m) = true := by rw [decide_eq_true_eq]; rw [e0] at hlo; simp at hlo; omega
        clear hlo e1
        go_wp2_with fail
        go_ret
        exact ⟨ret_bool HF.out.symm, c2⟩
end Go.Proofs.Ytiloalbjcmpljaa
