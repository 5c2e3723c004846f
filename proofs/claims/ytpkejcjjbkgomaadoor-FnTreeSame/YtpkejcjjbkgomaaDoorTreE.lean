/- The model's l3Shape: whether a tree is one by rules, so deep at most. -/
import Derived.Test.YtpkejcjjbkgomaaDoorTreD
namespace Go.Proofs.YtpkejcjjbkgomaaDoor
open Go.ChangeShapes Go.WideShapes Go.ChangeAt Go.RowKit Go.Deep
set_option maxRecDepth 100000
def Tr.sign : Tr → ByteArray
  | .node s _ _ => s
/-- kid j has the sign that stands at place j of the right side, and is a tree -/
def kidB (f : Tr → Bool) (rt : ByteArray) (k : Tr) (j : Nat) : Bool := (k.sign.toList == (rt.extract j (j + 1)).toList) && f k
def kidsTo (f : Tr → Bool) (rt : ByteArray) (ks : List Tr) : Nat → Bool
  | 0 => true
  | i + 1 => kidsTo f rt ks i && (match ks[i]? with
    | some k => kidB f rt k i
    | none => true)
def ruleAt (rs : List RuleT) (r : Int) (s : ByteArray) (n : Nat) : Option ByteArray := if r < 0 then none else match rs[r.toNat]? with
  | some q => if (q.1.toList == s.toList) = true ∧ n = q.2.size then some q.2 else none
  | none => none
def shapeB (rs : List RuleT) : Nat → Tr → Bool
  | 0, _ => false
  | d + 1, .node s r ks => if isSmallS s = true then r == -1 && ks.length == 0 else match ruleAt rs r s ks.length with
    | some rt => kidsTo (shapeB rs d) rt ks ks.length
    | none => false
theorem kidsTo_succ {f : Tr → Bool} {rt : ByteArray} {ks : List Tr} {i : Nat} (h : i < ks.length) : kidsTo f rt ks (i + 1) = (kidsTo f rt ks i && kidB f rt ks[i] i) := by
  rw [kidsTo, List.getElem?_eq_getElem h]
theorem kidsTo_false {f : Tr → Bool} {rt : ByteArray} {ks : List Tr} {i : Nat} (h : i < ks.length) (hf : kidB f rt ks[i] i = false) : ∀ j, i < j → j ≤ ks.length → kidsTo f rt ks j = false
  | 0, h1, _ => absurd h1 (Nat.not_lt_zero _)
  | j + 1, h1, h2 => by
    rw [kidsTo_succ (by omega)]
    by_cases e : i = j
    · subst e; rw [hf]; simp
    · rw [kidsTo_false h hf j (by omega) (by omega)]; rfl
theorem TrIn.signs {w : World} {B : Nat} {s : ByteArray} {r : Int} {x : Value} {T : Tr} (h : TrIn w B (.agg #[.string s, .int .i64 r, x]) T) : T.sign = s ∧ s.size ≤ maxLen := by
  obtain ⟨s', r', ks, a, cap, e, rfl, hs, _⟩ := h.open
  simp only [Value.agg.injEq, Array.mk.injEq, List.cons.injEq, and_true, Value.string.injEq] at e
  rw [e.1]
  exact ⟨rfl, hs⟩
theorem ruleAt_at {rs : List RuleT} {n : Nat} (s : ByteArray) (k : Nat) (hrn : n < rs.length) : ruleAt rs (n : Int) s k = if (rs[n].1.toList == s.toList) = true ∧ k = rs[n].2.size then some rs[n].2 else none := by
  unfold ruleAt
  rw [if_neg (by omega), Int.toNat_natCast, List.getElem?_eq_getElem hrn]
def GB2 (w : World) (b : Nat) (v0 v1 : Value) : Prop := w.heap[b]? = some (.cells #[v0, v1] 64)
theorem GB2.lt {w : World} {b : Nat} {v0 v1 : Value} (h : GB2 w b v0 v1) : b < w.heap.size := (Array.getElem?_eq_some_iff.1 h).1
theorem GB2.cells {w : World} {b : Nat} {v0 v1 : Value} (h : GB2 w b v0 v1) : w.cell? ⟨b, 0, none⟩ = some v0 ∧ w.cell? ⟨b, 1, none⟩ = some v1 := ⟨by rw [cell_of_block h 0]; rfl, by rw [cell_of_block h 1]; rfl⟩
theorem Below.drewN' {B n : Nat} {a w : World} (h : Below B a w) : Below B a (w.drewN n) := h.trans ⟨rfl, rfl, rfl, by simp, fun _ _ => rfl⟩
set_option maxHeartbeats 4000000 in
theorem l3Shape_any (rs : List RuleT) (hR8 : ∀ i (h : i < rs.length), rs[i].2.size ≤ 100) (st : ByteArray) : ∀ (d : Nat) (T : Tr), d ≤ 1000 → ∀ (ag : Option Addr) (cg : Nat) v w, RulesAt w ag rs → TrIn w 0 v T →
    Calls Tryd.prog 81 #[.agg #[.string st, .slice ag rs.length cg], v, .int .i64 (d : Int)] w fun e w' => e = .returned (.bool (shapeB rs d T)) ∧ Below w.heap.size w w' := by
  intro d
  induction d with
  | zero =>
    intro T _ ag cg v w HR HT
    obtain ⟨s, r, ks, a, cap, rfl, rfl, hs, hr, hn, hc, HK⟩ := HT.open
    have hb2 := ((Below.refl w.heap.size w).alloc (Nat.le_refl _) (.cells #[.string st, .slice ag rs.length cg] 64)).alloc (by simp) (.cells #[.string s, .int .i64 r, .slice a ks.length cap] 29)
    go_enter Tryd.func81, Tryd.ntmps81
    go_wp2_with fail
    go_ret
    exact ⟨rfl, hb2⟩
  | succ d ih =>
    intro T hd ag cg v w HR HT
    obtain ⟨s, r, ks, a, cap, rfl, rfl, hs, hr, hn, hc, HK⟩ := HT.open
    have HIH := Lib.hid ih
    have hb2 := ((Below.refl w.heap.size w).alloc (Nat.le_refl _) (.cells #[.string st, .slice ag rs.length cg] 64)).alloc (by simp) (.cells #[.string s, .int .i64 r, .slice a ks.length cap] 29)
    have hT2 : BoxT ((w.alloc (.cells #[.string st, .slice ag rs.length cg] 64)).alloc (.cells #[.string s, .int .i64 r, .slice a ks.length cap] 29)) (w.heap.size + 1) (.string s) (.int .i64 r) (.slice a ks.length cap) := blk_new _ _ (by simp)
    have hd1 : ¬ ((d + 1 : Nat) : Int) < 1 := by omega
    obtain ⟨o0, o1, o2, of0, of1, of2⟩ := hT2.cells
    unfold maxLen at hn
    clear ih
    cases hsm : isSmallS s with
    | true =>
      have hsb : shapeB rs (d + 1) (.node s r ks) = (r == -1 && ks.length == 0) := by rw [shapeB, if_pos hsm]
      have HSB := Lib.hid hsb
      clear hsb
      by_cases hr1 : r = -1
      · have t1 : (r == -1) = true := by rw [hr1]; rfl
        have HR1 := Lib.hid hr1
        clear hr1
        go_enter Tryd.func81, Tryd.ntmps81
        go_wp2_with (go_at_call 97; refine (sSignSmall_any _ _).mono ?_; rintro e w' ⟨rfl, rfl⟩; rw [hsm])
        go_ret
        exact ⟨ret_bool (by rw [HSB.out, t1, Bool.true_and, Bool.eq_iff_iff]; simp), hb2⟩
      · have t1 : (r == -1) = false := by simpa using hr1
        clear hr1
        go_enter Tryd.func81, Tryd.ntmps81
        go_wp2_with (go_at_call 97; refine (sSignSmall_any _ _).mono ?_; rintro e w' ⟨rfl, rfl⟩; rw [hsm])
        go_ret
        exact ⟨ret_bool (by rw [HSB.out, t1]; rfl), hb2⟩
    | false =>
      have hsb : shapeB rs (d + 1) (.node s r ks) = (match ruleAt rs r s ks.length with
        | some rt => kidsTo (shapeB rs d) rt ks ks.length
        | none => false) := by rw [shapeB, if_neg (by rw [hsm]; simp)]
      have HSB := Lib.hid hsb
      clear hsb
      by_cases hr0 : r < 0
      · have HNO : Hid (shapeB rs (d + 1) (.node s r ks) = false) := by show _ = _; rw [HSB.out, ruleAt, if_pos hr0]
        go_enter Tryd.func81, Tryd.ntmps81
        go_wp2_with (go_at_call 97; refine (sSignSmall_any _ _).mono ?_; rintro e w' ⟨rfl, rfl⟩; rw [hsm])
        go_quiet (fail)
        go_wp2_with fail
        go_ret
        exact ⟨by rw [HNO.out]; rfl, Below.drewN' hb2⟩
      · obtain ⟨n, rfl⟩ : ∃ n : Nat, r = (n : Int) := ⟨r.toNat, by omega⟩
        have hr0d : decide ((n : Int) < 0) = false := by simp
        by_cases hrn : n < rs.length
        · have hrn' : ¬ (rs.length : Int) ≤ (n : Int) := by omega
          have hrnd : decide ((rs.length : Int) ≤ (n : Int)) = false := by simpa using hrn'
          have hnl : (n : Int) < (rs.length : Int) := by omega
          have hrnN : decide (rs.length ≤ n) = false := by simp; omega
          have hn0 : (0 : Int) ≤ (n : Int) := by omega
          obtain ⟨z1, z2, b, off, rfl, hbb, c1, c2⟩ := HR.2 n hrn
          have d1 : ((w.alloc (.cells #[.string st, .slice (some ⟨b, off, none⟩) rs.length cg] 64)).alloc (.cells #[.string s, .int .i64 (n : Int), .slice a ks.length cap] 29)).cell? ⟨b, off + n * 2, none⟩ = some (.string rs[n].1) := by rw [hb2.cell (p := ⟨b, _, none⟩) hbb, c1]
          have d2 : ((w.alloc (.cells #[.string st, .slice (some ⟨b, off, none⟩) rs.length cg] 64)).alloc (.cells #[.string s, .int .i64 (n : Int), .slice a ks.length cap] 29)).cell? ⟨b, off + n * 2 + 1, none⟩ = some (.string rs[n].2) := by rw [hb2.cell (p := ⟨b, _, none⟩) hbb, c2]
          have HRA := Lib.hid (ruleAt_at s ks.length hrn)
          have hrt := hR8 n hrn
          have HR8 := Lib.hid hR8
          have hG2 : GB2 ((w.alloc (.cells #[.string st, .slice (some ⟨b, off, none⟩) rs.length cg] 64)).alloc (.cells #[.string s, .int .i64 (n : Int), .slice a ks.length cap] 29)) w.heap.size (.string st) (.slice (some ⟨b, off, none⟩) rs.length cg) := (blk_old _ _ (by simp)).trans (blk_new _ _ rfl)
          have HKW := HK.below hb2
          have HRW := HR.below hb2 (Nat.le_refl _)
          have hbW := Nat.lt_of_lt_of_le hbb hb2.size
          have hlG := hG2.lt
          have hlT := hT2.lt
          clear HK HT HR hR8 hr0 c1 c2 hbb of0 of1 of2 o0 o1 o2
          go_enter Tryd.func81, Tryd.ntmps81
          go_wp2_with (go_at_call 97; refine (sSignSmall_any _ _).mono ?_; rintro e w' ⟨rfl, rfl⟩; rw [hsm])
          generalize ((w.alloc (.cells #[.string st, .slice (some ⟨b, off, none⟩) rs.length cg] 64)).alloc (.cells #[.string s, .int .i64 (n : Int), .slice a ks.length cap] 29)) = W at *
          obtain ⟨g0, g1⟩ := hG2.cells
          obtain ⟨o0, o1, o2, _, _, _⟩ := hT2.cells
          have q0 : ∀ y, (grow W y).cell? ⟨w.heap.size, 1, none⟩ = some (.slice (some ⟨b, off, none⟩) rs.length cg) := fun y => by rw [grow_cell _ _ _ _ hlG]; exact g1
          have q1 : ∀ y, (grow W y).cell? ⟨w.heap.size + 1, 0, none⟩ = some (.string s) := fun y => by rw [grow_cell _ _ _ _ hlT]; exact o0
          have q2 : ∀ y, (grow W y).cell? ⟨w.heap.size + 1, 1, none⟩ = some (.int .i64 (n : Int)) := fun y => by rw [grow_cell _ _ _ _ hlT]; exact o1
          have q3 : ∀ y, (grow W y).cell? ⟨w.heap.size + 1, 2, none⟩ = some (.slice a ks.length cap) := fun y => by rw [grow_cell _ _ _ _ hlT]; exact o2
          have q4 : ∀ y, (grow W y).cell? ⟨b, off + n * 2, none⟩ = some (.string rs[n].1) := fun y => by rw [grow_cell _ _ _ _ hbW]; exact d1
          have q5 : ∀ y, (grow W y).cell? ⟨b, off + n * 2 + 1, none⟩ = some (.string rs[n].2) := fun y => by rw [grow_cell _ _ _ _ hbW]; exact d2
          clear g0 g1 o0 o1 o2 d1 d2
          cases hle : (rs[n].1.toList == s.toList) with
          | false =>
            have hle' : (rs[n].1.toList != s.toList) = true := by unfold bne; rw [hle]; rfl
            have HNO : Hid (shapeB rs (d + 1) (.node s (n : Int) ks) = false) := by
              show _ = _
              rw [HSB.out, HRA.out, if_neg (by rw [hle]; simp)]
            refine wp_region_grow (by kernel_rfl) (by kernel_rfl) ?_
            repeat (go_big_quiet_step (fail))
            refine wpQuiet_nil ?_
            rintro _ ⟨y, rfl⟩
            go_wp2_with fail
            go_ret
            exact ⟨by rw [HNO.out]; rfl, hb2.trans ((below_grow W y).mono hb2.size)⟩
          | true =>
            have hle' : (rs[n].1.toList != s.toList) = false := by unfold bne; rw [hle]; rfl
            by_cases hkl : ks.length = rs[n].2.size
            · have hk3 : (ks.length != rs[n].2.size) = false := by rw [hkl]; simp
              have hk1 : ((ks.length : Int) != (rs[n].2.size : Int)) = false := by rw [hkl]; simp
              have HKL := Lib.hid hkl
              have HYES : Hid (shapeB rs (d + 1) (.node s (n : Int) ks) = kidsTo (shapeB rs d) rs[n].2 ks ks.length) := by
                show _ = _
                rw [HSB.out, HRA.out, if_pos ⟨hle, hkl⟩]
              clear hkl
              refine wp_region_grow (by kernel_rfl) (by kernel_rfl) ?_
              repeat (go_big_quiet_step (fail))
              refine wpQuiet_nil ?_
              rintro _ ⟨y, rfl⟩
              have hbY := below_grow W y
              have hG5 : GB2 (grow W y) w.heap.size (.string st) (.slice (some ⟨b, off, none⟩) rs.length cg) := (hbY.block _ hlG).trans hG2
              have hT5 := hT2.below hbY
              have HK5 := HKW.below hbY
              have HR5 := HRW.below hbY (Nat.le_refl _)
              have hB5 := hb2.trans (hbY.mono hb2.size)
              clear q0 q1 q2 q3 q4 q5 hG2 hT2 HKW HRW hb2 hlG hlT hbW hbY
              generalize grow W y = W5 at *
              go_wp2_with fail
              go_loopg [7] (ks.length + 1) (fun gk iv wr => ∃ i : Nat, gk = ks.length + 1 - i ∧ i ≤ ks.length ∧ iv = .int .i64 (i : Int) ∧ Hid (kidsTo (shapeB rs d) rs[n].2 ks i = true) ∧ Below W5.heap.size W5 wr)
              case atStart => exact ⟨0, rfl, Nat.zero_le _, rfl, rfl, Below.refl _ _⟩
              case round =>
                obtain ⟨i, hgk, hi, rfl, HOK, hbw⟩ := hrel
                have HG := Lib.hid hgk
                have hG : GB2 wr w.heap.size (.string st) (.slice (some ⟨b, off, none⟩) rs.length cg) := (hbw.block _ hG5.lt).trans hG5
                have hTT := hT5.below hbw
                have hB : Below w.heap.size w wr := hB5.trans (hbw.mono hB5.size)
                have HRr := HR5.below hbw (Nat.le_refl _)
                obtain ⟨_, _, b', off', e, hbR, k1, k2⟩ := HRr.2 n hrn
                simp only [Option.some.injEq, Addr.mk.injEq] at e
                obtain ⟨rfl, rfl, _⟩ := e
                obtain ⟨g0, g1⟩ := hG.cells
                obtain ⟨o0, o1, o2, _, _, _⟩ := hTT.cells
                have lG := hG.lt
                have lT := hTT.lt
                clear hgk
                by_cases hlt : i < ks.length
                · have hil : (i : Int) < (ks.length : Int) := by omega
                  have hi0 : (0 : Int) ≤ (i : Int) := by omega
                  have hkz := HKL.out
                  have hiz : (i : Int) + 1 ≤ (rs[n].2.size : Int) := by omega
                  have hiz2 : i + 1 ≤ rs[n].2.size := by omega
                  have hw1 : IntKind.i64.wrap ((i : Int) + 1) = (i : Int) + 1 := IntWalk.i64_in _ (by omega)
                  have hw2 : (0 : Int) ≤ (i : Int) + 1 := by omega
                  have hw3 : ((i : Int) + 1).toNat = i + 1 := by omega
                  have hw4 : IntKind.i64.wrap ((d : Int) + 1 - 1) = (d : Int) := by rw [show (d : Int) + 1 - 1 = (d : Int) from by omega]; exact IntWalk.i64_in _ (by omega)
                  have hw5 : IntKind.i64.wrap (d : Int) = (d : Int) := IntWalk.i64_in _ (by omega)
                  clear hkz
                  obtain ⟨g', off', s', r', x, rfl, _, hg', c0', c1', c2', ht'⟩ := (HK5.below hbw) i hlt
                  obtain ⟨a3, n3, cap3, rfl⟩ := ht'.third
                  have HSG := Lib.hid ht'.signs.1
                  have q0 : ∀ y, (grow wr y).cell? ⟨w.heap.size, 1, none⟩ = some (.slice (some ⟨b, off, none⟩) rs.length cg) := fun y => by rw [grow_cell _ _ _ _ lG]; exact g1
                  have q6 : ∀ y, (grow wr y).cell? ⟨w.heap.size, 0, none⟩ = some (.string st) := fun y => by rw [grow_cell _ _ _ _ lG]; exact g0
                  have q2 : ∀ y, (grow wr y).cell? ⟨w.heap.size + 1, 1, none⟩ = some (.int .i64 (n : Int)) := fun y => by rw [grow_cell _ _ _ _ lT]; exact o1
                  have q3 : ∀ y, (grow wr y).cell? ⟨w.heap.size + 1, 2, none⟩ = some (.slice (some ⟨g', off', none⟩) ks.length cap) := fun y => by rw [grow_cell _ _ _ _ lT]; exact o2
                  have q5 : ∀ y, (grow wr y).cell? ⟨b, off + n * 2 + 1, none⟩ = some (.string rs[n].2) := fun y => by rw [grow_cell _ _ _ _ hbR]; exact k2
                  have p0 : ∀ y, (grow wr y).cell? ⟨g', off' + i * 3, none⟩ = some (.string s') := fun y => by rw [grow_cell _ _ _ _ hg']; exact c0'
                  have p1 : ∀ y, (grow wr y).cell? ⟨g', off' + i * 3 + 1, none⟩ = some (.int .i64 r') := fun y => by rw [grow_cell _ _ _ _ hg']; exact c1'
                  have p2 : ∀ y, (grow wr y).cell? ⟨g', off' + i * 3 + 2, none⟩ = some (.slice a3 n3 cap3) := fun y => by rw [grow_cell _ _ _ _ hg']; exact c2'
                  clear g0 g1 o0 o1 k1 k2 c0' c1' c2'
                  have C1 : ∀ y, Calls Tryd.prog 81 #[.agg #[.string st, .slice (some ⟨b, off, none⟩) rs.length cg], .agg #[.string s', .int .i64 r', .slice a3 n3 cap3], .int .i64 (d : Int)] (grow wr y) fun e w' => e = .returned (.bool (shapeB rs d ks[i])) ∧ ∃ z, w' = grow wr z :=
                    fun y => Calls.grow_of (HIH.out ks[i] (by omega) (some ⟨b, off, none⟩) cg _ _ (HRr.below (below_grow _ y) (Nat.le_refl _)) (ht'.keep (below_grow _ y)))
                  cases hsg : (s'.toList == (rs[n].2.extract i (i + 1)).toList) with
                  | false =>
                    have hsg' : (s'.toList != (rs[n].2.extract i (i + 1)).toList) = true := by unfold bne; rw [hsg]; rfl
                    have HNO : Hid (kidsTo (shapeB rs d) rs[n].2 ks ks.length = false) := kidsTo_false hlt (by unfold kidB; rw [HSG.out, hsg]; rfl) _ hlt (Nat.le_refl _)
                    go_wp2_with fail
                    refine wp_region_grow (by kernel_rfl) (by kernel_rfl) ?_
                    repeat (go_big_quiet_step ((first | (go_at_call 81; exact C1 _))))
                    refine wpQuiet_nil ?_
                    rintro _ ⟨y, rfl⟩
                    have hBz := hB.trans ((below_grow wr y).mono hB.size)
                    go_wp2_with fail
                    go_ret
                    exact ⟨by rw [HYES.out, HNO.out]; rfl, hBz⟩
                  | true =>
                    have hsg' : (s'.toList != (rs[n].2.extract i (i + 1)).toList) = false := by unfold bne; rw [hsg]; rfl
                    cases hsh : shapeB rs d ks[i] with
                    | false =>
                      rw [hsh] at C1
                      have HNO : Hid (kidsTo (shapeB rs d) rs[n].2 ks ks.length = false) := kidsTo_false hlt (by unfold kidB; rw [hsh]; simp) _ hlt (Nat.le_refl _)
                      go_wp2_with fail
                      refine wp_region_grow (by kernel_rfl) (by kernel_rfl) ?_
                      repeat (go_big_quiet_step ((first | (go_at_call 81; exact C1 _))))
                      refine wpQuiet_nil ?_
                      rintro _ ⟨y, rfl⟩
                      have hBz := hB.trans ((below_grow wr y).mono hB.size)
                      go_wp2_with fail
                      go_ret
                      exact ⟨by rw [HYES.out, HNO.out]; rfl, hBz⟩
                    | true =>
                      rw [hsh] at C1
                      have HN : Hid (kidsTo (shapeB rs d) rs[n].2 ks (i + 1) = true) := by
                        show _ = _
                        rw [kidsTo_succ hlt, HOK.out]
                        unfold kidB
                        rw [HSG.out, hsg, hsh]; rfl
                      go_wp2_with fail
                      refine wp_region_grow (by kernel_rfl) (by kernel_rfl) ?_
                      repeat (go_big_quiet_step ((first | (go_at_call 81; exact C1 _))))
                      refine wpQuiet_nil ?_
                      rintro _ ⟨y, rfl⟩
                      have hBz := hB.trans ((below_grow wr y).mono hB.size)
                      have hbz := hbw.trans ((below_grow wr y).mono hbw.size)
                      generalize grow wr y = w6 at *
                      clear q0 q6 q2 q3 q5 p0 p1 p2 C1
                      go_wp2_with fail
                      go_roundg (ks.length + 1 - (i + 1))
                      case measure => have := HG.out; omega
                      case rel => exact ⟨i + 1, rfl, by omega, by go_num, HN, hbz⟩
                · have hil : ¬ (i : Int) < (ks.length : Int) := by omega
                  obtain rfl : i = ks.length := by omega
                  go_wp2_with fail
                  go_ret
                  exact ⟨by rw [HYES.out, HOK.out]; rfl, hB⟩
            · have hk3 : (ks.length != rs[n].2.size) = true := by rw [bne_iff_ne]; exact hkl
              have hk1 : ((ks.length : Int) != (rs[n].2.size : Int)) = true := by rw [bne_iff_ne]; omega
              have HNO : Hid (shapeB rs (d + 1) (.node s (n : Int) ks) = false) := by
                show _ = _
                rw [HSB.out, HRA.out, if_neg (fun h => hkl h.2)]
              clear hkl
              refine wp_region_grow (by kernel_rfl) (by kernel_rfl) ?_
              repeat (go_big_quiet_step (fail))
              refine wpQuiet_nil ?_
              rintro _ ⟨y, rfl⟩
              go_wp2_with fail
              go_ret
              exact ⟨by rw [HNO.out]; rfl, hb2.trans ((below_grow W y).mono hb2.size)⟩
        · have HNO : Hid (shapeB rs (d + 1) (.node s (n : Int) ks) = false) := by
            show _ = _
            rw [HSB.out, ruleAt, if_neg hr0]
            simp [List.getElem?_eq_none (Nat.le_of_not_lt hrn)]
          have hrn' : (rs.length : Int) ≤ (n : Int) := by omega
          have hrnd : decide ((rs.length : Int) ≤ (n : Int)) = true := by simpa using hrn'
          go_enter Tryd.func81, Tryd.ntmps81
          go_wp2_with (go_at_call 97; refine (sSignSmall_any _ _).mono ?_; rintro e w' ⟨rfl, rfl⟩; rw [hsm])
          go_quiet (fail)
          go_wp2_with fail
          go_ret
          exact ⟨by rw [HNO.out]; rfl, Below.drewN' hb2⟩
end Go.Proofs.YtpkejcjjbkgomaaDoor
