/- The walk of FnGramFor. -/
import Derived.Test.YtjpkohahabclgaaEForA
import Derived.Test.YtjpkohahabclgaaBentA
import Derived.Test.YtjpkohahabclgaaSetE
namespace Go.Proofs.Ytjpkohahabclgaa
open Go.ChangeShapes Go.WideShapes Go.ChangeAt Go.RowKit
set_option maxRecDepth 100000
set_option maxHeartbeats 400000 in
theorem wpNums_any (a a' : Option Addr) (cap cap' : Nat) (zs : List Int) (w : World) (H : IntsAt w a zs) (H' : IntsAt w a' zs) :
    Calls Try.prog 41 #[.slice a zs.length cap, .slice a' zs.length cap'] w fun e w' => e = .returned (.bool true) ∧ Below w.heap.size w w' := by
  have hn := H.1
  unfold maxLen at hn
  go_enter Try.func41, Try.ntmps41
  go_wp2
  go_loopw [5] (fun i wr => ∃ k : Nat, k ≤ zs.length ∧ i = .int .i64 k ∧ Below w.heap.size w wr) (fun i _ => zs.length - (intOf i).toNat)
  case atStart => exact ⟨0, Nat.zero_le _, rfl, Below.refl _ _⟩
  case round =>
    obtain ⟨k, hk, rfl, hb⟩ := hrel
    by_cases hlt : k < zs.length
    · obtain ⟨b, off, e, hbb, c1⟩ := H.2 k hlt
      obtain ⟨b', off', e', hbb', c1'⟩ := H'.2 k hlt
      subst e e'
      have hkl : (k : Int) < (zs.length : Int) := by omega
      have d1 : wr.cell? ⟨b, off + k, none⟩ = some (.int .i64 zs[k]) := by rw [hb.cell (p := ⟨b, _, none⟩) hbb, c1]
      have d1' : wr.cell? ⟨b', off' + k, none⟩ = some (.int .i64 zs[k]) := by rw [hb.cell (p := ⟨b', _, none⟩) hbb', c1']
      have d2 : wr.drew.cell? ⟨b, off + k, none⟩ = some (.int .i64 zs[k]) := d1
      have d2' : wr.drew.cell? ⟨b', off' + k, none⟩ = some (.int .i64 zs[k]) := d1'
      go_wp2
      go_region
      all_goals
        go_wp2
        go_roundw
        case rel => exact ⟨k + 1, by omega, by go_num, hb.drew⟩
        case measure => simp [intOf]; omega
    · have hkl : ¬ (k : Int) < (zs.length : Int) := by omega
      go_wp2
      go_ret
      exact ⟨rfl, hb⟩
theorem forTo_mono (rs : List RuleT) (left : ByteArray) {k m : Nat} (h : k ≤ m) : ∃ t, forTo rs left m = forTo rs left k ++ t := by
  induction m with
  | zero => obtain rfl : k = 0 := by omega
            exact ⟨[], by simp⟩
  | succ m ih =>
    by_cases e : k = m + 1
    · subst e; exact ⟨[], by simp⟩
    · obtain ⟨t, ht⟩ := ih (by omega)
      exact ⟨_, by rw [forTo, ht, List.append_assoc]⟩
/-- the place of the next rule with this left side -/
theorem forTo_next {rs : List RuleT} {left : ByteArray} {k : Nat} (hk : k < rs.length) (h : (rs[k].1.toList == left.toList) = true) : (forTo rs left k).length < (forTo rs left rs.length).length ∧ (forTo rs left rs.length)[(forTo rs left k).length]? = some (k : Int) := by
  obtain ⟨t, ht⟩ := forTo_mono rs left (k := k + 1) (m := rs.length) (by omega)
  rw [forTo_yes hk h] at ht
  rw [ht]
  exact ⟨by simp, by simp⟩
theorem for_big {st : ByteArray} {rs : List RuleT} {left : ByteArray} (hok : gramOkB st rs = true) : ∀ k, k ≤ rs.length → forTo rs left k ≠ [] → isBigS left = true
  | 0, _, h => absurd rfl h
  | k + 1, hk, h => by
    by_cases e : (rs[k].1.toList == left.toList) = true
    · have h1 : ruleOkB rs[k] = true := ((ok_iff st rs).1 hok).2.2.1 _ (List.getElem_mem _)
      have h2 : rs[k].1 = left := tl_inj (by simpa using e)
      rw [← h2]
      unfold ruleOkB at h1
      simp only [Bool.and_eq_true] at h1
      exact h1.1
    · rw [forTo_no (by omega) (by simpa using e)] at h
      exact for_big hok k (by omega) h
set_option maxHeartbeats 4000000 in
theorem gramForF_law (a : Option Addr) (n cap : Nat) (w : World) (H : BytesAt w a n cap) :
    Calls Try.prog 9 #[.slice a n cap] w fun e w' => e = .returned (.bool true) ∧ Below w.heap.size w w' := by
  have hm := H.2.1
  unfold maxLen at hm
  by_cases h : (1048576 : Int) < (n : Int)
  · go_enter Try.func9, Try.ntmps9
    go_wp2
    go_ret
    exact ⟨rfl, Below.refl _ _⟩
  go_enter Try.func9, Try.ntmps9
  go_wp2_with fail
  refine (drawGramFor_any a n cap w H).mono ?_
  rintro e w1 ⟨v1, st, rs, left, rfl, ⟨b, off, c1, rfl, hc1, hR1, hl1, hs1, hS1, hb1⟩, hss, hB1⟩
  have hlf : left.size ≤ maxLen := by unfold maxLen; omega
  have hl8 := forL_len st rs left
  have hbw := (Below.refl w1.heap.size w1).alloc (Nat.le_refl _) (.cells #[.string st, .slice (some ⟨b, off, none⟩) rs.length c1] 24)
  have hR2 := hR1.below hbw (Nat.le_refl _)
  have hG : GBox (w1.alloc (.cells #[.string st, .slice (some ⟨b, off, none⟩) rs.length c1] 24)) w1.heap.size st (some ⟨b, off, none⟩) rs.length c1 := blk_new _ _ rfl
  go_wp2_with fail
  refine (gramFor_any st left (some ⟨b, off, none⟩) c1 rs _ hR2 hc1 hlf).mono ?_
  rintro e w3 ⟨au, cu, rfl, hO3, hb3⟩
  have hG3 := hG.below hb3
  have hR3 := hR2.below hb3 (Nat.le_refl _)
  have hB3 : Below w.heap.size w w3 := hB1.trans ((hbw.trans (hb3.mono (by simp))).mono hB1.size)
  obtain ⟨g0, g1⟩ := hG3.cells
  have hI3 := hO3.ints
  clear hG hR2 hb3 hbw hR1 hO3
  go_wp2_with fail
  refine (sGramFor_any _ left _ _ rs _ hR3 hc1).mono ?_
  rintro e w4 ⟨v, rfl, HV', hb4⟩
  obtain ⟨av, cv, rfl, HV⟩ := HV'.ints (by omega)
  have hG4 := hG3.below hb4
  have hR4 := hR3.below hb4 (Nat.le_refl _)
  have hI4 := hI3.below hb4
  have hB4 := Below.on hB3 hb4 (Nat.le_refl _)
  clear hG3 hR3 hI3 hB3 hb4 g0 g1 HV'
  go_wp2_with fail
  refine (wpNums_any _ _ _ _ _ _ hI4 HV).mono ?_
  rintro e w5 ⟨rfl, hb5⟩
  have hG5 := hG4.below hb5
  have hR5 := hR4.below hb5 (Nat.le_refl _)
  have hI5 := hI4.below hb5
  have hB5 := Below.on hB4 hb5 (Nat.le_refl _)
  clear hG4 hR4 hI4 hB4 hb5 HV
  obtain ⟨g0, g1⟩ := hG5.cells
  go_wp2_with fail
  refine (sGramOk_any st (some ⟨b, off, none⟩) c1 rs _ hR5 hc1).mono ?_
  rintro e w6 ⟨rfl, hb6⟩
  have hG6 := hG5.below hb6
  have hR6 := hR5.below hb6 (Nat.le_refl _)
  have hI6 := hI5.below hb6
  have hB6 := Below.on hB5 hb6 (Nat.le_refl _)
  clear hG5 hR5 hI5 hB5 hb6 g0 g1
  obtain ⟨g0, g1⟩ := hG6.cells
  cases hok : gramOkB st rs with
  | false =>
    go_wp2_with fail
    refine (sGramFor_any _ left _ _ rs _ hR6 hc1).mono ?_
    rintro e w7 ⟨v, rfl, HV', hb7⟩
    obtain ⟨av, cv, rfl, HV⟩ := HV'.ints (by omega)
    have hI7 := hI6.below hb7
    have hB7 := Below.on hB6 hb7 (Nat.le_refl _)
    clear HV' hb7 hI6 hB6 hR6 hG6 g0 g1
    go_wp2_with fail
    refine (wpNums_any _ _ _ _ _ _ hI7 HV).mono ?_
    rintro e w8 ⟨rfl, hb8⟩
    go_wp2
    go_ret
    exact ⟨rfl, Below.on hB7 hb8 (Nat.le_refl _)⟩
  | true =>
    have e2 : forL st rs left = forTo rs left rs.length := by simp [forL, hok]
    rw [e2] at hI6 hl8 ⊢
    clear e2
    have hbig := Lib.hid (for_big (left := left) hok rs.length (Nat.le_refl _))
    have hrl := (gramOk_facts hok).2.1
    go_wp2_with fail
    go_loopg [6, 7] (rs.length + 1) (fun gk nv iv wr => ∃ k : Nat, k ≤ rs.length ∧ gk = rs.length + 1 - k ∧ iv = .int .i64 (k : Int) ∧ nv = .int .i64 ((forTo rs left k).length : Int) ∧ wr = w6)
    case atStart => exact ⟨0, Nat.zero_le _, rfl, rfl, rfl, rfl⟩
    case round =>
      obtain ⟨k, hk, hgk, rfl, rfl, rfl⟩ := hrel
      have hfl := forTo_len rs left k
      by_cases hlt : k < rs.length
      · have hkl : (k : Int) < (rs.length : Int) := by omega
        obtain ⟨z1, z2, b', off', e, hbb, c1', c2'⟩ := hR6.2 k hlt
        simp only [Option.some.injEq, Addr.mk.injEq] at e
        obtain ⟨rfl, rfl, _⟩ := e
        cases he : (rs[k].1.toList == left.toList) with
        | true =>
          obtain ⟨hn1, hn2⟩ := forTo_next hlt he
          obtain ⟨hn3, hn4⟩ := List.getElem?_eq_some_iff.1 hn2
          obtain ⟨b2, off2, rfl, hb2, c2⟩ := hI6.2 _ hn1
          rw [hn4] at c2
          have hn5 : decide (((forTo rs left rs.length).length : Int) ≤ ((forTo rs left k).length : Int)) = false := by simp; omega
          have hn6 : ((forTo rs left k).length : Int) < ((forTo rs left rs.length).length : Int) := by omega
          have HL : Hid (((forTo rs left k).length : Int) + 1 = ((forTo rs left (k + 1)).length : Int)) := by show _ = _; rw [forTo_yes hlt he]; simp
          have HG := Lib.hid hgk
          clear hn2 hn3 hn4 hgk
          go_wp2
          go_roundg (rs.length + 1 - (k + 1))
          case measure => have := HG.out; omega
          case rel => exact ⟨k + 1, by omega, rfl, by go_num, by rw [← HL.out], rfl⟩
        | false =>
          have HL : Hid (forTo rs left (k + 1) = forTo rs left k) := forTo_no hlt he
          have HG := Lib.hid hgk
          clear hgk
          go_wp2
          go_roundg (rs.length + 1 - (k + 1))
          case measure => have := HG.out; omega
          case rel => exact ⟨k + 1, by omega, rfl, by go_num, by rw [HL.out], rfl⟩
      · have hkl : ¬ (k : Int) < (rs.length : Int) := by omega
        obtain rfl : k = rs.length := by omega
        clear hgk
        cases hn : forTo rs left rs.length with
        | nil =>
          go_wp2
          go_ret
          exact ⟨rfl, hB6⟩
        | cons x xs =>
          have hb9 := hbig.out (by rw [hn]; simp)
          have hne : (((xs.length + 1 : Nat) : Int) == 0) = false := by rw [beq_eq_false_iff_ne]; omega
          go_wp2_with (go_at_call 42; refine (signBig_any _ _).mono ?_; rintro e w' ⟨rfl, rfl⟩)
          go_ret
          exact ⟨rfl, hB6⟩
end Go.Proofs.Ytjpkohahabclgaa
