/- The walk of FnFirstOf. -/
import Derived.Test.YtkjaibnjiebgcabFirJ
import Derived.Test.YtkjaibnjiebgcabLawN
import Derived.Test.YtkjaibnjiebgcabDrawI
namespace Go.Proofs.Ytkjaibnjiebgcab
open Go.ChangeShapes Go.WideShapes Go.ChangeAt Go.RowKit
set_option maxRecDepth 100000
theorem text_isNil {m : Nat} (hm : m < 1024) : ((bytesOf (textN m)).toList == []) = decide (m = 0) := by
  have h : (bytesOf (textN m)).toList = textN m := by rw [ByteArray.toList_eq]; rfl
  rw [h]
  by_cases e : m = 0
  · subst e; decide
  · rw [decide_eq_false e, beq_eq_false_iff_ne]
    intro h2
    have := set_text hm
    rw [h2] at this
    exact e this.symm
theorem hasN_at {m : Nat} {B : ByteArray} (e : B = bytesOf (textN m)) {k : Nat} (h : k < B.size) : hasN m B[k] = true := by
  subst e
  have h' : k < (textN m).length := by rwa [bytesOf_size] at h
  have e : (bytesOf (textN m))[k]'h = (textN m)[k] := rfl
  have hm : (textN m)[k] ∈ textN m := List.getElem_mem h'
  rw [← e] at hm
  exact (List.mem_filter.1 hm).2
theorem textS_size (m : Nat) : (bytesOf (textN m)).size ≤ 10 := by rw [bytesOf_size]; exact text_len m
theorem wpHas_textS {m : Nat} {S : ByteArray} (e : S = bytesOf (textN m)) (c : UInt8) (w : World) :
    Calls Try.prog 19 #[.string S, .int .u8 (c.toNat : Int)] w fun e w' => e = .returned (.bool (hasN m c)) ∧ w = w' := by
  subst e; exact wpHas_text m c w
set_option maxHeartbeats 4000000 in
theorem firstF_law (a : Option Addr) (n cap : Nat) (a' : Option Addr) (n' cap' : Nat) (w : World) (H : BytesAt w a n cap) (H' : BytesAt w a' n' cap') :
    Calls Try.prog 6 #[.slice a n cap, .slice a' n' cap'] w fun e w' => e = .returned (.bool true) ∧ Below w.heap.size w w' := by
  have hm := H.2.1
  have hm' := H'.2.1
  have hn1 := H.1
  have hn2 := H'.1
  unfold maxLen at hm hm'
  by_cases h : (1048576 : Int) < (n : Int)
  · go_enter Try.func6, Try.ntmps6
    go_wp2
    go_ret
    exact ⟨rfl, Below.refl _ _⟩
  have hd1 : decide ((1048576 : Int) < (n : Int)) = false := by simpa using h
  by_cases h' : (1048576 : Int) < (n' : Int)
  · go_enter Try.func6, Try.ntmps6
    go_wp2
    go_ret
    exact ⟨rfl, Below.refl _ _⟩
  have hd2 : decide ((1048576 : Int) < (n' : Int)) = false := by simpa using h'
  go_enter Try.func6, Try.ntmps6
  go_wp2_with fail
  refine (drawFirstOf_any a n cap w H).mono ?_
  rintro e w1 ⟨v1, st, rs, s, rfl, ⟨b, off, c1, rfl, hc1, hR1, hl1, hs1, hS1, hb1⟩, hss, hB1⟩
  obtain ⟨F, hF⟩ := exists_first rs (leftsLeast rs 0)
  have hsm : s.size ≤ maxLen := by unfold maxLen; omega
  have hbw := (Below.refl w1.heap.size w1).alloc (Nat.le_refl _) (.cells #[.string st, .slice (some ⟨b, off, none⟩) rs.length c1] 25)
  have hR2 := hR1.below hbw (Nat.le_refl _)
  have hG : GBox (w1.alloc (.cells #[.string st, .slice (some ⟨b, off, none⟩) rs.length c1] 25)) w1.heap.size st (some ⟨b, off, none⟩) rs.length c1 := blk_new _ _ rfl
  go_wp2_with fail
  refine (firstOf_fix hF st (some ⟨b, off, none⟩) c1 s _ hR2 hc1 hsm).mono ?_
  rintro e w3 ⟨rfl, hb3⟩
  have hG3 := hG.below hb3
  have hR3 := hR2.below hb3 (Nat.le_refl _)
  have hB3 : Below w.heap.size w w3 := hB1.trans ((hbw.trans (hb3.mono (by simp))).mono hB1.size)
  obtain ⟨g0, g1⟩ := hG3.cells
  clear hG hR2 hb3 hbw
  go_wp2_with fail
  refine (sFirstOf_fix hF st (some ⟨b, off, none⟩) c1 s _ hR3 hc1 hsm).mono ?_
  rintro e w4 ⟨rfl, hb4⟩
  have hG4 := hG3.below hb4
  have hR4 := hR3.below hb4 (Nat.le_refl _)
  have hB4 : Below w.heap.size w w4 := hB3.trans (hb4.mono hB3.size)
  clear g0 g1 hG3 hR3 hb4 hB3 hR1
  -- the two parts
  obtain ⟨k, hk⟩ : ∃ k, n' % (s.size + 1) = k := ⟨_, rfl⟩
  have hkl : k ≤ s.size := by rw [← hk]; have := Nat.mod_lt n' (show 0 < s.size + 1 by omega); omega
  have hmod : (n' : Int).tmod ((s.size : Int) + 1) = (k : Int) := by
    rw [show (s.size : Int) + 1 = ((s.size + 1 : Nat) : Int) from by omega, ← hk]; rfl
  have hkI : (k : Int) ≤ (s.size : Int) := by omega
  have hz1 : ((s.size : Int) + 1 == 0) = false := by rw [beq_eq_false_iff_ne]; omega
  obtain ⟨g0, g1⟩ := hG4.cells
  have q0 : ∀ x, (grow w4 x).cell? ⟨w1.heap.size, 0, none⟩ = some (.string st) := fun x => by rw [grow_cell _ _ _ _ hG4.lt]; exact g0
  have q1 : ∀ x, (grow w4 x).cell? ⟨w1.heap.size, 1, none⟩ = some (.slice (some ⟨b, off, none⟩) rs.length c1) := fun x => by rw [grow_cell _ _ _ _ hG4.lt]; exact g1
  clear hk
  have HW : ∀ x, RulesAt (grow w4 x) (some ⟨b, off, none⟩) rs := fun x => hR4.below (below_grow _ x) (Nat.le_refl _)
  have hss1 : (s.extract 0 k).size ≤ maxLen := by unfold maxLen; simp; omega
  have hss2 : (s.extract k s.size).size ≤ maxLen := by unfold maxLen; simp; omega
  generalize hX : firstRes st rs F s = X at *
  have HX := Lib.hid hX
  clear hX
  go_wp2_with fail
  refine wp_region_grow (by kernel_rfl) (by kernel_rfl) ?_
  repeat (go_big_quiet_step ((go_at_call 29; exact Calls.grow_of (firstOf_fix hF st (some ⟨b, off, none⟩) c1 (s.extract 0 k) _ (HW _) hc1 hss1))))
  refine wpQuiet_nil ?_
  rintro _ ⟨x, rfl⟩
  have hbx := below_grow w4 x
  have hG5 := hG4.below hbx
  have hR5 := hR4.below hbx (Nat.le_refl _)
  have hB5 : Below w.heap.size w (grow w4 x) := hB4.trans (hbx.mono hB4.size)
  clear g0 g1 q0 q1 HW hG4 hR4 hB4 hbx
  generalize grow w4 x = w5 at *
  obtain ⟨g0, g1⟩ := hG5.cells
  have q0 : ∀ x, (grow w5 x).cell? ⟨w1.heap.size, 0, none⟩ = some (.string st) := fun x => by rw [grow_cell _ _ _ _ hG5.lt]; exact g0
  have q1 : ∀ x, (grow w5 x).cell? ⟨w1.heap.size, 1, none⟩ = some (.slice (some ⟨b, off, none⟩) rs.length c1) := fun x => by rw [grow_cell _ _ _ _ hG5.lt]; exact g1
  have HW : ∀ x, RulesAt (grow w5 x) (some ⟨b, off, none⟩) rs := fun x => hR5.below (below_grow _ x) (Nat.le_refl _)
  generalize hY : firstRes st rs F (s.extract 0 k) = Y at *
  have HY := Lib.hid hY
  clear hY
  go_wp2_with fail
  refine wp_region_grow (by kernel_rfl) (by kernel_rfl) ?_
  repeat (go_big_quiet_step ((go_at_call 29; exact Calls.grow_of (firstOf_fix hF st (some ⟨b, off, none⟩) c1 (s.extract k s.size) _ (HW _) hc1 hss2))))
  refine wpQuiet_nil ?_
  rintro _ ⟨x, rfl⟩
  have hB6 : Below w.heap.size w (grow w5 x) := hB5.trans ((below_grow w5 x).mono hB5.size)
  clear g0 g1 q0 q1 HW hG5 hR5 hB5
  generalize grow w5 x = w6 at *
  generalize hZ : firstRes st rs F (s.extract k s.size) = Z at *
  cases hask : firstAsk st rs s with
  | false =>
    have hX2 : X = ([], false) := by rw [← HX.out]; simp [firstRes, hask]
    subst hX2
    have he : ((bytesOf ([] : List UInt8)).toList == []) = true := by rw [ByteArray.toList_eq]; decide
    go_wp2
    go_ret
    exact ⟨rfl, hB6⟩
  | true =>
    obtain ⟨A, B, P, Q, hA0, hB0, e1, e2, e3⟩ := firstRes_parts hF.1 hask k
    rw [HY.out] at e1
    rw [hZ] at e2
    rw [HX.out] at e3
    subst e1 e2 e3
    dsimp only
    clear HX HY hZ
    cases P with
    | false =>
      have HA : Hid (Sub A A) := Sub.refl A
      have HC : Hid (∀ c, hasN A c = true → hasN A c = true) := fun c h => h
      have hsA := textS_size A
      have hsB := textS_size B
      have hnil := text_isNil hA0
      simp only [Bool.false_eq_true, if_false, Bool.false_and]
      generalize hSA : bytesOf (textN A) = SA at *
      generalize hSB : bytesOf (textN B) = SB at *
      have HSA := Lib.hid hSA.symm
      have HSB := Lib.hid hSB.symm
      have HS := HSA
      clear hSA hSB
      obtain ⟨S, hSS⟩ : ∃ S, S = SA := ⟨_, rfl⟩
      clear hnil
      cases he : (SA.toList == []) with
      | true =>
        go_wp2
        go_ret
        exact ⟨rfl, hB6⟩
      | false =>
        subst hSS
        go_wp2
        go_loop [16] (fun i => ∃ k : Nat, k ≤ S.size ∧ i = .int .i64 k) (fun i => S.size - (intOf i).toNat)
        case atStart => exact ⟨0, Nat.zero_le _, rfl⟩
        case round =>
          obtain ⟨i, hi, rfl⟩ := hrel
          by_cases hlt : i < S.size
          · have hh := HC.out S[i] (hasN_at HSA.out hlt)
            go_wp2_with (go_at_call 19; refine (wpHas_textS HSA.out S[i] _).mono ?_; rintro e w' ⟨rfl, rfl⟩)
            go_round
            case rel => exact ⟨i + 1, by omega, by go_num⟩
            case measure => simp [intOf]; omega
          · go_wp2
            go_loop [17] (fun i => ∃ k : Nat, k ≤ S.size ∧ i = .int .i64 k) (fun i => S.size - (intOf i).toNat)
            case atStart => exact ⟨0, Nat.zero_le _, rfl⟩
            case round =>
              obtain ⟨i2, hi2, rfl⟩ := hrel
              by_cases hlt2 : i2 < S.size
              · have hh2 := hasN_mono HA.out (hasN_at HSA.out hlt2)
                go_wp2_with (go_at_call 19; refine (wpHas_textS HSA.out S[i2] _).mono ?_; rintro e w' ⟨rfl, rfl⟩)
                go_round
                case rel => exact ⟨i2 + 1, by omega, by go_num⟩
                case measure => simp [intOf]; omega
              · go_wp2
                refine wp_loop_once ?_
                by_cases hl3 : (0 : Int) < (SB.size : Int)
                · go_wp2
                  go_ret
                  exact ⟨rfl, hB6⟩
                · have hl4 : decide ((0 : Int) < (SB.size : Int)) = false := by simpa using hl3
                  go_wp2
                  go_ret
                  exact ⟨rfl, hB6⟩
    | true =>
      have HA : Hid (Sub A (A ||| B)) := sub_or_left A B
      have HB : Hid (Sub B (A ||| B)) := sub_or_right A B
      have HC : Hid (∀ c, hasN (A ||| B) c = true → hasN A c = true ∨ hasN B c = true) := fun c h => by rw [hasN_or, Bool.or_eq_true] at h; exact h
      have hsA := textS_size A
      have hsB := textS_size B
      have hsS := textS_size (A ||| B)
      simp only [if_true, Bool.true_and]
      generalize hSA : bytesOf (textN A) = SA at *
      generalize hSB : bytesOf (textN B) = SB at *
      generalize hS : bytesOf (textN (A ||| B)) = S at *
      have HSA := Lib.hid hSA.symm
      have HSB := Lib.hid hSB.symm
      have HS := Lib.hid hS.symm
      clear hSA hSB hS
      have hcase : ((S.toList == []) = true ∧ Q = false) ∨ ((S.toList == []) = false) ∨ ((S.toList == []) = true ∧ Q = true) := by
        cases (S.toList == []) <;> cases Q <;> simp
      rcases hcase with ⟨he, rfl⟩ | he | ⟨he, rfl⟩
      · go_wp2
        go_ret
        exact ⟨rfl, hB6⟩
      all_goals
        go_wp2
        go_loop [16] (fun i => ∃ k : Nat, k ≤ S.size ∧ i = .int .i64 k) (fun i => S.size - (intOf i).toNat)
        case atStart => exact ⟨0, Nat.zero_le _, rfl⟩
        case round =>
          obtain ⟨i, hi, rfl⟩ := hrel
          by_cases hlt : i < S.size
          · have hh := HC.out S[i] (hasN_at HS.out hlt)
            cases hA1 : hasN A S[i] with
            | true =>
              go_wp2_with (go_at_call 19; refine (wpHas_textS HSA.out S[i] _).mono ?_; rintro e w' ⟨rfl, rfl⟩)
              go_round
              case rel => exact ⟨i + 1, by omega, by go_num⟩
              case measure => simp [intOf]; omega
            | false =>
              have hB1 : hasN B S[i] = true := by rcases hh with h1 | h1; (rw [hA1] at h1; cases h1); exact h1
              go_wp2_with fail
              refine (wpHas_textS HSA.out S[i] _).mono ?_
              rintro e w' ⟨rfl, rfl⟩
              go_wp2_with fail
              refine (wpHas_textS HSB.out S[i] _).mono ?_
              rintro e w' ⟨rfl, rfl⟩
              go_wp2
              go_round
              case rel => exact ⟨i + 1, by omega, by go_num⟩
              case measure => simp [intOf]; omega
          · go_wp2
            go_loop [17] (fun i => ∃ k : Nat, k ≤ SA.size ∧ i = .int .i64 k) (fun i => SA.size - (intOf i).toNat)
            case atStart => exact ⟨0, Nat.zero_le _, rfl⟩
            case round =>
              obtain ⟨i2, hi2, rfl⟩ := hrel
              by_cases hlt2 : i2 < SA.size
              · have hh2 := hasN_mono HA.out (hasN_at HSA.out hlt2)
                go_wp2_with (go_at_call 19; refine (wpHas_textS HS.out SA[i2] _).mono ?_; rintro e w' ⟨rfl, rfl⟩)
                go_round
                case rel => exact ⟨i2 + 1, by omega, by go_num⟩
                case measure => simp [intOf]; omega
              · go_wp2
                go_loop [18] (fun i => ∃ k : Nat, k ≤ SB.size ∧ i = .int .i64 k) (fun i => SB.size - (intOf i).toNat)
                case atStart => exact ⟨0, Nat.zero_le _, rfl⟩
                case round =>
                  obtain ⟨i3, hi3, rfl⟩ := hrel
                  by_cases hlt3 : i3 < SB.size
                  · have hh3 := hasN_mono HB.out (hasN_at HSB.out hlt3)
                    have hl3 : (i3 : Int) < (SB.size : Int) := by omega
                    go_wp2_with (go_at_call 19; refine (wpHas_textS HS.out SB[i3] _).mono ?_; rintro e w' ⟨rfl, rfl⟩)
                    go_round
                    case rel => exact ⟨i3 + 1, by omega, by go_num⟩
                    case measure => simp [intOf]; omega
                  · have hl3 : decide ((i3 : Int) < (SB.size : Int)) = false := by simp; omega
                    go_wp2
                    go_ret
                    exact ⟨by first | rfl | simp, hB6⟩
end Go.Proofs.Ytkjaibnjiebgcab
