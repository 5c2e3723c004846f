/- The walk of FnGramSigns. -/
import Derived.Test.YtmmkeaciaolapaaSignsA
namespace Go.Proofs.Ytmmkeaciaolapaa
open Go.ChangeShapes Go.WideShapes Go.ChangeAt Go.RowKit
set_option maxRecDepth 100000
theorem grow_grow (W : World) (x y : Plus) : ∃ z, grow (grow W x) y = grow W z := grow_of_below ((below_grow W x).trans ((below_grow _ y).mono (grow_size W x)))
theorem grow_self (W : World) : ∃ z, W = grow W z := grow_of_below (Below.refl _ _)
set_option maxHeartbeats 4000000 in
theorem gramSigns_law (a : Option Addr) (n cap : Nat) (w : World) (H : BytesAt w a n cap) :
    Calls Try.prog 5 #[.slice a n cap] w fun e w' => e = .returned (.bool true) ∧ Below w.heap.size w w' := by
  have hm := H.2.1
  unfold maxLen at hm
  by_cases h : (1048576 : Int) < (n : Int)
  · go_enter Try.func5, Try.ntmps5
    go_wp2
    go_ret
    exact ⟨rfl, Below.refl _ _⟩
  go_enter Try.func5, Try.ntmps5
  go_wp2_with fail
  refine (drawGramBigs_any a n cap w H).mono ?_
  rintro e w1 ⟨v1, st, rs, rfl, ⟨b, off, c1, rfl, hc1, hR1, hl1, hs1, hS1, hb1⟩, hB1⟩
  have hbw := (Below.refl w1.heap.size w1).alloc (Nat.le_refl _) (.cells #[.string st, .slice (some ⟨b, off, none⟩) rs.length c1] 25)
  have hR2 := hR1.below hbw (Nat.le_refl _)
  have hG : BoxG (w1.alloc (.cells #[.string st, .slice (some ⟨b, off, none⟩) rs.length c1] 25)) w1.heap.size (.string st) (.slice (some ⟨b, off, none⟩) rs.length c1) := blk_new _ _ rfl
  go_wp2_with fail
  refine (gramBigs_any st (some ⟨b, off, none⟩) c1 rs _ hR2 hc1).mono ?_
  rintro e w3 ⟨rfl, hb3⟩
  have hG3 := hG.below hb3
  have hR3 := hR2.below hb3 (Nat.le_refl _)
  have hB3 : Below w.heap.size w w3 := hB1.trans ((hbw.trans (hb3.mono (by simp))).mono hB1.size)
  obtain ⟨g0, g1, gf0, gf1⟩ := hG3.cells
  clear hG hR2 hb3 hbw
  generalize w1.heap.size = G at *
  go_wp2_with fail
  refine (gramSmalls_any st (some ⟨b, off, none⟩) c1 rs _ hR3 hc1).mono ?_
  rintro e w4 ⟨rfl, hb4⟩
  have hG4 := hG3.below hb4
  have hR4 := hR3.below hb4 (Nat.le_refl _)
  have hB4 : Below w.heap.size w w4 := hB3.trans (hb4.mono hB3.size)
  obtain ⟨x0, x1, xf0, xf1⟩ := hG4.cells
  clear g0 g1 gf0 gf1 hG3 hR3 hb4 hB3
  go_wp2_with fail
  refine (sGramBigs_any st (some ⟨b, off, none⟩) c1 rs _ hR4 hc1).mono ?_
  rintro e w5 ⟨rfl, hb5⟩
  have hG5 := hG4.below hb5
  have hR5 := hR4.below hb5 (Nat.le_refl _)
  have hB5 : Below w.heap.size w w5 := hB4.trans (hb5.mono hB4.size)
  obtain ⟨g0, g1, gf0, gf1⟩ := hG5.cells
  clear x0 x1 xf0 xf1 hG4 hR4 hb5 hB4
  go_wp2_with fail
  refine (sGramSmalls_any st (some ⟨b, off, none⟩) c1 rs _ hR5 hc1).mono ?_
  rintro e w6 ⟨rfl, hb6⟩
  have hG6 := hG5.below hb6
  have hR6 := hR5.below hb6 (Nat.le_refl _)
  have hB6 : Below w.heap.size w w6 := hB5.trans (hb6.mono hB5.size)
  obtain ⟨x0, x1, xf0, xf1⟩ := hG6.cells
  clear g0 g1 gf0 gf1 hG5 hR5 hb6 hB5
  go_wp2_with fail
  refine (sGramOk_any st (some ⟨b, off, none⟩) c1 rs _ hR6 hc1).mono ?_
  rintro e w7 ⟨rfl, hb7⟩
  have hG7 := hG6.below hb7
  have hR7 := hR6.below hb7 (Nat.le_refl _)
  have hB7 : Below w.heap.size w w7 := hB6.trans (hb7.mono hB6.size)
  clear x0 x1 xf0 xf1 hG6 hR6 hb7 hB6
  cases hok : gramOkB st rs with
  | false =>
    have e1 : bytesOf (symsL (gramTextL st rs) 65 5) = ⟨#[]⟩ := by unfold gramTextL; rw [hok]; simp [syms_bad, bytesOf]
    have e2 : bytesOf (symsL (gramTextL st rs) 97 4) = ⟨#[]⟩ := by unfold gramTextL; rw [hok]; simp [syms_bad, bytesOf]
    rw [e1, e2]
    go_wp2
    go_ret
    exact ⟨rfl, hB7⟩
  | true =>
    have HA := bigs_signs (gramTextL st rs)
    have HB := smalls_signs (gramTextL st rs)
    have HH : Hid (∀ i (hi : i < rs.length) k (hk : k < rs[i].2.size), hasB (bytesOf (cat (symsL (gramTextL st rs) 65 5) (bytesOf (symsL (gramTextL st rs) 97 4)))) ((rs[i].2[k].toNat : Nat) : Int) = true) := fun i hi k hk => has_both hok (right_in hi hk)
    obtain ⟨f1, f2, f3⟩ := gramOk_facts hok
    have hst : 0 < st.size := by omega
    have HS := Lib.hid (start_has hok hst)
    have hl5 := symsL_len (gramTextL st rs) 65 5
    have hl4 := symsL_len (gramTextL st rs) 97 4
    have hadd := run_add_bytes (P := Try.prog) (symsL (gramTextL st rs) 65 5) (bytesOf (symsL (gramTextL st rs) 97 4)) (by rw [bytesOf_size]; omega)
    have hsab : (bytesOf (cat (symsL (gramTextL st rs) 65 5) (bytesOf (symsL (gramTextL st rs) 97 4)))).size ≤ 9 := by rw [bytesOf_size, cat_len, bytesOf_size]; omega
    have F3 := Lib.hid f3
    clear hl5 hl4 f1 f3 hok
    generalize bytesOf (cat (symsL (gramTextL st rs) 65 5) (bytesOf (symsL (gramTextL st rs) 97 4))) = sab at *
    generalize bytesOf (symsL (gramTextL st rs) 65 5) = sa at *
    generalize bytesOf (symsL (gramTextL st rs) 97 4) = sb at *
    obtain ⟨ha5, ha1, ha2⟩ := HA
    obtain ⟨hb5, hb1, hb2⟩ := HB
    have HA1 := Lib.hid ha1
    have HA2 := Lib.hid ha2
    have HB1 := Lib.hid hb1
    have HB2 := Lib.hid hb2
    clear ha1 ha2 hb1 hb2
    go_wp2
    go_loopw [6] (fun i wr => ∃ k : Nat, k ≤ sa.size ∧ i = .int .i64 k ∧ ∃ x, wr = grow w7 x) (fun i _ => sa.size - (intOf i).toNat)
    case atStart => exact ⟨0, Nat.zero_le _, rfl, grow_self w7⟩
    case round =>
      obtain ⟨k, hk, rfl, x, rfl⟩ := hrel
      by_cases hlt : k < sa.size
      · have C1 : ∀ y, Calls Try.prog 28 #[.string (sa.extract k (k + 1))] (grow (grow w7 x) y) fun e w' => e = .returned (.bool true) ∧ ∃ z, w' = grow (grow w7 x) z := fun y => by
          have := signBig_any (sa.extract k (k + 1)) (grow (grow w7 x) y)
          rw [HA1.out k hlt] at this
          exact Calls.grow_of_same this
        by_cases hk0 : k = 0
        · subst hk0
          go_wp2
          refine wp_region_grow (by kernel_rfl) (by kernel_rfl) ?_
          repeat (go_big_quiet_step ((go_at_call 28; exact C1 _)))
          refine wpQuiet_nil ?_
          rintro _ ⟨y, rfl⟩
          go_wp2
          go_roundw
          case rel => exact ⟨0 + 1, by omega, by go_num, grow_grow w7 x y⟩
          case measure => simp [intOf]; omega
        · have w1 : IntKind.i64.wrap ((k : Int) + 1) = (k : Int) + 1 := IntWalk.i64_in _ (by omega)
          have hlt' : (k : Int) < (sa.size : Int) := by omega
          have hlt1 : (k : Int) + 1 ≤ (sa.size : Int) := by omega
          obtain ⟨m, hkm⟩ : ∃ m, k = m + 1 := ⟨k - 1, by omega⟩
          have hz : decide ((0 : Int) < (k : Int)) = true := by simp; omega
          have hzN : decide (0 < k) = true := by simp; omega
          have hp : 0 < k := by omega
          have w2 : IntKind.i64.wrap ((k : Int) - 1) = (m : Int) := by rw [show (k : Int) - 1 = (m : Int) from by omega]; exact IntWalk.i64_in _ (by omega)
          have hms : m < sa.size := by omega
          have hup : ((sa[m].toNat : Nat) : Int) < ((sa[k].toNat : Nat) : Int) := by subst hkm; exact HA2.out m hlt
          have HKM := Lib.hid hkm
          clear hkm hk0
          go_wp2
          refine wp_region_grow (by kernel_rfl) (by kernel_rfl) ?_
          repeat (go_big_quiet_step ((go_at_call 28; exact C1 _)))
          refine wpQuiet_nil ?_
          rintro _ ⟨y, rfl⟩
          have hnle : decide (((sa[k].toNat : Nat) : Int) ≤ ((sa[m].toNat : Nat) : Int)) = false := by rw [decide_eq_false_iff_not]; omega
          clear w1 w2 C1
          go_wp2
          go_roundw
          case rel => exact ⟨k + 1, by omega, by go_num, grow_grow w7 x y⟩
          case measure => simp [intOf]; omega
      · have hGV := hG7.below (below_grow w7 x)
        have hRV := hR7.below (below_grow w7 x) (Nat.le_refl _)
        have hBV : Below w.heap.size w (grow w7 x) := hB7.trans ((below_grow w7 x).mono hB7.size)
        have hnlt : ¬ (k : Int) < (sa.size : Int) := by omega
        generalize grow w7 x = V at *
        clear hG7 hR7 hB7 hk
        go_wp2
        clear hnlt hlt
        go_loopw [7] (fun i wr => ∃ k : Nat, k ≤ sb.size ∧ i = .int .i64 k ∧ ∃ x, wr = grow V x) (fun i _ => sb.size - (intOf i).toNat)
        case atStart => exact ⟨0, Nat.zero_le _, rfl, grow_self V⟩
        case round =>
          obtain ⟨k, hk, rfl, x, rfl⟩ := hrel
          by_cases hlt : k < sb.size
          · have C1 : ∀ y, Calls Try.prog 34 #[.string (sb.extract k (k + 1))] (grow (grow V x) y) fun e w' => e = .returned (.bool true) ∧ ∃ z, w' = grow (grow V x) z := fun y => by
              have := signSmall_any (sb.extract k (k + 1)) (grow (grow V x) y)
              rw [HB1.out k hlt] at this
              exact Calls.grow_of_same this
            by_cases hk0 : k = 0
            · subst hk0
              go_wp2
              refine wp_region_grow (by kernel_rfl) (by kernel_rfl) ?_
              repeat (go_big_quiet_step ((go_at_call 34; exact C1 _)))
              refine wpQuiet_nil ?_
              rintro _ ⟨y, rfl⟩
              go_wp2
              go_roundw
              case rel => exact ⟨0 + 1, by omega, by go_num, grow_grow V x y⟩
              case measure => simp [intOf]; omega
            · have w1 : IntKind.i64.wrap ((k : Int) + 1) = (k : Int) + 1 := IntWalk.i64_in _ (by omega)
              have hlt' : (k : Int) < (sb.size : Int) := by omega
              have hlt1 : (k : Int) + 1 ≤ (sb.size : Int) := by omega
              obtain ⟨m, hkm⟩ : ∃ m, k = m + 1 := ⟨k - 1, by omega⟩
              have hz : decide ((0 : Int) < (k : Int)) = true := by simp; omega
              have hzN : decide (0 < k) = true := by simp; omega
              have hp : 0 < k := by omega
              have w2 : IntKind.i64.wrap ((k : Int) - 1) = (m : Int) := by rw [show (k : Int) - 1 = (m : Int) from by omega]; exact IntWalk.i64_in _ (by omega)
              have hms : m < sb.size := by omega
              have hup : ((sb[m].toNat : Nat) : Int) < ((sb[k].toNat : Nat) : Int) := by subst hkm; exact HB2.out m hlt
              have HKM := Lib.hid hkm
              clear hkm hk0
              go_wp2
              refine wp_region_grow (by kernel_rfl) (by kernel_rfl) ?_
              repeat (go_big_quiet_step ((go_at_call 34; exact C1 _)))
              refine wpQuiet_nil ?_
              rintro _ ⟨y, rfl⟩
              have hnle : decide (((sb[k].toNat : Nat) : Int) ≤ ((sb[m].toNat : Nat) : Int)) = false := by rw [decide_eq_false_iff_not]; omega
              clear w1 w2 C1
              go_wp2
              go_roundw
              case rel => exact ⟨k + 1, by omega, by go_num, grow_grow V x y⟩
              case measure => simp [intOf]; omega
          · have hGU := hGV.below (below_grow V x)
            have hRU := hRV.below (below_grow V x) (Nat.le_refl _)
            have hBU : Below w.heap.size w (grow V x) := hBV.trans ((below_grow V x).mono hBV.size)
            have hnlt : ¬ (k : Int) < (sb.size : Int) := by omega
            generalize grow V x = U at *
            clear hGV hRV hBV hk
            obtain ⟨g0, g1, gf0, gf1⟩ := hGU.cells
            go_wp2
            clear hnlt hlt
            go_loop [8] (fun i => ∃ k : Nat, k ≤ rs.length ∧ i = .int .i64 k) (fun i => rs.length - (intOf i).toNat)
            case atStart => exact ⟨0, Nat.zero_le _, rfl⟩
            case round =>
              obtain ⟨i, hi, rfl⟩ := hrel
              by_cases hlt : i < rs.length
              · obtain ⟨z1, z2, b', off', e, hbb, d1, d2⟩ := hRU.2 i hlt
                cases e
                unfold maxLen at z2
                have hil : (i : Int) < (rs.length : Int) := by omega
                go_wp2
                go_loop [9] (fun j => ∃ k : Nat, k ≤ rs[i].2.size ∧ j = .int .i64 k) (fun j => rs[i].2.size - (intOf j).toNat)
                case atStart => exact ⟨0, Nat.zero_le _, rfl⟩
                case round =>
                  obtain ⟨k, hk, rfl⟩ := hrel
                  by_cases hlt2 : k < rs[i].2.size
                  · have hx := HH.out i hlt k hlt2
                    have hkl : (k : Int) < (rs[i].2.size : Int) := by omega
                    go_wp2_with fail
                    refine (wpHas_any _ _ _ (by unfold maxLen; omega)).mono ?_
                    rintro e w8 ⟨rfl, rfl⟩
                    rw [hx]
                    go_wp2
                    go_round
                    case rel => exact ⟨k + 1, by omega, by go_num⟩
                    case measure => simp [intOf]; omega
                  · have hkl : ¬ (k : Int) < (rs[i].2.size : Int) := by omega
                    go_wp2
                    go_round
                    case rel => exact ⟨i + 1, by omega, by go_num⟩
                    case measure => simp [intOf]; omega
              · have hil : ¬ (i : Int) < (rs.length : Int) := by omega
                go_wp2_with fail
                refine (wpHas_any _ _ _ (by unfold maxLen; omega)).mono ?_
                rintro e w8 ⟨rfl, rfl⟩
                rw [HS.out]
                go_wp2
                go_ret
                exact ⟨rfl, hBU⟩
end Go.Proofs.Ytmmkeaciaolapaa
