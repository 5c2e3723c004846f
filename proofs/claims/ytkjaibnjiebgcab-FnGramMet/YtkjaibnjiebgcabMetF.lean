/- The walk of FnGramMet. -/
import Derived.Test.YtkjaibnjiebgcabLawN
import Derived.Test.YtkjaibnjiebgcabDrawH
import Derived.Test.YtkjaibnjiebgcabMetE
import Derived.Test.YtkjaibnjiebgcabMetL
namespace Go.Proofs.Ytkjaibnjiebgcab
open Go.ChangeShapes Go.WideShapes Go.ChangeAt Go.RowKit
set_option maxRecDepth 100000
theorem convertB (c : UInt8) (w : World) : (convert 22 9 (.slice (some ⟨w.heap.size, 0, none⟩) 1 1)).run Try.prog (w.alloc (.cells #[.int .u8 (c.toNat : Int)] 5)) = .ok (.string ⟨#[c]⟩) (w.alloc (.cells #[.int .u8 (c.toNat : Int)] 5)) :=
  run_convert_bytes_back _ _ _ 5 ⟨w.heap.size, 0, none⟩ 1 [c] Try.underlying22 Try.underlying5 Try.underlying9 (fun j hj => by
    match j, hj with
    | 0, _ => simp [Addr.add])
theorem byteO (c : UInt8) (h : 0 < (⟨#[c]⟩ : ByteArray).size) : (⟨#[c]⟩ : ByteArray)[0]'h = c := rfl
theorem signBig_one (c : UInt8) (w : World) : Calls Try.prog 27 #[.string ⟨#[c]⟩] w fun e w' => e = .returned (.bool (bigN (c.toNat : Int))) ∧ w = w' := by
  have h := signBig_any ⟨#[c]⟩ w
  rwa [oneBig] at h
set_option maxHeartbeats 4000000 in
theorem metF_law (a : Option Addr) (n cap : Nat) (w : World) (H : BytesAt w a n cap) :
    Calls Try.prog 5 #[.slice a n cap] w fun e w' => e = .returned (.bool true) ∧ Below w.heap.size w w' := by
  have hm := H.2.1
  unfold maxLen at hm
  by_cases h : (1048576 : Int) < (n : Int)
  · go_enter Try.func5, Try.ntmps5
    go_wp2
    go_ret
    exact ⟨rfl, Below.refl _ _⟩
  go_enter Try.func5, Try.ntmps5
  go_wp2_with fail
  refine (drawGramMet_any a n cap w H).mono ?_
  rintro e w1 ⟨v1, st, rs, rfl, ⟨b, off, c1, rfl, hc1, hR1, hl1, hs1, hS1, hb1⟩, hB1⟩
  have hbw := (Below.refl w1.heap.size w1).alloc (Nat.le_refl _) (.cells #[.string st, .slice (some ⟨b, off, none⟩) rs.length c1] 25)
  have hR2 := hR1.below hbw (Nat.le_refl _)
  have hG : GBox (w1.alloc (.cells #[.string st, .slice (some ⟨b, off, none⟩) rs.length c1] 25)) w1.heap.size st (some ⟨b, off, none⟩) rs.length c1 := blk_new _ _ rfl
  go_wp2_with fail
  refine (gramMet_any st (some ⟨b, off, none⟩) c1 rs _ hR2 hc1).mono ?_
  rintro e w3 ⟨rfl, hb3⟩
  have hG3 := hG.below hb3
  have hR3 := hR2.below hb3 (Nat.le_refl _)
  have hB3 : Below w.heap.size w w3 := hB1.trans ((hbw.trans (hb3.mono (by simp))).mono hB1.size)
  obtain ⟨g0, g1⟩ := hG3.cells
  clear hG hR2 hb3 hbw
  go_wp2_with fail
  refine (sGramMet_any st (some ⟨b, off, none⟩) c1 rs _ hR3 hc1).mono ?_
  rintro e w5 ⟨rfl, hb5⟩
  have hG5 := hG3.below hb5
  have hR5 := hR3.below hb5 (Nat.le_refl _)
  have hB5 : Below w.heap.size w w5 := hB3.trans (hb5.mono hB3.size)
  clear g0 g1 hG3 hR3 hb5 hB3 hR1
  obtain ⟨g0, g1⟩ := hG5.cells
  have hnq : ((bytesOf (metL st rs)).toList != (bytesOf (metL st rs)).toList) = false := by simp
  go_wp2_with fail
  refine (sGramOk_any st (some ⟨b, off, none⟩) c1 rs _ hR5 hc1).mono ?_
  rintro e w6 ⟨rfl, hb6⟩
  have hG6 := hG5.below hb6
  have hR6 := hR5.below hb6 (Nat.le_refl _)
  have hB6 : Below w.heap.size w w6 := hB5.trans (hb6.mono hB5.size)
  clear g0 g1 hG5 hR5 hb6 hB5
  obtain ⟨g0, g1⟩ := hG6.cells
  cases hok : gramOkB st rs with
  | false =>
    go_wp2_with fail
    refine (sGramMet_any st (some ⟨b, off, none⟩) c1 rs _ hR6 hc1).mono ?_
    rintro e w7 ⟨rfl, hb7⟩
    go_wp2
    go_ret
    exact ⟨rfl, hB6.trans (hb7.mono hB6.size)⟩
  | true =>
    have hML : metL st rs = textN (metLeast st rs) := by simp [metL, hok]
    rw [hML]
    obtain ⟨c0, hst, hbig0⟩ := ok_start1 hok
    have hcl := (metClosed_iff st rs _).1 (metLeast_closed st rs)
    have hh0 : hasN (metLeast st rs) c0 = true := by
      have := hcl.1
      rw [hst, show (⟨#[c0]⟩ : ByteArray).data.toList = [c0] from rfl, setN_one] at this
      rw [hst]
      exact hasN_of_sub (bigs_ord hbig0) this
    have HC : Hid (∀ k (h : k < rs.length), hasN (metLeast st rs) (leftB rs[k]) = true → ∀ c ∈ rs[k].2.data.toList, bigN (c.toNat : Int) = true → hasN (metLeast st rs) c = true) := fun k h => hcl.2 rs[k] (List.getElem_mem h)
    have hl8 := (gramOk_facts hok).2.1
    have HOKS : Hid (∀ i (hi : i < rs.length), rs[i].1.size = 1 ∧ rs[i].2.size ≤ 4) := (gramOk_facts hok).2.2
    have HOK := Lib.hid hok
    have hbx := byteO
    rw [hst] at hG6 g0
    clear hML hnq hok hl1 hs1 hS1 hb1 hcl
    generalize metLeast st rs = m at *
    go_wp2
    go_loopw [5] (fun j wr => ∃ k : Nat, k ≤ rs.length ∧ j = .int .i64 k ∧ Below w6.heap.size w6 wr) (fun j _ => rs.length - (intOf j).toNat)
    case atStart => exact ⟨0, Nat.zero_le _, rfl, Below.refl _ _⟩
    case round =>
      obtain ⟨k, hk, rfl, hb⟩ := hrel
      obtain ⟨x0, x1⟩ := (hG6.below hb).cells
      by_cases hkl : k < rs.length
      · have hkl' : (k : Int) < (rs.length : Int) := by omega
        have hr4 := (HOKS.out k hkl).2
        obtain ⟨c, hcc, hbig⟩ := ok_left HOK.out hkl
        have HLB : Hid (leftB rs[k] = c) := by show _ = _; rw [leftB, hcc]; rfl
        have HCk := Lib.hid (HC.out k hkl)
        go_wp2
        go_loopw [6] (fun j wr => ∃ p : Nat, p ≤ rs[k].2.size ∧ j = .int .i64 p ∧ Below w6.heap.size w6 wr) (fun j _ => rs[k].2.size - (intOf j).toNat)
        case atStart => exact ⟨0, Nat.zero_le _, rfl, hb⟩
        case round =>
          obtain ⟨p, hp, rfl, hb2⟩ := hrel
          obtain ⟨y0, y1⟩ := (hG6.below hb2).cells
          obtain ⟨_, _, b2, off2, e, _, t1, t2⟩ := (hR6.below hb2 (Nat.le_refl _)).2 k hkl
          cases e
          rw [hcc] at t1
          by_cases hpl : p < rs[k].2.size
          · have hcv := convertB rs[k].2[p] wr
            cases hh : hasN m c with
            | false =>
              go_wp2_with (go_at_call 19; refine (wpHas_text m c _).mono ?_; rintro e w' ⟨rfl, rfl⟩)
              go_roundw
              case rel => exact ⟨p + 1, by omega, by go_num, hb2⟩
              case measure => simp [intOf]; omega
            | true =>
              have HH : Hid (bigN (rs[k].2[p].toNat : Int) = true → hasN m rs[k].2[p] = true) := fun hB => HCk.out (by rw [HLB.out]; exact hh) rs[k].2[p] (by show rs[k].2.data[p] ∈ _; simp) hB
              cases hbp : bigN (rs[k].2[p].toNat : Int) with
              | false =>
                go_wp2_with fail
                refine (wpHas_text m c _).mono ?_
                rintro e w' ⟨rfl, rfl⟩
                go_wp2_with fail
                refine (signBig_one rs[k].2[p] _).mono ?_
                rintro e w' ⟨rfl, rfl⟩
                go_wp2
                go_roundw
                case rel => exact ⟨p + 1, by omega, by go_num, hb2.alloc hb2.size _⟩
                case measure => simp [intOf]; omega
              | true =>
                have hhp := HH.out hbp
                go_wp2_with fail
                refine (wpHas_text m c _).mono ?_
                rintro e w' ⟨rfl, rfl⟩
                go_wp2_with fail
                refine (signBig_one rs[k].2[p] _).mono ?_
                rintro e w' ⟨rfl, rfl⟩
                go_wp2_with fail
                refine (wpHas_text m rs[k].2[p] _).mono ?_
                rintro e w' ⟨rfl, rfl⟩
                go_wp2
                go_roundw
                case rel => exact ⟨p + 1, by omega, by go_num, hb2.alloc hb2.size _⟩
                case measure => simp [intOf]; omega
          · go_wp2
            go_roundw
            case rel => exact ⟨k + 1, by omega, by go_num, hb2⟩
            case measure => simp [intOf]; omega
      · have hkl' : ¬ (k : Int) < (rs.length : Int) := by omega
        go_wp2_with (go_at_call 19; refine (wpHas_text m c0 _).mono ?_; rintro e w' ⟨rfl, rfl⟩; rw [hh0])
        go_ret
        exact ⟨rfl, hB6.trans (hb.mono hB6.size)⟩
end Go.Proofs.Ytkjaibnjiebgcab
