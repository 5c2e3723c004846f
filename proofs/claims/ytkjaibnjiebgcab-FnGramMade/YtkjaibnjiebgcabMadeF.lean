/- The walk of FnGramMade. -/
import Derived.Test.YtkjaibnjiebgcabLawN
import Derived.Test.YtkjaibnjiebgcabDrawH
namespace Go.Proofs.Ytkjaibnjiebgcab
open Go.ChangeShapes Go.WideShapes Go.ChangeAt Go.RowKit
set_option maxRecDepth 100000
theorem least_mono (rs : List RuleT) {g g' : Nat} (h : Sub g g') : Sub (leftsLeast rs g) (leftsLeast rs g') := by
  refine leftsLeast_sub ?_
  rw [leftsClosed_iff]
  intro r hr hh
  exact (leftsClosed_iff rs g' _).1 (leftsLeast_closed rs g') r hr (hasAllN_mono ((Sub.refl _).or_mono h) hh)
theorem text_at {p k : Nat} (h : k < (bytesOf (textN p)).size) : hasN p (bytesOf (textN p))[k] = true := by
  have h' : k < (textN p).length := by rwa [bytesOf_size] at h
  have e : (bytesOf (textN p))[k]'h = (textN p)[k] := rfl
  have hm : (textN p)[k] ∈ textN p := List.getElem_mem h'
  rw [← e] at hm
  exact (List.mem_filter.1 hm).2
theorem convert_byte (c : UInt8) (w : World) : (convert 22 9 (.slice (some ⟨w.heap.size, 0, none⟩) 1 1)).run Try.prog (w.alloc (.cells #[.int .u8 (c.toNat : Int)] 5)) = .ok (.string ⟨#[c]⟩) (w.alloc (.cells #[.int .u8 (c.toNat : Int)] 5)) :=
  run_convert_bytes_back _ _ _ 5 ⟨w.heap.size, 0, none⟩ 1 [c] Try.underlying22 Try.underlying5 Try.underlying9 (fun j hj => by
    match j, hj with
    | 0, _ => simp [Addr.add])
theorem smallOne (c : UInt8) : isSmallS ⟨#[c]⟩ = smallN (c.toNat : Int) := by
  simp [isSmallS, byteAt, ByteArray.size]
theorem signSmall_one (c : UInt8) (w : World) : Calls Try.prog 23 #[.string ⟨#[c]⟩] w fun e w' => e = .returned (.bool (smallN (c.toNat : Int))) ∧ w = w' := by
  have h := signSmall_any ⟨#[c]⟩ w
  rwa [smallOne] at h
theorem textB_size0 (m : Nat) : (bytesOf (textN m)).size ≤ 10 := by rw [bytesOf_size]; exact text_len m
theorem byteZ (c : UInt8) (h : 0 < (⟨#[c]⟩ : ByteArray).size) : (⟨#[c]⟩ : ByteArray)[0]'h = c := rfl
set_option maxHeartbeats 4000000 in
theorem madeF_law (a : Option Addr) (n cap : Nat) (w : World) (H : BytesAt w a n cap) :
    Calls Try.prog 4 #[.slice a n cap] w fun e w' => e = .returned (.bool true) ∧ Below w.heap.size w w' := by
  have hm := H.2.1
  unfold maxLen at hm
  by_cases h : (1048576 : Int) < (n : Int)
  · go_enter Try.func4, Try.ntmps4
    go_wp2
    go_ret
    exact ⟨rfl, Below.refl _ _⟩
  go_enter Try.func4, Try.ntmps4
  go_wp2_with fail
  refine (drawGramMade_any a n cap w H).mono ?_
  rintro e w1 ⟨v1, st, rs, rfl, ⟨b, off, c1, rfl, hc1, hR1, hl1, hs1, hS1, hb1⟩, hB1⟩
  have hbw := (Below.refl w1.heap.size w1).alloc (Nat.le_refl _) (.cells #[.string st, .slice (some ⟨b, off, none⟩) rs.length c1] 25)
  have hR2 := hR1.below hbw (Nat.le_refl _)
  have hG : GBox (w1.alloc (.cells #[.string st, .slice (some ⟨b, off, none⟩) rs.length c1] 25)) w1.heap.size st (some ⟨b, off, none⟩) rs.length c1 := blk_new _ _ rfl
  go_wp2_with fail
  refine (gramMade_any st (some ⟨b, off, none⟩) c1 rs _ hR2 hc1).mono ?_
  rintro e w3 ⟨rfl, hb3⟩
  have hG3 := hG.below hb3
  have hR3 := hR2.below hb3 (Nat.le_refl _)
  have hB3 : Below w.heap.size w w3 := hB1.trans ((hbw.trans (hb3.mono (by simp))).mono hB1.size)
  obtain ⟨g0, g1⟩ := hG3.cells
  clear hG hR2 hb3 hbw
  go_wp2_with fail
  refine (gramNone_any st (some ⟨b, off, none⟩) c1 rs _ hR3 hc1).mono ?_
  rintro e w4 ⟨rfl, hb4⟩
  have hG4 := hG3.below hb4
  have hR4 := hR3.below hb4 (Nat.le_refl _)
  have hB4 : Below w.heap.size w w4 := hB3.trans (hb4.mono hB3.size)
  clear g0 g1 hG3 hR3 hb4 hB3 hR1
  obtain ⟨g0, g1⟩ := hG4.cells
  go_wp2_with fail
  refine (sGramMade_any st (some ⟨b, off, none⟩) c1 rs _ hR4 hc1).mono ?_
  rintro e w5 ⟨rfl, hb5⟩
  have hG5 := hG4.below hb5
  have hR5 := hR4.below hb5 (Nat.le_refl _)
  have hB5 : Below w.heap.size w w5 := hB4.trans (hb5.mono hB4.size)
  clear g0 g1 hG4 hR4 hb5 hB4
  obtain ⟨g0, g1⟩ := hG5.cells
  have hnq : ((bytesOf (madeL st rs)).toList != (bytesOf (madeL st rs)).toList) = false := by simp
  go_wp2_with fail
  refine (sGramOk_any st (some ⟨b, off, none⟩) c1 rs _ hR5 hc1).mono ?_
  rintro e w6 ⟨rfl, hb6⟩
  have hG6 := hG5.below hb6
  have hR6 := hR5.below hb6 (Nat.le_refl _)
  have hB6 : Below w.heap.size w w6 := hB5.trans (hb6.mono hB5.size)
  clear g0 g1 hG5 hR5 hb6 hB5
  obtain ⟨g0, g1⟩ := hG6.cells
  cases hok : gramOkB st rs with
  | false =>
    go_wp2_with fail
    refine (sGramMade_any st (some ⟨b, off, none⟩) c1 rs _ hR6 hc1).mono ?_
    rintro e w7 ⟨rfl, hb7⟩
    go_wp2
    go_ret
    exact ⟨rfl, hB6.trans (hb7.mono hB6.size)⟩
  | true =>
    have hNL : noneL st rs = textN (leftsLeast rs 0) := by simp [noneL, hok]
    have hML : madeL st rs = textN (leftsLeast rs 960) := by simp [madeL, hok]
    rw [hNL, hML]
    have HN : Hid (∀ k (h : k < (bytesOf (textN (leftsLeast rs 0))).size), hasN (leftsLeast rs 960) (bytesOf (textN (leftsLeast rs 0)))[k] = true) := fun k h => hasN_mono (least_mono rs (Sub.zero _)) (text_at h)
    have HC : Hid (∀ k (h : k < rs.length), hasAllN (leftsLeast rs 960 ||| smallSet true) rs[k].2.data.toList = true → Sub (setN rs[k].1.data.toList) (leftsLeast rs 960)) := fun k h hh => (leftsClosed_iff rs 960 _).1 (leftsLeast_closed rs 960) rs[k] (List.getElem_mem h) hh
    have hBs := textB_size0 (leftsLeast rs 0)
    have hmlt := leftsLeast_lt rs 960
    have hl8 := (gramOk_facts hok).2.1
    have HOKS : Hid (∀ i (hi : i < rs.length), rs[i].1.size = 1 ∧ rs[i].2.size ≤ 4) := (gramOk_facts hok).2.2
    have HOK := Lib.hid hok
    clear hNL hML hnq hok hl1 hs1 hS1 hb1
    generalize bytesOf (textN (leftsLeast rs 0)) = B at *
    generalize leftsLeast rs 960 = m at *
    go_wp2
    go_loop [6] (fun i => ∃ k : Nat, k ≤ B.size ∧ i = .int .i64 k) (fun i => B.size - (intOf i).toNat)
    case atStart => exact ⟨0, Nat.zero_le _, rfl⟩
    case round =>
      obtain ⟨i, hi, rfl⟩ := hrel
      by_cases hlt : i < B.size
      · have hh := HN.out i hlt
        go_wp2_with (go_at_call 19; refine (wpHas_text m B[i] _).mono ?_; rintro e w' ⟨rfl, rfl⟩)
        go_round
        case rel => exact ⟨i + 1, by omega, by go_num⟩
        case measure => simp [intOf]; omega
      · go_wp2
        go_loopw [7] (fun j wr => ∃ k : Nat, k ≤ rs.length ∧ j = .int .i64 k ∧ Below w6.heap.size w6 wr) (fun j _ => rs.length - (intOf j).toNat)
        case atStart => exact ⟨0, Nat.zero_le _, rfl, Below.refl _ _⟩
        case round =>
          obtain ⟨k, hk, rfl, hb⟩ := hrel
          obtain ⟨x0, x1⟩ := (hG6.below hb).cells
          by_cases hkl : k < rs.length
          · have hR := hR6.below hb (Nat.le_refl _)
            obtain ⟨z1, z2, b', off', e, hbb, d1, d2⟩ := hR.2 k hkl
            cases e
            obtain ⟨c, hcc, hbig⟩ := ok_left HOK.out hkl
            have hkl' : (k : Int) < (rs.length : Int) := by omega
            have hr4 := (HOKS.out k hkl).2
            have hord := big_ord hbig
            have HCk := Lib.hid (HC.out k hkl)
            have hbx := byteZ
            rw [hcc] at d1 HCk
            go_wp2
            go_loopw [8, 9] (fun v j wr => ∃ p : Nat, p ≤ rs[k].2.size ∧ j = .int .i64 p ∧ v = .bool (hasAllN (m ||| smallSet true) (rs[k].2.data.toList.take p)) ∧ Below w6.heap.size w6 wr) (fun _ j _ => rs[k].2.size - (intOf j).toNat)
            case atStart => exact ⟨0, Nat.zero_le _, rfl, by simp [hasAllN], hb⟩
            case round =>
              obtain ⟨p, hp, rfl, rfl, hb2⟩ := hrel
              obtain ⟨y0, y1⟩ := (hG6.below hb2).cells
              obtain ⟨_, _, b'', off'', e, _, t1, t2⟩ := (hR6.below hb2 (Nat.le_refl _)).2 k hkl
              cases e
              rw [hcc] at t1
              by_cases hpl : p < rs[k].2.size
              · have HT : Hid (hasAllN (m ||| smallSet true) (rs[k].2.data.toList.take (p + 1)) = (hasAllN (m ||| smallSet true) (rs[k].2.data.toList.take p) && (hasN m rs[k].2[p] || smallN (rs[k].2[p].toNat : Int)))) := by
                  show _ = _; rw [take_snoc rs[k].2 p hpl, hasAllN_snoc, has_smallSet]; simp
                have hcv := convert_byte rs[k].2[p] wr
                cases hv : hasAllN (m ||| smallSet true) (rs[k].2.data.toList.take p) with
                | false =>
                  have HV := Lib.hid hv
                  go_wp2
                  go_roundw
                  case rel => exact ⟨p + 1, by omega, by go_num, by rw [HT.out, HV.out]; rfl, hb2⟩
                  case measure => simp [intOf]; omega
                | true =>
                  have HV := Lib.hid hv
                  cases hh : hasN m rs[k].2[p] with
                  | true =>
                    have HH := Lib.hid hh
                    go_wp2_with (go_at_call 19; refine (wpHas_text m rs[k].2[p] _).mono ?_; rintro e w' ⟨rfl, rfl⟩)
                    go_roundw
                    case rel => exact ⟨p + 1, by omega, by go_num, by rw [HT.out, HV.out, HH.out]; rfl, hb2⟩
                    case measure => simp [intOf]; omega
                  | false =>
                    have HH := Lib.hid hh
                    go_wp2_with (first | (go_at_call 19; refine (wpHas_text m rs[k].2[p] _).mono ?_; rintro e w' ⟨rfl, rfl⟩) | (go_at_call 23; refine (signSmall_one rs[k].2[p] _).mono ?_; rintro e w' ⟨rfl, rfl⟩))
                    go_roundw
                    case rel => exact ⟨p + 1, by omega, by go_num, by rw [HT.out, HV.out, HH.out]; rfl, hb2.alloc hb2.size _⟩
                    case measure => simp [intOf]; omega
              · have hpe : rs[k].2.data.toList.take p = rs[k].2.data.toList := List.take_of_length_le (by simp; omega)
                cases hv : hasAllN (m ||| smallSet true) (rs[k].2.data.toList.take p) with
                | false =>
                  go_wp2
                  go_roundw
                  case rel => exact ⟨k + 1, by omega, by go_num, hb2⟩
                  case measure => simp [intOf]; omega
                | true =>
                  have hhc : hasN m c = true := by
                    rw [hpe] at hv
                    have := HCk.out hv
                    rw [setN_one] at this
                    exact hasN_of_sub hord this
                  go_wp2_with (go_at_call 19; refine (wpHas_text m c _).mono ?_; rintro e w' ⟨rfl, rfl⟩)
                  go_roundw
                  case rel => exact ⟨k + 1, by omega, by go_num, hb2⟩
                  case measure => simp [intOf]; omega
          · have hkl' : ¬ (k : Int) < (rs.length : Int) := by omega
            go_wp2
            go_ret
            exact ⟨rfl, hB6.trans (hb.mono hB6.size)⟩
end Go.Proofs.Ytkjaibnjiebgcab
