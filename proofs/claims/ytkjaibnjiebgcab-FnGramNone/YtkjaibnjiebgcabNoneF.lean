/- The walk of FnGramNone. -/
import Derived.Test.YtkjaibnjiebgcabLawN
import Derived.Test.YtkjaibnjiebgcabDrawH
namespace Go.Proofs.Ytkjaibnjiebgcab
open Go.ChangeShapes Go.WideShapes Go.ChangeAt Go.RowKit
set_option maxRecDepth 100000
def allE (e : Bool) (m : Nat) (l : List UInt8) : Bool := e && hasAllN m l
theorem allE_snoc (e : Bool) (m : Nat) (l : List UInt8) (c : UInt8) : allE e m (l ++ [c]) = (allE e m l && hasN m c) := by unfold allE; rw [hasAllN_snoc, Bool.and_assoc]
def someTo (rs : List RuleT) (S : Nat) (c : UInt8) (k : Nat) : Bool := someR (rs.take k) S c
theorem someTo_succ (rs : List RuleT) (S : Nat) (c : UInt8) (k : Nat) (h : k < rs.length) : someTo rs S c (k + 1) = (someTo rs S c k || ((rs[k].1.data.toList == [c]) && hasAllN S rs[k].2.data.toList)) := by
  unfold someTo someR; rw [List.take_succ_eq_append_getElem h, List.any_append]; simp
theorem bigs_at {t : List UInt8} {k : Nat} (h : k < (bytesOf (symsL t 65 5)).size) : bigN (((bytesOf (symsL t 65 5))[k].toNat : Nat) : Int) = true := by
  have h' : k < (symsL t 65 5).length := by rwa [bytesOf_size] at h
  have e : (bytesOf (symsL t 65 5))[k]'h = (symsL t 65 5)[k] := rfl
  have hm : (symsL t 65 5)[k] ∈ symsL t 65 5 := List.getElem_mem h'
  rw [← e] at hm
  generalize (bytesOf (symsL t 65 5))[k]'h = c at *
  unfold symsL at hm
  have hm2 := (List.mem_filter.1 hm).1
  rw [show (List.range 5).map (fun i => byteN (65 + i)) = [65, 66, 67, 68, 69] from by decide] at hm2
  simp only [List.mem_cons, List.not_mem_nil, or_false] at hm2
  rcases hm2 with rfl | rfl | rfl | rfl | rfl <;> decide
theorem bigs_size (t : List UInt8) : (bytesOf (symsL t 65 5)).size ≤ 5 := by rw [bytesOf_size]; exact symsL_len t 65 5
set_option maxHeartbeats 4000000 in
theorem noneF_law (a : Option Addr) (n cap : Nat) (w : World) (H : BytesAt w a n cap) :
    Calls Try.prog 3 #[.slice a n cap] w fun e w' => e = .returned (.bool true) ∧ Below w.heap.size w w' := by
  have hm := H.2.1
  unfold maxLen at hm
  by_cases h : (1048576 : Int) < (n : Int)
  · go_enter Try.func3, Try.ntmps3
    go_wp2
    go_ret
    exact ⟨rfl, Below.refl _ _⟩
  go_enter Try.func3, Try.ntmps3
  go_wp2_with fail
  refine (drawGramNone_any a n cap w H).mono ?_
  rintro e w1 ⟨v1, st, rs, rfl, ⟨b, off, c1, rfl, hc1, hR1, hl1, hs1, hS1, hb1⟩, hB1⟩
  have hbw := (Below.refl w1.heap.size w1).alloc (Nat.le_refl _) (.cells #[.string st, .slice (some ⟨b, off, none⟩) rs.length c1] 25)
  have hR2 := hR1.below hbw (Nat.le_refl _)
  have hG : GBox (w1.alloc (.cells #[.string st, .slice (some ⟨b, off, none⟩) rs.length c1] 25)) w1.heap.size st (some ⟨b, off, none⟩) rs.length c1 := blk_new _ _ rfl
  go_wp2_with fail
  refine (gramNone_any st (some ⟨b, off, none⟩) c1 rs _ hR2 hc1).mono ?_
  rintro e w3 ⟨rfl, hb3⟩
  have hG3 := hG.below hb3
  have hR3 := hR2.below hb3 (Nat.le_refl _)
  have hB3 : Below w.heap.size w w3 := hB1.trans ((hbw.trans (hb3.mono (by simp))).mono hB1.size)
  obtain ⟨g0, g1⟩ := hG3.cells
  clear hG hR2 hb3 hbw
  go_wp2_with fail
  refine (sGramNone_any st (some ⟨b, off, none⟩) c1 rs _ hR3 hc1).mono ?_
  rintro e w4 ⟨rfl, hb4⟩
  have hG4 := hG3.below hb4
  have hR4 := hR3.below hb4 (Nat.le_refl _)
  have hB4 : Below w.heap.size w w4 := hB3.trans (hb4.mono hB3.size)
  clear g0 g1 hG3 hR3 hb4 hB3 hR1
  obtain ⟨g0, g1⟩ := hG4.cells
  have hnq : ((bytesOf (noneL st rs)).toList != (bytesOf (noneL st rs)).toList) = false := by simp
  go_wp2_with fail
  refine (sGramOk_any st (some ⟨b, off, none⟩) c1 rs _ hR4 hc1).mono ?_
  rintro e w5 ⟨rfl, hb5⟩
  have hG5 := hG4.below hb5
  have hR5 := hR4.below hb5 (Nat.le_refl _)
  have hB5 : Below w.heap.size w w5 := hB4.trans (hb5.mono hB4.size)
  clear g0 g1 hG4 hR4 hb5 hB4
  obtain ⟨g0, g1⟩ := hG5.cells
  cases hok : gramOkB st rs with
  | false =>
    go_wp2_with fail
    refine (sGramNone_any st (some ⟨b, off, none⟩) c1 rs _ hR5 hc1).mono ?_
    rintro e w6 ⟨rfl, hb6⟩
    go_wp2
    go_ret
    exact ⟨rfl, hB5.trans (hb6.mono hB5.size)⟩
  | true =>
    have hNL : noneL st rs = textN (leftsLeast rs 0) := by simp [noneL, hok]
    rw [hNL]
    go_wp2_with fail
    refine (gramBigs_any st (some ⟨b, off, none⟩) c1 rs _ hR5 hc1).mono ?_
    rintro e w6 ⟨rfl, hb6⟩
    have hG6 := hG5.below hb6
    have hR6 := hR5.below hb6 (Nat.le_refl _)
    have hB6 : Below w.heap.size w w6 := hB5.trans (hb6.mono hB5.size)
    have HB : Hid (∀ k (h : k < (bytesOf (symsL (gramTextL st rs) 65 5)).size), bigN (((bytesOf (symsL (gramTextL st rs) 65 5))[k].toNat : Nat) : Int) = true) := fun k h => bigs_at h
    have hBs := bigs_size (gramTextL st rs)
    have HI : Hid (∀ c : UInt8, c ∈ ordL → someR rs (leftsLeast rs 0) c = hasN (leftsLeast rs 0) c) := fun c hc => by have := least_iff hok 0 hc; rwa [Nat.or_zero] at this
    have hl8 := (gramOk_facts hok).2.1
    have HOKS : Hid (∀ i (hi : i < rs.length), rs[i].1.size = 1 ∧ rs[i].2.size ≤ 4) := (gramOk_facts hok).2.2
    clear g0 g1 hG5 hR5 hb6 hB5 hNL hnq hok hl1 hs1 hS1 hb1
    obtain ⟨g0, g1⟩ := hG6.cells
    generalize bytesOf (symsL (gramTextL st rs) 65 5) = B at *
    generalize leftsLeast rs 0 = m at *
    go_wp2
    go_loopw [6] (fun i wr => ∃ k q : Nat, k ≤ B.size ∧ i = .int .i64 k ∧ wr = w6.drewN q) (fun i _ => B.size - (intOf i).toNat)
    case atStart => exact ⟨0, 0, Nat.zero_le _, rfl, rfl⟩
    case round =>
      obtain ⟨i, q, hi, rfl, rfl⟩ := hrel
      by_cases hlt : i < B.size
      · have hcut := cutOne B i hlt
        have hbig := HB.out i hlt
        have hord := big_ord hbig
        go_wp2
        go_loopw [7, 8] (fun v j wr => ∃ k q : Nat, k ≤ rs.length ∧ j = .int .i64 k ∧ v = .bool (someTo rs m B[i] k) ∧ wr = w6.drewN q) (fun _ j _ => rs.length - (intOf j).toNat)
        case atStart => exact ⟨0, q, Nat.zero_le _, rfl, rfl, rfl⟩
        case round =>
          obtain ⟨k, q2, hk, rfl, rfl, rfl⟩ := hrel
          by_cases hkl : k < rs.length
          · obtain ⟨z1, z2, b', off', e, hbb, d1, d2⟩ := hR6.2 k hkl
            cases e
            have hkl' : (k : Int) < (rs.length : Int) := by omega
            have hr4 := (HOKS.out k hkl).2
            have HST := Lib.hid (someTo_succ rs m B[i] k hkl)
            have HEQ : Hid ((rs[k].1.toList == [B[i]]) = (rs[k].1.data.toList == [B[i]])) := by
              show _ = _; rw [ByteArray.toList_eq]
            go_wp2
            go_quiet (fail)
            generalize he : (rs[k].1.toList == [B[i]]) = e0 at *
            have HE := Lib.hid he
            clear he
            go_wp2
            go_loopw [9, 10] (fun v j wr => ∃ p q : Nat, p ≤ rs[k].2.size ∧ j = .int .i64 p ∧ v = .bool (allE e0 m (rs[k].2.data.toList.take p)) ∧ wr = w6.drewN q) (fun _ j _ => rs[k].2.size - (intOf j).toNat)
            case atStart => exact ⟨0, _, Nat.zero_le _, rfl, by simp [allE, hasAllN], by rw [World.drewN_drewN]⟩
            case round =>
              obtain ⟨p, q3, hp, rfl, rfl, rfl⟩ := hrel
              by_cases hpl : p < rs[k].2.size
              · have HT : Hid (allE e0 m (rs[k].2.data.toList.take (p + 1)) = (allE e0 m (rs[k].2.data.toList.take p) && hasN m rs[k].2[p])) := by
                  show _ = _; rw [take_snoc rs[k].2 p hpl, allE_snoc]
                cases hv : allE e0 m (rs[k].2.data.toList.take p) with
                | false =>
                  have HV := Lib.hid hv
                  go_wp2
                  go_roundw
                  case rel => exact ⟨p + 1, _, by omega, by go_num, by rw [HT.out, HV.out]; rfl, rfl⟩
                  case measure => simp [intOf]; omega
                | true =>
                  have HV := Lib.hid hv
                  go_wp2_with (go_at_call 19; refine (wpHas_text m rs[k].2[p] _).mono ?_; rintro e w' ⟨rfl, rfl⟩)
                  go_roundw
                  case rel => exact ⟨p + 1, _, by omega, by go_num, by rw [HT.out, HV.out]; rfl, rfl⟩
                  case measure => simp [intOf]; omega
              · have HF : Hid (someTo rs m B[i] (k + 1) = (someTo rs m B[i] k || allE e0 m (rs[k].2.data.toList.take p))) := by
                  show _ = _; rw [HST.out, ← HEQ.out, List.take_of_length_le (by simp; omega)]; rfl
                cases hv : someTo rs m B[i] k with
                | true =>
                  have HV := Lib.hid hv
                  go_wp2
                  go_roundw
                  case rel => exact ⟨k + 1, _, by omega, by go_num, by rw [HF.out, HV.out]; rfl, rfl⟩
                  case measure => simp [intOf]; omega
                | false =>
                  have HV := Lib.hid hv
                  go_wp2
                  go_roundw
                  case rel => exact ⟨k + 1, _, by omega, by go_num, by rw [HF.out, HV.out]; rfl, rfl⟩
                  case measure => simp [intOf]; omega
          · have hkl' : ¬ (k : Int) < (rs.length : Int) := by omega
            obtain rfl : k = rs.length := by omega
            have hall : someTo rs m B[i] rs.length = hasN m B[i] := by
              unfold someTo; rw [List.take_of_length_le (Nat.le_refl _)]; exact HI.out _ hord
            rw [hall]
            have hnn : (hasN m B[i] != hasN m B[i]) = false := by simp
            go_wp2_with (go_at_call 19; refine (wpHas_text m B[i] _).mono ?_; rintro e w' ⟨rfl, rfl⟩)
            go_roundw
            case rel => exact ⟨i + 1, _, by omega, by go_num, rfl⟩
            case measure => simp [intOf]; omega
      · go_wp2
        go_ret
        exact ⟨rfl, hB6.os, hB6.tape, hB6.output, hB6.size, hB6.block⟩
end Go.Proofs.Ytkjaibnjiebgcab
