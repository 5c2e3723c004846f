/- The walk of FnMetTrim. -/
import Derived.Test.YtkjaibnjiebgcabTrimD
import Derived.Test.YtkjaibnjiebgcabLawN
import Derived.Test.YtkjaibnjiebgcabDrawH
import Derived.Test.YtkjaibnjiebgcabMetE
namespace Go.Proofs.Ytkjaibnjiebgcab
open Go.ChangeShapes Go.WideShapes Go.ChangeAt Go.RowKit
set_option maxRecDepth 100000
theorem textAt {p k : Nat} (h : k < (bytesOf (textN p)).size) : hasN p (bytesOf (textN p))[k] = true := by
  have h' : k < (textN p).length := by rwa [bytesOf_size] at h
  have e : (bytesOf (textN p))[k]'h = (textN p)[k] := rfl
  have hm : (textN p)[k] ∈ textN p := List.getElem_mem h'
  rw [← e] at hm
  exact (List.mem_filter.1 hm).2
theorem textSz (m : Nat) : (bytesOf (textN m)).size ≤ 10 := by rw [bytesOf_size]; exact text_len m
theorem byteQ (c : UInt8) (h : 0 < (⟨#[c]⟩ : ByteArray).size) : (⟨#[c]⟩ : ByteArray)[0]'h = c := rfl
set_option maxHeartbeats 4000000 in
theorem tMetF_law (a : Option Addr) (n cap : Nat) (w : World) (H : BytesAt w a n cap) :
    Calls Try.prog 12 #[.slice a n cap] w fun e w' => e = .returned (.bool true) ∧ Below w.heap.size w w' := by
  have hm := H.2.1
  unfold maxLen at hm
  by_cases h : (1048576 : Int) < (n : Int)
  · go_enter Try.func12, Try.ntmps12
    go_wp2
    go_ret
    exact ⟨rfl, Below.refl _ _⟩
  go_enter Try.func12, Try.ntmps12
  go_wp2_with fail
  refine (drawGramMet_any a n cap w H).mono ?_
  rintro e w1 ⟨v1, st, rs, rfl, ⟨b, off, c1, rfl, hc1, hR1, hl1, hs1, hS1, hb1⟩, hB1⟩
  have hbw := (Below.refl w1.heap.size w1).alloc (Nat.le_refl _) (.cells #[.string st, .slice (some ⟨b, off, none⟩) rs.length c1] 25)
  have hR2 := hR1.below hbw (Nat.le_refl _)
  have hG : GBox (w1.alloc (.cells #[.string st, .slice (some ⟨b, off, none⟩) rs.length c1] 25)) w1.heap.size st (some ⟨b, off, none⟩) rs.length c1 := blk_new _ _ rfl
  go_wp2_with fail
  refine (gramTrim_all st (some ⟨b, off, none⟩) c1 rs _ hR2 hc1).mono ?_
  rintro e w3 ⟨au, cu, rfl, hcu, HU, hb3⟩
  have hG3 := hG.below hb3
  have hR3 := hR2.below hb3 (Nat.le_refl _)
  have hB3 : Below w.heap.size w w3 := hB1.trans ((hbw.trans (hb3.mono (by simp))).mono hB1.size)
  obtain ⟨g0, g1⟩ := hG3.cells
  clear hG hR2 hb3 hbw
  have hbx := (Below.refl w3.heap.size w3).alloc (Nat.le_refl _) (.cells #[.string (trimS st rs), .slice au (trimR st rs).length cu] 25)
  have hX4 : GBox (w3.alloc (.cells #[.string (trimS st rs), .slice au (trimR st rs).length cu] 25)) w3.heap.size (trimS st rs) au (trimR st rs).length cu := blk_new _ _ rfl
  have hG4 := hG3.below hbx
  have hR4 := hR3.below hbx (Nat.le_refl _)
  have HU4 := HU.below hbx (Nat.le_refl _)
  have hB4 := hB3.trans (hbx.mono hB3.size)
  clear hG3 hR3 HU hB3 hbx hR1
  go_wp2_with fail
  refine (gramMet_any (trimS st rs) au cu (trimR st rs) _ HU4 hcu).mono ?_
  rintro e w5 ⟨rfl, hb5⟩
  have hG5 := hG4.below hb5
  have hX5 := hX4.below hb5
  have hR5 := hR4.below hb5 (Nat.le_refl _)
  have HU5 := HU4.below hb5 (Nat.le_refl _)
  have hB5 : Below w.heap.size w w5 := hB4.trans (hb5.mono hB4.size)
  clear g0 g1 hG4 hX4 hR4 HU4 hB4 hb5
  obtain ⟨g0, g1⟩ := hG5.cells
  go_wp2_with fail
  refine (gramMet_any st (some ⟨b, off, none⟩) c1 rs _ hR5 hc1).mono ?_
  rintro e w6 ⟨rfl, hb6⟩
  have hG6 := hG5.below hb6
  have hX6 := hX5.below hb6
  have hR6 := hR5.below hb6 (Nat.le_refl _)
  have HU6 := HU5.below hb6 (Nat.le_refl _)
  have hB6 : Below w.heap.size w w6 := hB5.trans (hb6.mono hB5.size)
  clear g0 g1 hG5 hX5 hR5 HU5 hB5 hb6
  obtain ⟨g0, g1⟩ := hG6.cells
  go_wp2_with fail
  refine (sGramMet_any st (some ⟨b, off, none⟩) c1 rs _ hR6 hc1).mono ?_
  rintro e w7 ⟨rfl, hb7⟩
  have hG7 := hG6.below hb7
  have hX7 := hX6.below hb7
  have hR7 := hR6.below hb7 (Nat.le_refl _)
  have HU7 := HU6.below hb7 (Nat.le_refl _)
  have hB7 : Below w.heap.size w w7 := hB6.trans (hb7.mono hB6.size)
  clear g0 g1 hG6 hX6 hR6 HU6 hB6 hb7
  obtain ⟨g0, g1⟩ := hG7.cells
  have hnq : ((bytesOf (metL st rs)).toList != (bytesOf (metL st rs)).toList) = false := by simp
  go_wp2_with fail
  refine (sGramOk_any st (some ⟨b, off, none⟩) c1 rs _ hR7 hc1).mono ?_
  rintro e w8 ⟨rfl, hb8⟩
  have hG8 := hG7.below hb8
  have hX8 := hX7.below hb8
  have hR8 := hR7.below hb8 (Nat.le_refl _)
  have HU8 := HU7.below hb8 (Nat.le_refl _)
  have hB8 : Below w.heap.size w w8 := hB7.trans (hb8.mono hB7.size)
  clear g0 g1 hG7 hX7 hR7 HU7 hB7 hb8
  obtain ⟨g0, g1⟩ := hG8.cells
  cases hok : gramOkB st rs with
  | false =>
    go_wp2_with fail
    refine (sGramMet_any st (some ⟨b, off, none⟩) c1 rs _ hR8 hc1).mono ?_
    rintro e w9 ⟨rfl, hb9⟩
    go_wp2
    go_ret
    exact ⟨rfl, hB8.trans (hb9.mono hB8.size)⟩
  | true =>
    have hokT := ok_trim hok
    have e1 : trimS st rs = st := by simp [trimS, hok]
    have e2 : trimR st rs = trimL st rs := by simp [trimR, hok]
    rw [e1, e2] at hX8
    rw [e2] at HU8 hcu
    rw [e1, e2]
    have hML : metL st rs = textN (metLeast st rs) := by simp [metL, hok]
    have hMT : metL st (trimL st rs) = textN (metLeast st (trimL st rs)) := by simp [metL, hokT]
    have hNT : noneL st (trimL st rs) = textN (leftsLeast (trimL st rs) 0) := by simp [noneL, hokT]
    have hNL : noneL st rs = textN (leftsLeast rs 0) := by simp [noneL, hok]
    rw [hML, hMT]
    have HM : Hid (∀ k (h : k < (bytesOf (textN (metLeast st (trimL st rs)))).size), hasN (metLeast st rs) (bytesOf (textN (metLeast st (trimL st rs))))[k] = true) := fun k h => hasN_mono (met_fewer (trim_sub st rs)) (textAt h)
    have HN : Hid (∀ k (h : k < (bytesOf (textN (leftsLeast (trimL st rs) 0))).size), hasN (leftsLeast rs 0) (bytesOf (textN (leftsLeast (trimL st rs) 0)))[k] = true) := fun k h => hasN_mono (least_fewer (trim_sub st rs) 0) (textAt h)
    obtain ⟨c0, hst, hbig0⟩ := ok_start1 hok
    have hh0 : hasN (metLeast st (trimL st rs)) c0 = true := met_start hst hbig0
    have hz1 := textSz (metLeast st (trimL st rs))
    have hz2 := textSz (leftsLeast (trimL st rs) 0)
    have HOK := Lib.hid hok
    have HST := Lib.hid hst
    have hbx := byteQ
    have hNg : ∀ W, Below w8.heap.size w8 W → Calls Try.prog 15 #[.agg #[.string st, .slice (some ⟨b, off, none⟩) rs.length c1]] W fun e w' => e = .returned (.string (bytesOf (textN (leftsLeast rs 0)))) ∧ Below W.heap.size W w' := fun W hW => by
      have h := gramNone_any st (some ⟨b, off, none⟩) c1 rs W (hR8.below hW (Nat.le_refl _)) hc1
      rwa [hNL] at h
    have hNx : Calls Try.prog 15 #[.agg #[.string st, .slice au (trimL st rs).length cu]] w8 fun e w' => e = .returned (.string (bytesOf (textN (leftsLeast (trimL st rs) 0)))) ∧ Below w8.heap.size w8 w' := by
      have h := gramNone_any st au cu (trimL st rs) w8 HU8 hcu
      rwa [hNT] at h
    clear hML hMT hNT hNL hnq hok hl1 hs1 hS1 hb1 e1 e2 hokT hst
    obtain ⟨x0, x1⟩ := hX8.cells
    generalize hms : metLeast st (trimL st rs) = ms at *
    generalize hnx : leftsLeast (trimL st rs) 0 = nx at *
    clear hms hnx
    generalize metLeast st rs = m at *
    generalize leftsLeast rs 0 = ng at *
    generalize trimL st rs = us at *
    go_wp2
    go_loop [7] (fun i => ∃ k : Nat, k ≤ (bytesOf (textN ms)).size ∧ i = .int .i64 k) (fun i => (bytesOf (textN ms)).size - (intOf i).toNat)
    case atStart => exact ⟨0, Nat.zero_le _, rfl⟩
    case round =>
      obtain ⟨i, hi, rfl⟩ := hrel
      by_cases hlt : i < (bytesOf (textN ms)).size
      · have hh := HM.out i hlt
        go_wp2_with fail
        refine (wpHas_text m (bytesOf (textN ms))[i] _).mono ?_
        rintro e w' ⟨rfl, rfl⟩
        go_wp2
        go_round
        case rel => exact ⟨i + 1, by omega, by go_num⟩
        case measure => simp [intOf]; omega
      · go_wp2_with fail
        refine hNx.mono ?_
        rintro e w9 ⟨rfl, hb9⟩
        go_wp2
        go_loopw [9] (fun j wr => ∃ k : Nat, k ≤ (bytesOf (textN nx)).size ∧ j = .int .i64 k ∧ Below w8.heap.size w8 wr) (fun j _ => (bytesOf (textN nx)).size - (intOf j).toNat)
        case atStart => exact ⟨0, Nat.zero_le _, rfl, hb9⟩
        case round =>
          obtain ⟨k, hk, rfl, hb⟩ := hrel
          clear g0 g1 x0 x1
          by_cases hkl : k < (bytesOf (textN nx)).size
          · obtain ⟨g0, g1⟩ := (hG8.below hb).cells
            have hh := HN.out k hkl
            have hltg := (hG8.below hb).lt
            have q0 : ∀ x, (grow wr x).cell? ⟨w1.heap.size, 0, none⟩ = some (.string st) := fun x => by rw [grow_cell _ _ _ _ hltg]; exact g0
            have q1 : ∀ x, (grow wr x).cell? ⟨w1.heap.size, 1, none⟩ = some (.slice (some ⟨b, off, none⟩) rs.length c1) := fun x => by rw [grow_cell _ _ _ _ hltg]; exact g1
            have C1 : ∀ x, Calls Try.prog 15 #[.agg #[.string st, .slice (some ⟨b, off, none⟩) rs.length c1]] (grow wr x) fun e w' => e = .returned (.string (bytesOf (textN ng))) ∧ ∃ y, w' = grow wr y := fun x => Calls.grow_of (hNg _ (hb.trans ((below_grow _ x).mono hb.size)))
            go_wp2
            refine wp_region_grow (by kernel_rfl) (by kernel_rfl) ?_
            repeat (go_big_quiet_step ((first | (go_at_call 15; exact C1 _) | (go_at_call 19; exact Calls.grow_of_same (wpHas_text ng (bytesOf (textN nx))[k] _)))))
            refine wpQuiet_nil ?_
            rintro _ ⟨x, rfl⟩
            go_wp2
            go_roundw
            case rel => exact ⟨k + 1, by omega, by go_num, hb.trans ((below_grow _ x).mono hb.size)⟩
            case measure => simp [intOf]; omega
          · have hGf := hG8.below hb
            rw [HST.out] at hGf
            obtain ⟨g0, g1⟩ := hGf.cells
            go_wp2_with fail
            refine (wpHas_text ms c0 _).mono ?_
            rintro e w' ⟨rfl, rfl⟩
            rw [hh0]
            go_wp2
            go_ret
            exact ⟨rfl, hB8.trans (hb.mono hB8.size)⟩
end Go.Proofs.Ytkjaibnjiebgcab
