/- The walk of FnSetsAll. -/
import Derived.Test.YtkjaibnjiebgcabTrimF
import Derived.Test.YtkjaibnjiebgcabLawN
import Derived.Test.YtkjaibnjiebgcabDrawH
import Derived.Test.YtkjaibnjiebgcabSame
namespace Go.Proofs.Ytkjaibnjiebgcab
open Go.ChangeShapes Go.WideShapes Go.ChangeAt Go.RowKit
set_option maxRecDepth 100000
set_option maxHeartbeats 4000000 in
theorem sAllF_law (a : Option Addr) (n cap : Nat) (w : World) (H : BytesAt w a n cap) :
    Calls Try.prog 13 #[.slice a n cap] w fun e w' => e = .returned (.bool true) ∧ Below w.heap.size w w' := by
  have hm := H.2.1
  unfold maxLen at hm
  by_cases h : (1048576 : Int) < (n : Int)
  · go_enter Try.func13, Try.ntmps13
    go_wp2
    go_ret
    exact ⟨rfl, Below.refl _ _⟩
  go_enter Try.func13, Try.ntmps13
  go_wp2_with fail
  refine (drawGramTrim_any a n cap w H).mono ?_
  rintro e w1 ⟨v1, st, rs, rfl, ⟨b, off, c1, rfl, hc1, hR1, hl1, hs1, hS1, hb1⟩, hB1⟩
  have hbw := (Below.refl w1.heap.size w1).alloc (Nat.le_refl _) (.cells #[.string st, .slice (some ⟨b, off, none⟩) rs.length c1] 25)
  have hR2 := hR1.below hbw (Nat.le_refl _)
  have hG : GBox (w1.alloc (.cells #[.string st, .slice (some ⟨b, off, none⟩) rs.length c1] 25)) w1.heap.size st (some ⟨b, off, none⟩) rs.length c1 := blk_new _ _ rfl
  go_wp2_with fail
  refine (gramTrim_all st (some ⟨b, off, none⟩) c1 rs _ hR2 hc1).mono ?_
  rintro e w3 ⟨au, cu, rfl, hcu, HU, hb3⟩
  have hG3 := hG.below hb3
  have hR3 := hR2.below hb3 (Nat.le_refl _)
  have hB3 : Below w.heap.size w w3 := hB1.trans ((hbw.trans (hb3.mono (by simp))).mono hB1.size)
  obtain ⟨g0, g1⟩ := hG3.cells
  clear hG hR2 hb3 hbw
  have hbx := (Below.refl w3.heap.size w3).alloc (Nat.le_refl _) (.cells #[.string (trimS st rs), .slice au (trimR st rs).length cu] 25)
  have hX4 : GBox (w3.alloc (.cells #[.string (trimS st rs), .slice au (trimR st rs).length cu] 25)) w3.heap.size (trimS st rs) au (trimR st rs).length cu := blk_new _ _ rfl
  have hG4 := hG3.below hbx
  have hR4 := hR3.below hbx (Nat.le_refl _)
  have HU4 := HU.below hbx (Nat.le_refl _)
  have hB4 := hB3.trans (hbx.mono hB3.size)
  clear hG3 hR3 HU hB3 hbx hR1 g0 g1
  obtain ⟨g0, g1⟩ := hG4.cells
  obtain ⟨x0, x1⟩ := hX4.cells
  have hG4d : GBox (w3.alloc (.cells #[.string (trimS st rs), .slice au (trimR st rs).length cu] 25)).drew w1.heap.size st (some ⟨b, off, none⟩) rs.length c1 := hG4
  have hX4d : GBox (w3.alloc (.cells #[.string (trimS st rs), .slice au (trimR st rs).length cu] 25)).drew w3.heap.size (trimS st rs) au (trimR st rs).length cu := hX4
  have hR4d : RulesAt (w3.alloc (.cells #[.string (trimS st rs), .slice au (trimR st rs).length cu] 25)).drew (some ⟨b, off, none⟩) rs := hR4
  have HU4d : RulesAt (w3.alloc (.cells #[.string (trimS st rs), .slice au (trimR st rs).length cu] 25)).drew au (trimR st rs) := HU4
  have hB4d := hB4.drew
  go_wp2_with fail
  go_region_with (first
    | (go_at_call 17; refine (sGramOk_any st (some ⟨b, off, none⟩) c1 rs _ hR6 hc1).mono ?_; rintro e w7 ⟨rfl, hb7⟩; have hG7 := hG6.below hb7; have hX7 := hX6.below hb7; have hR7 := hR6.below hb7 (Nat.le_refl _); have HU7 := HU6.below hb7 (Nat.le_refl _); have hB7 : Below w.heap.size w w7 := hB6.trans (hb7.mono hB6.size); obtain ⟨s0, s1⟩ := hG7.cells; obtain ⟨t0, t1⟩ := hX7.cells)
    | (go_at_call 36; refine (gramSame_any (trimS st rs) (trimS st rs) au av cu cv (trimR st rs) (trimR st rs) _ HU5 HV).mono ?_; rintro e w6 ⟨rfl, hb6⟩; rw [eqG_refl]; have hG6 := hG5.below hb6; have hX6 := hX5.below hb6; have hR6 := hR5.below hb6 (Nat.le_refl _); have HU6 := HU5.below hb6 (Nat.le_refl _); have hB6 : Below w.heap.size w w6 := hB5.trans (hb6.mono hB5.size); obtain ⟨q0, q1⟩ := hG6.cells; obtain ⟨r0, r1⟩ := hX6.cells)
    | (go_at_call 37; refine (sGramTrim_all st (some ⟨b, off, none⟩) c1 rs _ hR4d hc1).mono ?_; rintro e w5 ⟨av, cv, rfl, hcv, HV, hb5⟩; have hG5 := hG4d.below hb5; have hX5 := hX4d.below hb5; have hR5 := hR4d.below hb5 (Nat.le_refl _); have HU5 := HU4d.below hb5 (Nat.le_refl _); have hB5 : Below w.heap.size w w5 := hB4d.trans (hb5.mono hB4d.size); obtain ⟨p0, p1⟩ := hG5.cells; obtain ⟨y0, y1⟩ := hX5.cells)
    | fail)
  all_goals
    clear hG4d hX4d hR4d HU4d hB4d hG4 hX4 hR4 HU4 hB4 hG5 hX5 hR5 HU5 hB5 hG6 hX6 hR6 HU6 hB6 HV hcv hb5 hb6 hb7 p0 p1 y0 y1 q0 q1 r0 r1 g0 g1 x0 x1
    cases hok : gramOkB st rs with
    | false =>
      have hG7d : GBox w7.drew w1.heap.size st (some ⟨b, off, none⟩) rs.length c1 := hG7
      have hX7d : GBox w7.drew w3.heap.size (trimS st rs) au (trimR st rs).length cu := hX7
      have hR7d : RulesAt w7.drew (some ⟨b, off, none⟩) rs := hR7
      have HU7d : RulesAt w7.drew au (trimR st rs) := HU7
      have hB7d := hB7.drew
      go_wp2_with fail
      go_region_with (first
        | (go_at_call 36; refine (gramSame_any (trimS st rs) (trimS st rs) au av2 cu cv2 (trimR st rs) (trimR st rs) _ HU8 HV8).mono ?_; rintro e w9 ⟨rfl, hb9⟩; rw [eqG_refl]; have hB9 : Below w.heap.size w w9 := hB8.trans (hb9.mono hB8.size))
        | (go_at_call 37; refine (sGramTrim_all st (some ⟨b, off, none⟩) c1 rs _ hR7d hc1).mono ?_; rintro e w8 ⟨av2, cv2, rfl, hcv2, HV8, hb8⟩; have hX8 := hX7d.below hb8; have HU8 := HU7d.below hb8 (Nat.le_refl _); have hB8 : Below w.heap.size w w8 := hB7d.trans (hb8.mono hB7d.size); obtain ⟨y0, y1⟩ := hX8.cells)
        | fail)
      all_goals
        go_wp2
        go_ret
        exact ⟨rfl, hB9⟩
    | true =>
      have hokT := ok_trim hok
      have e1 : trimS st rs = st := by simp [trimS, hok]
      have e2 : trimR st rs = trimL st rs := by simp [trimR, hok]
      have hMT : metL st (trimL st rs) = textN (metLeast st (trimL st rs)) := by simp [metL, hokT]
      have hDT : madeL st (trimL st rs) = textN (leftsLeast (trimL st rs) 960) := by simp [madeL, hokT]
      have hU8 := (gramOk_facts hokT).2.1
      rw [e1, e2] at hX7
      rw [e2] at HU7 hcu
      rw [e1, e2]
      clear t0 t1
      obtain ⟨t0, t1⟩ := hX7.cells
      have HUSE : Hid (∀ k (h : k < (bytesOf (symsL (gramTextL st (trimL st rs)) 65 5)).size), ¬ (⟨#[(bytesOf (symsL (gramTextL st (trimL st rs)) 65 5))[k]]⟩ : ByteArray) = st → hasN (leftsLeast (trimL st rs) 960) (bytesOf (symsL (gramTextL st (trimL st rs)) 65 5))[k] = true ∧ hasN (metLeast st (trimL st rs)) (bytesOf (symsL (gramTextL st (trimL st rs)) 65 5))[k] = true) := fun k h hn => bigs_use hok (by
        have h' : k < (symsL (gramTextL st (trimL st rs)) 65 5).length := by rwa [bytesOf_size] at h
        exact List.getElem_mem h') hn
      have hsz : (bytesOf (symsL (gramTextL st (trimL st rs)) 65 5)).size ≤ 5 := by rw [bytesOf_size]; exact symsL_len _ 65 5
      clear hok hokT e1 e2 hl1 hs1 hS1 hb1
      go_wp2_with fail
      refine (gramBigs_any st au cu (trimL st rs) _ HU7 hcu).mono ?_
      rintro e w8 ⟨rfl, hb8⟩
      have hMet : ∀ W, Below w8.heap.size w8 W → Calls Try.prog 25 #[.agg #[.string st, .slice au (trimL st rs).length cu]] W fun e w' => e = .returned (.string (bytesOf (textN (metLeast st (trimL st rs))))) ∧ Below W.heap.size W w' := fun W hW => by
        have h := gramMet_any st au cu (trimL st rs) W ((HU7.below hb8 (Nat.le_refl _)).below hW (Nat.le_refl _)) hcu
        rwa [hMT] at h
      have hMade : ∀ W, Below w8.heap.size w8 W → Calls Try.prog 21 #[.agg #[.string st, .slice au (trimL st rs).length cu]] W fun e w' => e = .returned (.string (bytesOf (textN (leftsLeast (trimL st rs) 960)))) ∧ Below W.heap.size W w' := fun W hW => by
        have h := gramMade_any st au cu (trimL st rs) W ((HU7.below hb8 (Nat.le_refl _)).below hW (Nat.le_refl _)) hcu
        rwa [hDT] at h
      have hG8 := hG7.below hb8
      have hX8 := hX7.below hb8
      have hB8 : Below w.heap.size w w8 := hB7.trans (hb8.mono hB7.size)
      clear hG7 hX7 hR7 HU7 hB7 hb8 hMT hDT s0 s1 t0 t1
      generalize metLeast st (trimL st rs) = m at *
      generalize leftsLeast (trimL st rs) 960 = d at *
      generalize bytesOf (symsL (gramTextL st (trimL st rs)) 65 5) = B at *
      generalize trimL st rs = us at *
      go_wp2_with fail
      go_loopw [6] (fun j wr => ∃ k : Nat, k ≤ B.size ∧ j = .int .i64 k ∧ Below w8.heap.size w8 wr) (fun j _ => B.size - (intOf j).toNat)
      case atStart => exact ⟨0, Nat.zero_le _, rfl, Below.refl _ _⟩
      case round =>
        obtain ⟨k, hk, rfl, hb⟩ := hrel
        obtain ⟨g0, g1⟩ := (hG8.below hb).cells
        obtain ⟨x0, x1⟩ := (hX8.below hb).cells
        by_cases hkl : k < B.size
        · have hcut := cutOne B k hkl
          have hltx := (hX8.below hb).lt
          have q0 : ∀ x, (grow wr x).cell? ⟨w3.heap.size, 0, none⟩ = some (.string st) := fun x => by rw [grow_cell _ _ _ _ hltx]; exact x0
          have q1 : ∀ x, (grow wr x).cell? ⟨w3.heap.size, 1, none⟩ = some (.slice au us.length cu) := fun x => by rw [grow_cell _ _ _ _ hltx]; exact x1
          have C1 : ∀ x, Calls Try.prog 21 #[.agg #[.string st, .slice au us.length cu]] (grow wr x) fun e w' => e = .returned (.string (bytesOf (textN d))) ∧ ∃ y, w' = grow wr y := fun x => Calls.grow_of (hMade _ (hb.trans ((below_grow _ x).mono hb.size)))
          have C2 : ∀ x, Calls Try.prog 25 #[.agg #[.string st, .slice au us.length cu]] (grow wr x) fun e w' => e = .returned (.string (bytesOf (textN m))) ∧ ∃ y, w' = grow wr y := fun x => Calls.grow_of (hMet _ (hb.trans ((below_grow _ x).mono hb.size)))
          have C3 : ∀ x, Calls Try.prog 19 #[.string (bytesOf (textN d)), .int .u8 (B[k].toNat : Int)] (grow wr x) fun e w' => e = .returned (.bool (hasN d B[k])) ∧ ∃ y, w' = grow wr y := fun x => Calls.grow_of_same (wpHas_text d B[k] _)
          have C4 : ∀ x, Calls Try.prog 19 #[.string (bytesOf (textN m)), .int .u8 (B[k].toNat : Int)] (grow wr x) fun e w' => e = .returned (.bool (hasN m B[k])) ∧ ∃ y, w' = grow wr y := fun x => Calls.grow_of_same (wpHas_text m B[k] _)
          by_cases hq : (⟨#[B[k]]⟩ : ByteArray) = st
          · have ht1 : ([B[k]] == st.toList) = true := by rw [← hq, ByteArray.toList_eq]; simp
            have HQ := Lib.hid hq
            clear hq
            go_wp2
            refine wp_region_grow (by kernel_rfl) (by kernel_rfl) ?_
            repeat (go_big_quiet_step ((first | (go_at_call 21; exact C1 _) | (go_at_call 25; exact C2 _) | (go_at_call 19; first | with_reducible exact C3 _ | with_reducible exact C4 _))))
            refine wpQuiet_nil ?_
            rintro _ ⟨x, rfl⟩
            go_wp2
            go_roundw
            case rel => exact ⟨k + 1, by omega, by go_num, hb.trans ((below_grow _ x).mono hb.size)⟩
            case measure => simp [intOf]; omega
          · obtain ⟨h1, h2⟩ := HUSE.out k hkl hq
            have ht1 : ([B[k]] == st.toList) = false := by
              rw [beq_eq_false_iff_ne]
              intro e
              refine hq (bytesOf_ext ?_)
              rw [ByteArray.toList_eq] at e
              rw [← e]
            have HQ := Lib.hid hq
            clear hq
            go_wp2
            refine wp_region_grow (by kernel_rfl) (by kernel_rfl) ?_
            repeat (go_big_quiet_step ((first | (go_at_call 21; exact C1 _) | (go_at_call 25; exact C2 _) | (go_at_call 19; first | with_reducible exact C3 _ | with_reducible exact C4 _))))
            refine wpQuiet_nil ?_
            rintro _ ⟨x, rfl⟩
            go_wp2
            go_roundw
            case rel => exact ⟨k + 1, by omega, by go_num, hb.trans ((below_grow _ x).mono hb.size)⟩
            case measure => simp [intOf]; omega
        · go_wp2
          go_ret
          exact ⟨by simp, hB8.trans (hb.mono hB8.size)⟩
end Go.Proofs.Ytkjaibnjiebgcab
