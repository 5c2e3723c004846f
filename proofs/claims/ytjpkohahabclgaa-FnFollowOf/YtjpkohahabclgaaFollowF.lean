/- The walk of FnFollowOf. -/
import Derived.Test.YtjpkohahabclgaaFolE
import Derived.Test.YtjpkohahabclgaaLawN
import Derived.Test.YtjpkohahabclgaaDrawI
namespace Go.Proofs.Ytjpkohahabclgaa
open Go.ChangeShapes Go.WideShapes Go.ChangeAt Go.RowKit
set_option maxRecDepth 100000
theorem hasN_at {m : Nat} {B : ByteArray} (e : B = bytesOf (textN m)) {k : Nat} (h : k < B.size) : hasN m B[k] = true := by
  subst e
  have h' : k < (textN m).length := by rwa [bytesOf_size] at h
  have e : (bytesOf (textN m))[k]'h = (textN m)[k] := rfl
  have hm : (textN m)[k] ∈ textN m := List.getElem_mem h'
  rw [← e] at hm
  exact (List.mem_filter.1 hm).2
theorem textS_size (m : Nat) : (bytesOf (textN m)).size ≤ 10 := by rw [bytesOf_size]; exact text_len m
theorem wpHas_textS {m : Nat} {S : ByteArray} (e : S = bytesOf (textN m)) (c : UInt8) (w : World) :
    Calls Try.prog 46 #[.string S, .int .u8 (c.toNat : Int)] w fun e w' => e = .returned (.bool (hasN m c)) ∧ w = w' := by
  subst e; exact wpHas_text m c w
set_option maxHeartbeats 8000000 in
theorem followF_law (a : Option Addr) (n cap : Nat) (w : World) (H : BytesAt w a n cap) :
    Calls Try.prog 11 #[.slice a n cap] w fun e w' => e = .returned (.bool true) ∧ Below w.heap.size w w' := by
  have hm := H.2.1
  unfold maxLen at hm
  by_cases h : (1048576 : Int) < (n : Int)
  · go_enter Try.func11, Try.ntmps11
    go_wp2
    go_ret
    exact ⟨rfl, Below.refl _ _⟩
  go_enter Try.func11, Try.ntmps11
  go_wp2_with fail
  refine (drawFollowOf_any a n cap w H).mono ?_
  rintro e w1 ⟨v1, st, rs, s, rfl, ⟨b, off, c1, rfl, hc1, hR1, hl1, hs1, hS1, hb1⟩, hss, hB1⟩
  obtain ⟨F, hF⟩ := exists_first rs (leftsLeast rs 0)
  obtain ⟨K, hK⟩ := exists_follow (headB st) rs (leftsLeast rs 0) hF.1
  have hbw := (Below.refl w1.heap.size w1).alloc (Nat.le_refl _) (.cells #[.string st, .slice (some ⟨b, off, none⟩) rs.length c1] 24)
  have hR2 := hR1.below hbw (Nat.le_refl _)
  have hG : GBox (w1.alloc (.cells #[.string st, .slice (some ⟨b, off, none⟩) rs.length c1] 24)) w1.heap.size st (some ⟨b, off, none⟩) rs.length c1 := blk_new _ _ rfl
  go_wp2_with fail
  refine (followOf_fix hF hK (some ⟨b, off, none⟩) c1 s _ hR2 hc1).mono ?_
  rintro e w3 ⟨rfl, hb3⟩
  have hG3 := hG.below hb3
  have hR3 := hR2.below hb3 (Nat.le_refl _)
  have hB3 : Below w.heap.size w w3 := hB1.trans ((hbw.trans (hb3.mono (by simp))).mono hB1.size)
  obtain ⟨g0, g1⟩ := hG3.cells
  clear hG hR2 hb3 hbw
  go_wp2_with fail
  refine (sFollowOf_fix hF hK (some ⟨b, off, none⟩) c1 s _ hR3 hc1).mono ?_
  rintro e w4 ⟨rfl, hb4⟩
  have hG4 := hG3.below hb4
  have hR4 := hR3.below hb4 (Nat.le_refl _)
  have hB4 : Below w.heap.size w w4 := hB3.trans (hb4.mono hB3.size)
  clear g0 g1 hG3 hR3 hb4 hB3 hR1
  obtain ⟨g0, g1⟩ := hG4.cells
  have hnq : ((bytesOf (followRes st rs K s)).toList != (bytesOf (followRes st rs K s)).toList) = false := by simp
  go_wp2_with fail
  refine (sGramOk_any st (some ⟨b, off, none⟩) c1 rs _ hR4 hc1).mono ?_
  rintro e w5 ⟨rfl, hb5⟩
  have hG5 := hG4.below hb5
  have hR5 := hR4.below hb5 (Nat.le_refl _)
  have hB5 : Below w.heap.size w w5 := hB4.trans (hb5.mono hB4.size)
  clear g0 g1 hG4 hR4 hb5 hB4
  obtain ⟨g0, g1⟩ := hG5.cells
  cases hok : gramOkB st rs with
  | false =>
    go_wp2_with fail
    refine (sFollowOf_fix hF hK (some ⟨b, off, none⟩) c1 s _ hR5 hc1).mono ?_
    rintro e w6 ⟨rfl, hb6⟩
    go_wp2
    go_ret
    exact ⟨rfl, hB5.trans (hb6.mono hB5.size)⟩
  | true =>
    go_wp2_with fail
    refine (signBig_any s _).mono ?_
    rintro e w6 ⟨rfl, rfl⟩
    cases hbs : isBigS s with
    | false =>
      go_wp2_with fail
      refine (sFollowOf_fix hF hK (some ⟨b, off, none⟩) c1 s _ hR5 hc1).mono ?_
      rintro e w6 ⟨rfl, hb6⟩
      go_wp2
      go_ret
      exact ⟨rfl, hB5.trans (hb6.mono hB5.size)⟩
    | true =>
      obtain ⟨c, rfl, hbig⟩ := big_str hbs
      obtain ⟨c0, rfl, hbig0⟩ := ok_begin hok
      have hres : followRes ⟨#[c0]⟩ rs K ⟨#[c]⟩ = textN (K.get c) := by unfold followRes; rw [if_pos (by simp [followAsk, hok, hbs])]; rfl
      rw [hres]
      have hmm := hK.1.get c
      obtain ⟨m, hmk⟩ : ∃ m, K.get c = m := ⟨_, rfl⟩
      have HEND : Hid (c = c0 → hasN m 36 = true) := by
        show _ → _
        rintro rfl
        have h1 := follow_end hK
        have h2 : headB (⟨#[c]⟩ : ByteArray) = c := rfl
        rw [h2, hmk] at h1
        exact h1
      have HFOL : Hid (∀ k (hk : k < rs.length) p (hp : p < rs[k].2.size), rs[k].2[p] = c → Sub (tailA (leftsLeast rs 0) F rs[k] p).1 m ∧ ((tailA (leftsLeast rs 0) F rs[k] p).2 = true → Sub (K.get (leftC rs[k])) m)) := fun k hk p hp hc => by
        have h1 := follow_says hK hk hp hc hbig
        rwa [hmk] at h1
      have HOKS : Hid (∀ i (hi : i < rs.length), rs[i].1.size = 1 ∧ rs[i].2.size ≤ 4) := (gramOk_facts hok).2.2
      have hl8 := (gramOk_facts hok).2.1
      have HOK := Lib.hid hok
      have HF := Lib.hid hF
      have HK := Lib.hid hK
      obtain ⟨S, hS⟩ : ∃ S, S = bytesOf (textN m) := ⟨_, rfl⟩
      have HS := Lib.hid hS
      rw [hmk, ← hS]
      clear hres hnq hmk hS hok hF hK hl1 hs1 hS1 hb1 hbs hss hmm
      go_wp2
      go_loopw [6] (fun j wr => ∃ k : Nat, k ≤ rs.length ∧ j = .int .i64 k ∧ Below w5.heap.size w5 wr) (fun j _ => rs.length - (intOf j).toNat)
      case atStart => exact ⟨0, Nat.zero_le _, rfl, Below.refl _ _⟩
      case round =>
        obtain ⟨k, hk, rfl, hb⟩ := hrel
        clear g0 g1
        obtain ⟨x0, x1⟩ := (hG5.below hb).cells
        by_cases hkl : k < rs.length
        · have hkl' : (k : Int) < (rs.length : Int) := by omega
          have hr4 := (HOKS.out k hkl).2
          obtain ⟨cl, hcl, hbigL⟩ := ok_left HOK.out hkl
          obtain ⟨_, _, b2, off2, e, hbb, t1, t2⟩ := (hR5.below hb (Nat.le_refl _)).2 k hkl
          cases e
          rw [hcl] at t1
          have HLC : Hid (leftC rs[k] = cl) := by show _ = _; unfold leftC; rw [hcl]; rfl
          have HTR : Hid (∀ p, firstRes ⟨#[c0]⟩ rs F (rs[k].2.extract (p + 1) rs[k].2.size) = (textN (tailA (leftsLeast rs 0) F rs[k] p).1, (tailA (leftsLeast rs 0) F rs[k] p).2)) := fun p => tail_res HOK.out hkl p
          have HUP : Hid (followRes ⟨#[c0]⟩ rs K ⟨#[cl]⟩ = textN (K.get cl)) := by show _ = _; unfold followRes; rw [if_pos (by unfold followAsk; rw [HOK.out, big_one, hbigL]; rfl)]; rfl
          have HFk := Lib.hid (HFOL.out k hkl)
          have hX0 : (wr.alloc (.cells #[.string ⟨#[cl]⟩, .string rs[k].2] 55)).heap[wr.heap.size]? = some (.cells #[.string ⟨#[cl]⟩, .string rs[k].2] 55) := blk_new _ _ rfl
          have hb0 := hb.alloc hb.size (.cells #[.string ⟨#[cl]⟩, .string rs[k].2] 55)
          go_wp2
          generalize wr.heap.size = xb at *
          go_loopw [8] (fun j ww => ∃ p : Nat, p ≤ rs[k].2.size ∧ j = .int .i64 p ∧ ww.heap[xb]? = some (.cells #[.string ⟨#[cl]⟩, .string rs[k].2] 55) ∧ Below w5.heap.size w5 ww) (fun j _ => rs[k].2.size - (intOf j).toNat)
          case atStart => exact ⟨0, Nat.zero_le _, rfl, hX0, hb0⟩
          case round =>
            obtain ⟨p, hp, rfl, hX, hb2⟩ := hrel
            clear x0 x1 t1 t2 hX0 hb0
            have hG6 := hG5.below hb2
            obtain ⟨g0, g1⟩ := hG6.cells
            have hltx := (Array.getElem?_eq_some_iff.1 hX).1
            have hltg := hG6.lt
            have y0 : wr.cell? ⟨xb, 0, none⟩ = some (.string ⟨#[cl]⟩) := by rw [cell_of_block hX 0]; rfl
            have y1 : wr.cell? ⟨xb, 1, none⟩ = some (.string rs[k].2) := by rw [cell_of_block hX 1]; rfl
            by_cases hpl : p < rs[k].2.size
            · have hpl' : (p : Int) < (rs[k].2.size : Int) := by omega
              have hcut := cut_one rs[k].2 p hpl
              obtain ⟨d, hd⟩ : ∃ d, rs[k].2[p] = d := ⟨_, rfl⟩
              rw [hd] at hcut
              by_cases hq : d = c
              · subst hq
                have h1 := HFk.out p hpl hd
                have h2 := HTR.out p
                obtain ⟨T, hT⟩ : ∃ T, rs[k].2.extract (p + 1) rs[k].2.size = T := ⟨_, rfl⟩
                have hszT : T.size ≤ maxLen := by rw [← hT]; unfold maxLen; simp; omega
                rw [hT] at h2
                obtain ⟨ra, rb, hab⟩ : ∃ ra rb, tailA (leftsLeast rs 0) F rs[k] p = (ra, rb) := ⟨_, _, rfl⟩
                rw [hab] at h1 h2
                obtain ⟨B1, hB1e⟩ : ∃ B1, B1 = bytesOf (textN ra) := ⟨_, rfl⟩
                have HW : ∀ x, RulesAt (grow wr x) (some ⟨b, off, none⟩) rs := fun x => (hR5.below hb2 (Nat.le_refl _)).below (below_grow _ x) (Nat.le_refl _)
                have CF : ∀ x, Calls Try.prog 45 #[.agg #[.string ⟨#[c0]⟩, .slice (some ⟨b, off, none⟩) rs.length c1], .string T] (grow wr x) fun e w' => e = .returned (.tuple #[.string B1, .bool rb]) ∧ ∃ y, w' = grow wr y := fun x => Calls.grow_of (by have h := firstOf_fix HF.out ⟨#[c0]⟩ (some ⟨b, off, none⟩) c1 T (grow wr x) (HW x) hc1 hszT; rw [h2] at h; rw [hB1e]; exact h)
                have q0 : ∀ x, (grow wr x).cell? ⟨w1.heap.size, 0, none⟩ = some (.string ⟨#[c0]⟩) := fun x => by rw [grow_cell _ _ _ _ hltg]; exact g0
                have q1 : ∀ x, (grow wr x).cell? ⟨w1.heap.size, 1, none⟩ = some (.slice (some ⟨b, off, none⟩) rs.length c1) := fun x => by rw [grow_cell _ _ _ _ hltg]; exact g1
                have q2 : ∀ x, (grow wr x).cell? ⟨xb, 1, none⟩ = some (.string rs[k].2) := fun x => by rw [grow_cell _ _ _ _ hltx]; exact y1
                have HU1 : Hid (∀ i (hi : i < B1.size), hasN m B1[i] = true) := fun i hi => hasN_mono h1.1 (hasN_at hB1e hi)
                have hsz1 : B1.size ≤ 10 := by rw [hB1e]; exact textS_size ra
                obtain ⟨B2, hB2e⟩ : ∃ B2, B2 = bytesOf (textN (K.get cl)) := ⟨_, rfl⟩
                have HU2 : Hid (rb = true → ∀ i (hi : i < B2.size), hasN m B2[i] = true) := fun hr i hi => hasN_mono (by have := h1.2 hr; rw [HLC.out] at this; exact this) (hasN_at hB2e hi)
                have hsz2 : B2.size ≤ 10 := by rw [hB2e]; exact textS_size _
                have HUP2 : Hid (bytesOf (followRes ⟨#[c0]⟩ rs K ⟨#[cl]⟩) = B2) := by show _ = _; rw [HUP.out, hB2e]
                clear h1 h2 hab hB1e hB2e
                go_wp2_with fail
                refine wp_region_grow (by kernel_rfl) (by kernel_rfl) ?_
                repeat (go_big_quiet_step ((first | (go_at_call 45; exact CF _))))
                refine wpQuiet_nil ?_
                rintro _ ⟨x, rfl⟩
                have hbx := below_grow wr x
                have hG7 := hG6.below hbx
                have hX7 : (grow wr x).heap[xb]? = some (.cells #[.string ⟨#[cl]⟩, .string rs[k].2] 55) := (hbx.block _ hltx).trans hX
                have hb3 := hb2.trans (hbx.mono hb2.size)
                clear q0 q1 q2 CF HW g0 g1 y0 y1 hG6 hX hb2 hbx hltx hltg
                generalize grow wr x = wx at *
                obtain ⟨g0, g1⟩ := hG7.cells
                have y0 : wx.cell? ⟨xb, 0, none⟩ = some (.string ⟨#[cl]⟩) := by rw [cell_of_block hX7 0]; rfl
                have hR7 := hR5.below hb3 (Nat.le_refl _)
                go_wp2_with fail
                refine (followOf_fix HF.out HK.out (some ⟨b, off, none⟩) c1 ⟨#[cl]⟩ _ hR7 hc1).mono ?_
                rintro e wy ⟨rfl, hby⟩
                rw [HUP2.out]
                have hX8 : wy.heap[xb]? = some (.cells #[.string ⟨#[cl]⟩, .string rs[k].2] 55) := (hby.block _ (Array.getElem?_eq_some_iff.1 hX7).1).trans hX7
                have hb4 := hb3.trans (hby.mono hb3.size)
                clear g0 g1 y0 hG7 hX7 hb3 hby hR7 hd hcut hT
                go_wp2_with fail
                go_loopw [12] (fun j ww => ∃ i : Nat, i ≤ B1.size ∧ j = .int .i64 i ∧ ww.heap[xb]? = some (.cells #[.string ⟨#[cl]⟩, .string rs[k].2] 55) ∧ Below w5.heap.size w5 ww) (fun j _ => B1.size - (intOf j).toNat)
                case atStart => exact ⟨0, Nat.zero_le _, rfl, hX8, hb4⟩
                case round =>
                  obtain ⟨i, hi, rfl, hX9, hb9⟩ := hrel
                  by_cases hil : i < B1.size
                  · have hh := HU1.out i hil
                    have hil' : (i : Int) < (B1.size : Int) := by omega
                    go_wp2_with (go_at_call 46; refine (wpHas_textS HS.out B1[i] _).mono ?_; rintro e w' ⟨rfl, rfl⟩; rw [hh])
                    go_roundw
                    case rel => exact ⟨i + 1, by omega, by go_num, hX9, hb9⟩
                    case measure => simp [intOf]; omega
                  · have hil' : ¬ (i : Int) < (B1.size : Int) := by omega
                    go_wp2_with fail
                    go_loopw [13] (fun j ww => ∃ i : Nat, i ≤ B2.size ∧ j = .int .i64 i ∧ ww.heap[xb]? = some (.cells #[.string ⟨#[cl]⟩, .string rs[k].2] 55) ∧ Below w5.heap.size w5 ww) (fun j _ => B2.size - (intOf j).toNat)
                    case atStart => exact ⟨0, Nat.zero_le _, rfl, hX9, hb9⟩
                    case round =>
                      obtain ⟨i2, hi2, rfl, hXa, hba⟩ := hrel
                      by_cases hjl : i2 < B2.size
                      · have hjl' : (i2 : Int) < (B2.size : Int) := by omega
                        cases rb with
                        | true =>
                          have hh := HU2.out rfl i2 hjl
                          go_wp2_with (go_at_call 46; refine (wpHas_textS HS.out B2[i2] _).mono ?_; rintro e w' ⟨rfl, rfl⟩; rw [hh])
                          go_roundw
                          case rel => exact ⟨i2 + 1, by omega, by go_num, hXa, hba⟩
                          case measure => simp [intOf]; omega
                        | false =>
                          go_wp2
                          go_roundw
                          case rel => exact ⟨p + 1, by omega, by go_num, hXa, hba⟩
                          case measure => simp [intOf]; omega
                      · have hjl' : ¬ (i2 : Int) < (B2.size : Int) := by omega
                        go_wp2
                        go_roundw
                        case rel => exact ⟨p + 1, by omega, by go_num, hXa, hba⟩
                        case measure => simp [intOf]; omega
              · have hqb : (d == c) = false := by simpa using hq
                have HQ := Lib.hid hq
                clear hq
                go_wp2
                go_roundw
                case rel => exact ⟨p + 1, by omega, by go_num, hX, hb2⟩
                case measure => simp [intOf]; omega
            · have hpl' : ¬ (p : Int) < (rs[k].2.size : Int) := by omega
              go_wp2
              go_roundw
              case rel => exact ⟨k + 1, by omega, by go_num, hb2⟩
              case measure => simp [intOf]; omega
        · have hkl' : ¬ (k : Int) < (rs.length : Int) := by omega
          by_cases hq : c = c0
          · have he := HEND.out hq
            subst hq
            go_wp2_with (go_at_call 46; refine (wpHas_textS HS.out 36 _).mono ?_; rintro e w' ⟨rfl, rfl⟩; rw [he])
            go_ret
            exact ⟨rfl, hB5.trans (hb.mono hB5.size)⟩
          · have hqb : (c == c0) = false := by simpa using hq
            clear hq
            go_wp2
            go_ret
            exact ⟨rfl, hB5.trans (hb.mono hB5.size)⟩
end Go.Proofs.Ytjpkohahabclgaa
