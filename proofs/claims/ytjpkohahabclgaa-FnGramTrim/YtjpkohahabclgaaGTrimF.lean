/- The walk of FnGramTrim. -/
import Derived.Test.YtjpkohahabclgaaTrimF
import Derived.Test.YtjpkohahabclgaaLawN
import Derived.Test.YtjpkohahabclgaaDrawH
import Derived.Test.YtjpkohahabclgaaSame
namespace Go.Proofs.Ytjpkohahabclgaa
open Go.ChangeShapes Go.WideShapes Go.ChangeAt Go.RowKit
set_option maxRecDepth 100000
theorem convertB (c : UInt8) (w : World) : (convert 46 9 (.slice (some ⟨w.heap.size, 0, none⟩) 1 1)).run Try.prog (w.alloc (.cells #[.int .u8 (c.toNat : Int)] 5)) = .ok (.string ⟨#[c]⟩) (w.alloc (.cells #[.int .u8 (c.toNat : Int)] 5)) :=
  run_convert_bytes_back _ _ _ 5 ⟨w.heap.size, 0, none⟩ 1 [c] Try.underlying46 Try.underlying5 Try.underlying9 (fun j hj => by
    match j, hj with
    | 0, _ => simp [Addr.add])
theorem byteO (c : UInt8) (h : 0 < (⟨#[c]⟩ : ByteArray).size) : (⟨#[c]⟩ : ByteArray)[0]'h = c := rfl
theorem signBig_one (c : UInt8) (w : World) : Calls Try.prog 42 #[.string ⟨#[c]⟩] w fun e w' => e = .returned (.bool (bigN (c.toNat : Int))) ∧ w = w' := by
  have h := signBig_any ⟨#[c]⟩ w
  rwa [oneBig] at h
theorem trim_useful {st : ByteArray} {rs : List RuleT} (hok : gramOkB st rs = true) : usefulL (trimL st rs) = trimL st rs := by
  unfold usefulL
  rw [List.filter_eq_self]
  intro r hr
  refine hasAll_of fun x hx => ?_
  rw [hasN_or]
  cases hb : bigN (x.toNat : Int) with
  | true => rw [(rule_use hok hr hb (Or.inr hx)).1]; rfl
  | false =>
    have hu : usefulP rs r = true := (List.mem_filter.1 (List.mem_filter.1 hr).1).2
    have h1 := hasAll_mem (show hasAllN (leftsLeast rs 960 ||| 960) r.2.data.toList = true from hu) x hx
    rw [hasN_or] at h1
    cases h2 : hasN (leftsLeast rs 960) x with
    | true => rw [big_of (hasN_mono (least_bigs hok 960) h2)] at hb; cases hb
    | false => rw [h2, Bool.false_or] at h1; rw [h1, Bool.or_true]
theorem trim_twice {st : ByteArray} {rs : List RuleT} (hok : gramOkB st rs = true) : trimL st (trimL st rs) = trimL st rs := by
  show (usefulL (trimL st rs)).filter (metP (metLeast st (usefulL (trimL st rs)))) = trimL st rs
  rw [trim_useful hok, List.filter_eq_self]
  intro r hr
  obtain ⟨d, hd, hdb⟩ := ok_mem (ok_trim hok) hr
  refine hasAll_of fun x hx => ?_
  rw [hd] at hx
  obtain rfl : x = d := by simpa using hx
  exact (rule_use hok hr hdb (Or.inl (by rw [hd]; simp))).2
theorem trim_says {st : ByteArray} {rs : List RuleT} (hok : gramOkB st rs = true) (k : Nat) (h : k < (trimL st rs).length) : ∃ d : UInt8, (trimL st rs)[k].1 = ⟨#[d]⟩ ∧ hasN (leftsLeast rs 960) d = true ∧ hasN (metLeast st (trimL st rs)) d = true ∧ ∀ c ∈ (trimL st rs)[k].2.data.toList, bigN (c.toNat : Int) = true → hasN (leftsLeast rs 960) c = true := by
  obtain ⟨d, hd, hdb⟩ := ok_mem (ok_trim hok) (List.getElem_mem h)
  have h1 := rule_use hok (List.getElem_mem h) hdb (Or.inl (by rw [hd]; simp))
  exact ⟨d, hd, hasN_mono (least_fewer (trim_sub st rs) 960) h1.1, h1.2, fun c hc hb => hasN_mono (least_fewer (trim_sub st rs) 960) (rule_use hok (List.getElem_mem h) hb (Or.inr hc)).1⟩
set_option maxHeartbeats 4000000 in
theorem gTrimF_law (a : Option Addr) (n cap : Nat) (w : World) (H : BytesAt w a n cap) :
    Calls Try.prog 12 #[.slice a n cap] w fun e w' => e = .returned (.bool true) ∧ Below w.heap.size w w' := by
  have hm := H.2.1
  unfold maxLen at hm
  by_cases h : (1048576 : Int) < (n : Int)
  · go_enter Try.func12, Try.ntmps12
    go_wp2
    go_ret
    exact ⟨rfl, Below.refl _ _⟩
  go_enter Try.func12, Try.ntmps12
  go_wp2_with fail
  refine (drawGramTrim_any a n cap w H).mono ?_
  rintro e w1 ⟨v1, st, rs, rfl, ⟨b, off, c1, rfl, hc1, hR1, hl1, hs1, hS1, hb1⟩, hB1⟩
  have hbw := (Below.refl w1.heap.size w1).alloc (Nat.le_refl _) (.cells #[.string st, .slice (some ⟨b, off, none⟩) rs.length c1] 24)
  have hR2 := hR1.below hbw (Nat.le_refl _)
  have hG : GBox (w1.alloc (.cells #[.string st, .slice (some ⟨b, off, none⟩) rs.length c1] 24)) w1.heap.size st (some ⟨b, off, none⟩) rs.length c1 := blk_new _ _ rfl
  go_wp2_with fail
  refine (gramTrim_all st (some ⟨b, off, none⟩) c1 rs _ hR2 hc1).mono ?_
  rintro e w3 ⟨au, cu, rfl, hcu, HU, hb3⟩
  have hG3 := hG.below hb3
  have hR3 := hR2.below hb3 (Nat.le_refl _)
  have hB3 : Below w.heap.size w w3 := hB1.trans ((hbw.trans (hb3.mono (by simp))).mono hB1.size)
  obtain ⟨g0, g1⟩ := hG3.cells
  clear hG hR2 hb3 hbw
  have hbx := (Below.refl w3.heap.size w3).alloc (Nat.le_refl _) (.cells #[.string (trimS st rs), .slice au (trimR st rs).length cu] 24)
  have hX4 : GBox (w3.alloc (.cells #[.string (trimS st rs), .slice au (trimR st rs).length cu] 24)) w3.heap.size (trimS st rs) au (trimR st rs).length cu := blk_new _ _ rfl
  have hG4 := hG3.below hbx
  have hR4 := hR3.below hbx (Nat.le_refl _)
  have HU4 := HU.below hbx (Nat.le_refl _)
  have hB4 := hB3.trans (hbx.mono hB3.size)
  clear hG3 hR3 HU hB3 hbx hR1 g0 g1
  obtain ⟨g0, g1⟩ := hG4.cells
  obtain ⟨x0, x1⟩ := hX4.cells
  have hG4d : GBox (w3.alloc (.cells #[.string (trimS st rs), .slice au (trimR st rs).length cu] 24)).drew w1.heap.size st (some ⟨b, off, none⟩) rs.length c1 := hG4
  have hX4d : GBox (w3.alloc (.cells #[.string (trimS st rs), .slice au (trimR st rs).length cu] 24)).drew w3.heap.size (trimS st rs) au (trimR st rs).length cu := hX4
  have hR4d : RulesAt (w3.alloc (.cells #[.string (trimS st rs), .slice au (trimR st rs).length cu] 24)).drew (some ⟨b, off, none⟩) rs := hR4
  have HU4d : RulesAt (w3.alloc (.cells #[.string (trimS st rs), .slice au (trimR st rs).length cu] 24)).drew au (trimR st rs) := HU4
  have hB4d := hB4.drew
  go_wp2_with fail
  go_region_with (first
    | (go_at_call 37; refine (sGramOk_any st (some ⟨b, off, none⟩) c1 rs _ hR6 hc1).mono ?_; rintro e w7 ⟨rfl, hb7⟩; have hG7 := hG6.below hb7; have hX7 := hX6.below hb7; have hR7 := hR6.below hb7 (Nat.le_refl _); have HU7 := HU6.below hb7 (Nat.le_refl _); have hB7 : Below w.heap.size w w7 := hB6.trans (hb7.mono hB6.size); obtain ⟨s0, s1⟩ := hG7.cells; obtain ⟨t0, t1⟩ := hX7.cells)
    | (go_at_call 38; refine (gramSame_any (trimS st rs) (trimS st rs) au av cu cv (trimR st rs) (trimR st rs) _ HU5 HV).mono ?_; rintro e w6 ⟨rfl, hb6⟩; rw [eqG_refl]; have hG6 := hG5.below hb6; have hX6 := hX5.below hb6; have hR6 := hR5.below hb6 (Nat.le_refl _); have HU6 := HU5.below hb6 (Nat.le_refl _); have hB6 : Below w.heap.size w w6 := hB5.trans (hb6.mono hB5.size); obtain ⟨q0, q1⟩ := hG6.cells; obtain ⟨r0, r1⟩ := hX6.cells)
    | (go_at_call 31; refine (sGramTrim_all st (some ⟨b, off, none⟩) c1 rs _ hR4d hc1).mono ?_; rintro e w5 ⟨av, cv, rfl, hcv, HV, hb5⟩; have hG5 := hG4d.below hb5; have hX5 := hX4d.below hb5; have hR5 := hR4d.below hb5 (Nat.le_refl _); have HU5 := HU4d.below hb5 (Nat.le_refl _); have hB5 : Below w.heap.size w w5 := hB4d.trans (hb5.mono hB4d.size); obtain ⟨p0, p1⟩ := hG5.cells; obtain ⟨y0, y1⟩ := hX5.cells)
    | fail)
  all_goals
    clear hG4d hX4d hR4d HU4d hB4d hG4 hX4 hR4 HU4 hB4 hG5 hX5 hR5 HU5 hB5 hG6 hX6 hR6 HU6 hB6 HV hcv hb5 hb6 hb7 p0 p1 y0 y1 q0 q1 r0 r1 g0 g1 x0 x1
    cases hok : gramOkB st rs with
    | false =>
      have hG7d : GBox w7.drew w1.heap.size st (some ⟨b, off, none⟩) rs.length c1 := hG7
      have hX7d : GBox w7.drew w3.heap.size (trimS st rs) au (trimR st rs).length cu := hX7
      have hR7d : RulesAt w7.drew (some ⟨b, off, none⟩) rs := hR7
      have HU7d : RulesAt w7.drew au (trimR st rs) := HU7
      have hB7d := hB7.drew
      go_wp2_with fail
      go_region_with (first
        | (go_at_call 38; refine (gramSame_any (trimS st rs) (trimS st rs) au av2 cu cv2 (trimR st rs) (trimR st rs) _ HU8 HV8).mono ?_; rintro e w9 ⟨rfl, hb9⟩; rw [eqG_refl]; have hB9 : Below w.heap.size w w9 := hB8.trans (hb9.mono hB8.size))
        | (go_at_call 31; refine (sGramTrim_all st (some ⟨b, off, none⟩) c1 rs _ hR7d hc1).mono ?_; rintro e w8 ⟨av2, cv2, rfl, hcv2, HV8, hb8⟩; have hX8 := hX7d.below hb8; have HU8 := HU7d.below hb8 (Nat.le_refl _); have hB8 : Below w.heap.size w w8 := hB7d.trans (hb8.mono hB7d.size); obtain ⟨y0, y1⟩ := hX8.cells)
        | fail)
      all_goals
        go_wp2
        go_ret
        exact ⟨rfl, hB9⟩
    | true =>
      have hokT := ok_trim hok
      have e1 : trimS st rs = st := by simp [trimS, hok]
      have e2 : trimR st rs = trimL st rs := by simp [trimR, hok]
      have hMT : metL st (trimL st rs) = textN (metLeast st (trimL st rs)) := by simp [metL, hokT]
      have hDT : madeL st rs = textN (leftsLeast rs 960) := by simp [madeL, hok]
      have hU8 := (gramOk_facts hokT).2.1
      rw [e1, e2] at hX7
      rw [e2] at HU7 hcu
      rw [e1, e2]
      clear t0 t1
      obtain ⟨t0, t1⟩ := hX7.cells
      have HUSE : Hid (∀ k (h : k < (trimL st rs).length), ∃ d : UInt8, (trimL st rs)[k].1 = ⟨#[d]⟩ ∧ hasN (leftsLeast rs 960) d = true ∧ hasN (metLeast st (trimL st rs)) d = true ∧ ∀ c ∈ (trimL st rs)[k].2.data.toList, bigN (c.toNat : Int) = true → hasN (leftsLeast rs 960) c = true) := trim_says hok
      have HOKS : Hid (∀ i (hi : i < (trimL st rs).length), (trimL st rs)[i].1.size = 1 ∧ (trimL st rs)[i].2.size ≤ 4) := (gramOk_facts hokT).2.2
      have HT2 : Hid (trimS st (trimL st rs) = st ∧ trimR st (trimL st rs) = trimL st rs) := ⟨by simp [trimS, hokT], by simp only [trimR, hokT, if_true]; exact trim_twice hok⟩
      have HOKT := Lib.hid hokT
      clear e1 e2 hl1 hs1 hS1 hb1
      go_wp2_with fail
      refine (gramMade_any st (some ⟨b, off, none⟩) c1 rs _ hR7 hc1).mono ?_
      rintro e w8 ⟨rfl, hb8⟩
      rw [hDT]
      have hX8 := hX7.below hb8
      have HU8 := HU7.below hb8 (Nat.le_refl _)
      have hB8 : Below w.heap.size w w8 := hB7.trans (hb8.mono hB7.size)
      clear hG7 hX7 hR7 HU7 hB7 hb8 hDT s0 s1 t0 t1 hok hokT
      obtain ⟨t0, t1⟩ := hX8.cells
      go_wp2_with fail
      refine (gramMet_any st au cu (trimL st rs) _ HU8 hcu).mono ?_
      rintro e w9 ⟨rfl, hb9⟩
      rw [hMT]
      have hX9 := hX8.below hb9
      have HU9 := HU8.below hb9 (Nat.le_refl _)
      have hB9 : Below w.heap.size w w9 := hB8.trans (hb9.mono hB8.size)
      clear hX8 HU8 hB8 hb9 hMT t0 t1
      generalize metLeast st (trimL st rs) = m at *
      generalize leftsLeast rs 960 = d at *
      generalize trimL st rs = us at *
      have hbx := byteO
      go_wp2
      go_loopw [7] (fun j wr => ∃ k : Nat, k ≤ us.length ∧ j = .int .i64 k ∧ Below w9.heap.size w9 wr) (fun j _ => us.length - (intOf j).toNat)
      case atStart => exact ⟨0, Nat.zero_le _, rfl, Below.refl _ _⟩
      case round =>
        obtain ⟨k, hk, rfl, hb⟩ := hrel
        obtain ⟨x0, x1⟩ := (hX9.below hb).cells
        by_cases hkl : k < us.length
        · have hkl' : (k : Int) < (us.length : Int) := by omega
          have hr4 := (HOKS.out k hkl).2
          obtain ⟨c, hcc, hh1, hh2, hUse⟩ := HUSE.out k hkl
          have HU := Lib.hid hUse
          clear hUse
          obtain ⟨_, _, b2, off2, e, _, t1, t2⟩ := (HU9.below hb (Nat.le_refl _)).2 k hkl
          cases e
          rw [hcc] at t1
          go_wp2_with fail
          refine (wpHas_text d c _).mono ?_
          rintro e w' ⟨rfl, rfl⟩
          rw [hh1]
          go_wp2_with fail
          refine (wpHas_text m c _).mono ?_
          rintro e w' ⟨rfl, rfl⟩
          rw [hh2]
          go_wp2
          go_loopw [8] (fun j wr => ∃ p : Nat, p ≤ us[k].2.size ∧ j = .int .i64 p ∧ Below w9.heap.size w9 wr) (fun j _ => us[k].2.size - (intOf j).toNat)
          case atStart => exact ⟨0, Nat.zero_le _, rfl, hb⟩
          case round =>
            obtain ⟨p, hp, rfl, hb2⟩ := hrel
            clear x0 x1 t1 t2
            obtain ⟨y0, y1⟩ := (hX9.below hb2).cells
            obtain ⟨_, _, b2, off2, e, _, t1, t2⟩ := (HU9.below hb2 (Nat.le_refl _)).2 k hkl
            cases e
            rw [hcc] at t1
            by_cases hpl : p < us[k].2.size
            · have hcv := convertB us[k].2[p] wr
              have HH : Hid (bigN (us[k].2[p].toNat : Int) = true → hasN d us[k].2[p] = true) := HU.out us[k].2[p] (by show us[k].2.data[p] ∈ _; simp)
              cases hbp : bigN (us[k].2[p].toNat : Int) with
              | false =>
                go_wp2_with fail
                refine (signBig_one us[k].2[p] _).mono ?_
                rintro e w' ⟨rfl, rfl⟩
                go_wp2
                go_roundw
                case rel => exact ⟨p + 1, by omega, by go_num, hb2.alloc hb2.size _⟩
                case measure => simp [intOf]; omega
              | true =>
                have hhp := HH.out hbp
                go_wp2_with fail
                refine (signBig_one us[k].2[p] _).mono ?_
                rintro e w' ⟨rfl, rfl⟩
                go_wp2_with fail
                refine (wpHas_text d us[k].2[p] _).mono ?_
                rintro e w' ⟨rfl, rfl⟩
                go_wp2
                go_roundw
                case rel => exact ⟨p + 1, by omega, by go_num, hb2.alloc hb2.size _⟩
                case measure => simp [intOf]; omega
            · go_wp2
              go_roundw
              case rel => exact ⟨k + 1, by omega, by go_num, hb2⟩
              case measure => simp [intOf]; omega
        · have hkl' : ¬ (k : Int) < (us.length : Int) := by omega
          have hXa : GBox wr.drew w3.heap.size st au us.length cu := hX9.below hb.drew
          have HUa : RulesAt wr.drew au us := HU9.below hb.drew (Nat.le_refl _)
          have hBa : Below w.heap.size w wr.drew := (hB9.trans (hb.mono hB9.size)).drew
          go_wp2_with fail
          go_region_with (first
            | (go_at_call 38; refine (gramSame_any st st av au cv cu us us _ HV HUe).mono ?_; rintro e wf ⟨rfl, hbf⟩; rw [eqG_refl]; have hBf : Below w.heap.size w wf := hBe.trans (hbf.mono hBe.size))
            | (go_at_call 32; refine (gramTrim_all st au cu us _ HUb hcu).mono ?_; rintro e we ⟨av, cv, rfl, hcv, HV, hbe⟩; rw [HT2.out.1, HT2.out.2]; rw [HT2.out.2] at HV; have hXe := hXb.below hbe; have HUe := HUb.below hbe (Nat.le_refl _); have hBe : Below w.heap.size w we := hBb.trans (hbe.mono hBb.size); obtain ⟨y0, y1⟩ := hXe.cells)
            | (go_at_call 36; refine (gramOk_any st au cu us _ HUa hcu).mono ?_; rintro e wb ⟨rfl, hbb⟩; rw [HOKT.out]; have hXb := hXa.below hbb; have HUb := HUa.below hbb (Nat.le_refl _); have hBb : Below w.heap.size w wb := hBa.trans (hbb.mono hBa.size); obtain ⟨x0', x1'⟩ := hXb.cells)
            | fail)
          all_goals
            go_wp2
            go_ret
            exact ⟨rfl, hBf⟩
end Go.Proofs.Ytjpkohahabclgaa
