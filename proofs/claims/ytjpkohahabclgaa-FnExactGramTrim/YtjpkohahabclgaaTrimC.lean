/- The contract of GramTrim of the model at rules that are right. -/
import Derived.Test.YtjpkohahabclgaaTrimB
import Derived.Test.YtjpkohahabclgaaLeast
import Derived.Test.YtjpkohahabclgaaMetE
namespace Go.Proofs.Ytjpkohahabclgaa
open Go.ChangeShapes Go.WideShapes Go.ChangeAt Go.RowKit
set_option maxRecDepth 100000
theorem OwnR.mono2 {w : World} {B B' : Nat} {v : Value} {rs : List RuleT} (h : OwnR w B v rs) (hB : B' ≤ B) : OwnR w B' v rs := by
  obtain ⟨⟨g, cap, e, hg, hl⟩, h2⟩ := h
  exact ⟨⟨g, cap, e, Nat.le_trans hB hg, hl⟩, OwnN.mono (rs := rs) h2 hB⟩
/-- under way: the box behind W0 holds the rules kept so far -/
def UseS (st : ByteArray) (us : List RuleT) (W0 wr : World) : Prop := ∃ g cp, BoxG wr (W0.heap.size + 1) (.string st) (.slice (some ⟨g, 0, none⟩) us.length cp) ∧ OwnR wr W0.heap.size (.slice (some ⟨g, 0, none⟩) us.length cp) us ∧ Below W0.heap.size W0 wr
theorem useS_start (st : ByteArray) (W : World) : UseS st [] W ((W.alloc (.cells #[] 55)).alloc (.cells #[.string st, .slice (some ⟨W.heap.size, 0, none⟩) 0 0] 24)) :=
  ⟨W.heap.size, 0, blk_new _ _ (by simp), (own_new W W.heap.size (Nat.le_refl _)).alloc _, ((Below.refl _ _).alloc (Nat.le_refl _) _).alloc (by simp) _⟩
theorem useful_step {rs : List RuleT} {k : Nat} (hk : k < rs.length) {c : UInt8} (hc : rs[k].1 = ⟨#[c]⟩) (hb : bigN (c.toNat : Int) = true) : usefulP rs rs[k] = true → hasN (leftsLeast rs 960) c = true := by
  intro h
  have := (leftsClosed_iff rs 960 _).1 (leftsLeast_closed rs 960) rs[k] (List.getElem_mem hk) h
  rw [hc, show (⟨#[c]⟩ : ByteArray).data.toList = [c] from rfl, setN_one] at this
  exact hasN_of_sub (bigs_ord hb) this
set_option maxHeartbeats 4000000 in
theorem l2Useful_any (st : ByteArray) (a : Option Addr) (cap : Nat) (rs : List RuleT) (w : World) (H : RulesAt w a rs) (hok : gramOkB st rs = true) :
    Calls Try.prog 67 #[.agg #[.string st, .slice a rs.length cap]] w fun e w' => ∃ v, e = .returned (.agg #[.string st, v]) ∧ OwnR w' w.heap.size v (trimL st rs) ∧ Below w.heap.size w w' := by
  obtain ⟨f1, f2, f3⟩ := gramOk_facts hok
  have F3 := Lib.hid f3
  have HOK := Lib.hid hok
  clear f3
  go_enter Try.func67, Try.ntmps67
  have hb1 := ((Below.refl w.heap.size w).alloc (Nat.le_refl _) (.cells #[.string st, .slice a rs.length cap] 24)).alloc (by simp) (.cells #[.string ⟨#[]⟩, .slice none 0 0] 24)
  have hA1 : BoxG ((w.alloc (.cells #[.string st, .slice a rs.length cap] 24)).alloc (.cells #[.string ⟨#[]⟩, .slice none 0 0] 24)) w.heap.size (.string st) (.slice a rs.length cap) := BoxG.old (blk_new _ _ rfl) _
  have hZ1 : BoxG ((w.alloc (.cells #[.string st, .slice a rs.length cap] 24)).alloc (.cells #[.string ⟨#[]⟩, .slice none 0 0] 24)) (w.heap.size + 1) (.string ⟨#[]⟩) (.slice none 0 0) := blk_new _ _ (by simp)
  go_wp2_with fail
  refine (l2Grow_any st a cap rs true _ (H.below hb1 (Nat.le_refl _)) HOK.out).mono ?_
  rintro e w1 ⟨rfl, hb1'⟩
  have hB1 : Below w.heap.size w w1 := hb1.trans (hb1'.mono (by simp; omega))
  have hA := hA1.below hb1'
  have hZ := hZ1.below hb1'
  have H1 := H.below hB1 (Nat.le_refl _)
  clear hb1 hb1' hA1 hZ1
  rw [show smallSet true = 960 from rfl]
  obtain ⟨a0, a1, _, _⟩ := hA.cells
  have hAl := hA.lt
  have hS := useS_start st w1
  go_wp2_with fail
  go_loopw [5] (fun i wr => ∃ k : Nat, k ≤ rs.length ∧ i = .int .i64 k ∧ UseS st (keptTo (usefulP rs) rs k) w1 wr) (fun i _ => rs.length - (intOf i).toNat)
  case atStart => exact ⟨0, Nat.zero_le _, rfl, hS⟩
  case round =>
    obtain ⟨k, hk, rfl, g, cp, hO, hown, hb⟩ := hrel
    have hAr : BoxG wr w.heap.size (.string st) (.slice a rs.length cap) := hA.below hb
    clear a0 a1
    obtain ⟨a0, a1, _, _⟩ := hAr.cells
    by_cases hlt : k < rs.length
    · obtain ⟨z1, z2, b, off, e, hbb, c1, c2⟩ := H1.2 k hlt
      obtain ⟨c, hc, hbig⟩ := ok_left HOK.out hlt
      subst e
      have hfk := F3.out k hlt
      have hsz1 : (⟨#[c]⟩ : ByteArray).size ≤ 100 := by simp [ByteArray.size]
      have d1 : wr.cell? ⟨b, off + k * 2, none⟩ = some (.string ⟨#[c]⟩) := by rw [hb.cell (p := ⟨b, _, none⟩) hbb, c1, hc]
      have d2 : wr.cell? ⟨b, off + k * 2 + 1, none⟩ = some (.string rs[k].2) := by rw [hb.cell (p := ⟨b, _, none⟩) hbb, c2]
      have hkl : (k : Int) < (rs.length : Int) := by omega
      have HSU := Lib.hid (keptTo_succ (usefulP rs) rs k hlt)
      have hus := useful_step hlt hc hbig
      have HRK : Hid (rs[k] = (⟨#[c]⟩, rs[k].2)) := by show _ = _; rw [← hc]
      have hall : usefulP rs rs[k] = hasAllN (leftsLeast rs 960 ||| smallSet true) rs[k].2.data.toList := rfl
      clear hc c1 c2
      cases hh : usefulP rs rs[k] with
      | false =>
        have HH := Lib.hid hh
        have h2 : hasAllN (leftsLeast rs 960 ||| smallSet true) rs[k].2.data.toList = false := hall ▸ hh
        cases h1 : hasN (leftsLeast rs 960) c with
        | false =>
          go_wp2_with (first | (go_at_call 110; refine (l1In_text (leftsLeast rs 960) c _).mono ?_; rintro e w' ⟨rfl, rfl⟩))
          go_roundw
          case rel => exact ⟨k + 1, by omega, by go_num, by rw [HSU.out, if_neg (by rw [HH.out]; simp)]; exact ⟨g, cp, hO, hown, hb⟩⟩
          case measure => simp [intOf]; omega
        | true =>
          go_wp2_with (first | (go_at_call 110; refine (l1In_text (leftsLeast rs 960) c _).mono ?_; rintro e w' ⟨rfl, rfl⟩) | (go_at_call 105; refine (l2All_any rs[k].2 (leftsLeast rs 960) true _ z2).mono ?_; rintro e w' ⟨rfl, rfl⟩))
          go_roundw
          case rel => exact ⟨k + 1, by omega, by go_num, by rw [HSU.out, if_neg (by rw [HH.out]; simp)]; exact ⟨g, cp, hO, hown, hb⟩⟩
          case measure => simp [intOf]; omega
      | true =>
        have HH := Lib.hid hh
        have h2 : hasAllN (leftsLeast rs 960 ||| smallSet true) rs[k].2.data.toList = true := hall ▸ hh
        have h1 := hus hh
        clear hus hall hh
        have hlen := keptTo_len (usefulP rs) rs k
        have O1 := (hown.alloc (.cells #[.string ⟨#[c]⟩, .string rs[k].2] 55)).drew
        have U1 := (lit_rules wr ⟨#[c]⟩ rs[k].2 hsz1 (by omega)).drew2
        obtain ⟨x0, x1, xf0, xf1⟩ := hO.cells
        have hOl := hO.lt
        have n1 : ¬ w.heap.size = w1.heap.size + 1 := by omega
        generalize keptTo (usefulP rs) rs k = us at *
        go_wp2_with (first | (go_at_call 110; refine (l1In_text (leftsLeast rs 960) c _).mono ?_; rintro e w' ⟨rfl, rfl⟩) | (go_at_call 105; refine (l2All_any rs[k].2 (leftsLeast rs 960) true _ z2).mono ?_; rintro e w' ⟨rfl, rfl⟩) | fail)
        go_region_law (first | (refine step_append_rules rfl _ _ rfl w1.heap.size (.slice (some ⟨g, 0, none⟩) us.length cp) us [(⟨#[c]⟩, rs[k].2)] wr.heap.size 0 1 rfl rfl ?_ ?_ ?_ ?_ ?_; (exact O1); (exact U1); (simp; omega); (simp; omega); intro g6 cap6 w6 hO6 hgrow; have hC6 : BoxG w6 (w1.heap.size + 1) (.string st) (.slice (some ⟨g, 0, none⟩) us.length cp) := grown_keep O1 hgrow (hO.old _).drew (fun cur h => by simp at h); obtain ⟨y0, y1, yf0, yf1⟩ := hC6.cells))
        all_goals
          have hgB : w1.heap.size ≤ g := by
            obtain ⟨g', cap', cur, e, hg, _⟩ := hown.block
            cases e
            exact hg
          have hb6 : Below w1.heap.size w1 w6 := (hb.alloc hb.size _).drew.grown hgrow (by have := hb.size; simp; omega) (by intro j hj; simp [Value.ownBlock] at hj; omega)
          have hO7 := hO6.store (p := ⟨w1.heap.size + 1, 1, none⟩) hC6 (by decide) (.slice (some ⟨g6, 0, none⟩) (us.length + 1) cap6)
          have hC7 := hC6.set1 (.slice (some ⟨g6, 0, none⟩) (us.length + 1) cap6)
          have hb7 := hb6.setCell (p := ⟨w1.heap.size + 1, 1, none⟩) (Nat.le_add_right _ 1) (.slice (some ⟨g6, 0, none⟩) (us.length + 1) cap6)
          have hR : UseS st (keptTo (usefulP rs) rs (k + 1)) w1 (w6.setCell ⟨w1.heap.size + 1, 1, none⟩ (.slice (some ⟨g6, 0, none⟩) (us.length + 1) cap6)) := by
            rw [HSU.out, if_pos HH.out, HRK.out]
            exact ⟨g6, cap6, by simpa using hC7, by simpa using hO7, hb7⟩
          clear hO7 hC7 hb7 hb6 hC6 hO6 hgrow O1 U1 hO hown hb d1 d2 x0 x1 xf0 xf1 y0 y1 yf0 yf1 a0 a1
          go_wp2
          go_roundw
          case rel => exact ⟨k + 1, by omega, by go_num, hR⟩
          case measure => simp [intOf]; omega
    · have hkl : ¬ (k : Int) < (rs.length : Int) := by omega
      obtain rfl : k = rs.length := by omega
      rw [keptTo_all, show rs.filter (usefulP rs) = usefulL rs from rfl] at hO hown
      have hokU : gramOkB st (usefulL rs) = true := ok_filter _ HOK.out
      have hU8 := (gramOk_facts hokU).2.1
      have HSM := Lib.hid (ok_small hokU)
      have FU := Lib.hid (gramOk_facts hokU).2.2
      have HOKU := Lib.hid hokU
      have HT : Hid (trimL st rs = (usefulL rs).filter (metP (metLeast st (usefulL rs)))) := rfl
      have hB1r : Below w.heap.size w wr := hB1.trans (hb.mono hB1.size)
      have hZr := hZ.below hb
      clear hokU
      generalize usefulL rs = vs at *
      obtain ⟨g', cp', e, hgx, hcpx, hgl, HU⟩ := OwnR.at hown HSM.out (by omega)
      simp only [Value.slice.injEq, Option.some.injEq, Addr.mk.injEq] at e
      obtain ⟨⟨rfl, _⟩, _, rfl⟩ := e
      obtain ⟨x0, x1, _, _⟩ := hO.cells
      go_wp2_with fail
      refine (l2Met_any st (some ⟨g, 0, none⟩) cp vs _ HU HOKU.out).mono ?_
      rintro e w2 ⟨rfl, hb2⟩
      have hB2 : Below w.heap.size w w2 := hB1r.trans (hb2.mono hB1r.size)
      have hX := hO.below hb2
      have hA2 := hAr.below hb2
      have hZ2 := hZr.below hb2
      have HU2 := HU.below hb2 (Nat.le_refl _)
      clear x0 x1 a0 a1 hb2 HU hB1r hZr hO hown hAr hA hZ hb
      obtain ⟨a0, a1, _, _⟩ := hA2.cells
      have hAl2 := hA2.lt
      have hXl := hX.lt
      have hS2 := useS_start st w2
      go_wp2_with fail
      go_loopw [8] (fun i wr => ∃ k : Nat, k ≤ vs.length ∧ i = .int .i64 k ∧ UseS st (keptTo (metP (metLeast st vs)) vs k) w2 wr) (fun i _ => vs.length - (intOf i).toNat)
      case atStart => exact ⟨0, Nat.zero_le _, rfl, hS2⟩
      case round =>
        obtain ⟨k, hk, rfl, g2, cp2, hO, hown, hb⟩ := hrel
        have hXr : BoxG wr (w1.heap.size + 1) (.string st) (.slice (some ⟨g, 0, none⟩) vs.length cp) := hX.below hb
        clear a0 a1
        obtain ⟨a0, a1, _, _⟩ := hXr.cells
        by_cases hlt : k < vs.length
        · obtain ⟨z1, z2, b, off, e, hbb, c1, c2⟩ := HU2.2 k hlt
          obtain ⟨c, hc, hbig⟩ := ok_left HOKU.out hlt
          cases e
          have hfk := FU.out k hlt
          have hsz1 : (⟨#[c]⟩ : ByteArray).size ≤ 100 := by simp [ByteArray.size]
          have d1 : wr.cell? ⟨g, 0 + k * 2, none⟩ = some (.string ⟨#[c]⟩) := by rw [hb.cell (p := ⟨g, _, none⟩) hbb, c1, hc]
          have d2 : wr.cell? ⟨g, 0 + k * 2 + 1, none⟩ = some (.string vs[k].2) := by rw [hb.cell (p := ⟨g, _, none⟩) hbb, c2]
          rw [Nat.zero_add] at d1 d2
          have hkl : (k : Int) < (vs.length : Int) := by omega
          have HSU := Lib.hid (keptTo_succ (metP (metLeast st vs)) vs k hlt)
          have HRK : Hid (vs[k] = (⟨#[c]⟩, vs[k].2)) := by show _ = _; rw [← hc]
          have hall : metP (metLeast st vs) vs[k] = hasN (metLeast st vs) c := by unfold metP; rw [hc]; simp [hasAllN]
          clear hc c1 c2
          cases hh : metP (metLeast st vs) vs[k] with
          | false =>
            have HH := Lib.hid hh
            have h1 : hasN (metLeast st vs) c = false := hall ▸ hh
            go_wp2_with (first | (go_at_call 110; refine (l1In_text (metLeast st vs) c _).mono ?_; rintro e w' ⟨rfl, rfl⟩))
            go_roundw
            case rel => exact ⟨k + 1, by omega, by go_num, by rw [HSU.out, if_neg (by rw [HH.out]; simp)]; exact ⟨g2, cp2, hO, hown, hb⟩⟩
            case measure => simp [intOf]; omega
          | true =>
            have HH := Lib.hid hh
            have h1 : hasN (metLeast st vs) c = true := hall ▸ hh
            clear hall hh
            have hlen := keptTo_len (metP (metLeast st vs)) vs k
            have O1 := (hown.alloc (.cells #[.string ⟨#[c]⟩, .string vs[k].2] 55)).drew
            have U1 := (lit_rules wr ⟨#[c]⟩ vs[k].2 hsz1 (by omega)).drew2
            obtain ⟨x0, x1, xf0, xf1⟩ := hO.cells
            have hOl := hO.lt
            have n1 : ¬ w1.heap.size + 1 = w2.heap.size + 1 := by omega
            generalize keptTo (metP (metLeast st vs)) vs k = us at *
            go_wp2_with (first | (go_at_call 110; refine (l1In_text (metLeast st vs) c _).mono ?_; rintro e w' ⟨rfl, rfl⟩) | fail)
            go_region_law (first | (refine step_append_rules rfl _ _ rfl w2.heap.size (.slice (some ⟨g2, 0, none⟩) us.length cp2) us [(⟨#[c]⟩, vs[k].2)] wr.heap.size 0 1 rfl rfl ?_ ?_ ?_ ?_ ?_; (exact O1); (exact U1); (simp; omega); (simp; omega); intro g6 cap6 w6 hO6 hgrow; have hC6 : BoxG w6 (w2.heap.size + 1) (.string st) (.slice (some ⟨g2, 0, none⟩) us.length cp2) := grown_keep O1 hgrow (hO.old _).drew (fun cur h => by simp at h); obtain ⟨y0, y1, yf0, yf1⟩ := hC6.cells))
            all_goals
              have hgB : w2.heap.size ≤ g2 := by
                obtain ⟨g', cap', cur, e, hg, _⟩ := hown.block
                cases e
                exact hg
              have hb6 : Below w2.heap.size w2 w6 := (hb.alloc hb.size _).drew.grown hgrow (by have := hb.size; simp; omega) (by intro j hj; simp [Value.ownBlock] at hj; omega)
              have hO7 := hO6.store (p := ⟨w2.heap.size + 1, 1, none⟩) hC6 (by decide) (.slice (some ⟨g6, 0, none⟩) (us.length + 1) cap6)
              have hC7 := hC6.set1 (.slice (some ⟨g6, 0, none⟩) (us.length + 1) cap6)
              have hb7 := hb6.setCell (p := ⟨w2.heap.size + 1, 1, none⟩) (Nat.le_add_right _ 1) (.slice (some ⟨g6, 0, none⟩) (us.length + 1) cap6)
              have hR : UseS st (keptTo (metP (metLeast st vs)) vs (k + 1)) w2 (w6.setCell ⟨w2.heap.size + 1, 1, none⟩ (.slice (some ⟨g6, 0, none⟩) (us.length + 1) cap6)) := by
                rw [HSU.out, if_pos HH.out, HRK.out]
                exact ⟨g6, cap6, by simpa using hC7, by simpa using hO7, hb7⟩
              clear hO7 hC7 hb7 hb6 hC6 hO6 hgrow O1 U1 hO hown hb d1 d2 x0 x1 xf0 xf1 y0 y1 yf0 yf1 a0 a1
              go_wp2
              go_roundw
              case rel => exact ⟨k + 1, by omega, by go_num, hR⟩
              case measure => simp [intOf]; omega
        · have hkl : ¬ (k : Int) < (vs.length : Int) := by omega
          obtain rfl : k = vs.length := by omega
          rw [keptTo_all, ← HT.out] at hO hown
          have hZr := hZ2.below hb
          have hBr : Below w.heap.size w wr := hB2.trans (hb.mono hB2.size)
          have hwl := hB2.size
          obtain ⟨x0, x1, xf0, xf1⟩ := hO.cells
          obtain ⟨z0, z1, zf0, zf1⟩ := hZr.cells
          go_wp2
          exact bodyPost_ret (v := .agg #[.string st, .slice (some ⟨g2, 0, none⟩) (trimL st rs).length cp2]) (by simp [results, Try.results67, go_sem, z0, z1]) rfl
            ⟨_, rfl, ((hown.store (p := ⟨w.heap.size + 1, 0, none⟩) hZr (by decide) _).store (p := ⟨w.heap.size + 1, 1, none⟩) (hZr.set0 _) (by decide) _).mono2 (by omega), (hBr.setCell (p := ⟨w.heap.size + 1, 0, none⟩) (Nat.le_succ _) _).setCell (p := ⟨w.heap.size + 1, 1, none⟩) (Nat.le_succ _) _⟩
end Go.Proofs.Ytjpkohahabclgaa
