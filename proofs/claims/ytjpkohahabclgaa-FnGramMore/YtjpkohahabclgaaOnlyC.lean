/- The contract of the model's GramOnly. -/
import Derived.Test.YtjpkohahabclgaaOnlyB
namespace Go.Proofs.Ytjpkohahabclgaa
open Go.ChangeShapes Go.WideShapes Go.ChangeAt Go.RowKit
set_option maxRecDepth 100000
theorem OwnR.mono {w : World} {B B' : Nat} {v : Value} {rs : List RuleT} (h : OwnR w B v rs) (hB : B' ≤ B) : OwnR w B' v rs := by
  obtain ⟨⟨g, cap, e, hg, hl⟩, h2⟩ := h
  exact ⟨⟨g, cap, e, Nat.le_trans hB hg, hl⟩, OwnN.mono (rs := rs) h2 hB⟩
def OnlyS (st : ByteArray) (us : List RuleT) (v : Value) (w wr : World) : Prop := ∃ g cp, BoxG wr (w.heap.size + 3) (.string st) (.slice (some ⟨g, 0, none⟩) us.length cp) ∧ OwnR wr (w.heap.size + 2) (.slice (some ⟨g, 0, none⟩) us.length cp) us ∧ BoxG wr w.heap.size (.string st) v ∧ BoxG wr (w.heap.size + 1) (.string ⟨#[]⟩) (.slice none 0 0) ∧ Below w.heap.size w wr
set_option maxHeartbeats 4000000 in
theorem sGramOnly_any (st : ByteArray) (a a' : Option Addr) (cap cap' : Nat) (rs : List RuleT) (zs : List Int) (w : World) (H : RulesAt w a rs) (hcap : rs.length ≤ cap) (hok : gramOkB st rs = true) (HZ : IntsAt w a' zs) :
    Calls Try.prog 26 #[.agg #[.string st, .slice a rs.length cap], .slice a' zs.length cap'] w fun e w' => ∃ v, e = .returned (.agg #[.string st, v]) ∧ OwnR w' w.heap.size v (onlyTo rs zs rs.length) ∧ Below w.heap.size w w' := by
  have hn := H.1
  unfold maxLen at hn
  have hzn := HZ.1
  unfold maxLen at hzn
  obtain ⟨f1, f2, f3⟩ := gramOk_facts hok
  have F3 := Lib.hid f3
  clear f3
  go_enter Try.func26, Try.ntmps26
  go_wp2_with fail
  have hb1 := ((((Below.refl w.heap.size w).alloc (Nat.le_refl _) (.cells #[.string st, .slice a rs.length cap] 24)).alloc (by simp) (.cells #[.string ⟨#[]⟩, .slice none 0 0] 24)).alloc (by simp; omega) (.cells #[] 55)).alloc (by simp; omega) (.cells #[.string st, .slice (some ⟨w.heap.size + 1 + 1, 0, none⟩) 0 0] 24)
  refine (sGramOk_any _ _ _ rs _ (H.below hb1 (Nat.le_refl _)) hcap).mono ?_
  rintro e w2 ⟨rfl, hb2⟩
  have hS : OnlyS st [] (.slice a rs.length cap) w w2 := by
    refine ⟨w.heap.size + 2, 0, BoxG.below (blk_new _ _ (by simp)) hb2, OwnR.below ?_ hb2, BoxG.below ?_ hb2, BoxG.below ?_ hb2, hb1.trans (hb2.mono (by simp; omega))⟩
    · have h := (own_new ((w.alloc (.cells #[.string st, .slice a rs.length cap] 24)).alloc (.cells #[.string ⟨#[]⟩, .slice none 0 0] 24)) (w.heap.size + 2) (by simp)).alloc (.cells #[.string st, .slice (some ⟨w.heap.size + 1 + 1, 0, none⟩) 0 0] 24)
      rwa [Deep.nblk_alloc, Deep.nblk_alloc] at h
    · exact BoxG.old (BoxG.old (BoxG.old (blk_new _ _ rfl) _) _) _
    · exact BoxG.old (BoxG.old (blk_new _ _ (by simp)) _) _
  clear hb1 hb2
  rw [hok]
  go_wp2
  go_loopw [6] (fun i wr => ∃ k : Nat, k ≤ rs.length ∧ i = .int .i64 k ∧ OnlyS st (onlyTo rs zs k) (.slice a rs.length cap) w wr) (fun i _ => rs.length - (intOf i).toNat)
  case atStart => exact ⟨0, Nat.zero_le _, rfl, hS⟩
  case round =>
    obtain ⟨k, hk, rfl, g, cp, hO, hown, hA, hZ, hb⟩ := hrel
    obtain ⟨a0, a1, _, _⟩ := hA.cells
    by_cases hlt : k < rs.length
    · obtain ⟨z1, z2, b, off, e, hbb, c1, c2⟩ := H.2 k hlt
      subst e
      have d1 : wr.cell? ⟨b, off + k * 2, none⟩ = some (.string rs[k].1) := by rw [hb.cell (p := ⟨b, _, none⟩) hbb, c1]
      have d2 : wr.cell? ⟨b, off + k * 2 + 1, none⟩ = some (.string rs[k].2) := by rw [hb.cell (p := ⟨b, _, none⟩) hbb, c2]
      have hkl : (k : Int) < (rs.length : Int) := by omega
      have HI := HZ.below hb
      go_wp2
      go_loop [7] (fun j => ∃ m : Nat, m ≤ zs.length ∧ j = .int .i64 m ∧ Hid (∀ q (h : q < zs.length), q < m → ¬ (k : Int) = zs[q])) (fun j => zs.length - (intOf j).toNat)
      case atStart => exact ⟨0, Nat.zero_le _, rfl, fun q _ h => absurd h (Nat.not_lt_zero _)⟩
      case round =>
        obtain ⟨m, hm, rfl, HN⟩ := hrel
        by_cases hml : m < zs.length
        · obtain ⟨b', off', e, hbb', c3⟩ := HI.2 m hml
          subst e
          have hml' : (m : Int) < (zs.length : Int) := by omega
          by_cases hv : zs[m] = (k : Int)
          · have hd : (zs[m] == (k : Int)) = true := by simpa using hv
            have HH := Lib.hid (hasI_true hml hv.symm)
            clear hv
            have hfk := F3.out k hlt
            have hlen := onlyTo_len rs zs k
            have O1 := (hown.alloc (.cells #[.string rs[k].1, .string rs[k].2] 55)).drew
            have U1 := (lit_rules wr rs[k].1 rs[k].2 (by omega) (by omega)).drew2
            obtain ⟨x0, x1, xf0, xf1⟩ := hO.cells
            have hOl := hO.lt
            go_wp2_with fail
            go_region_law (first | (refine step_append_rules rfl _ _ rfl (w.heap.size + 2) (.slice (some ⟨g, 0, none⟩) (onlyTo rs zs k).length cp) (onlyTo rs zs k) [(rs[k].1, rs[k].2)] wr.heap.size 0 1 rfl rfl ?_ ?_ ?_ ?_ ?_; (exact O1); (exact U1); (simp; omega); (simp; omega); intro g6 cap6 w6 hO6 hgrow; have hC6 : BoxG w6 (w.heap.size + 3) (.string st) (.slice (some ⟨g, 0, none⟩) (onlyTo rs zs k).length cp) := grown_keep O1 hgrow (hO.old _).drew (fun cur h => by simp at h); obtain ⟨y0, y1, yf0, yf1⟩ := hC6.cells))
            all_goals
              have hgB : w.heap.size + 2 ≤ g := by
                obtain ⟨g', cap', cur, e, hg, _⟩ := hown.block
                cases e
                exact hg
              have hA6 : BoxG w6 w.heap.size (.string st) (.slice (some ⟨b, off, none⟩) rs.length cap) := grown_keep O1 hgrow (hA.old _).drew (fun cur h => by simp at h)
              have hZ6 : BoxG w6 (w.heap.size + 1) (.string ⟨#[]⟩) (.slice none 0 0) := grown_keep O1 hgrow (hZ.old _).drew (fun cur h => by simp at h)
              have hb6 : Below w.heap.size w w6 := (hb.alloc hb.size _).drew.grown hgrow (by have := hb.size; simp; omega) (by intro j hj; simp [Value.ownBlock] at hj; omega)
              have hO7 := hO6.store (p := ⟨w.heap.size + 3, 1, none⟩) hC6 (by decide) (.slice (some ⟨g6, 0, none⟩) ((onlyTo rs zs k).length + 1) cap6)
              have hC7 := hC6.set1 (.slice (some ⟨g6, 0, none⟩) ((onlyTo rs zs k).length + 1) cap6)
              have hA7 := hA6.other (p := ⟨w.heap.size + 3, 1, none⟩) (by show w.heap.size ≠ w.heap.size + 3; omega) (.slice (some ⟨g6, 0, none⟩) ((onlyTo rs zs k).length + 1) cap6)
              have hZ7 := hZ6.other (p := ⟨w.heap.size + 3, 1, none⟩) (by show w.heap.size + 1 ≠ w.heap.size + 3; omega) (.slice (some ⟨g6, 0, none⟩) ((onlyTo rs zs k).length + 1) cap6)
              have hb7 := hb6.setCell (p := ⟨w.heap.size + 3, 1, none⟩) (Nat.le_add_right _ 3) (.slice (some ⟨g6, 0, none⟩) ((onlyTo rs zs k).length + 1) cap6)
              have hR : OnlyS st (onlyTo rs zs (k + 1)) (.slice (some ⟨b, off, none⟩) rs.length cap) w (w6.setCell ⟨w.heap.size + 3, 1, none⟩ (.slice (some ⟨g6, 0, none⟩) ((onlyTo rs zs k).length + 1) cap6)) := by
                rw [onlyTo_yes hlt HH.out]
                exact ⟨g6, cap6, by simpa using hC7, by simpa using hO7, hA7, hZ7, hb7⟩
              clear hO7 hC7 hA7 hZ7 hb7 hA6 hZ6 hb6 hC6 hO6 hgrow O1 U1 hO hown hA hZ hb d1 d2 x0 x1 xf0 xf1 y0 y1 yf0 yf1 a0 a1 HI
              go_wp2
              go_roundw
              case rel => exact ⟨k + 1, by omega, by go_num, hR⟩
              case measure => simp [intOf]; omega
          · have hd : (zs[m] == (k : Int)) = false := by simpa using hv
            have HV := Lib.hid hv
            clear hv
            go_wp2
            go_round
            case rel => exact ⟨m + 1, by omega, by go_num, fun j hj h => by
                          by_cases e : j = m
                          · subst e; exact fun e => HV.out e.symm
                          · exact HN.out j hj (by omega)⟩
            case measure => simp [intOf]; omega
        · have hml' : ¬ (m : Int) < (zs.length : Int) := by omega
          go_wp2
          go_roundw
          case rel => exact ⟨k + 1, by omega, by go_num, by rw [onlyTo_no (hasI_false (fun j hj => HN.out j hj (by omega)))]; exact ⟨g, cp, hO, hown, hA, hZ, hb⟩⟩
          case measure => simp [intOf]; omega
    · have hkl : ¬ (k : Int) < (rs.length : Int) := by omega
      obtain rfl : k = rs.length := by omega
      obtain ⟨x0, x1, xf0, xf1⟩ := hO.cells
      obtain ⟨z0, z1, zf0, zf1⟩ := hZ.cells
      go_wp2
      exact bodyPost_ret (v := .agg #[.string st, .slice (some ⟨g, 0, none⟩) (onlyTo rs zs rs.length).length cp]) (by simp [results, Try.results26, go_sem, z0, z1]) rfl
        ⟨_, rfl, ((hown.store (p := ⟨w.heap.size + 1, 0, none⟩) hZ (by decide) _).store (p := ⟨w.heap.size + 1, 1, none⟩) (hZ.set0 _) (by decide) _).mono (by omega), (hb.setCell (p := ⟨w.heap.size + 1, 0, none⟩) (Nat.le_succ _) _).setCell (p := ⟨w.heap.size + 1, 1, none⟩) (Nat.le_succ _) _⟩
end Go.Proofs.Ytjpkohahabclgaa
