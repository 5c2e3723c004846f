/- The contract of GramOnly of the program at a grammar that is right. -/
import Derived.Test.YtjpkohahabclgaaOnlyA
import Derived.Test.YtjpkohahabclgaaOwnN
namespace Go.Proofs.Ytjpkohahabclgaa
open Go.ChangeShapes Go.WideShapes Go.ChangeAt Go.RowKit
set_option maxRecDepth 100000
def OnlyRel (st : ByteArray) (us : List RuleT) (w2 wr : World) : Prop := ∃ v, BoxG wr w2.heap.size (.string st) v ∧ OwnN wr (w2.heap.size + 1) v us ∧ Below w2.heap.size w2 wr
set_option maxHeartbeats 2000000 in
theorem gramOnly_any (st : ByteArray) (a a' : Option Addr) (cap cap' : Nat) (rs : List RuleT) (zs : List Int) (w : World) (H : RulesAt w a rs) (hcap : rs.length ≤ cap) (hok : gramOkB st rs = true) (HZ : IntsAt w a' zs) :
    Calls Try.prog 28 #[.agg #[.string st, .slice a rs.length cap], .slice a' zs.length cap'] w fun e w' => ∃ v, e = .returned (.agg #[.string st, v]) ∧ OwnN w' w.heap.size v (onlyTo rs zs rs.length) ∧ Below w.heap.size w w' := by
  have hn := H.1
  unfold maxLen at hn
  obtain ⟨i0, hi0, hz0, hz1, hz2⟩ := info_parts infoRule
  have hbw := ((Below.refl w.heap.size w).alloc (Nat.le_refl _) (.cells #[.string st, .slice a rs.length cap] 24)).alloc (by simp) (.cells #[.string ⟨#[]⟩, .slice none 0 0] 24)
  have hA : BoxG ((w.alloc (.cells #[.string st, .slice a rs.length cap] 24)).alloc (.cells #[.string ⟨#[]⟩, .slice none 0 0] 24)) w.heap.size (.string st) (.slice a rs.length cap) := BoxG.old (blk_new _ _ rfl) _
  have hZ : BoxG ((w.alloc (.cells #[.string st, .slice a rs.length cap] 24)).alloc (.cells #[.string ⟨#[]⟩, .slice none 0 0] 24)) (w.heap.size + 1) (.string ⟨#[]⟩) (.slice none 0 0) := blk_new _ _ (by simp)
  go_enter Try.func28, Try.ntmps28
  go_wp2_with fail
  refine (gramOk_any _ _ _ rs _ (H.below hbw (Nat.le_refl _)) hcap).mono ?_
  rintro e w2 ⟨rfl, hb2⟩
  have hA2 := hA.below hb2
  have hZ2 := hZ.below hb2
  have hB2 : Below w.heap.size w w2 := hbw.trans (hb2.mono (by simp; omega))
  have hsz2 := hZ2.lt
  have H2 := H.below hB2 (Nat.le_refl _)
  have HZ2 := HZ.below hB2
  obtain ⟨f1, f2, f3⟩ := gramOk_facts hok
  have F3 := Lib.hid f3
  clear f3
  clear hA hZ hb2 hbw
  rw [hok]
  obtain ⟨a0, a1, _, _⟩ := hA2.cells
  have n1 : ¬ w.heap.size = w2.heap.size := by omega
  have a2 : ∀ o, (w2.alloc o).cell? ⟨w.heap.size, 1, none⟩ = some (.slice a rs.length cap) := fun o => (hA2.old o).cells.2.1
  go_wp2
  go_loopw [18] (fun i wr => ∃ k : Nat, k ≤ rs.length ∧ i = .int .i64 k ∧ OnlyRel st (onlyTo rs zs k) w2 wr) (fun i _ => rs.length - (intOf i).toNat)
  case atStart => exact ⟨0, Nat.zero_le _, rfl, .slice none 0 0, blk_new _ _ rfl, World.ownsRow_nil _ _ _ _, (Below.refl _ _).alloc (Nat.le_refl _) _⟩
  case round =>
    obtain ⟨k, hk, rfl, v, hO, hown, hb⟩ := hrel
    by_cases hlt : k < rs.length
    · obtain ⟨z1, z2, b, off, e, hbb, c1, c2⟩ := H2.2 k hlt
      subst e
      have d1 : wr.cell? ⟨b, off + k * 2, none⟩ = some (.string rs[k].1) := by rw [hb.cell (p := ⟨b, _, none⟩) hbb, c1]
      have d2 : wr.cell? ⟨b, off + k * 2 + 1, none⟩ = some (.string rs[k].2) := by rw [hb.cell (p := ⟨b, _, none⟩) hbb, c2]
      have hkl : (k : Int) < (rs.length : Int) := by omega
      have hIr := (HZ2.below hb).below ((Below.refl _ _).alloc (Nat.le_refl _) (.cells #[.string rs[k].1, .string rs[k].2] 55))
      have hOl := hO.lt
      go_wp2_with fail
      refine (containsI_any _ _ zs _ _ hIr).mono ?_
      rintro e w4 ⟨rfl, rfl⟩
      cases hh : hasI zs (k : Int) with
      | false =>
        go_wp2
        go_roundw
        case rel => exact ⟨k + 1, by omega, by go_num, v, hO.old _, by rw [onlyTo_no hh]; exact hown.below ((Below.refl _ _).alloc (Nat.le_refl _) _), hb.alloc hb.size _⟩
        case measure => simp [intOf]; omega
      | true =>
        have hfk := F3.out k hlt
        have hO4 := hO.old (.cells #[.string rs[k].1, .string rs[k].2] 55)
        obtain ⟨x0, x1, xf0, xf1⟩ := hO4.cells
        have hIO : OwnN ((wr.alloc (.cells #[.string rs[k].1, .string rs[k].2] 55)).alloc (.cells #[.string rs[k].1, .string rs[k].2] 55)) (w2.heap.size + 1) v (onlyTo rs zs k) := (hown.below ((Below.refl _ _).alloc (Nat.le_refl _) _)).below ((Below.refl _ _).alloc (Nat.le_refl _) _)
        have hO5 := hO4.old (.cells #[.string rs[k].1, .string rs[k].2] 55)
        have hL := lit_rules (wr.alloc (.cells #[.string rs[k].1, .string rs[k].2] 55)) rs[k].1 rs[k].2 (by omega) (by omega)
        rw [Deep.nblk_alloc] at hL
        have hlen := onlyTo_len rs zs k
        have hb5 : Below w2.heap.size w2 ((wr.alloc (.cells #[.string rs[k].1, .string rs[k].2] 55)).alloc (.cells #[.string rs[k].1, .string rs[k].2] 55)) := (hb.alloc hb.size _).alloc (hb.alloc hb.size _).size _
        have n2 : ¬ w2.heap.size = wr.heap.size := by omega
        go_wp2_with (at_builtin; refine wpList_append_own _ rfl _ _ 22 rfl (w2.heap.size + 1) 55 i0 (.agg #[.string ByteArray.empty, .string ByteArray.empty]) 2 32 Try.underlying22 hi0 hz0 hz1 hz2 rfl (by decide) v (onlyTo rs zs k).length (flatR (onlyTo rs zs k)) rfl hIO ⟨wr.heap.size + 1, 0, none⟩ 1 1 (flatR [(rs[k].1, rs[k].2)]) rfl rfl ?c1 ?c2 ?c3 ?c4 ?c5 ?_)
        case c1 => exact rules_cells hL
        case c2 => exact flatR_one _
        case c3 => unfold maxLen; omega
        case c4 => omega
        case c5 => simp; omega
        intro v' w5 h1 h2 h3
        have hown5 : OwnN w5 (w2.heap.size + 1) v' (onlyTo rs zs (k + 1)) := by
          unfold OwnN
          rw [onlyTo_yes hlt hh, flatR_append, List.length_append]
          exact h1
        have hb51 := (Below.refl (w2.heap.size + 1) _).grown h2 (by simp; omega) hIO.row
        have hO6 : BoxG w5 w2.heap.size (.string st) v := (hb51.block w2.heap.size (by omega)).trans hO5
        have hb6 : Below w2.heap.size w2 w5 := hb5.trans (hb51.mono (Nat.le_succ _))
        obtain ⟨y0, y1, yf0, yf1⟩ := hO6.cells
        rcases h1.2 with ⟨h0, _⟩ | ⟨g, cp, cur, hv', _⟩
        · exact absurd h0 h3
        subst hv'
        clear hO4 hIO hO5 hL hb5 hb51 h1 h2 h3 x0 x1 xf0 xf1 d1 d2 hIr hown hO hb
        go_wp2
        go_roundw
        case rel => exact ⟨k + 1, by omega, by go_num, _, hO6.set1 _, hown5.set (p := ⟨w2.heap.size, 1, none⟩) (Nat.lt_succ_self _) _, hb6.setCell (p := ⟨w2.heap.size, 1, none⟩) (Nat.le_refl _) _⟩
        case measure => simp [intOf]; omega
    · have hkl : ¬ (k : Int) < (rs.length : Int) := by omega
      obtain rfl : k = rs.length := by omega
      obtain ⟨x0, x1, xf0, xf1⟩ := hO.cells
      have hZr := hZ2.below hb
      obtain ⟨z0, z1, zf0, zf1⟩ := hZr.cells
      have hBr : Below w.heap.size w wr := hB2.trans (hb.mono hB2.size)
      have l1 : w.heap.size + 1 < w2.heap.size + 1 := by omega
      rcases hown.2 with ⟨rfl, _⟩ | ⟨g, cp, cur, rfl, _⟩
      · go_wp2
        exact bodyPost_ret (v := .agg #[.string st, .slice none 0 0]) (by simp [results, Try.results28, go_sem, z0, z1]) rfl
          ⟨_, rfl, ((hown.set (p := ⟨w.heap.size + 1, 0, none⟩) l1 _).set (p := ⟨w.heap.size + 1, 1, none⟩) l1 _).mono (by omega), (hBr.setCell (p := ⟨w.heap.size + 1, 0, none⟩) (Nat.le_succ _) _).setCell (p := ⟨w.heap.size + 1, 1, none⟩) (Nat.le_succ _) _⟩
      · go_wp2
        exact bodyPost_ret (v := .agg #[.string st, .slice (some ⟨g, 0, none⟩) (onlyTo rs zs rs.length).length cp]) (by simp [results, Try.results28, go_sem, z0, z1]) rfl
          ⟨_, rfl, ((hown.set (p := ⟨w.heap.size + 1, 0, none⟩) l1 _).set (p := ⟨w.heap.size + 1, 1, none⟩) l1 _).mono (by omega), (hBr.setCell (p := ⟨w.heap.size + 1, 0, none⟩) (Nat.le_succ _) _).setCell (p := ⟨w.heap.size + 1, 1, none⟩) (Nat.le_succ _) _⟩
end Go.Proofs.Ytjpkohahabclgaa
