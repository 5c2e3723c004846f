/- The contract of rulesWhere. -/
import Derived.Test.YtjpkohahabclgaaOwnN
import Derived.Test.YtjpkohahabclgaaSetE
namespace Go.Proofs.Ytjpkohahabclgaa
open Go.ChangeShapes Go.WideShapes Go.ChangeAt Go.RowKit
set_option maxRecDepth 100000
def keptTo (p : RuleT → Bool) (rs : List RuleT) (k : Nat) : List RuleT := (rs.take k).filter p
theorem keptTo_succ (p : RuleT → Bool) (rs : List RuleT) (k : Nat) (h : k < rs.length) : keptTo p rs (k + 1) = if p rs[k] = true then keptTo p rs k ++ [rs[k]] else keptTo p rs k := by
  unfold keptTo
  rw [List.take_succ_eq_append_getElem h, List.filter_append]
  cases hp : p rs[k] <;> simp [hp]
theorem keptTo_len (p : RuleT → Bool) (rs : List RuleT) (k : Nat) : (keptTo p rs k).length ≤ k := by
  unfold keptTo
  exact Nat.le_trans (List.length_filter_le ..) (by simp; omega)
theorem keptTo_all (p : RuleT → Bool) (rs : List RuleT) : keptTo p rs rs.length = rs.filter p := by unfold keptTo; rw [List.take_length]
def KeptRel (st : ByteArray) (us : List RuleT) (w wr : World) : Prop := ∃ v, BoxG wr (w.heap.size + 2) (.string st) v ∧ OwnN wr (w.heap.size + 3) v us ∧ BoxG wr (w.heap.size + 1) (.string ⟨#[]⟩) (.slice none 0 0) ∧ Below w.heap.size w wr
set_option maxHeartbeats 2000000 in
theorem rulesWhere_any (f : Nat) (cb : Nat) (p : RuleT → Bool) (st : ByteArray) (a : Option Addr) (cap : Nat) (rs : List RuleT) (w : World) (H : RulesAt w a rs) (hl : rs.length ≤ 10) (hS : SmallR rs)
    (eg : ∀ args w, (callFunc f args).run Try.prog w = .ok (.enter f args) w)
    (hcall : ∀ k (h : k < rs.length) W, Below w.heap.size w W → Calls Try.prog f #[.agg #[.string rs[k].1, .string rs[k].2], .pointer (some ⟨cb, 0, none⟩)] W fun e w' => e = .returned (.bool (p rs[k])) ∧ Below W.heap.size W w') :
    Calls Try.prog 70 #[.agg #[.string st, .slice a rs.length cap], .func (.func f) #[] #[.pointer (some ⟨cb, 0, none⟩)]] w fun e w' => ∃ v, e = .returned (.agg #[.string st, v]) ∧ OwnN w' w.heap.size v (rs.filter p) ∧ Below w.heap.size w w' := by
  obtain ⟨i0, hi0, hz0, hz1, hz2⟩ := info_parts infoRule
  go_enter Try.func70, Try.ntmps70
  have hb3 := (((Below.refl w.heap.size w).alloc (Nat.le_refl _) (.cells #[.string st, .slice a rs.length cap] 24)).alloc (by simp) (.cells #[.string ⟨#[]⟩, .slice none 0 0] 24)).alloc (by simp; omega) (.cells #[.string st, .slice none 0 0] 24)
  have hZ0 : BoxG (((w.alloc (.cells #[.string st, .slice a rs.length cap] 24)).alloc (.cells #[.string ⟨#[]⟩, .slice none 0 0] 24)).alloc (.cells #[.string st, .slice none 0 0] 24)) (w.heap.size + 1) (.string ⟨#[]⟩) (.slice none 0 0) := BoxG.old (blk_new _ _ (by simp)) _
  have hK0 : BoxG (((w.alloc (.cells #[.string st, .slice a rs.length cap] 24)).alloc (.cells #[.string ⟨#[]⟩, .slice none 0 0] 24)).alloc (.cells #[.string st, .slice none 0 0] 24)) (w.heap.size + 2) (.string st) (.slice none 0 0) := blk_new _ _ (by simp)
  have HS := Lib.hid hS
  clear hS
  go_wp2
  go_loopw [14] (fun i wr => ∃ k : Nat, k ≤ rs.length ∧ i = .int .i64 k ∧ KeptRel st (keptTo p rs k) w wr) (fun i _ => rs.length - (intOf i).toNat)
  case atStart => exact ⟨0, Nat.zero_le _, rfl, .slice none 0 0, hK0, World.ownsRow_nil _ _ _ _, hZ0, hb3⟩
  case round =>
    obtain ⟨k, hk, rfl, v, hO, hown, hZ, hb⟩ := hrel
    by_cases hlt : k < rs.length
    · obtain ⟨z1, z2, b, off, e, hbb, c1, c2⟩ := H.2 k hlt
      subst e
      have d1 : wr.cell? ⟨b, off + k * 2, none⟩ = some (.string rs[k].1) := by rw [hb.cell (p := ⟨b, _, none⟩) hbb, c1]
      have d2 : wr.cell? ⟨b, off + k * 2 + 1, none⟩ = some (.string rs[k].2) := by rw [hb.cell (p := ⟨b, _, none⟩) hbb, c2]
      have hkl : (k : Int) < (rs.length : Int) := by omega
      have hOl := hO.lt
      have hbA := hb.alloc hb.size (.cells #[.string rs[k].1, .string rs[k].2] 55)
      have hOA := hO.old (.cells #[.string rs[k].1, .string rs[k].2] 55)
      have hZA := hZ.old (.cells #[.string rs[k].1, .string rs[k].2] 55)
      have hownA := hown.below ((Below.refl _ _).alloc (Nat.le_refl _) (.cells #[.string rs[k].1, .string rs[k].2] 55))
      have hRA : (wr.alloc (.cells #[.string rs[k].1, .string rs[k].2] 55)).heap[wr.heap.size]? = some (.cells #[.string rs[k].1, .string rs[k].2] 55) := blk_new _ _ rfl
      have hszA : (wr.alloc (.cells #[.string rs[k].1, .string rs[k].2] 55)).heap.size = wr.heap.size + 1 := by simp
      have HSU := Lib.hid (keptTo_succ p rs k hlt)
      go_wp2_with fail
      refine (hcall k hlt _ hbA).mono ?_
      rintro e w4 ⟨rfl, hb4⟩
      have hO4 := hOA.below hb4
      have hZ4 := hZA.below hb4
      have hown4 := hownA.below hb4
      have hbw4 : Below w.heap.size w w4 := hbA.trans (hb4.mono hbA.size)
      have hR4 := (hb4.block wr.heap.size (by omega)).trans hRA
      have r0 : w4.cell? ⟨wr.heap.size, 0, none⟩ = some (.string rs[k].1) := by rw [cell_of_block hR4 0]; rfl
      have r1 : w4.cell? ⟨wr.heap.size, 1, none⟩ = some (.string rs[k].2) := by rw [cell_of_block hR4 1]; rfl
      clear hOA hZA hownA hbA hb4 hRA hown hO hZ hb d1 d2 hR4 hszA
      cases hh : p rs[k] with
      | false =>
        go_wp2
        go_roundw
        case rel => exact ⟨k + 1, by omega, by go_num, v, hO4, by rw [HSU.out, if_neg (by rw [hh]; simp)]; exact hown4, hZ4, hbw4⟩
        case measure => simp [intOf]; omega
      | true =>
        have hfk := HS.out rs[k] (List.getElem_mem hlt)
        obtain ⟨x0, x1, xf0, xf1⟩ := hO4.cells
        have hIO : OwnN (w4.alloc (.cells #[.string rs[k].1, .string rs[k].2] 55)) (w.heap.size + 3) v (keptTo p rs k) := hown4.below ((Below.refl _ _).alloc (Nat.le_refl _) _)
        have hO5 := hO4.old (.cells #[.string rs[k].1, .string rs[k].2] 55)
        have hZ5 := hZ4.old (.cells #[.string rs[k].1, .string rs[k].2] 55)
        have hL := lit_rules w4 rs[k].1 rs[k].2 hfk.1 hfk.2
        have hlen := keptTo_len p rs k
        have hO4l := hO4.lt
        have hb5 := hbw4.alloc hbw4.size (.cells #[.string rs[k].1, .string rs[k].2] 55)
        go_wp2_with (at_builtin; refine wpList_append_own _ rfl _ _ 22 rfl (w.heap.size + 3) 55 i0 (.agg #[.string ByteArray.empty, .string ByteArray.empty]) 2 32 Try.underlying22 hi0 hz0 hz1 hz2 rfl (by decide) v (keptTo p rs k).length (flatR (keptTo p rs k)) rfl hIO ⟨w4.heap.size, 0, none⟩ 1 1 (flatR [(rs[k].1, rs[k].2)]) rfl rfl ?l1 ?l2 ?l3 ?l4 ?l5 ?_)
        case l1 => exact rules_cells hL
        case l2 => exact flatR_one _
        case l3 => unfold maxLen; omega
        case l4 => omega
        case l5 => simp; omega
        intro v' w5 h1 h2 h3
        have hown5 : OwnN w5 (w.heap.size + 3) v' (keptTo p rs (k + 1)) := by
          unfold OwnN
          rw [HSU.out, if_pos hh, flatR_append, List.length_append]
          exact h1
        have hb51 := (Below.refl (w.heap.size + 3) _).grown h2 (by simp; omega) hIO.row
        have hO6 : BoxG w5 (w.heap.size + 2) (.string st) v := (hb51.block (w.heap.size + 2) (by omega)).trans hO5
        have hZ6 : BoxG w5 (w.heap.size + 1) (.string ⟨#[]⟩) (.slice none 0 0) := (hb51.block (w.heap.size + 1) (by omega)).trans hZ5
        have hb6 : Below w.heap.size w w5 := hb5.trans (hb51.mono (by omega))
        obtain ⟨y0, y1, yf0, yf1⟩ := hO6.cells
        rcases h1.2 with ⟨h0, _⟩ | ⟨g, cp, cur, hv', _⟩
        · exact absurd h0 h3
        subst hv'
        clear hO4 hIO hO5 hL hb5 hb51 h1 h2 h3 x0 x1 xf0 xf1
        go_wp2
        go_roundw
        case rel => exact ⟨k + 1, by omega, by go_num, _, hO6.set1 _, hown5.set (p := ⟨w.heap.size + 2, 1, none⟩) (Nat.lt_succ_self _) _, hZ6.other (p := ⟨w.heap.size + 2, 1, none⟩) (by show w.heap.size + 1 ≠ w.heap.size + 2; omega) _, hb6.setCell (p := ⟨w.heap.size + 2, 1, none⟩) (by show w.heap.size ≤ w.heap.size + 2; omega) _⟩
        case measure => simp [intOf]; omega
    · have hkl : ¬ (k : Int) < (rs.length : Int) := by omega
      obtain rfl : k = rs.length := by omega
      rw [keptTo_all] at hown
      obtain ⟨x0, x1, xf0, xf1⟩ := hO.cells
      obtain ⟨z0, z1, zf0, zf1⟩ := hZ.cells
      have l1 : w.heap.size + 1 < w.heap.size + 3 := by omega
      rcases hown.2 with ⟨rfl, _⟩ | ⟨g, cp, cur, rfl, _⟩
      · go_wp2
        exact bodyPost_ret (v := .agg #[.string st, .slice none 0 0]) (by simp [results, Try.results70, go_sem, z0, z1]) rfl
          ⟨_, rfl, ((hown.set (p := ⟨w.heap.size + 1, 0, none⟩) l1 _).set (p := ⟨w.heap.size + 1, 1, none⟩) l1 _).mono (by omega), (hb.setCell (p := ⟨w.heap.size + 1, 0, none⟩) (Nat.le_succ _) _).setCell (p := ⟨w.heap.size + 1, 1, none⟩) (Nat.le_succ _) _⟩
      · go_wp2
        exact bodyPost_ret (v := .agg #[.string st, .slice (some ⟨g, 0, none⟩) (rs.filter p).length cp]) (by simp [results, Try.results70, go_sem, z0, z1]) rfl
          ⟨_, rfl, ((hown.set (p := ⟨w.heap.size + 1, 0, none⟩) l1 _).set (p := ⟨w.heap.size + 1, 1, none⟩) l1 _).mono (by omega), (hb.setCell (p := ⟨w.heap.size + 1, 0, none⟩) (Nat.le_succ _) _).setCell (p := ⟨w.heap.size + 1, 1, none⟩) (Nat.le_succ _) _⟩
end Go.Proofs.Ytjpkohahabclgaa
