/- Contracts of GramOk, the program's and the model's. -/
import Derived.Test.YtpkejcjjbkgomaaDoorGrow
namespace Go.Proofs.YtpkejcjjbkgomaaDoor
open Go.ChangeShapes Go.WideShapes Go.ChangeAt Go.RowKit
def goodB (rs : List RuleT) (i : Nat) : Bool := match rs[i]? with
  | some r => ruleOkB r && !decide (0 ≤ idxR (rs.take i) r)
  | none => true
def gramOkB (st : ByteArray) (rs : List RuleT) : Bool := isBigS st && (decide (rs.length ≤ 8) && (List.range rs.length).all (goodB rs))
theorem goodB_at {rs : List RuleT} {i : Nat} (h : i < rs.length) : goodB rs i = (ruleOkB rs[i] && !decide (0 ≤ idxR (rs.take i) rs[i])) := by
  unfold goodB; rw [List.getElem?_eq_getElem h]
theorem gramOk_bad {st : ByteArray} {rs : List RuleT} {i : Nat} (h : i < rs.length) (hb : goodB rs i = false) : gramOkB st rs = false := by
  unfold gramOkB
  cases hh : (List.range rs.length).all (goodB rs) with
  | false => simp
  | true =>
    rw [List.all_eq_true] at hh
    have := hh i (by simpa using h)
    rw [hb] at this; cases this
theorem gramOk_all {st : ByteArray} {rs : List RuleT} (h1 : isBigS st = true) (h2 : rs.length ≤ 8) (h3 : ∀ i, i < rs.length → goodB rs i = true) : gramOkB st rs = true := by
  unfold gramOkB
  rw [h1, List.all_eq_true.2 (fun i hi => h3 i (by simpa using hi))]
  simpa using h2

set_option maxHeartbeats 1000000 in
theorem gramOk_any (st : ByteArray) (a : Option Addr) (cap : Nat) (rs : List RuleT) (w : World) (H : RulesAt w a rs) (hcap : rs.length ≤ cap) :
    Calls Tryd.prog 83 #[.agg #[.string st, .slice a rs.length cap]] w fun e w' => e = .returned (.bool (gramOkB st rs)) ∧ Below w.heap.size w w' := by
  have hn := H.1
  unfold maxLen at hn
  have hbw := (Below.refl w.heap.size w).alloc (Nat.le_refl _) (.cells #[.string st, .slice a rs.length cap] 64)
  cases h1 : isBigS st with
  | false =>
    go_enter Tryd.func83, Tryd.ntmps83
    go_wp2_with (go_at_call 35; refine (signBig_any _ _).mono ?_; rintro e w' ⟨rfl, rfl⟩)
    go_ret
    exact ⟨ret_bool (by simp [gramOkB, h1]), hbw⟩
  | true =>
    by_cases h8 : (8 : Int) < (rs.length : Int)
    · go_enter Tryd.func83, Tryd.ntmps83
      go_wp2_with (go_at_call 35; refine (signBig_any _ _).mono ?_; rintro e w' ⟨rfl, rfl⟩)
      go_ret
      exact ⟨ret_bool (by simp [gramOkB]; omega), hbw⟩
    · have h8' : decide ((8 : Int) < (rs.length : Int)) = false := by simpa using h8
      go_enter Tryd.func83, Tryd.ntmps83
      go_wp2_with (go_at_call 35; refine (signBig_any _ _).mono ?_; rintro e w' ⟨rfl, rfl⟩)
      have H1 := Lib.hid h1; clear h1
      go_loopw [18] (fun i wr => ∃ k : Nat, k ≤ rs.length ∧ i = .int .i64 k ∧ Hid (∀ j, j < k → goodB rs j = true) ∧ Below (w.heap.size + 1) (w.alloc (.cells #[.string st, .slice a rs.length cap] 64)) wr) (fun i _ => rs.length - (intOf i).toNat)
      case atStart => exact ⟨0, Nat.zero_le _, rfl, fun j h => by omega, Below.refl _ _⟩
      case round =>
        obtain ⟨k, hk, rfl, HN, hb⟩ := hrel
        by_cases hlt : k < rs.length
        · obtain ⟨z1, z2, b, off, e, hbb, c1, c2⟩ := H.2 k hlt
          subst e
          have hb2 : Below w.heap.size w wr := hbw.trans (hb.mono (by omega))
          have hsz : w.heap.size + 1 ≤ wr.heap.size := by have := hb.size; simpa using this
          have d1 : wr.cell? ⟨b, off + k * 2, none⟩ = some (.string rs[k].1) := by rw [hb2.cell (p := ⟨b, _, none⟩) hbb, c1]
          have d2 : wr.cell? ⟨b, off + k * 2 + 1, none⟩ = some (.string rs[k].2) := by rw [hb2.cell (p := ⟨b, _, none⟩) hbb, c2]
          have d3 : wr.cell? ⟨w.heap.size, 1, none⟩ = some (.slice (some ⟨b, off, none⟩) rs.length cap) := by rw [hb.cell (p := ⟨w.heap.size, _, none⟩) (by simp)]; simp
          have g1 : ∀ x, (grow (wr.alloc (.cells #[.string rs[k].1, .string rs[k].2] 159)) x).cell? ⟨w.heap.size, 1, none⟩ = some (.slice (some ⟨b, off, none⟩) rs.length cap) := fun x => by
            rw [grow_cell _ _ _ _ (by simp; omega), ((Below.refl _ _).alloc (Nat.le_refl wr.heap.size) _).cell (p := ⟨w.heap.size, 1, none⟩) (by show w.heap.size < _; omega), d3]
          have g2 : ∀ x, (grow (wr.alloc (.cells #[.string rs[k].1, .string rs[k].2] 159)) x).cell? ⟨wr.heap.size, 0, none⟩ = some (.string rs[k].1) := fun x => by
            rw [grow_cell _ _ _ _ (by simp)]; simp
          have g3 : ∀ x, (grow (wr.alloc (.cells #[.string rs[k].1, .string rs[k].2] 159)) x).cell? ⟨wr.heap.size, 1, none⟩ = some (.string rs[k].2) := fun x => by
            rw [grow_cell _ _ _ _ (by simp)]; simp
          have HW : ∀ x, RulesAt (grow (wr.alloc (.cells #[.string rs[k].1, .string rs[k].2] 159)) x) (some ⟨b, off, none⟩) rs := fun x =>
            H.below ((hb2.alloc (by omega) _).trans ((below_grow _ x).mono (by simp; omega))) (Nat.le_refl _)
          have hkn : (k : Int) ≤ (rs.length : Int) := by omega
          have hkc : (k : Int) ≤ (cap : Int) := by omega
          go_wp2
          cases hr : ruleOkB (rs[k].1, rs[k].2) with
          | false =>
            refine wp_region_grow (by kernel_rfl) (by kernel_rfl) ?_
            repeat (go_big_quiet_step ((go_at_call 106; exact Calls.grow_of (ruleOk_any _ _ _ z2))))
            refine wpQuiet_nil ?_
            rintro _ ⟨x, rfl⟩
            go_wp2
            go_ret
            exact ⟨ret_bool (gramOk_bad hlt (by rw [goodB_at hlt, hr]; rfl)).symm, (hb2.alloc (by omega) _).trans ((below_grow _ _).mono (by simp; omega))⟩
          | true =>
            refine wp_region_grow (by kernel_rfl) (by kernel_rfl) ?_
            repeat (go_big_quiet_step ((first | (go_at_call 106; exact Calls.grow_of (ruleOk_any _ _ _ z2)) | (go_at_call 107; exact Calls.grow_of (contains_take _ _ rs k hk _ _ _ (HW _))))))
            refine wpQuiet_nil ?_
            rintro _ ⟨x, rfl⟩
            have hfin : Below (w.heap.size + 1) (w.alloc (.cells #[.string st, .slice (some ⟨b, off, none⟩) rs.length cap] 64)) (grow (wr.alloc (.cells #[.string rs[k].1, .string rs[k].2] 159)) x) :=
              (hb.alloc hsz _).trans ((below_grow _ _).mono (by simp; omega))
            go_wp2
            · go_ret
              exact ⟨ret_bool (gramOk_bad hlt (by rw [goodB_at hlt]; simp_all)).symm, hbw.trans (hfin.mono (by omega))⟩
            · have hx : ¬ 0 ≤ idxR (rs.take k) (rs[k].1, rs[k].2) := by first | assumption | omega
              go_roundw
              case rel => exact ⟨k + 1, by omega, by go_num, fun j hj => by
                            by_cases e : j = k
                            · subst e; rw [goodB_at hlt]; simp_all
                            · exact HN.out j (by omega), hfin⟩
              case measure => simp [intOf]; omega
        · go_wp2
          go_ret
          exact ⟨ret_bool (gramOk_all H1.out (by omega) (fun i hi => HN.out i (by omega))).symm, hbw.trans (hb.mono (by omega))⟩

set_option maxHeartbeats 2000000 in
theorem sGramOk_any (st : ByteArray) (a : Option Addr) (cap : Nat) (rs : List RuleT) (w : World) (H : RulesAt w a rs) (hcap : rs.length ≤ cap) :
    Calls Tryd.prog 80 #[.agg #[.string st, .slice a rs.length cap]] w fun e w' => e = .returned (.bool (gramOkB st rs)) ∧ Below w.heap.size w w' := by
  have hn := H.1
  unfold maxLen at hn
  have hbw := (Below.refl w.heap.size w).alloc (Nat.le_refl _) (.cells #[.string st, .slice a rs.length cap] 64)
  cases h1 : isBigS st with
  | false =>
    go_enter Tryd.func80, Tryd.ntmps80
    go_wp2_with (go_at_call 88; refine (sSignBig_any _ _).mono ?_; rintro e w' ⟨rfl, rfl⟩)
    go_ret
    exact ⟨ret_bool (by simp [gramOkB, h1]), hbw⟩
  | true =>
    by_cases h8 : (8 : Int) < (rs.length : Int)
    · go_enter Tryd.func80, Tryd.ntmps80
      go_wp2_with (go_at_call 88; refine (sSignBig_any _ _).mono ?_; rintro e w' ⟨rfl, rfl⟩)
      go_ret
      exact ⟨ret_bool (by simp [gramOkB]; omega), hbw⟩
    · have h8' : decide ((8 : Int) < (rs.length : Int)) = false := by simpa using h8
      go_enter Tryd.func80, Tryd.ntmps80
      go_wp2_with (go_at_call 88; refine (sSignBig_any _ _).mono ?_; rintro e w' ⟨rfl, rfl⟩)
      have H1 := Lib.hid h1; clear h1
      go_loopw [3] (fun i wr => ∃ k : Nat, k ≤ rs.length ∧ i = .int .i64 k ∧ Hid (∀ j, j < k → goodB rs j = true) ∧ Below (w.heap.size + 1) (w.alloc (.cells #[.string st, .slice a rs.length cap] 64)) wr) (fun i _ => rs.length - (intOf i).toNat)
      case atStart => exact ⟨0, Nat.zero_le _, rfl, fun j h => by omega, Below.refl _ _⟩
      case round =>
        obtain ⟨k, hk, rfl, HN, hb⟩ := hrel
        have d3 : wr.cell? ⟨w.heap.size, 1, none⟩ = some (.slice a rs.length cap) := by rw [hb.cell (p := ⟨w.heap.size, _, none⟩) (by simp)]; simp
        by_cases hlt : k < rs.length
        · obtain ⟨z1, z2, b, off, e, hbb, c1, c2⟩ := H.2 k hlt
          subst e
          have hb2 : Below w.heap.size w wr := hbw.trans (hb.mono (by omega))
          have hsz : w.heap.size + 1 ≤ wr.heap.size := by have := hb.size; simpa using this
          have d1 : wr.cell? ⟨b, off + k * 2, none⟩ = some (.string rs[k].1) := by rw [hb2.cell (p := ⟨b, _, none⟩) hbb, c1]
          have d2 : wr.cell? ⟨b, off + k * 2 + 1, none⟩ = some (.string rs[k].2) := by rw [hb2.cell (p := ⟨b, _, none⟩) hbb, c2]
          have g1 : ∀ x, (grow wr x).cell? ⟨w.heap.size, 1, none⟩ = some (.slice (some ⟨b, off, none⟩) rs.length cap) := fun x => by
            rw [grow_cell _ _ _ _ (by omega), d3]
          have g2 : ∀ x, (grow wr x).cell? ⟨b, off + k * 2, none⟩ = some (.string rs[k].1) := fun x => by rw [grow_cell _ _ _ _ (by omega), d1]
          have g3 : ∀ x, (grow wr x).cell? ⟨b, off + k * 2 + 1, none⟩ = some (.string rs[k].2) := fun x => by rw [grow_cell _ _ _ _ (by omega), d2]
          have HW : ∀ x, RulesAt (grow wr x) (some ⟨b, off, none⟩) rs := fun x => H.below (hb2.trans ((below_grow _ x).mono (by omega))) (Nat.le_refl _)
          have hkn : (k : Int) ≤ (rs.length : Int) := by omega
          have hkl : (k : Int) < (rs.length : Int) := by omega
          have hkc : (k : Int) ≤ (cap : Int) := by omega
          go_wp2
          cases hr : isBigS rs[k].1 with
          | false =>
            refine wp_region_grow (by kernel_rfl) (by kernel_rfl) ?_
            repeat (go_big_quiet_step ((go_at_call 88; exact Calls.grow_of_same (sSignBig_any _ _))))
            refine wpQuiet_nil ?_
            rintro _ ⟨x, rfl⟩
            go_wp2
            go_ret
            exact ⟨ret_bool (gramOk_bad hlt (by rw [goodB_at hlt, ruleOkB_right, hr]; rfl)).symm, hb2.trans ((below_grow _ _).mono (by omega))⟩
          | true =>
            cases hr2 : rightB rs[k].2 4 with
            | false =>
              refine wp_region_grow (by kernel_rfl) (by kernel_rfl) ?_
              repeat (go_big_quiet_step ((first | (go_at_call 88; exact Calls.grow_of_same (sSignBig_any _ _)) | (go_at_call 104; exact Calls.grow_of_same (l1Right_any _ _ _ z2)))))
              refine wpQuiet_nil ?_
              rintro _ ⟨x, rfl⟩
              go_wp2
              go_ret
              exact ⟨ret_bool (gramOk_bad hlt (by rw [goodB_at hlt, ruleOkB_right, hr, hr2]; rfl)).symm, hb2.trans ((below_grow _ _).mono (by omega))⟩
            | true =>
              refine wp_region_grow (by kernel_rfl) (by kernel_rfl) ?_
              repeat (go_big_quiet_step ((first | (go_at_call 88; exact Calls.grow_of_same (sSignBig_any _ _)) | (go_at_call 104; exact Calls.grow_of_same (l1Right_any _ _ _ z2)) | (go_at_call 105; exact Calls.grow_of (l1Place_take _ _ rs k hk _ _ _ (HW _))))))
              refine wpQuiet_nil ?_
              rintro _ ⟨x, rfl⟩
              have hfin : Below (w.heap.size + 1) (w.alloc (.cells #[.string st, .slice (some ⟨b, off, none⟩) rs.length cap] 64)) (grow wr x) :=
                hb.trans ((below_grow _ _).mono (by omega))
              have HR : Hid (ruleOkB rs[k] = true) := by show _ = _; rw [ruleOkB_right, hr, hr2]; rfl
              go_wp2
              · have hx : 0 ≤ idxR (rs.take k) (rs[k].1, rs[k].2) := by assumption
                go_ret
                exact ⟨ret_bool (gramOk_bad hlt (by rw [goodB_at hlt]; simp_all)).symm, hbw.trans (hfin.mono (by omega))⟩
              · have hx : ¬ 0 ≤ idxR (rs.take k) (rs[k].1, rs[k].2) := by first | assumption | omega
                go_roundw
                case rel => exact ⟨k + 1, by omega, by go_num, fun j hj => by
                              by_cases e : j = k
                              · subst e; rw [goodB_at hlt, HR.out]; simp_all
                              · exact HN.out j (by omega), hfin⟩
                case measure => simp [intOf]; omega
        · go_wp2
          go_ret
          exact ⟨ret_bool (gramOk_all H1.out (by omega) (fun i hi => HN.out i (by omega))).symm, hbw.trans (hb.mono (by omega))⟩
end Go.Proofs.YtpkejcjjbkgomaaDoor
