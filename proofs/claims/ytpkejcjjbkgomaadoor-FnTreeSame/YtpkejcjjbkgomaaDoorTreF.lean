/- The contract of the model's TreeOk. -/
import Derived.Test.YtpkejcjjbkgomaaDoorTreE
import Derived.Test.YtpkejcjjbkgomaaDoorOkC
namespace Go.Proofs.YtpkejcjjbkgomaaDoor
open Go.ChangeShapes Go.WideShapes Go.ChangeAt Go.RowKit Go.Deep
set_option maxRecDepth 100000
def treeOkB (st : ByteArray) (rs : List RuleT) (T : Tr) : Bool := gramOkB st rs && (shapeB rs 20 T && decide ((manyD 20 T : Int) ≤ 60))
theorem rights_small {st : ByteArray} {rs : List RuleT} (h : gramOkB st rs = true) : ∀ i (hi : i < rs.length), rs[i].2.size ≤ 100 := by
  intro i hi
  unfold gramOkB at h
  simp only [Bool.and_eq_true, decide_eq_true_eq, List.all_eq_true, List.mem_range] at h
  have h4 := h.2.2 i hi
  rw [goodB_at hi] at h4
  simp [ruleOkB, isBigS] at h4
  have := h4.1.2.1
  omega
set_option maxHeartbeats 2000000 in
theorem sTreeOk_any (st : ByteArray) (ag : Option Addr) (cg : Nat) (rs : List RuleT) (T : Tr) (v : Value) (w : World) (HR : RulesAt w ag rs) (hcg : rs.length ≤ cg) (HT : TrIn w 0 v T) (hW : T.wt ≤ 1048576) :
    Calls Tryd.prog 41 #[.agg #[.string st, .slice ag rs.length cg], v] w fun e w' => e = .returned (.bool (treeOkB st rs T)) ∧ Below w.heap.size w w' := by
  obtain ⟨s, r, ks, a, cap, rfl, hTe, _⟩ := HT.open
  have hb2 := ((Below.refl w.heap.size w).alloc (Nat.le_refl _) (.cells #[.string st, .slice ag rs.length cg] 64)).alloc (by simp) (.cells #[.string s, .int .i64 r, .slice a ks.length cap] 29)
  have hG2 : GB2 ((w.alloc (.cells #[.string st, .slice ag rs.length cg] 64)).alloc (.cells #[.string s, .int .i64 r, .slice a ks.length cap] 29)) w.heap.size (.string st) (.slice ag rs.length cg) := (blk_old _ _ (by simp)).trans (blk_new _ _ rfl)
  have hT2 : BoxT ((w.alloc (.cells #[.string st, .slice ag rs.length cg] 64)).alloc (.cells #[.string s, .int .i64 r, .slice a ks.length cap] 29)) (w.heap.size + 1) (.string s) (.int .i64 r) (.slice a ks.length cap) := blk_new _ _ (by simp)
  have HR2 := HR.below hb2 (Nat.le_refl _)
  have HT2 := HT.keep hb2
  have hmz := many_le 20 T
  clear HR HT hTe
  go_enter Tryd.func41, Tryd.ntmps41
  go_wp2_with fail
  refine (sGramOk_any st ag cg rs _ HR2 hcg).mono ?_
  rintro e w3 ⟨rfl, hb3⟩
  have hG3 : GB2 w3 w.heap.size (.string st) (.slice ag rs.length cg) := (hb3.block _ hG2.lt).trans hG2
  have hT3 := hT2.below hb3
  have HR3 := HR2.below hb3 (Nat.le_refl _)
  have HT3 := HT2.keep hb3
  have hB3 := hb2.trans (hb3.mono (by simp; omega))
  clear hb2 hG2 hT2 HR2 HT2 hb3
  obtain ⟨g0, g1⟩ := hG3.cells
  obtain ⟨o0, o1, o2, _, _, _⟩ := hT3.cells
  cases hok : gramOkB st rs with
  | false =>
    go_wp2_with fail
    go_ret
    exact ⟨ret_bool (by unfold treeOkB; rw [hok]; rfl), hB3⟩
  | true =>
    have hrs := rights_small hok
    have HRS := Lib.hid hrs
    clear hrs
    go_wp2_with fail
    refine (l3Shape_any rs HRS.out st 20 T (by omega) ag cg _ _ HR3 HT3).mono ?_
    rintro e w4 ⟨rfl, hb4⟩
    have hT4 := hT3.below hb4
    have HT4 := HT3.keep hb4
    have hB4 := hB3.trans (hb4.mono hB3.size)
    clear hT3 HT3 hB3 hb4 g0 g1 o0 o1 o2 HR3 hG3
    obtain ⟨o0, o1, o2, _, _, _⟩ := hT4.cells
    cases hsh : shapeB rs 20 T with
    | false =>
      go_wp2_with fail
      go_ret
      exact ⟨ret_bool (by unfold treeOkB; rw [hok, hsh]; rfl), hB4⟩
    | true =>
      go_wp2_with fail
      refine (l3Many_any 20 T (by omega) hW _ _ HT4).mono ?_
      rintro e w5 ⟨rfl, hb5⟩
      have hB5 := hB4.trans (hb5.mono hB4.size)
      have HTO : Hid (treeOkB st rs T = decide ((manyD 20 T : Int) ≤ 60)) := by show _ = _; unfold treeOkB; rw [hok, hsh]; rfl
      go_wp2_with fail
      go_ret
      exact ⟨ret_bool (by rw [HTO.out]), hB5⟩
end Go.Proofs.YtpkejcjjbkgomaaDoor
