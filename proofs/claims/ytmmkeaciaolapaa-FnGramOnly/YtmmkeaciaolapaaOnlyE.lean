/- Fewer rules are right; all of them are these. -/
import Derived.Test.YtmmkeaciaolapaaOnlyD
import Derived.Test.YtmmkeaciaolapaaBentW
namespace Go.Proofs.Ytmmkeaciaolapaa
open Go.ChangeShapes Go.WideShapes Go.ChangeAt Go.RowKit
set_option maxRecDepth 100000
theorem idxR_neg {rs : List RuleT} {x : RuleT} : (!decide (0 ≤ idxR rs x)) = true ↔ ∀ y ∈ rs, eqR y x = false := by
  constructor
  · intro h y hy
    cases hf : rs.findIdx? (fun y => eqR y x) with
    | some i =>
      exfalso
      unfold idxR at h
      rw [hf] at h
      simp at h
    | none =>
      rw [List.findIdx?_eq_none_iff] at hf
      simpa using hf y hy
  · intro h
    have : rs.findIdx? (fun y => eqR y x) = none := by
      rw [List.findIdx?_eq_none_iff]
      intro y hy
      simpa using h y hy
    unfold idxR
    rw [this]
    decide
theorem ok_iff (st : ByteArray) (rs : List RuleT) : gramOkB st rs = true ↔ isBigS st = true ∧ rs.length ≤ 8 ∧ (∀ r ∈ rs, ruleOkB r = true) ∧ rs.Pairwise (fun x y => eqR x y = false) := by
  constructor
  · intro h
    unfold gramOkB at h
    simp only [Bool.and_eq_true, decide_eq_true_eq, List.all_eq_true, List.mem_range] at h
    obtain ⟨h1, h2, h3⟩ := h
    refine ⟨h1, h2, fun r hr => ?_, ?_⟩
    · obtain ⟨i, hi, rfl⟩ := List.getElem_of_mem hr
      have := h3 i hi
      rw [goodB_at hi, Bool.and_eq_true] at this
      exact this.1
    · rw [List.pairwise_iff_getElem]
      intro i j hi hj hij
      have := h3 j hj
      rw [goodB_at hj, Bool.and_eq_true, idxR_neg] at this
      exact this.2 rs[i] (List.mem_take_iff_getElem.2 ⟨i, by omega, rfl⟩)
  · rintro ⟨h1, h2, h3, h4⟩
    refine gramOk_all h1 h2 fun i hi => ?_
    rw [goodB_at hi, Bool.and_eq_true, idxR_neg]
    refine ⟨h3 _ (List.getElem_mem hi), fun y hy => ?_⟩
    obtain ⟨j, hj, rfl⟩ := List.mem_take_iff_getElem.1 hy
    rw [List.pairwise_iff_getElem] at h4
    exact h4 j i (by omega) hi (by omega)
theorem onlyTo_sub (rs : List RuleT) (zs : List Int) : ∀ k, k ≤ rs.length → List.Sublist (onlyTo rs zs k) (rs.take k)
  | 0, _ => by simp [onlyTo]
  | k + 1, h => by
    have ih := onlyTo_sub rs zs k (by omega)
    rw [onlyTo, List.take_add_one]
    refine ih.append ?_
    split
    · exact List.Sublist.refl _
    · exact List.nil_sublist _
theorem only_sub (rs : List RuleT) (zs : List Int) : List.Sublist (onlyTo rs zs rs.length) rs := by
  have := onlyTo_sub rs zs rs.length (Nat.le_refl _)
  rwa [List.take_of_length_le (Nat.le_refl _)] at this
theorem ok_only {st : ByteArray} {rs : List RuleT} (zs : List Int) (h : gramOkB st rs = true) : gramOkB st (onlyTo rs zs rs.length) = true := by
  rw [ok_iff] at h ⊢
  have hs := only_sub rs zs
  exact ⟨h.1, Nat.le_trans hs.length_le h.2.1, fun r hr => h.2.2.1 r (hs.subset hr), h.2.2.2.sublist hs⟩
theorem onlyTo_all {rs : List RuleT} {zs : List Int} (h : ∀ i : Nat, i < rs.length → hasI zs (i : Int) = true) : ∀ k, k ≤ rs.length → onlyTo rs zs k = rs.take k
  | 0, _ => by simp [onlyTo]
  | k + 1, hk => by rw [onlyTo, List.take_add_one, onlyTo_all h k (by omega), if_pos (h k (by omega))]
theorem only_all {rs : List RuleT} {zs : List Int} (h : ∀ i : Nat, i < rs.length → hasI zs (i : Int) = true) : onlyTo rs zs rs.length = rs := by
  rw [onlyTo_all h _ (Nat.le_refl _), List.take_of_length_le (Nat.le_refl _)]
theorem down_has : ∀ i : Nat, i < 8 → hasI [7, 6, 5, 4, 3, 2, 1, 0] (i : Int) = true := by decide
theorem up_has : ∀ i : Nat, i < 8 → hasI [0, 1, 2, 3, 4, 5, 6, 7] (i : Int) = true := by decide
/-- rules of the call's own, as they lie -/
theorem OwnN.at {w : World} {B : Nat} {v : Value} {rs : List RuleT} (h : OwnN w B v rs) (hs : SmallR rs) (hl : rs.length ≤ 1000) : ∃ a cap, v = .slice a rs.length cap ∧ rs.length ≤ cap ∧ RulesAt w a rs := by
  rcases h.2 with ⟨rfl, h0⟩ | ⟨g, cap, cur, rfl, hg, hh, hlc, hm, hsz, ht⟩
  · obtain rfl : rs = [] := List.eq_nil_of_length_eq_zero h0
    exact ⟨none, 0, rfl, Nat.le_refl _, Nat.zero_le _, fun i hi => absurd hi (Nat.not_lt_zero _)⟩
  · obtain ⟨g', cap', e, _, hlc', _, hR⟩ := OwnR.at (w := w) (B := B) (v := .slice (some ⟨g, 0, none⟩) rs.length cap) ⟨⟨g, cap, rfl, hg, hlc⟩, h⟩ hs hl
    simp only [Value.slice.injEq, Option.some.injEq, Addr.mk.injEq] at e
    obtain ⟨⟨rfl, _⟩, _, rfl⟩ := e
    exact ⟨_, _, rfl, hlc, hR⟩
theorem sGramOnly_bad (st : ByteArray) (a : Option Addr) (cap : Nat) (rs : List RuleT) (v : Value) (w : World) (H : RulesAt w a rs) (hcap : rs.length ≤ cap) (hok : gramOkB st rs = false) :
    Calls Try.prog 38 #[.agg #[.string st, .slice a rs.length cap], v] w fun e w' => e = .returned (.agg #[.string ⟨#[]⟩, .slice none 0 0]) ∧ Below w.heap.size w w' := by
  go_enter Try.func38, Try.ntmps38
  go_wp2_with fail
  have hb1 := ((((Below.refl w.heap.size w).alloc (Nat.le_refl _) (.cells #[.string st, .slice a rs.length cap] 25)).alloc (by simp) (.cells #[.string ⟨#[]⟩, .slice none 0 0] 25)).alloc (by simp; omega) (.cells #[] 40)).alloc (by simp; omega) (.cells #[.string st, .slice (some ⟨w.heap.size + 1 + 1, 0, none⟩) 0 0] 25)
  refine (sGramOk_any _ _ _ rs _ (H.below hb1 (Nat.le_refl _)) hcap).mono ?_
  rintro e w2 ⟨rfl, hb2⟩
  have hZ : BoxG w2 (w.heap.size + 1) (.string ⟨#[]⟩) (.slice none 0 0) := BoxG.below (BoxG.old (BoxG.old (blk_new _ _ (by simp)) _) _) hb2
  have hB2 : Below w.heap.size w w2 := hb1.trans (hb2.mono (by simp; omega))
  obtain ⟨z0, z1, zf0, zf1⟩ := hZ.cells
  clear hb1 hb2 hZ
  rw [hok]
  go_wp2
  exact bodyPost_ret (v := .agg #[.string ⟨#[]⟩, .slice none 0 0]) (by simp [results, Try.results38, go_sem, z0, z1]) rfl
    ⟨rfl, (hB2.setCell (p := ⟨w.heap.size + 1, 0, none⟩) (Nat.le_succ _) _).setCell (p := ⟨w.heap.size + 1, 1, none⟩) (Nat.le_succ _) _⟩
end Go.Proofs.Ytmmkeaciaolapaa
