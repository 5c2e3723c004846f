/- Rules of a call's own, or none. -/
import Derived.Test.YtcningdeocmbgaaDrawG
namespace Go.Proofs.Ytcningdeocmbgaa
open Go.ChangeShapes Go.WideShapes Go.ChangeAt Go.RowKit
set_option maxRecDepth 100000
/-- rules of the call's own, or none -/
def OwnN (w : World) (B : Nat) (v : Value) (rs : List RuleT) : Prop := w.ownsRow B 84 2 v rs.length (flatR rs)
theorem OwnN.row {w : World} {B : Nat} {v : Value} {rs : List RuleT} (h : OwnN w B v rs) : ∀ k, v.ownBlock = some k → B ≤ k := by
  intro k hk
  rcases h.2 with ⟨hv, _⟩ | ⟨g, _, _, hv, hg, _⟩
  · rw [hv] at hk; simp [Value.ownBlock] at hk
  · rw [hv] at hk; simp [Value.ownBlock] at hk; omega
theorem OwnN.below {w w' : World} {B : Nat} {v : Value} {rs : List RuleT} (h : OwnN w B v rs) (hb : Below w.heap.size w w') : OwnN w' B v rs := by
  refine ⟨h.1, ?_⟩
  rcases h.2 with h0 | ⟨g, cap, cur, hv, hg, hh, hl, hm, hs, ht⟩
  · exact .inl h0
  · exact .inr ⟨g, cap, cur, hv, hg, by rw [hb.block g (Array.getElem?_eq_some_iff.1 hh).1]; exact hh, hl, hm, hs, ht⟩
theorem OwnN.set {w : World} {B : Nat} {v : Value} {rs : List RuleT} (h : OwnN w B v rs) {p : Addr} (hp : p.block < B) (u : Value) : OwnN (w.setCell p u) B v rs := ownsRow_setCell_below h hp u
theorem OwnN.mono {w : World} {B B' : Nat} {v : Value} {rs : List RuleT} (h : OwnN w B v rs) (hB : B' ≤ B) : OwnN w B' v rs := by
  refine ⟨h.1, ?_⟩
  rcases h.2 with h0 | ⟨g, cap, cur, hv, hg, hh⟩
  · exact .inl h0
  · exact .inr ⟨g, cap, cur, hv, Nat.le_trans hB hg, hh⟩
theorem idxR_neg {rs : List RuleT} {x : RuleT} : (!decide (0 ≤ idxR rs x)) = true ↔ ∀ y ∈ rs, eqR y x = false := by
  constructor
  · intro h y hy
    cases hf : rs.findIdx? (fun y => eqR y x) with
    | some i =>
      exfalso
      unfold idxR at h
      rw [hf] at h
      simp at h
    | none =>
      rw [List.findIdx?_eq_none_iff] at hf
      simpa using hf y hy
  · intro h
    have : rs.findIdx? (fun y => eqR y x) = none := by
      rw [List.findIdx?_eq_none_iff]
      intro y hy
      simpa using h y hy
    unfold idxR
    rw [this]
    decide
theorem ok_iff (st : ByteArray) (rs : List RuleT) : gramOkB st rs = true ↔ isBigS st = true ∧ rs.length ≤ 8 ∧ (∀ r ∈ rs, ruleOkB r = true) ∧ rs.Pairwise (fun x y => eqR x y = false) := by
  constructor
  · intro h
    unfold gramOkB at h
    simp only [Bool.and_eq_true, decide_eq_true_eq, List.all_eq_true, List.mem_range] at h
    obtain ⟨h1, h2, h3⟩ := h
    refine ⟨h1, h2, fun r hr => ?_, ?_⟩
    · obtain ⟨i, hi, rfl⟩ := List.getElem_of_mem hr
      have := h3 i hi
      rw [goodB_at hi, Bool.and_eq_true] at this
      exact this.1
    · rw [List.pairwise_iff_getElem]
      intro i j hi hj hij
      have := h3 j hj
      rw [goodB_at hj, Bool.and_eq_true, idxR_neg] at this
      exact this.2 rs[i] (List.mem_take_iff_getElem.2 ⟨i, by omega, rfl⟩)
  · rintro ⟨h1, h2, h3, h4⟩
    refine gramOk_all h1 h2 fun i hi => ?_
    rw [goodB_at hi, Bool.and_eq_true, idxR_neg]
    refine ⟨h3 _ (List.getElem_mem hi), fun y hy => ?_⟩
    obtain ⟨j, hj, rfl⟩ := List.mem_take_iff_getElem.1 hy
    rw [List.pairwise_iff_getElem] at h4
    exact h4 j i (by omega) hi (by omega)
/-- rules of the call's own, as they lie -/
theorem OwnN.at {w : World} {B : Nat} {v : Value} {rs : List RuleT} (h : OwnN w B v rs) (hs : SmallR rs) (hl : rs.length ≤ 1000) : ∃ a cap, v = .slice a rs.length cap ∧ rs.length ≤ cap ∧ RulesAt w a rs := by
  rcases h.2 with ⟨rfl, h0⟩ | ⟨g, cap, cur, rfl, hg, hh, hlc, hm, hsz, ht⟩
  · obtain rfl : rs = [] := List.eq_nil_of_length_eq_zero h0
    exact ⟨none, 0, rfl, Nat.le_refl _, Nat.zero_le _, fun i hi => absurd hi (Nat.not_lt_zero _)⟩
  · obtain ⟨g', cap', e, _, hlc', _, hR⟩ := OwnR.at (w := w) (B := B) (v := .slice (some ⟨g, 0, none⟩) rs.length cap) ⟨⟨g, cap, rfl, hg, hlc⟩, h⟩ hs hl
    simp only [Value.slice.injEq, Option.some.injEq, Addr.mk.injEq] at e
    obtain ⟨⟨rfl, _⟩, _, rfl⟩ := e
    exact ⟨_, _, rfl, hlc, hR⟩
end Go.Proofs.Ytcningdeocmbgaa
