/- The contract of l1Bent: rules, one in twelve bent. -/
import Derived.Test.YtcningdeocmbgaaDrawF
import Derived.Deep.DeepCutAuto
import Derived.Deep.LoopGhost
namespace Go.Proofs.Ytcningdeocmbgaa
open Go.ChangeShapes Go.WideShapes Go.ChangeAt Go.RowKit
theorem BoxG.old {w : World} {b : Nat} {v0 v1 : Value} (h : BoxG w b v0 v1) (o : Obj) : BoxG (w.alloc o) b v0 v1 := h.below ((Below.refl _ _).alloc (Nat.le_refl _) _)
theorem OwnR.alloc {w : World} {B : Nat} {v : Value} {rs : List RuleT} (h : OwnR w B v rs) (o : Obj) : OwnR (w.alloc o) B v rs := h.below ((Below.refl _ _).alloc (Nat.le_refl _) _)
theorem RulesAt.alloc {w : World} {a : Option Addr} {rs : List RuleT} (h : RulesAt w a rs) (o : Obj) : RulesAt (w.alloc o) a rs := h.below ((Below.refl _ _).alloc (Nat.le_refl _) _) (Nat.le_refl _)
def MoreRel (R k m A C gk : Nat) (st : ByteArray) (w wr : World) : Prop := ∃ us g cap, BoxG wr C (.string st) (.slice (some ⟨g, 0, none⟩) us.length cap) ∧ OwnR wr (A + 2) (.slice (some ⟨g, 0, none⟩) us.length cap) us ∧ SmallR us ∧ us.length ≤ m + 4 ∧ gk ≤ 9 ∧ 9 - us.length ≤ gk ∧ Rdk wr R (k + 3 + 3 * (9 - gk)) ∧ BoxG wr (A + 1) (.string ⟨#[]⟩) (.slice none 0 0) ∧ Only R w wr
theorem small_snoc {rs : List RuleT} (h : SmallR rs) {l r : ByteArray} (h1 : l.size ≤ 5) (h2 : r.size ≤ 5) : SmallR (rs ++ [(l, r)]) := by
  intro x hx
  rcases List.mem_append.1 hx with hx | hx
  · exact h x hx
  · obtain rfl : x = (l, r) := by simpa using hx
    exact ⟨h1, h2⟩
theorem own_new (w : World) (B : Nat) (hB : B ≤ w.heap.size) : OwnR (w.alloc (.cells #[] 84)) B (.slice (some ⟨w.heap.size, 0, none⟩) 0 0) [] :=
  ⟨⟨w.heap.size, 0, rfl, hB, Nat.le_refl _⟩, rfl, .inr ⟨w.heap.size, 0, #[], rfl, hB, blk_new _ _ rfl, Nat.le_refl _, Nat.zero_le _, rfl, rfl⟩⟩
/-- what stands when the copy is made: the box of the answer (A + 1), the copy's box behind s5, its rules -/
def OutRel (R k A : Nat) (st : ByteArray) (rs : List RuleT) (w : World) (s5 : Value) (wx : World) : Prop := ∃ C vr, s5 = .pointer (some ⟨C, 0, none⟩) ∧ A + 2 ≤ C ∧ BoxG wx C (.string st) vr ∧ OwnR wx (A + 2) vr rs ∧ BoxG wx (A + 1) (.string ⟨#[]⟩) (.slice none 0 0) ∧ Rdk wx R k ∧ Only R w wx
theorem OwnR.drew {w : World} {B : Nat} {v : Value} {rs : List RuleT} (h : OwnR w B v rs) : OwnR w.drew B v rs := h
theorem BoxG.drew {w : World} {b : Nat} {v0 v1 : Value} (h : BoxG w b v0 v1) : BoxG w.drew b v0 v1 := h
theorem Rdk.drew {w : World} {R k : Nat} (h : Rdk w R k) : Rdk w.drew R k := h
theorem Only.drew {R : Nat} {w w' : World} (h : Only R w w') : Only R w w'.drew := ⟨h.os, h.tape, h.output, h.size, h.block⟩
theorem RulesAt.drew2 {w : World} {a : Option Addr} {rs : List RuleT} (h : RulesAt w a rs) : RulesAt w.drew a rs := h
/-- the answer is laid into its box -/
theorem bent_done {R k k' m n : Nat} {w wz : World} {st : ByteArray} {rs : List RuleT} {g cap : Nat} (hn : rs.length = n) (hRl : R < w.heap.size) (hst : st.size ≤ 100) (hl : rs.length ≤ m) (hm : m ≤ 1000) (hS : SmallR rs)
    (hO : OwnR wz (w.heap.size + 2) (.slice (some ⟨g, 0, none⟩) n cap) rs) (hrd : Rdk wz R k) (hk : k ≤ k') (ho : Only R w wz) :
    DrawnG R k' m w (.returned (.agg #[.string st, .slice (some ⟨g, 0, none⟩) n cap])) ((wz.setCell ⟨w.heap.size + 1, 0, none⟩ (.string st)).setCell ⟨w.heap.size + 1, 1, none⟩ (.slice (some ⟨g, 0, none⟩) n cap)) := by
  subst hn
  obtain ⟨g', cap', e, hgB, hlc, hgl, hR⟩ := hO.at hS (by omega)
  simp only [Value.slice.injEq, Option.some.injEq, Addr.mk.injEq] at e
  obtain ⟨⟨rfl, _⟩, _, rfl⟩ := e
  have hp : ∀ x : Addr, some (⟨g, 0, none⟩ : Addr) = some x → x.block ≠ w.heap.size + 1 := fun x hx => by cases hx; show g ≠ w.heap.size + 1; omega
  exact ⟨_, st, rs, rfl, ⟨g, 0, cap, rfl, hlc, (hR.other (p := ⟨w.heap.size + 1, 0, none⟩) hp _).other (p := ⟨w.heap.size + 1, 1, none⟩) hp _, hl, hst, hS, by omega⟩,
    ((hrd.other (p := ⟨w.heap.size + 1, 0, none⟩) (by show R < w.heap.size + 1; omega) _).other (p := ⟨w.heap.size + 1, 1, none⟩) (by show R < w.heap.size + 1; omega) _).mono hk,
    (ho.store (Nat.le_refl _) (p := ⟨w.heap.size + 1, 0, none⟩) (Nat.le_succ _) _).store (Nat.le_refl _) (p := ⟨w.heap.size + 1, 1, none⟩) (Nat.le_succ _) _⟩
theorem small_set {rs : List RuleT} (h : SmallR rs) (j : Nat) (x : RuleT) (h1 : x.1.size ≤ 5) (h2 : x.2.size ≤ 5) : SmallR (rs.set j x) := by
  intro r hr
  rcases List.mem_or_eq_of_mem_set hr with hr | rfl
  · exact h r hr
  · exact ⟨h1, h2⟩
theorem own_ne {w : World} {B g cap n C : Nat} {rs : List RuleT} {v0 v1 : Value} (h : OwnR w B (.slice (some ⟨g, 0, none⟩) n cap) rs) (hC : BoxG w C v0 v1) : ¬ C = g := fun e => by
  obtain ⟨g', cp, cur, e', _, _, hh, _⟩ := h.block
  simp only [Value.slice.injEq, Option.some.injEq, Addr.mk.injEq] at e'
  obtain ⟨⟨rfl, _⟩, _⟩ := e'
  rw [← e] at hh
  have h2 := hh.symm.trans hC
  simp at h2
theorem own_left {w : World} {B g cap n : Nat} {rs : List RuleT} (h : OwnR w B (.slice (some ⟨g, 0, none⟩) n cap) rs) (j : Nat) (hj : j < rs.length) (s : ByteArray) : OwnR (w.setCell ⟨g, j * 2, none⟩ (.string s)) B (.slice (some ⟨g, 0, none⟩) n cap) (rs.set j (s, rs[j].2)) :=
  own_set h (j * 2) (.string s) (by omega) (by simp) fun q hq => by
    rw [ruleCells_set rs j hj]
    by_cases e : q = j * 2
    · subst e; rw [if_pos (by omega), if_pos rfl, if_pos (by omega)]
    · rw [if_neg e]
      by_cases e2 : q / 2 = j
      · obtain rfl : q = j * 2 + 1 := by omega
        rw [if_pos e2, if_neg (by omega), ruleCells_odd rs j hj]
      · rw [if_neg e2]
theorem own_right {w : World} {B g cap n : Nat} {rs : List RuleT} (h : OwnR w B (.slice (some ⟨g, 0, none⟩) n cap) rs) (j : Nat) (hj : j < rs.length) (s : ByteArray) : OwnR (w.setCell ⟨g, j * 2 + 1, none⟩ (.string s)) B (.slice (some ⟨g, 0, none⟩) n cap) (rs.set j (rs[j].1, s)) :=
  own_set h (j * 2 + 1) (.string s) (by omega) (by simp) fun q hq => by
    rw [ruleCells_set rs j hj]
    by_cases e : q = j * 2 + 1
    · subst e; rw [if_pos (by omega), if_pos rfl, if_neg (by omega)]
    · rw [if_neg e]
      by_cases e2 : q / 2 = j
      · obtain rfl : q = j * 2 := by omega
        rw [if_pos e2, if_pos (by omega), ruleCells_even rs j hj]
      · rw [if_neg e2]
end Go.Proofs.Ytcningdeocmbgaa
