/- What the map of places reads as. -/
import Derived.Test.YtjpkohahabclgaaMapA
import Derived.Test.YtjpkohahabclgaaHas
import Derived.Maps.Views
namespace Go.Proofs.Ytjpkohahabclgaa
open Go.ChangeShapes Go.WideShapes Go.ChangeAt Go.RowKit Go.WideMaps Go.Maps
/-- at every text the map holds the places of the rules with that left side, among the first k -/
def Reads {H : Type} (D : DataW H) (rs : List RuleT) (k : Nat) : Prop := ∀ s : ByteArray, (D.atKey (.string s.data.toList) .nil = .nil ∧ forTo rs s k = []) ∨ D.atKey (.string s.data.toList) .nil = .slice (lits .i64 (forTo rs s k)) []
theorem lits_inj {H : Type} {xs ys : List Int} (h : (lits .i64 xs : List (DataW H)) = lits .i64 ys) : xs = ys := by
  unfold lits at h
  exact (List.map_inj_right (fun a b e => by simpa using e)).1 h
theorem Reads.places {H : Type} {D : DataW H} {rs : List RuleT} {k : Nat} (h : Reads D rs k) {s : ByteArray} {w : World} {B : Nat} {v : Value} {zs : List Int} (hat : D.atKey (.string s.data.toList) .nil = rowDatum .i64 v zs) (ho : Ints w B v zs) : zs = forTo rs s k := by
  rcases World.ownsInts.datum (H := H) ho with ⟨e, rfl⟩ | e
  · rw [e] at hat
    rcases h s with ⟨_, h2⟩ | h2
    · exact h2.symm
    · rw [hat] at h2; cases h2
  · rw [e] at hat
    rcases h s with ⟨h1, _⟩ | h2
    · rw [hat] at h1; cases h1
    · rw [hat] at h2
      simp only [DataW.slice.injEq, and_true] at h2
      exact lits_inj h2
theorem Reads.step {H : Type} {D : DataW H} {rs : List RuleT} {k : Nat} (hk : k < rs.length) (hm : IsMap D) (h : Reads D rs k) : Reads (D.put (.string rs[k].1.data.toList) (.slice (lits .i64 (forTo rs rs[k].1 k ++ [(k : Int)])) [])) rs (k + 1) := by
  intro s
  by_cases e : s = rs[k].1
  · subst e
    right
    rw [atKey_put_same hm (by trivial), forTo_yes hk (by simp)]
  · have hne : (Lit.string s.data.toList) ≠ .string rs[k].1.data.toList := fun h => e (WideShapes.bytes_inj (by simpa using h))
    rw [atKey_put_other hne, forTo_no hk (by rw [beq_eq_false_iff_ne]; exact fun h => e (tl_inj h).symm)]
    exact h s
end Go.Proofs.Ytjpkohahabclgaa
